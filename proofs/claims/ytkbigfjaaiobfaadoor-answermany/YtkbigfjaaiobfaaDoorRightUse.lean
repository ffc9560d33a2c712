/- What Right's yes gives. -/
import Derived.Test.YtkbigfjaaiobfaaDoorAnsRight
import Derived.Test.YtkbigfjaaiobfaaDoorAnsUse
namespace Go.Proofs.YtkbigfjaaiobfaaDoor
open Go.RowKit Pl Go.Shelf

theorem right_parts {r : Rsp} (h : rightB r = true) : 100 ≤ r.st ∧ r.st ≤ 999 ∧ r.fs.length ≤ 20 ∧ r.body.size ≤ 2000 ∧ ∀ f ∈ r.fs, rightF f = true := by
  unfold rightB at h
  simp only [Bool.and_eq_true, decide_eq_true_eq, List.all_eq_true] at h
  exact ⟨h.1.1, h.1.2.1, h.1.2.2.1, h.1.2.2.2, h.2⟩
theorem right_ok {r : Rsp} (h : rightB r = true) : okR r := by
  obtain ⟨h1, h2, h3, h4, h5⟩ := right_parts h
  refine ⟨h1, h2, fun f hf => ?_, by omega⟩
  have := h5 f hf
  unfold rightF at this
  simp only [Bool.and_eq_true] at this
  exact this.2
theorem fldB_len {f : Fld} (h : rightF f = true) : (fldB f).length ≤ 304 := by
  unfold rightF at h
  simp only [Bool.and_eq_true, decide_eq_true_eq] at h
  have a1 : colon.length = 2 := rfl
  have a2 : crlf.length = 2 := rfl
  simp only [fldB, List.length_append, data_len]
  omega
theorem flat_len (fs : List Fld) (h : ∀ f ∈ fs, rightF f = true) : (fs.flatMap fldB).length ≤ fs.length * 304 := by
  induction fs with
  | nil => simp
  | cons f fs ih =>
    have h1 := fldB_len (h f (by simp))
    have h2 := ih fun g hg => h g (by simp [hg])
    simp only [List.flatMap_cons, List.length_append, List.length_cons]
    omega
theorem right_len {r : Rsp} (h : rightB r = true) : (encL r).length ≤ 10000 := by
  obtain ⟨h1, h2, h3, h4, h5⟩ := right_parts h
  have k1 := word_len r.st
  have k2 := Lib.itoa_length_le r.st (by omega) (by omega)
  have k3 := Lib.itoa_length_le (r.body.size : Int) (by omega) (by omega)
  have k4 := flat_len r.fs h5
  have a1 : httpL.length = 8 := rfl
  have a2 : crlf.length = 2 := rfl
  have a3 : lengthIs.length = 16 := rfl
  have a4 : closingL.length = 19 := rfl
  obtain ⟨st, fs, body, cl⟩ := r
  simp only at k1 k2 k3 k4 h3 h4
  cases cl
  · simp only [encL, firstL, tailL, List.length_append, List.length_cons, List.length_nil, data_len, Bool.false_eq_true, if_false]
    omega
  · simp only [encL, firstL, tailL, List.length_append, List.length_cons, data_len, if_true]
    omega

/-- Encode of what may be. -/
theorem enc_right (r : Rsp) (h : rightB r = true) (A : Option Addr) (c : Nat) (w : World) (hr : Rd w w.heap.size 2 A r.fs.length (fldCells r.fs)) (hg : GB w) :
    Calls Tryd.prog 11 #[.agg #[.int .i64 r.st, .slice A r.fs.length c, .string r.body, .bool r.cl]] w fun e w' => e = .returned (.string (mkB (encL r))) ∧ Below w.heap.size w w' :=
  enc_any r A c w (by have := (right_parts h).1; omega) (by have := (right_parts h).2.1; omega) hr (by have := right_len h; omega) hg

end Go.Proofs.YtkbigfjaaiobfaaDoor
