/- Heads of given names, plainly; no Go. -/
import Derived.Test.YtihdjgjceadooaaDoorClosePlain
namespace Go.Proofs.YtihdjgjceadooaaDoor
open Pl

theorem tok_free (l : List UInt8) (h : tokB l = true) : (58 : UInt8) ∉ l := by
  intro hm
  unfold tokB namesB at h
  simp only [Bool.and_eq_true, List.all_eq_true] at h
  have := h.2 58 hm
  revert this; decide
def colonS : ByteArray := ⟨#[58]⟩
def nameL (v s : ByteArray) : ByteArray := s ++ colonS ++ v
theorem nameL_data (v s : ByteArray) : (nameL v s).data.toList = s.data.toList ++ 58 :: v.data.toList := by
  unfold nameL
  simp [colonS]
def HOSTL : ByteArray := ⟨#[72, 79, 83, 84, 58, 32, 97]⟩
theorem fld_HOST : fldOf HOSTL = some (hostN, aS) := by rfl
def okN (s : ByteArray) : Prop := tokB s.data.toList = true ∧ lowS s ≠ hostN ∧ lowS s ≠ lengthN ∧ lowS s ≠ codingN
theorem fld_name (v s : ByteArray) (hs : tokB s.data.toList = true) (hv : valB v.data.toList = true) : fldOf (nameL v s) = some (lowS s, trS v) :=
  fld_of (nameL v s) s v (nameL_data v s) (tok_free _ hs) hs hv
def linesN (v : ByteArray) (l : List ByteArray) : List ByteArray := getL :: HOSTL :: l.map (nameL v)
def fldsN (v : ByteArray) (l : List ByteArray) : List Fld := (hostN, aS) :: l.map fun s => (lowS s, trS v)
theorem take_names (v : ByteArray) (hv : valB v.data.toList = true) (l : List ByteArray) (h : ∀ s ∈ l, okN s) : takeF (l.map (nameL v)) = some (l.map fun s => (lowS s, trS v)) := by
  induction l with
  | nil => rfl
  | cons s l ih =>
    rw [List.map_cons, takeF, fld_name v s (h s (by simp)).1 hv, List.map_cons]
    simp only [ih fun x hx => h x (by simp [hx])]
    rfl
theorem take_fldsN (v : ByteArray) (hv : valB v.data.toList = true) (l : List ByteArray) (h : ∀ s ∈ l, okN s) : takeF (HOSTL :: l.map (nameL v)) = some (fldsN v l) := by
  rw [takeF, fld_HOST]; simp only [take_names v hv l h]; rfl
theorem vals_none (name v : ByteArray) (l : List ByteArray) (h : ∀ s ∈ l, lowS s ≠ name) : valsOf name (l.map fun s => ((lowS s, trS v) : Fld)) = [] := by
  unfold valsOf
  rw [List.filterMap_map]
  induction l with
  | nil => rfl
  | cons s l ih => rw [List.filterMap_cons, ih fun x hx => h x (by simp [hx])]; simp [h s (by simp)]
theorem valsN (name v : ByteArray) (l : List ByteArray) (h : ∀ s ∈ l, lowS s ≠ name) : valsOf name (fldsN v l) = if hostN = name then [aS] else [] := by
  have := vals_none name v l h
  unfold valsOf at this
  unfold fldsN valsOf
  rw [List.filterMap_cons, this]
  by_cases e : hostN = name
  · simp only [e, if_true]
  · simp only [e, if_false]
theorem parse_names (v : ByteArray) (hv : valB v.data.toList = true) (l : List ByteArray) (h : ∀ s ∈ l, okN s) (hl : l.length ≤ 12) : ∃ cl, parseF (linesN v l) = ⟨⟨#[71, 69, 84]⟩, ⟨#[47]⟩, fldsN v l, cl, 0, 0⟩ := by
  have v1 : valsOf hostN (fldsN v l) = [aS] := by rw [valsN hostN v l fun s hs => (h s hs).2.1, if_pos rfl]
  have v2 : valsOf lengthN (fldsN v l) = [] := by rw [valsN lengthN v l fun s hs => (h s hs).2.2.1, if_neg (by decide)]
  have v3 : valsOf codingN (fldsN v l) = [] := by rw [valsN codingN v l fun s hs => (h s hs).2.2.2, if_neg (by decide)]
  refine ⟨closesF (valsOf connN (fldsN v l)), ?_⟩
  unfold linesN
  rw [parse_ok getL _ ⟨by decide, by simp; omega⟩ first_get (take_fldsN v hv l h) (by rw [v1]; rfl) (by rw [v2, v3]; rfl), v2, v3]
  rfl
theorem linesN_snoc (v : ByteArray) (l : List ByteArray) (k : Nat) (h : k < l.length) : linesN v (l.take (k + 1)) = linesN v (l.take k) ++ [nameL v l[k]] := by
  unfold linesN
  rw [List.take_succ_eq_append_getElem h, List.map_append]; simp
theorem linesN_len (v : ByteArray) (l : List ByteArray) : (linesN v l).length = l.length + 2 := by simp [linesN]
theorem fldsN_len (v : ByteArray) (l : List ByteArray) : (fldsN v l).length = l.length + 1 := by simp [fldsN]
theorem fldsN_at (v : ByteArray) (l : List ByteArray) (k : Nat) (h : k < l.length) : (fldCells (fldsN v l))[(k + 1) * 2]? = some (.string (lowS l[k])) ∧ (fldCells (fldsN v l))[(k + 1) * 2 + 1]? = some (.string (trS v)) := by
  have := fldCells_at (fldsN v l) (k + 1) (by rw [fldsN_len]; omega)
  have e : (fldsN v l)[k + 1]'(by rw [fldsN_len]; omega) = (lowS l[k], trS v) := by simp [fldsN]
  rw [e] at this
  exact this

end Go.Proofs.YtihdjgjceadooaaDoor
