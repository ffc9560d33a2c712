/- What a head is, plainly; no Go. -/
import Derived.Test.YtkbigfjaaiobfaaDoorPlain
import Derived.Test.YtkbigfjaaiobfaaDoorTrimPlain
import Derived.Test.YtkbigfjaaiobfaaDoorWordsPlain
import Derived.Test.YtkbigfjaaiobfaaDoorLowPlain
import Derived.Test.YtkbigfjaaiobfaaDoorCutPlain
import Derived.Lib.Strings
namespace Go.Proofs.YtkbigfjaaiobfaaDoor
open Pl

abbrev Fld := ByteArray × ByteArray
def fldCells (fs : List Fld) : List Value := fs.flatMap fun f => [.string f.1, .string f.2]
def valsOf (name : ByteArray) (fs : List Fld) : List ByteArray := fs.filterMap fun f => if f.1 = name then some f.2 else none
def mkB (l : List UInt8) : ByteArray := ⟨l.toArray⟩
theorem mkB_data (l : List UInt8) : (mkB l).data.toList = l := by simp [mkB]
theorem mkB_of (s : ByteArray) : mkB s.data.toList = s := by simp [mkB]
theorem data_len (s : ByteArray) : s.data.toList.length = s.size := by simp
theorem mkB_size (l : List UInt8) : (mkB l).size = l.length := by rw [← data_len, mkB_data]
theorem bytes_ext {a b : ByteArray} (h : a.data.toList = b.data.toList) : a = b := by
  cases a; cases b; simp at h; rw [h]
def lowS (s : ByteArray) : ByteArray := mkB (lowB s.data.toList)
def trS (s : ByteArray) : ByteArray := mkB (tr s.data.toList)
theorem trS_data (s : ByteArray) : (trS s).data.toList = tr s.data.toList := mkB_data _
theorem lowS_data (s : ByteArray) : (lowS s).data.toList = lowB s.data.toList := mkB_data _

/-- A line's field: its name small, its value without blanks around. -/
def fldOf (s : ByteArray) : Option Fld :=
  match cutL s.data.toList with
  | none => none
  | some (a, b) => if tokB a && valB b then some (mkB (lowB a), mkB (tr b)) else none
def takeF : List ByteArray → Option (List Fld)
  | [] => some []
  | l :: ls => match fldOf l with
    | none => none
    | some f => (takeF ls).map (f :: ·)

theorem fldCells_length (fs : List Fld) : (fldCells fs).length = fs.length * 2 := by
  induction fs with
  | nil => rfl
  | cons f fs ih => simp [fldCells] at ih ⊢; omega
theorem fldCells_at (fs : List Fld) (k : Nat) (h : k < fs.length) : (fldCells fs)[k * 2]? = some (.string (fs[k]).1) ∧ (fldCells fs)[k * 2 + 1]? = some (.string (fs[k]).2) := by
  induction fs generalizing k with
  | nil => simp at h
  | cons f fs ih =>
    cases k with
    | zero => exact ⟨rfl, rfl⟩
    | succ k =>
      have := ih k (by simpa using h)
      have e : fldCells (f :: fs) = .string f.1 :: .string f.2 :: fldCells fs := rfl
      rw [e, show (k + 1) * 2 = k * 2 + 1 + 1 from by omega]
      simpa using this
theorem fldCells_snoc (fs : List Fld) (a b : ByteArray) : fldCells (fs ++ [(a, b)]) = fldCells fs ++ [.string a, .string b] := by
  simp [fldCells]
theorem valsOf_snoc (name : ByteArray) (fs : List Fld) (k : Nat) (h : k < fs.length) : valsOf name (fs.take (k + 1)) = valsOf name (fs.take k) ++ (if (fs[k]).1 = name then [(fs[k]).2] else []) := by
  rw [List.take_succ_eq_append_getElem h, valsOf, List.filterMap_append]
  congr 1
  by_cases e : (fs[k]).1 = name <;> simp [e]
theorem valsOf_len (name : ByteArray) (fs : List Fld) : (valsOf name fs).length ≤ fs.length := List.length_filterMap_le _ _
theorem eq_test (a b : ByteArray) : (a.toList == b.toList) = decide (a = b) := by
  rw [Lib.toList_data, Lib.toList_data, Bool.eq_iff_iff]
  simp only [beq_iff_eq, decide_eq_true_eq]
  exact ⟨bytes_ext, fun h => by rw [h]⟩

theorem eq_list (a : ByteArray) (l : List UInt8) : (a.toList == l) = decide (a.data.toList = l) := by
  rw [Lib.toList_data, Bool.eq_iff_iff]
  simp only [beq_iff_eq, decide_eq_true_eq]

theorem takeF_append (a b : List ByteArray) : takeF (a ++ b) = match takeF a with | none => none | some fa => (takeF b).map (fa ++ ·) := by
  induction a with
  | nil => simp [takeF]
  | cons l a ih =>
    rw [List.cons_append, takeF, takeF]
    cases fldOf l with
    | none => rfl
    | some f =>
      rw [ih]
      cases takeF a with
      | none => rfl
      | some fa => cases takeF b <;> rfl
theorem takeF_snoc (ls : List ByteArray) (k : Nat) (h : k < ls.length) (fs : List Fld) (f : Fld) (h1 : takeF (ls.take k) = some fs) (h2 : fldOf ls[k] = some f) : takeF (ls.take (k + 1)) = some (fs ++ [f]) := by
  rw [List.take_succ_eq_append_getElem h, takeF_append, h1]
  simp [takeF, h2]
theorem takeF_stop (ls : List ByteArray) (k : Nat) (h : k < ls.length) (h2 : fldOf ls[k] = none) : takeF ls = none := by
  have e : ls = ls.take k ++ ls[k] :: ls.drop (k + 1) := by
    rw [← List.drop_eq_getElem_cons h, List.take_append_drop]
  rw [e, takeF_append]
  cases takeF (ls.take k) with
  | none => rfl
  | some fa => simp [takeF, h2]
theorem takeF_len (ls : List ByteArray) : ∀ fs, takeF ls = some fs → fs.length = ls.length := by
  induction ls with
  | nil => intro fs h; simp [takeF] at h; simp [← h]
  | cons l ls ih =>
    intro fs h
    rw [takeF] at h
    cases hf : fldOf l with
    | none => rw [hf] at h; cases h
    | some f =>
      rw [hf] at h
      cases ht : takeF ls with
      | none => rw [ht] at h; cases h
      | some fa => rw [ht] at h; simp at h; subst h; simp [ih fa ht]

end Go.Proofs.YtkbigfjaaiobfaaDoor
