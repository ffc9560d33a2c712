/- Heads whose connection may close, plainly; no Go. -/
import Derived.Test.YtihdjgjceadooaaDoorFstPlain
namespace Go.Proofs.YtihdjgjceadooaaDoor
open Pl

def getL : ByteArray := ⟨#[71, 69, 84, 32, 47, 32, 72, 84, 84, 80, 47, 49, 46, 49]⟩
theorem first_get : firstOf getL = some (⟨#[71, 69, 84]⟩, ⟨#[47]⟩) := by rfl

theorem val_append (a b : List UInt8) : valB (a ++ b) = (valB a && valB b) := by unfold valB; rw [List.all_append]
theorem val_blank (l : List UInt8) (h : l.all bl = true) : valB l = true := by
  unfold valB
  rw [List.all_eq_true] at h ⊢
  intro c hc
  have := h c hc
  simp [bl] at this
  rcases this with rfl | rfl <;> decide
theorem val_tr (l : List UInt8) (h : valB (tr l) = true) : valB l = true := by
  obtain ⟨p, q, hp, hq, e⟩ := tr_parts l
  rw [e, val_append, val_append, val_blank p hp, val_blank q hq, h]; rfl
theorem val_tr_eq (l : List UInt8) : valB (tr l) = valB l := by
  cases h : valB (tr l) with
  | true => rw [val_tr l h]
  | false =>
    obtain ⟨p, q, hp, hq, e⟩ := tr_parts l
    rw [e, val_append, val_append, h]; simp

/-- A line of a name, a colon and a value. -/
theorem fld_of (L a s : ByteArray) (hL : L.data.toList = a.data.toList ++ 58 :: s.data.toList) (ha : 58 ∉ a.data.toList) (ht : tokB a.data.toList = true) (hv : valB s.data.toList = true) : fldOf L = some (lowS a, trS s) := by
  have hc : cutL L.data.toList = some (a.data.toList, s.data.toList) := by rw [hL]; exact cutL_app _ _ ha
  unfold fldOf
  rw [hc]
  simp only [ht, hv, Bool.and_self, if_true]
  rfl

def connP : ByteArray := ⟨#[67, 111, 110, 110, 101, 99, 116, 105, 111, 110, 58]⟩
def ConnN : ByteArray := ⟨#[67, 111, 110, 110, 101, 99, 116, 105, 111, 110]⟩
def connL (s : ByteArray) : ByteArray := connP ++ s
theorem connL_data (s : ByteArray) : (connL s).data.toList = ConnN.data.toList ++ 58 :: s.data.toList := by
  unfold connL
  simp [connP, ConnN]
theorem fld_conn (s : ByteArray) (hv : valB s.data.toList = true) : fldOf (connL s) = some (connN, trS s) := by
  have := fld_of (connL s) ConnN s (connL_data s) (by decide) (by decide) hv
  rw [this]
  rfl
def linesC (l : List ByteArray) : List ByteArray := getL :: hostL :: l.map connL
def fldsC (l : List ByteArray) : List Fld := (hostN, aS) :: l.map fun s => (connN, trS s)
theorem take_conn (l : List ByteArray) (h : ∀ s ∈ l, valB s.data.toList = true) : takeF (l.map connL) = some (l.map fun s => (connN, trS s)) := by
  induction l with
  | nil => rfl
  | cons s l ih =>
    rw [List.map_cons, takeF, fld_conn s (h s (by simp)), List.map_cons]
    simp only [ih fun x hx => h x (by simp [hx])]
    rfl
theorem take_close (l : List ByteArray) (h : ∀ s ∈ l, valB s.data.toList = true) : takeF (hostL :: l.map connL) = some (fldsC l) := by
  rw [takeF, fld_host]; simp only [take_conn l h]; rfl
theorem vals_conn (l : List ByteArray) : valsOf connN (l.map fun s => ((connN, trS s) : Fld)) = l.map trS := by
  unfold valsOf
  rw [List.filterMap_map]
  induction l with
  | nil => rfl
  | cons s l ih => rw [List.filterMap_cons, ih]; simp
theorem vals_other (name : ByteArray) (hn : connN ≠ name) (l : List ByteArray) : valsOf name (l.map fun s => ((connN, trS s) : Fld)) = [] := by
  unfold valsOf
  rw [List.filterMap_map]
  induction l with
  | nil => rfl
  | cons s l ih => rw [List.filterMap_cons, ih]; simp [hn]
theorem valsC (name : ByteArray) (l : List ByteArray) : valsOf name (fldsC l) = (if hostN = name then [aS] else []) ++ valsOf name (l.map fun s => ((connN, trS s) : Fld)) := by
  unfold fldsC valsOf
  rw [List.filterMap_cons]
  by_cases e : hostN = name
  · simp only [e, if_true]; rfl
  · simp only [e, if_false]; rfl
theorem fldsC_conn (l : List ByteArray) : valsOf connN (fldsC l) = l.map trS := by rw [valsC, if_neg (by decide), vals_conn]; rfl
theorem parse_close (l : List ByteArray) (h : ∀ s ∈ l, valB s.data.toList = true) (hl : l.length ≤ 10) : parseF (linesC l) = ⟨⟨#[71, 69, 84]⟩, ⟨#[47]⟩, fldsC l, closesF (l.map trS), 0, 0⟩ := by
  have v1 : valsOf hostN (fldsC l) = [aS] := by rw [valsC, if_pos rfl, vals_other hostN (by decide)]; rfl
  have v2 : valsOf lengthN (fldsC l) = [] := by rw [valsC, if_neg (by decide), vals_other lengthN (by decide)]; rfl
  have v3 : valsOf codingN (fldsC l) = [] := by rw [valsC, if_neg (by decide), vals_other codingN (by decide)]; rfl
  unfold linesC
  rw [parse_ok getL _ ⟨by decide, by simp; omega⟩ first_get (take_close l h) (by rw [v1]; rfl) (by rw [v2, v3]; rfl), v2, v3, fldsC_conn]
  rfl
def wantC (l : List ByteArray) : Bool := l.any fun s => closesV (trS s)
theorem wantC_eq (l : List ByteArray) : closesF (l.map trS) = wantC l := by unfold closesF wantC; rw [List.any_map]; rfl
theorem wantC_snoc (l : List ByteArray) (k : Nat) (h : k < l.length) : wantC (l.take (k + 1)) = (wantC (l.take k) || closesV (trS l[k])) := by
  unfold wantC
  rw [List.take_succ_eq_append_getElem h, List.any_append]; simp
theorem linesC_snoc (l : List ByteArray) (k : Nat) (h : k < l.length) : linesC (l.take (k + 1)) = linesC (l.take k) ++ [connL l[k]] := by
  unfold linesC
  rw [List.take_succ_eq_append_getElem h, List.map_append]; simp
theorem linesC_len (l : List ByteArray) : (linesC l).length = l.length + 2 := by simp [linesC]

end Go.Proofs.YtihdjgjceadooaaDoor
