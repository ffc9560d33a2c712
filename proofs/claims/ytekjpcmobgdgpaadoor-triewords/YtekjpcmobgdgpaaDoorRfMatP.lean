/- The document's answer of layer 8: what is found, step by step, plainly. -/
import Derived.Test.YtekjpcmobgdgpaaDoorRfIns
namespace Go.Proofs.YtekjpcmobgdgpaaDoor
open Go.RowKit Pl

theorem best_snoc (m : List UInt8) (x : List Seg) (l : List Rt) (k : Nat) (h : k < l.length) : bestL cutL m x (l.take (k + 1)) = stepR cutL m x (bestL cutL m x (l.take k)) l[k] := by
  rw [bestL, bestL, List.take_succ_eq_append_getElem h, List.foldl_append]; rfl
theorem allow_snoc (x : List Seg) (l : List Rt) (k : Nat) (h : k < l.length) : allowL cutL x (l.take (k + 1)) = stepA cutL x (allowL cutL x (l.take k)) l[k] := by
  rw [allowL, allowL, List.take_succ_eq_append_getElem h, List.foldl_append]; rfl
/-- The place of the best one so far. -/
def IxOf (l : List Rt) (b : Option Rt) (i : Int) : Prop := match b with
  | none => i = -1
  | some r => ∃ (j : Nat) (h : j < l.length), i = (j : Int) ∧ l[j] = r
theorem step_no {m : List UInt8} {x : List Seg} {b : Option Rt} {r : Rt} (h : hasL (cutL r.p) x = false) : stepR cutL m x b r = b ∧ ∀ a, stepA cutL x a r = a := by
  refine ⟨?_, fun a => ?_⟩
  · unfold stepR fitR; rw [h]; rfl
  · unfold stepA; rw [h]; rfl
theorem step_in {x : List Seg} {r : Rt} (h : hasL (cutL r.p) x = true) (a : List Seg) : stepA cutL x a r = insU r.m a := by
  unfold stepA; rw [if_pos h]
theorem step_other {m : List UInt8} {x : List Seg} {b : Option Rt} {r : Rt} (h : r.m ≠ m) : stepR cutL m x b r = b := by
  unfold stepR fitR; rw [decide_eq_false h, Bool.and_false]; rfl
theorem step_first {m : List UInt8} {x : List Seg} {r : Rt} (h : hasL (cutL r.p) x = true) (hm : r.m = m) : stepR cutL m x none r = some r := by
  unfold stepR fitR; rw [h, decide_eq_true hm]; rfl
theorem step_more {m : List UInt8} {x : List Seg} {s r : Rt} (h : hasL (cutL r.p) x = true) (hm : r.m = m) : stepR cutL m x (some s) r = if strL (cutL r.p) (cutL s.p) then some r else some s := by
  unfold stepR fitR; rw [h, decide_eq_true hm]; rfl
theorem allow_len (x : List Seg) (l : List Rt) : (allowL cutL x l).length ≤ l.length := by
  have := allow_few l x []
  simpa [allowL] using this
theorem join_snoc (x : List Seg) (i j : Nat) (hi : i < j) (hj : j < x.length) : joinW 47 ((x.drop i).take (j + 1 - i)) = joinW 47 ((x.drop i).take (j - i)) ++ [47] ++ x[j] := by
  have h := joinTo_step 47 (x.drop i) (j - i) (by simp; omega) (by omega)
  unfold joinTo at h
  rw [show j + 1 - i = j - i + 1 by omega, h]
  simp [show i + (j - i) = j by omega]
theorem join_first (x : List Seg) (i : Nat) (hi : i < x.length) : joinW 47 ((x.drop i).take (i + 1 - i)) = x[i] := by
  have h := joinTo_first 47 (x.drop i) (by simp; omega)
  unfold joinTo at h
  rw [show i + 1 - i = 1 by omega, h]
  simp
theorem join_last (x : List Seg) (i : Nat) : joinW 47 ((x.drop i).take (x.length - i)) = joinS (x.drop i) := by
  rw [joinS_eq, List.take_of_length_le (by simp)]
end Go.Proofs.YtekjpcmobgdgpaaDoor
