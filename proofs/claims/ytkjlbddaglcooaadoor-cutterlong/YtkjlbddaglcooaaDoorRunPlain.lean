/- Bytes fed to a body one behind the other, plainly; no Go. -/
import Derived.Test.YtkjlbddaglcooaaDoorBodyPlain
namespace Go.Proofs.YtkjlbddaglcooaaDoor.Pl

/-- All bytes, whether it is done or not. -/
def feeds (b : Bst) (l : List UInt8) : Bst := l.foldl feedB b
/-- Bytes till it is done; how many were taken. -/
def runB : Bst → List UInt8 → Bst × Nat
  | b, [] => (b, 0)
  | b, c :: l => if b.st = 5 then (b, 0) else ((runB (feedB b c) l).1, (runB (feedB b c) l).2 + 1)

theorem feeds_snoc (b : Bst) (l : List UInt8) (c : UInt8) : feeds b (l ++ [c]) = feedB (feeds b l) c := by simp [feeds]
theorem feeds_cons (b : Bst) (l : List UInt8) (c : UInt8) : feeds b (c :: l) = feeds (feedB b c) l := rfl
theorem feeds_app (b : Bst) (l m : List UInt8) : feeds b (l ++ m) = feeds (feeds b l) m := by simp [feeds]
theorem okb_feeds {b : Bst} (h : Okb b) (l : List UInt8) : Okb (feeds b l) := by
  induction l generalizing b with
  | nil => exact h
  | cons c l ih => exact ih (okb_feed h c)
theorem okb_run {b : Bst} (h : Okb b) (l : List UInt8) : Okb (runB b l).1 := by
  induction l generalizing b with
  | nil => exact h
  | cons c l ih =>
    rw [runB]
    split
    · exact h
    · exact ih (okb_feed h c)
theorem feed_done {b : Bst} (h : b.st = 5) (c : UInt8) : feedB b c = b := by
  unfold feedB
  rw [if_neg (by omega), if_neg (by omega)]
theorem feeds_done {b : Bst} (h : b.st = 5) (l : List UInt8) : feeds b l = b := by
  induction l with
  | nil => rfl
  | cons c l ih => rw [feeds_cons, feed_done h, ih]
theorem run_done {b : Bst} (h : b.st = 5) (l : List UInt8) : runB b l = (b, 0) := by
  cases l with
  | nil => rfl
  | cons c l => rw [runB, if_pos h]
theorem run_step {b : Bst} (h : b.st ≠ 5) (c : UInt8) (l : List UInt8) : runB b (c :: l) = ((runB (feedB b c) l).1, (runB (feedB b c) l).2 + 1) := by
  rw [runB, if_neg h]
theorem run_fst (b : Bst) (l : List UInt8) : (runB b l).1 = feeds b l := by
  induction l generalizing b with
  | nil => rfl
  | cons c l ih =>
    by_cases h : b.st = 5
    · rw [run_done h, feeds_done h]
    · rw [run_step h, feeds_cons]; exact ih _
theorem run_app (b : Bst) (l m : List UInt8) : runB b (l ++ m) = ((runB (feeds b l) m).1, (runB b l).2 + (runB (feeds b l) m).2) := by
  induction l generalizing b with
  | nil => simp [feeds, runB]
  | cons c l ih =>
    by_cases h : b.st = 5
    · rw [run_done h, run_done h, feeds_done h, run_done h]; rfl
    · rw [List.cons_append, run_step h, run_step h, ih, feeds_cons]
      simp [Nat.add_assoc, Nat.add_comm]
theorem run_le (b : Bst) (l : List UInt8) : (runB b l).2 ≤ l.length := by
  induction l generalizing b with
  | nil => exact Nat.le_refl _
  | cons c l ih =>
    rw [runB]
    split
    · exact Nat.zero_le _
    · have := ih (feedB b c); simp; omega
theorem run_loop_step (b0 b : Bst) (l : List UInt8) (c : UInt8) (k : Nat) (r : Bst × Nat) (h : b.st ≠ 5) (e : r = ((runB b (c :: l)).1, (runB b (c :: l)).2 + k)) : r = ((runB (feedB b c) l).1, (runB (feedB b c) l).2 + (k + 1)) := by
  rw [e, run_step h]
  simp
  omega

end Go.Proofs.YtkjlbddaglcooaaDoor.Pl
