/- The end of a body in chunks, and lines behind the last chunk, plainly; no Go. -/
import Derived.Test.YtphpcgcdkhmnmaaDoorCutsPlain
namespace Go.Proofs.YtphpcgcdkhmnmaaDoor.Pl

theorem tail_cr (d : List UInt8) : feedB ⟨4, 0, 0, [], d⟩ 13 = ⟨4, 0, 0, [13], d⟩ := by
  rw [feed_line (by simp)]
  rfl
/-- Behind the last chunk, and an empty line: it is done, and nothing more is taken. -/
theorem run_tail (l m d : List UInt8) (h : feeds (newB (-1)) l = ⟨4, 0, 0, [], d⟩) : runB (newB (-1)) (l ++ [13, 10] ++ m) = (⟨5, 0, 0, [], d⟩, l.length + 2) := by
  have e1 : feeds (newB (-1)) (l ++ [13]) = ⟨4, 0, 0, [13], d⟩ := by rw [feeds_app, h, feeds_cons, tail_cr]; rfl
  have e2 : feeds (newB (-1)) (l ++ [13] ++ [10]) = ⟨5, 0, 0, [], d⟩ := by
    rw [List.append_assoc, feeds_app, h]
    exact tail_end d
  have := run_last (newB (-1)) (l ++ [13]) m 10 (by rw [e1]; simp) (by rw [e2])
  rw [e2] at this
  rw [show l ++ [13, 10] ++ m = l ++ [13] ++ [10] ++ m from by simp, this]
  simp

theorem cuts_zero (n : Nat) (hn : 1 ≤ n) (hn2 : n < 256) (s : List UInt8) (hs : s.length ≤ 600) : feeds (newB (-1)) (chunksW n s ++ [48, 13, 10]) = ⟨4, 0, 0, [], s⟩ := by
  rw [newB_chunks, feeds_app, cuts_whole n hn hn2 s.length s [] (Nat.le_refl _) (by simpa using hs), List.nil_append, zero_line]
theorem cuts_run (n : Nat) (hn : 1 ≤ n) (hn2 : n < 256) (s m : List UInt8) (hs : s.length ≤ 600) : runB (newB (-1)) (chunksL n s ++ m) = (⟨5, 0, 0, [], s⟩, (chunksL n s).length) := by
  have h := run_tail _ m s (cuts_zero n hn hn2 s hs)
  have e : chunksL n s = chunksW n s ++ [48, 13, 10] ++ [13, 10] := by unfold chunksL endT; simp
  rw [e, h]
  simp
theorem cuts_bad (n : Nat) (hn : 1 ≤ n) (hn2 : n < 256) (s m : List UInt8) (hs : s.length > 600) : (runB (newB (-1)) (chunksL n s ++ m)).1.status = 413 := by
  rw [run_fst, newB_chunks, chunksL, feeds_app, feeds_app]
  obtain ⟨h1, h2⟩ := cuts_wrong n hn hn2 s.length s [] (Nat.le_refl _) (by simp) (by simpa using hs)
  rw [feeds_done h1, feeds_done h1]
  exact h2

/-- Lines, each with its end. -/
def linesT : List (List UInt8) → List UInt8
  | [] => []
  | x :: l => x ++ [13, 10] ++ linesT l
theorem linesT_snoc (l : List (List UInt8)) (x : List UInt8) : linesT (l ++ [x]) = linesT l ++ (x ++ [13, 10]) := by
  induction l with
  | nil => simp [linesT]
  | cons y l ih => simp [linesT, ih]
theorem lines_feed (d : List UInt8) (l : List (List UInt8)) (h : ∀ x ∈ l, x ≠ [] ∧ Clean x ∧ x.length ≤ 100) : feeds ⟨4, 0, 0, [], d⟩ (linesT l) = ⟨4, 0, 0, [], d⟩ := by
  induction l with
  | nil => rfl
  | cons x l ih =>
    obtain ⟨h1, h2, h3⟩ := h x (by simp)
    rw [linesT, feeds_app, tail_more d x h1 h2 (by omega)]
    exact ih fun y hy => h y (by simp [hy])
theorem trail_run (n : Nat) (hn : 1 ≤ n) (hn2 : n < 256) (s m : List UInt8) (hs : s.length ≤ 600) (l : List (List UInt8)) (h : ∀ x ∈ l, x ≠ [] ∧ Clean x ∧ x.length ≤ 100) :
    runB (newB (-1)) (chunksW n s ++ [48, 13, 10] ++ linesT l ++ [13, 10] ++ m) = (⟨5, 0, 0, [], s⟩, (chunksW n s ++ [48, 13, 10] ++ linesT l).length + 2) :=
  run_tail _ m s (by rw [feeds_app, cuts_zero n hn hn2 s hs, lines_feed s l h])

end Go.Proofs.YtphpcgcdkhmnmaaDoor.Pl
