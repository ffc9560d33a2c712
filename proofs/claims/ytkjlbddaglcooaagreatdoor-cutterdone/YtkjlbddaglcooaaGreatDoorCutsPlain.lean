/- A text in chunks of so many bytes, plainly; no Go. -/
import Derived.Test.YtkjlbddaglcooaaGreatDoorChunkPlain
namespace Go.Proofs.YtkjlbddaglcooaaGreatDoor.Pl

def dig16 (n : Nat) : UInt8 := if n < 10 then UInt8.ofNat (48 + n) else UInt8.ofNat (87 + n)
/-- The text of a number below 256, base 16. -/
def fmtL (m : Nat) : List UInt8 := if m < 16 then [dig16 m] else [dig16 (m / 16), dig16 (m % 16)]

theorem fmt_all : ∀ n : Fin 256, numB 16 (cutS (fmtL n.1)) = some (n.1 : Int) ∧ (∀ c ∈ fmtL n.1, c ≠ 13 ∧ c ≠ 10) ∧ (fmtL n.1).length ≤ 2 := by decide +kernel
theorem fmt_num (n : Nat) (h : n < 256) : numB 16 (cutS (fmtL n)) = some (n : Int) := (fmt_all ⟨n, h⟩).1
theorem fmt_clean (n : Nat) (h : n < 256) : Clean (fmtL n) := (fmt_all ⟨n, h⟩).2.1
theorem fmt_len (n : Nat) (h : n < 256) : (fmtL n).length ≤ 2 := (fmt_all ⟨n, h⟩).2.2

/-- The chunks, without the end. -/
def chunksW (n : Nat) (s : List UInt8) : List UInt8 :=
  if h : s = [] ∨ n = 0 then [] else chunkT (fmtL (min n s.length)) (s.take n) ++ chunksW n (s.drop n)
termination_by s.length
decreasing_by
  rw [not_or] at h
  have := List.length_pos_iff.2 h.1
  simp
  omega

theorem chunksW_nil (n : Nat) : chunksW n [] = [] := by rw [chunksW, dif_pos (.inl rfl)]
theorem chunksW_more (n : Nat) (s : List UInt8) (hn : 1 ≤ n) (hs : s ≠ []) : chunksW n s = chunkT (fmtL (min n s.length)) (s.take n) ++ chunksW n (s.drop n) := by
  rw [chunksW, dif_neg (by rw [not_or]; exact ⟨hs, by omega⟩)]

theorem cuts_whole (n : Nat) (hn : 1 ≤ n) (hn2 : n < 256) (k : Nat) : ∀ (s d : List UInt8), s.length ≤ k → d.length + s.length ≤ 600 → feeds (atSize d) (chunksW n s) = atSize (d ++ s) := by
  induction k with
  | zero =>
    intro s d hk _
    have : s = [] := List.length_eq_zero_iff.1 (by omega)
    subst this
    rw [chunksW_nil]
    simp [feeds]
  | succ k ih =>
    intro s d hk hd
    by_cases hs : s = []
    · subst hs
      rw [chunksW_nil]
      simp [feeds]
    · have hl := List.length_pos_iff.2 hs
      have hne : s.take n ≠ [] := by
        intro e
        have := congrArg List.length e
        rw [List.length_take, List.length_nil] at this
        omega
      have hlen : (s.take n).length = min n s.length := List.length_take
      have hm : min n s.length < 256 := by omega
      rw [chunksW_more n s hn hs, feeds_app, chunk_whole d _ (s.take n) (fmt_clean _ hm) (by have := fmt_len _ hm; omega) (by rw [fmt_num _ hm, hlen]) hne (by rw [hlen]; omega),
        ih (s.drop n) (d ++ s.take n) (by simp; omega) (by simp; omega), List.append_assoc, List.take_append_drop]

theorem cuts_wrong (n : Nat) (hn : 1 ≤ n) (hn2 : n < 256) (k : Nat) : ∀ (s d : List UInt8), s.length ≤ k → d.length ≤ 600 → d.length + s.length > 600 → (feeds (atSize d) (chunksW n s)).st = 5 ∧ (feeds (atSize d) (chunksW n s)).status = 413 := by
  induction k with
  | zero => intro s d hk h1 h2; omega
  | succ k ih =>
    intro s d hk hd0 hd
    have hs : s ≠ [] := by intro e; subst e; simp at hd; omega
    have hl := List.length_pos_iff.2 hs
    have hne : s.take n ≠ [] := by
      intro e
      have := congrArg List.length e
      rw [List.length_take, List.length_nil] at this
      omega
    have hlen : (s.take n).length = min n s.length := List.length_take
    have hm : min n s.length < 256 := by omega
    rw [chunksW_more n s hn hs, feeds_app]
    by_cases h6 : d.length + min n s.length > 600
    · obtain ⟨h1, h2⟩ := chunk_wrong d _ (s.take n) (fmt_clean _ hm) (by have := fmt_len _ hm; omega) (by rw [fmt_num _ hm, hlen]) hd0 (by rw [hlen]; omega)
      rw [feeds_done h1]
      exact ⟨h1, h2⟩
    · rw [chunk_whole d _ (s.take n) (fmt_clean _ hm) (by have := fmt_len _ hm; omega) (by rw [fmt_num _ hm, hlen]) hne (by rw [hlen]; omega)]
      exact ih (s.drop n) (d ++ s.take n) (by simp; omega) (by simp; omega) (by simp; omega)

/-- What Chunks answers. -/
def chunksL (n : Nat) (s : List UInt8) : List UInt8 := chunksW n s ++ endT
theorem chunksW_len (n : Nat) (hn : 1 ≤ n) (hn2 : n < 256) (k : Nat) : ∀ s : List UInt8, s.length ≤ k → (chunksW n s).length ≤ 7 * s.length := by
  induction k with
  | zero =>
    intro s hk
    have : s = [] := List.length_eq_zero_iff.1 (by omega)
    subst this
    rw [chunksW_nil]
    simp
  | succ k ih =>
    intro s hk
    by_cases hs : s = []
    · subst hs
      rw [chunksW_nil]
      simp
    · have hl := List.length_pos_iff.2 hs
      have h1 := ih (s.drop n) (by simp; omega)
      have h2 := fmt_len (min n s.length) (by omega)
      rw [chunksW_more n s hn hs]
      simp [chunkT] at h1 ⊢
      omega

end Go.Proofs.YtkjlbddaglcooaaGreatDoor.Pl
