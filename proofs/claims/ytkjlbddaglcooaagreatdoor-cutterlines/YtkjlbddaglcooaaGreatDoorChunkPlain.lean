/- Chunks, plainly: lines, sizes, the bytes of a chunk, the end; no Go. -/
import Derived.Test.YtkjlbddaglcooaaGreatDoorPlains
namespace Go.Proofs.YtkjlbddaglcooaaGreatDoor.Pl

/-- No CR and no LF. -/
def Clean (h : List UInt8) : Prop := ∀ c ∈ h, c ≠ 13 ∧ c ≠ 10

theorem feed_line {st left : Int} {y d : List UInt8} {c : UInt8} (hst : st = 1 ∨ st = 3 ∨ st = 4) : feedB ⟨st, left, 0, y, d⟩ c = lineB ⟨st, left, 0, y, d⟩ c := by
  unfold feedB
  rw [if_neg (by simp; omega), if_pos (by simpa using hst)]

theorem feeds_clean (st left : Int) (h y d : List UInt8) (hst : st = 1 ∨ st = 3 ∨ st = 4) (hc : Clean h) (hy : Clean y) (hl : y.length + h.length ≤ 200) : feeds ⟨st, left, 0, y, d⟩ h = ⟨st, left, 0, y ++ h, d⟩ := by
  induction h generalizing y with
  | nil => simp [feeds]
  | cons c h ih =>
    have hc0 := hc c (by simp)
    have hcr : crB y = false := by
      simp only [crB, decide_eq_false_iff_not]
      intro e
      exact (hy 13 (List.mem_of_getLast? e)).1 rfl
    have hlen : y.length + 1 ≤ 200 := by simp at hl; omega
    have e : feedB ⟨st, left, 0, y, d⟩ c = ⟨st, left, 0, y ++ [c], d⟩ := by
      rw [feed_line hst]
      unfold lineB
      simp only [hcr, hc0.2, decide_false, bne_self_eq_false]
      rw [if_neg (by simp), if_neg (by simp), if_neg (by omega)]
    rw [feeds_cons, e, ih (y ++ [c]) (fun x hx => hc x (by simp [hx])) (by
      intro x hx
      rw [List.mem_append] at hx
      rcases hx with hx | hx
      · exact hy x hx
      · simp at hx; subst hx; exact hc0) (by simp at hl ⊢; omega)]
    simp

/-- A line as a whole. -/
theorem feeds_line (st left : Int) (h d : List UInt8) (hst : st = 1 ∨ st = 3 ∨ st = 4) (hc : Clean h) (hl : h.length + 2 ≤ 200) : feeds ⟨st, left, 0, [], d⟩ (h ++ [13, 10]) = endB ⟨st, left, 0, [], d⟩ h false := by
  rw [feeds_app, feeds_clean st left h [] d hst hc (fun x hx => by cases hx) (by simp; omega), List.nil_append]
  have hcr : crB h = false := by
    simp only [crB, decide_eq_false_iff_not]
    intro e
    exact (hc 13 (List.mem_of_getLast? e)).1 rfl
  have e1 : feedB ⟨st, left, 0, h, d⟩ 13 = ⟨st, left, 0, h ++ [13], d⟩ := by
    rw [feed_line hst]
    unfold lineB
    simp only [hcr]
    rw [if_neg (by decide), if_neg (by decide), if_neg (by omega)]
  have e2 : feedB ⟨st, left, 0, h ++ [13], d⟩ 10 = endB ⟨st, left, 0, [], d⟩ h false := by
    rw [feed_line hst]
    unfold lineB
    have : crB (h ++ [13]) = true := by simp [crB]
    simp only [this]
    rw [if_neg (by decide), if_pos trivial]
    have hd : decide ((h ++ [13]).length + 1 > 200) = false := by
      simp
      omega
    rw [hd]
    simp [clearB]
  rw [feeds_cons, e1, feeds_cons, e2]
  rfl

/-- A body in chunks, ahead of a size: what came so far. -/
def atSize (d : List UInt8) : Bst := ⟨1, 0, 0, [], d⟩
theorem newB_chunks : newB (-1) = atSize [] := rfl

theorem size_line (d h : List UInt8) (n : Int) (hc : Clean h) (hl : h.length + 2 ≤ 200) (hn : numB 16 (cutS h) = some n) : feeds (atSize d) (h ++ [13, 10]) = if n > 600 then stopB (atSize d) 413 else if n > 0 then ⟨2, n, 0, [], d⟩ else ⟨4, 0, 0, [], d⟩ := by
  rw [atSize, feeds_line 1 0 h d (.inl rfl) hc hl]
  unfold endB
  have : readB 1 h = some n := by rw [← hn]; rfl
  simp only [this]
  rw [if_neg (by decide)]
  split
  · rfl
  · unfold passB
    simp

theorem feed_chunk {n : Int} {d : List UInt8} {c : UInt8} (hd : d.length < 600) : feedB ⟨2, n, 0, [], d⟩ c = ⟨if n - 1 > 0 then 2 else 3, n - 1, 0, [], d ++ [c]⟩ := by
  have h1 : d.length ≠ 600 := by omega
  simp [feedB, dataB, h1]
theorem feed_over {n : Int} {d : List UInt8} {c : UInt8} (hd : d.length = 600) : feedB ⟨2, n, 0, [], d⟩ c = ⟨5, n, 413, [], d⟩ := by
  simp [feedB, dataB, hd, stopB]

theorem chunk_data (p d : List UInt8) (hp : p ≠ []) (hd : d.length + p.length ≤ 600) : feeds ⟨2, p.length, 0, [], d⟩ p = ⟨3, 0, 0, [], d ++ p⟩ := by
  induction p generalizing d with
  | nil => exact absurd rfl hp
  | cons c p ih =>
    rw [feeds_cons, feed_chunk (by simp at hd; omega)]
    by_cases h0 : p = []
    · subst h0
      rfl
    · have hl : 0 < p.length := List.length_pos_iff.2 h0
      rw [if_pos (by simp; omega), show (((c :: p).length : Nat) : Int) - 1 = (p.length : Int) from by simp, ih (d ++ [c]) h0 (by simp at hd ⊢; omega)]
      simp
theorem chunk_over (p d : List UInt8) (n : Int) (hn : (p.length : Int) ≤ n) (hd : d.length ≤ 600) (ho : d.length + p.length > 600) : (feeds ⟨2, n, 0, [], d⟩ p).st = 5 ∧ (feeds ⟨2, n, 0, [], d⟩ p).status = 413 := by
  induction p generalizing d n with
  | nil => simp at ho; omega
  | cons c p ih =>
    rw [feeds_cons]
    by_cases h6 : d.length = 600
    · rw [feed_over h6, feeds_done rfl]
      exact ⟨rfl, rfl⟩
    · rw [feed_chunk (by omega)]
      have hl : 0 < p.length := by simp at ho; omega
      rw [if_pos (by simp at hn; omega)]
      exact ih (d ++ [c]) (n - 1) (by simp at hn; omega) (by simp; omega) (by simp at ho ⊢; omega)

theorem gap_line (d : List UInt8) : feeds ⟨3, 0, 0, [], d⟩ [13, 10] = atSize d := by
  have := feeds_line 3 0 [] d (by simp) (fun x hx => by cases hx) (by simp)
  rw [List.nil_append] at this
  rw [this]
  rfl

/-- A chunk: its size, its bytes, the ends of lines. -/
def chunkT (h p : List UInt8) : List UInt8 := h ++ [13, 10] ++ p ++ [13, 10]

theorem chunk_whole (d h p : List UInt8) (hc : Clean h) (hl : h.length + 2 ≤ 200) (hn : numB 16 (cutS h) = some (p.length : Int)) (hp : p ≠ []) (hd : d.length + p.length ≤ 600) : feeds (atSize d) (chunkT h p) = atSize (d ++ p) := by
  have hl0 : 0 < p.length := List.length_pos_iff.2 hp
  rw [chunkT, feeds_app, feeds_app, size_line d h _ hc hl hn, if_neg (by omega), if_pos (by omega), chunk_data p d hp hd, gap_line]
theorem chunk_wrong (d h p : List UInt8) (hc : Clean h) (hl : h.length + 2 ≤ 200) (hn : numB 16 (cutS h) = some (p.length : Int)) (hd0 : d.length ≤ 600) (hd : d.length + p.length > 600) : (feeds (atSize d) (chunkT h p)).st = 5 ∧ (feeds (atSize d) (chunkT h p)).status = 413 := by
  have hl0 : 0 < p.length := by omega
  rw [chunkT, feeds_app, feeds_app, size_line d h _ hc hl hn]
  by_cases h6 : (p.length : Int) > 600
  · rw [if_pos h6, feeds_done (b := stopB (atSize d) 413) rfl, feeds_done (b := stopB (atSize d) 413) rfl]
    exact ⟨rfl, rfl⟩
  · rw [if_neg h6, if_pos (by omega)]
    obtain ⟨h1, h2⟩ := chunk_over p d (p.length : Int) (Int.le_refl _) hd0 hd
    rw [feeds_done h1]
    exact ⟨h1, h2⟩

theorem zero_line (d : List UInt8) : feeds (atSize d) [48, 13, 10] = ⟨4, 0, 0, [], d⟩ := by
  have := size_line d [48] 0 (by unfold Clean; decide) (by decide) (by decide)
  rw [show [48, 13, 10] = ([48] : List UInt8) ++ [13, 10] from rfl, this]
  rfl
theorem tail_end (d : List UInt8) : feeds ⟨4, 0, 0, [], d⟩ [13, 10] = ⟨5, 0, 0, [], d⟩ := by
  have := feeds_line 4 0 [] d (by simp) (fun x hx => by cases hx) (by simp)
  rw [List.nil_append] at this
  rw [this]
  rfl
theorem tail_more (d x : List UInt8) (hx : x ≠ []) (hc : Clean x) (hl : x.length + 2 ≤ 200) : feeds ⟨4, 0, 0, [], d⟩ (x ++ [13, 10]) = ⟨4, 0, 0, [], d⟩ := by
  rw [feeds_line 4 0 x d (by simp) hc hl]
  have he : x.isEmpty = false := by simpa using hx
  unfold endB
  have : readB 4 x = some 0 := rfl
  simp only [this, he]
  rfl
def endT : List UInt8 := [48, 13, 10, 13, 10]
theorem end_all (d : List UInt8) : feeds (atSize d) endT = ⟨5, 0, 0, [], d⟩ := by
  rw [show endT = [48, 13, 10] ++ [13, 10] from rfl, feeds_app, zero_line, tail_end]

/-- How many bytes are taken where it is not done ahead of the end. -/
theorem run_open (b : Bst) (l : List UInt8) (h : (feeds b l).st ≠ 5) : (runB b l).2 = l.length := by
  induction l generalizing b with
  | nil => rfl
  | cons c l ih =>
    have hb : b.st ≠ 5 := fun e => h (by rw [feeds_done e]; exact e)
    rw [run_step hb]
    have := ih (feedB b c) (by rw [feeds_cons] at h; exact h)
    simp [this]
theorem run_last (b : Bst) (l m : List UInt8) (c : UInt8) (h : (feeds b l).st ≠ 5) (h2 : (feeds b (l ++ [c])).st = 5) : runB b (l ++ [c] ++ m) = (feeds b (l ++ [c]), l.length + 1) := by
  rw [run_app, run_done h2, run_app, run_open b l h]
  have : (runB (feeds b l) [c]).2 = 1 := by rw [run_step h]; rfl
  rw [this]
  rfl

end Go.Proofs.YtkjlbddaglcooaaGreatDoor.Pl
