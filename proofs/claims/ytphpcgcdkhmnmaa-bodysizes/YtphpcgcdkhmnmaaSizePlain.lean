/- What BodySizes asks, plainly; no Go. -/
import Derived.Test.YtphpcgcdkhmnmaaChunkPlain
namespace Go.Proofs.Ytphpcgcdkhmnmaa.Pl

def dig16 (n : Nat) : UInt8 := if n < 10 then UInt8.ofNat (48 + n) else UInt8.ofNat (55 + n)
def hexL (n : Nat) : List UInt8 := if n < 16 then [dig16 n] else if n < 256 then [dig16 (n / 16), dig16 (n % 16)] else [dig16 (n / 256), dig16 (n / 16 % 16), dig16 (n % 16)]

theorem hex_all : ∀ n : Fin 1024, numB 16 (cutS (hexL n.1)) = some (n.1 : Int) ∧ (∀ c ∈ hexL n.1, c ≠ 13 ∧ c ≠ 10) ∧ (hexL n.1).length ≤ 3 := by decide +kernel
theorem hex_num (n : Nat) (h : n < 1024) : numB 16 (cutS (hexL n)) = some (n : Int) := (hex_all ⟨n, h⟩).1
theorem hex_clean (n : Nat) (h : n < 1024) : Clean (hexL n) := (hex_all ⟨n, h⟩).2.1
theorem hex_len (n : Nat) (h : n < 1024) : (hexL n).length ≤ 3 := (hex_all ⟨n, h⟩).2.2

/-- A part: nothing of none, else a chunk. -/
def partT (p : List UInt8) : List UInt8 := if p = [] then [] else chunkT (hexL p.length) p

theorem part_whole (d p : List UInt8) (hp : p.length < 1024) (hd : d.length + p.length ≤ 600) : feeds (atSize d) (partT p) = atSize (d ++ p) := by
  unfold partT
  split
  · rename_i h
    subst h
    simp [feeds]
  · rename_i h
    exact chunk_whole d _ p (hex_clean _ hp) (by have := hex_len _ hp; omega) (hex_num _ hp) h hd
theorem part_wrong (d p : List UInt8) (hp : p.length < 1024) (hd0 : d.length ≤ 600) (hd : d.length + p.length > 600) : (feeds (atSize d) (partT p)).st = 5 ∧ (feeds (atSize d) (partT p)).status = 413 := by
  unfold partT
  rw [if_neg (by intro h; subst h; simp at hd; omega)]
  exact chunk_wrong d _ p (hex_clean _ hp) (by have := hex_len _ hp; omega) (hex_num _ hp) hd0 hd

theorem sizes_whole (p q : List UInt8) (hp : p.length < 1024) (hq : q.length < 1024) (h : p.length + q.length ≤ 600) : (runB (newB (-1)) (partT p ++ partT q ++ endT)).1 = ⟨5, 0, 0, [], p ++ q⟩ := by
  rw [run_fst, newB_chunks, feeds_app, feeds_app, part_whole [] p hp (by simp; omega), List.nil_append, part_whole p q hq h, end_all]
theorem sizes_wrong (p q : List UInt8) (hp : p.length < 1024) (hq : q.length < 1024) (h : p.length + q.length > 600) : (runB (newB (-1)) (partT p ++ partT q ++ endT)).1.status = 413 := by
  rw [run_fst, newB_chunks, feeds_app, feeds_app]
  by_cases h6 : p.length > 600
  · obtain ⟨h1, h2⟩ := part_wrong [] p hp (by simp) (by simpa using h6)
    rw [feeds_done h1, feeds_done h1]
    exact h2
  · rw [part_whole [] p hp (by simp; omega), List.nil_append]
    obtain ⟨h1, h2⟩ := part_wrong p q hq (by omega) h
    rw [feeds_done h1]
    exact h2

end Go.Proofs.Ytphpcgcdkhmnmaa.Pl
