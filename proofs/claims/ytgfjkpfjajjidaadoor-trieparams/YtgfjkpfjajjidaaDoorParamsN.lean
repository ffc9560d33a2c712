/- Rows, cells and blocks carried over the steps of a region. -/
import Derived.Test.YtgfjkpfjajjidaaDoorParamsM
namespace Go.Proofs.YtgfjkpfjajjidaaDoor
open Go.RowKit Pl

theorem news_on {W W' : World} {g : Nat} {vs : List Value} (h : ∀ j u, vs[j]? = some u → W.cell? ((⟨g, 0, none⟩ : Addr).add j) = some u) (hg : g < W.heap.size) (hb : Below W.heap.size W W') : ∀ j u, vs[j]? = some u → W'.cell? ((⟨g, 0, none⟩ : Addr).add j) = some u := fun j u hu =>
  (hb.cell (p := (⟨g, 0, none⟩ : Addr).add j) (by rw [add_block]; exact hg)).trans (h j u hu)
theorem blk_size {W : World} {M : Nat} {o : Obj} (h : W.heap[M]? = some o) : M < W.heap.size := (Array.getElem?_eq_some_iff.1 h).1
theorem pth_own {W : World} {B g cap : Nat} {xs : List Seg} {z : Seg} (h : W.ownsRow B 9 1 (.slice (some ⟨g, 0, none⟩) (xs.length + 1) cap) (xs.length + 1) (xs.map strV ++ [.string (mkB z)])) (hn : xs.length ≤ 100) (hs : ∀ s ∈ xs, s.length ≤ 2000000) (hz : z.length ≤ 2000000) :
    Pth W W.heap.size (some ⟨g, 0, none⟩) (xs.length + 1) cap (xs ++ [z]) := by
  obtain ⟨A, c', e, hc, hr⟩ := Rd.ownc h
  cases e
  have hl : (xs ++ [z]).length = xs.length + 1 := by simp
  have := Pth.of (xs := xs ++ [z]) (c := cap) (w := W) (B := W.heap.size) (A := some ⟨g, 0, none⟩) (by rw [hl, List.map_append]; exact hr) (by rw [hl]; exact hc) (by rw [hl]; omega) (fun s hs' => by
    rcases List.mem_append.1 hs' with h1 | h1
    · exact hs s h1
    · simp at h1; subst h1; exact hz)
  rwa [hl] at this
/-- Pairs of texts do not lie in a block whose second cell is a slice. -/
theorem pl_far {W : World} {B n M : Nat} {A : Option Addr} {l : List PL} {u0 : Value} {X Y : Option Addr} {x y x2 y2 : Nat} (h : Rd W B 2 A n (plCells l)) (hn : n = l.length) (hM : W.heap[M]? = some (.cells #[u0, .slice X x y, .slice Y x2 y2] 34 (0, 0))) : n ≠ 0 → ∀ a, A = some a → a.block ≠ M := by
  intro h0 a ha hb
  obtain ⟨a', e, _, h2⟩ := h.2 h0
  rw [ha] at e; cases e
  have hl : 0 < l.length := by omega
  have c0 := h2 0 (.string (mkB l[0].1)) ((pl_at l 0 hl 0 (by decide)).trans rfl)
  have c1 := h2 1 (.string (mkB l[0].2)) ((pl_at l 0 hl 1 (by decide)).trans rfl)
  obtain ⟨b, o, sp⟩ := a
  simp only at hb
  subst hb
  have hsp := World.cell?_spot c0
  simp [Addr.add] at hsp
  subst hsp
  rw [show (⟨b, o, none⟩ : Addr).add 1 = ⟨b, o + 1, none⟩ from rfl, Lib.cell_of_heap hM] at c1
  match o with
  | 0 => simp at c1
  | 1 => simp at c1
  | o + 2 => simp at c1
theorem rd_put3 {W : World} {n M : Nat} {A : Option Addr} {l : List PL} {u0 : Value} {X Y : Option Addr} {x y x2 y2 : Nat} (h : Rd W W.heap.size 2 A n (plCells l)) (hn : n = l.length) (hM : W.heap[M]? = some (.cells #[u0, .slice X x y, .slice Y x2 y2] 34 (0, 0))) (v0 v1 v2 : Value) : Rd (put3 W M v0 v1 v2) (put3 W M v0 v1 v2).heap.size 2 A n (plCells l) := by
  have hz : (put3 W M v0 v1 v2).heap.size = W.heap.size := by simp [put3, World.setCell]
  have hf := pl_far h hn hM
  rw [hz]
  refine ⟨h.1, fun h0 => ?_⟩
  obtain ⟨a, e, hb, hc⟩ := h.2 h0
  exact ⟨a, e, hb, fun j u hu => (put3_cell _ (by rw [add_block]; exact hf h0 a e) v0 v1 v2).trans (hc j u hu)⟩
end Go.Proofs.YtgfjkpfjajjidaaDoor
