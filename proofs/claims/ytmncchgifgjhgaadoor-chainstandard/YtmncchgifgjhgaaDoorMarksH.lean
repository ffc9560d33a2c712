/- Small lemmas on responses' blocks. -/
import Derived.Test.YtmncchgifgjhgaaDoorEq
import Derived.Deep.RegionWith
import Derived.Deep.Cut
import Derived.Deep.CutRange
import Derived.Deep.CutBlock
import Derived.BigQuiet
import Derived.Deep.RegionHeld3
namespace Go.Proofs.YtmncchgifgjhgaaDoor
open Go.RowKit Go.Shelf

theorem put4_size (W : World) (R : Nat) (u0 u1 u2 u3 : Value) : (put4 W R u0 u1 u2 u3).heap.size = W.heap.size := by unfold put4; simp [World.setCell]
/-- Fields' cells are none of a response's that is nought. -/
theorem rd_put4 {w : World} {G m : Nat} {A : Option Addr} {l : List Fld} (h : Rd w w.heap.size 2 A m (fldCells l)) (hm : m = l.length) (h2 : 2 ≤ l.length) (hk : w.heap[G]? = some (.cells #[.int .i64 0, .slice none 0 0, .string ⟨#[]⟩, .bool false] 32 (0, 0))) (u0 u1 u2 u3 : Value) :
    Rd (put4 w G u0 u1 u2 u3) (put4 w G u0 u1 u2 u3).heap.size 2 A m (fldCells l) := by
  refine ⟨h.1, fun hn => ?_⟩
  obtain ⟨a, e, hl, hc⟩ := h.2 hn
  have hne : a.block ≠ G := by
    intro hg
    have h3 : 3 < (fldCells l).length := by rw [fldCells_length]; omega
    have h1 := (fldCells_at l 1 (by omega)).2
    have h4 := hc 3 _ h1
    have h5 : (⟨a.block, a.off + 3, none⟩ : Addr) = a.add 3 := rfl
    rw [← h5, hg, blk_cell hk (a.off + 3)] at h4
    match ho : a.off with
    | 0 => rw [ho] at h4; simp at h4
    | j + 1 => rw [ho] at h4; simp at h4
  exact ⟨a, e, by rw [put4_size]; exact hl, fun j u hu => (World.cell?_of_block (put4_far (by rw [add_block]; exact hne) _ _ _ _)).trans (hc j u hu)⟩
theorem put4_lo {B : Nat} {w W : World} {R : Nat} (h : Below B w W) (hR : B ≤ R) (u0 u1 u2 u3 : Value) : Below B w (put4 W R u0 u1 u2 u3) :=
  (((h.setCell (p := ⟨R, 0, none⟩) hR _).setCell (p := ⟨R, 1, none⟩) hR _).setCell (p := ⟨R, 2, none⟩) hR _).setCell (p := ⟨R, 3, none⟩) hR _

end Go.Proofs.YtmncchgifgjhgaaDoor
