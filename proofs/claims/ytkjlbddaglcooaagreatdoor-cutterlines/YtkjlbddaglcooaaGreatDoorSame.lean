/- The contract of the laws' own helper Same, at requests that are the same. -/
import Derived.Test.YtkjlbddaglcooaaGreatDoorCtAll
namespace Go.Proofs.YtkjlbddaglcooaaGreatDoor
open Go.RowKit Pl
open Go.Lib (byteCells)

theorem fld_cells {w : World} {v : Value} {fs : List Fld} (h : w.ownsRow 0 64 2 v fs.length (fldCells fs)) (i : Nat) (hi : i < fs.length) : ∃ a : Addr, (∃ c, v = .slice (some a) fs.length c ∧ fs.length ≤ c) ∧ a.block < w.heap.size ∧ w.cell? (a.add (i * 2)) = some (.string (fs[i]).1) ∧ w.cell? (a.add (i * 2 + 1)) = some (.string (fs[i]).2) := by
  rcases h.2 with ⟨_, h0⟩ | ⟨g, cap, cur, rfl, _, hh, hc, _⟩
  · omega
  · have ha := fldCells_at fs i hi
    exact ⟨_, ⟨_, rfl, hc⟩, blk_lt hh, h.cells (g := g) rfl _ _ ha.1, h.cells (g := g) rfl _ _ ha.2⟩

set_option maxRecDepth 10000 in
set_option maxHeartbeats 4000000 in
theorem same_any (r : Rq) (f1 f2 : Value) (w : World) (h1 : w.ownsRow 0 64 2 f1 r.fs.length (fldCells r.fs)) (h2 : w.ownsRow 0 64 2 f2 r.fs.length (fldCells r.fs)) (hl : r.fs.length ≤ 1000000) :
    Calls Tryz.prog 18 #[rqVal r f1, rqVal r f2] w fun e w' => e = .returned (.bool true) ∧ Below w.heap.size w w' := by
  obtain ⟨A1, c1, rfl, _⟩ := Rd.own h1
  obtain ⟨A2, c2, rfl, _⟩ := Rd.own h2
  have hb : Below w.heap.size w ((w.alloc (.cells #[.string r.m, .string r.t, .slice A1 r.fs.length c1, .string r.body, .bool r.close] 33)).alloc (.cells #[.string r.m, .string r.t, .slice A2 r.fs.length c2, .string r.body, .bool r.close] 33)) := ((Below.refl _ _).alloc (Nat.le_refl _) _).alloc (by simp) _
  have HB := Lib.hid hb
  have H1 := Lib.hid (own_below h1 hb); have H2 := Lib.hid (own_below h2 hb)
  have hq0 : ((w.alloc (.cells #[.string r.m, .string r.t, .slice A1 r.fs.length c1, .string r.body, .bool r.close] 33)).alloc (.cells #[.string r.m, .string r.t, .slice A2 r.fs.length c2, .string r.body, .bool r.close] 33)).heap[w.heap.size]? = some (.cells #[.string r.m, .string r.t, .slice A1 r.fs.length c1, .string r.body, .bool r.close] 33 (0, 0)) := by
    rw [Below.heap_alloc _ _ _ (by simp)]; exact heap_alloc_new w _
  have hq1 : ((w.alloc (.cells #[.string r.m, .string r.t, .slice A1 r.fs.length c1, .string r.body, .bool r.close] 33)).alloc (.cells #[.string r.m, .string r.t, .slice A2 r.fs.length c2, .string r.body, .bool r.close] 33)).heap[w.heap.size + 1]? = some (.cells #[.string r.m, .string r.t, .slice A2 r.fs.length c2, .string r.body, .bool r.close] 33 (0, 0)) := by
    have := heap_alloc_new (w.alloc (.cells #[.string r.m, .string r.t, .slice A1 r.fs.length c1, .string r.body, .bool r.close] 33)) (.cells #[.string r.m, .string r.t, .slice A2 r.fs.length c2, .string r.body, .bool r.close] 33)
    simpa using this
  have HQ0 := Lib.hid hq0; have HQ1 := Lib.hid hq1
  clear h1 h2 hb hq0 hq1
  unfold rqVal
  go_enter Tryz.func18, Tryz.ntmps18
  go_wp2_with fail
  generalize (w.alloc (.cells #[.string r.m, .string r.t, .slice A1 r.fs.length c1, .string r.body, .bool r.close] 33)).alloc (.cells #[.string r.m, .string r.t, .slice A2 r.fs.length c2, .string r.body, .bool r.close] 33) = W at *
  go_loopw [44] (fun i wr => ∃ k : Nat, k ≤ r.fs.length ∧ i = .int .i64 k ∧ Below W.heap.size W wr) (fun i _ => r.fs.length - (intOf i).toNat)
  case atStart => exact ⟨0, by omega, rfl, Below.refl _ _⟩
  case round =>
    obtain ⟨k, hk, rfl, hbw⟩ := hrel
    by_cases hlt : k < r.fs.length
    · obtain ⟨a1, ⟨d1, e1, hd1⟩, hl1, p1, p2⟩ := fld_cells (own_below H1.out hbw) k hlt
      obtain ⟨a2, ⟨d2, e2, hd2⟩, hl2, q1, q2⟩ := fld_cells (own_below H2.out hbw) k hlt
      have r0 := (hbw.block _ (blk_lt HQ0.out)).trans HQ0.out
      have r1 := (hbw.block _ (blk_lt HQ1.out)).trans HQ1.out
      have u2 := blk_cell r0 2
      have v2 := blk_cell r1 2
      simp at u2 v2
      injection e1 with e1 _ e1'
      injection e2 with e2 _ e2'
      subst e1 e1' e2 e2'
      have HBW := Lib.hid hbw
      clear r0 r1 hbw H1 H2 HQ0 HQ1
      rw [← add_next] at p2 q2
      go_wp2_with fail
      go_region
      go_wp2_with fail
      go_roundw
      case rel => exact ⟨k + 1, by omega, by go_num, HBW.out.drew⟩
      case measure => simp [intOf]; omega
    · have HBW := Lib.hid hbw
      clear hbw
      go_wp2_with fail
      go_ret
      exact ⟨rfl, bt HB.out HBW.out⟩
end Go.Proofs.YtkjlbddaglcooaaGreatDoor
