/- The contract of (*Cutter).endHead. -/
import Derived.Test.YtkjlbddaglcooaaGreatDoorCtHead
namespace Go.Proofs.YtkjlbddaglcooaaGreatDoor
open Go.RowKit Pl
open Go.Lib (byteCells)

theorem byHead_ok (h : Hd) (hs : h.status = 0) : byHead h = ⟨[], bareRq h, some (newB h.len), false, 0⟩ := by unfold byHead; rw [if_pos hs]
theorem byHead_bad (h : Hd) (hs : h.status ≠ 0) : byHead h = stopC h.status := by unfold byHead; rw [if_neg hs]
def headCells (h : Hd) (v : Value) : Array Value := #[.string h.m, .string h.t, v, .string ⟨#[]⟩, .bool h.close, .int .i64 h.len, .int .i64 h.status]
theorem put7_new (W : World) (u0 u1 u2 u3 u4 u5 u6 : Value) : (put7 (W.alloc (.cells zero7 51)) W.heap.size u0 u1 u2 u3 u4 u5 u6).heap[W.heap.size]? = some (.cells #[u0, u1, u2, u3, u4, u5, u6] 51 (0, 0)) := put7_blk (heap_alloc_new W _) _ _ _ _ _ _ _
theorem put7_newBelow (W : World) (u0 u1 u2 u3 u4 u5 u6 : Value) : Below W.heap.size W (put7 (W.alloc (.cells zero7 51)) W.heap.size u0 u1 u2 u3 u4 u5 u6) := put7_below ((Below.refl _ _).alloc (Nat.le_refl _) _) (Nat.le_refl _) _ _ _ _ _ _ _

set_option maxHeartbeats 2000000 in
theorem cendHead_any {P : Nat → Prop} {w : World} {g : Nat} {c : Cst} {l x : List UInt8} (h : CO P w g c l) (hx : c.lines = x ++ [13, 10, 13, 10]) (hlen : c.lines.length ≤ 1000) (hd : c.done = false) (hst : c.status = 0) (hm : MX w) (r : Hd) (hr : Hid (parseF (linesOf x) = r)) (l' : List UInt8) (hl' : Hid ((if r.status = 0 then l else []) = l')) (c' : Cst) (hc' : Hid (byHead r = c')) :
    Calls Tryz.prog 53 #[.pointer (some ⟨g, 0, none⟩)] w fun e w' => e = .returned (.tuple #[]) ∧ CO P w' g c' l' ∧ Fr P g w w' := by
  obtain ⟨wv, lv, fv, bv, h⟩ := h
  have c1 := h.cell 1
  simp [ctCells] at c1
  have hsv := own_string h.ln
  rw [hx] at hsv
  have hxl : x.length ≤ 1000 := by rw [hx] at hlen; simp at hlen; omega
  have HT := Lib.hid fun w => trimEnds_any x w (by omega)
  have HSP := Lib.hid (split_any x w (by omega) hm)
  have hb1 : Below w.heap.size w (w.alloc (.cells ((linesOf x).map Value.string).toArray 9)) := (Below.refl _ _).alloc (Nat.le_refl _) _
  have hll : (linesOf x).length ≤ 1001 := by have := lines_len x; have := count_le_len x; omega
  have hrd := rd_new w ((linesOf x).map Value.string) 9
  rw [List.length_map] at hrd
  have HP := Lib.hid (parse_lines (linesOf x) (some ⟨w.heap.size, 0, none⟩) (linesOf x).length _ hrd (Nat.le_refl _) (by unfold maxLen; omega) (fun s hs => by have := lines_le x s hs; omega))
  rw [hr.out] at HP
  have hl6 : r.len ≤ 600 := by rw [← hr.out]; exact parse_len _
  have H1 := Lib.hid (h.below hb1)
  have HB1 := Lib.hid hb1
  have HLO := Lib.hid h.lo
  clear hrd hll hxl hm hb1 h hr
  generalize (linesOf x).length = n1 at *
  generalize w.alloc (.cells ((linesOf x).map Value.string).toArray 9) = w1 at *
  have HDD := Lib.hid hd; have HST := Lib.hid hst; have HX := Lib.hid hx
  clear hd hst hx hlen
  go_enter Tryz.func53, Tryz.ntmps53
  go_wp2_with fail
  refine (HT.out _).mono ?_
  rintro e w0 ⟨rfl, rfl⟩
  go_wp2_with fail
  refine HSP.out.mono ?_
  rintro e w0 ⟨rfl, rfl⟩
  go_wp2_with fail
  refine HP.out.mono ?_
  rintro e w2 ⟨v, rfl, hrow, hb2⟩
  unfold hdVal
  have H2 := Lib.hid (H1.out.below hb2)
  have HB2 := Lib.hid (bt HB1.out hb2)
  have hrow0 := own_mono hrow (Nat.zero_le _)
  clear HP HSP HT hsv c1 hb2 hrow
  obtain ⟨Av, cv, rfl, _⟩ := Rd.own hrow0
  have HROW := Lib.hid hrow0
  clear hrow0
  by_cases hs : r.status = 0
  · have HBY : Hid (c' = ⟨[], bareRq r, some (newB r.len), false, 0⟩) := by rw [← hc'.out, byHead_ok r hs]; rfl
    have HIF : Hid (l' = l) := by rw [← hl'.out, if_pos hs]; rfl
    rw [hs]
    have HN := Lib.hid (new_any r.len (w2.alloc (.cells #[.string r.m, .string r.t, .slice Av r.fs.length cv, .string ⟨#[]⟩, .bool r.close, .int .i64 r.len, .int .i64 0] 51)).drew)
    have hblk3 := heap_alloc_new w2 (.cells #[.string r.m, .string r.t, .slice Av r.fs.length cv, .string ⟨#[]⟩, .bool r.close, .int .i64 r.len, .int .i64 0] 51)
    have hb3 : Below w2.heap.size w2 (w2.alloc (.cells #[.string r.m, .string r.t, .slice Av r.fs.length cv, .string ⟨#[]⟩, .bool r.close, .int .i64 r.len, .int .i64 0] 51)).drew := ((Below.refl _ _).alloc (Nat.le_refl _) _).drew
    have HK : Hid (w2.heap.size < (w2.alloc (.cells #[.string r.m, .string r.t, .slice Av r.fs.length cv, .string ⟨#[]⟩, .bool r.close, .int .i64 r.len, .int .i64 0] 51)).drew.heap.size) := by show _ < _; simp
    have HBLK3 := Lib.hid hblk3
    have HB3 := Lib.hid hb3
    have hne : ¬ (w2.heap.size = g) := by have := H2.out.lt; omega
    have hne2 : ¬ (g = w2.heap.size) := by have := H2.out.lt; omega
    clear hblk3 hb3 hs
    go_wp2_with fail
    go_region_law ((first
      | (go_simp; go_at_call 21; refine HN.out.mono ?_; rintro e w4 ⟨gb, rfl, hbo, hb4, hgb⟩
         have hh : w4.heap[w2.heap.size]? = _ := (hb4.block _ HK.out).trans HBLK3.out
         have h40 := blk_cell hh 0; have h41 := blk_cell hh 1; have h42 := blk_cell hh 2; have h43 := blk_cell hh 3; have h44 := blk_cell hh 4; have h45 := blk_cell hh 5; have h46 := blk_cell hh 6
         simp at h40 h41 h42 h43 h44 h45 h46
         have h3 := H2.out.below HB3.out
         have hc4 := h3.below hb4
         have k1 := hc4.cell 1; have k2 := hc4.cell 2; have k3 := hc4.cell 3; have k4 := hc4.cell 4; have k5 := hc4.cell 5; have k6 := hc4.cell 6; have k7 := hc4.cell 7
         have f1 := hc4.free 1; have f2 := hc4.free 2; have f3 := hc4.free 3; have f4 := hc4.free 4; have f5 := hc4.free 5; have f6 := hc4.free 6; have f7 := hc4.free 7
         simp [ctCells] at k1 k2 k3 k4 k5 k6 k7
         have HC := Lib.hid (h3.toBody (r := bareRq r) hb4 hbo hgb (own_below HROW.out HB3.out))
         have HB4 := Lib.hid hb4
         have HLO3 := Lib.hid h3.lo
         clear hbo hb4 hgb hh h3 hc4)))
    all_goals
      go_wp2
      go_end0
      have hc2 := HC.out
      rw [HDD.out, HST.out] at hc2
      exact ⟨rfl, by rw [HBY.out, HIF.out]; exact ⟨_, _, _, _, hc2⟩, (((((((((Fr.of HLO.out (bt HB2.out HB3.out)).trans (Fr.of HLO3.out HB4.out)).setCell _ _).setCell _ _).setCell _ _).setCell _ _).setCell _ _).setCell _ _).setCell _ _)⟩
  · have hs2 : (r.status != 0) = true := by simpa using hs
    have HBY : Hid (c' = stopC r.status) := by rw [← hc'.out, byHead_bad r hs]; rfl
    have HIF : Hid (l' = []) := by rw [← hl'.out, if_neg hs]; rfl
    have hb3 : Below w2.heap.size w2 (w2.alloc (.cells #[.string r.m, .string r.t, .slice Av r.fs.length cv, .string ⟨#[]⟩, .bool r.close, .int .i64 r.len, .int .i64 r.status] 51)) := (Below.refl _ _).alloc (Nat.le_refl _) _
    have HS := Lib.hid (cstop_any ⟨_, _, _, _, H2.out.below hb3⟩ r.status)
    have HF : Hid (Fr P g w (w2.alloc (.cells #[.string r.m, .string r.t, .slice Av r.fs.length cv, .string ⟨#[]⟩, .bool r.close, .int .i64 r.len, .int .i64 r.status] 51))) := Fr.of HLO.out (bt HB2.out hb3)
    clear hb3 hs
    go_wp2_with fail
    refine HS.out.mono ?_
    rintro e w4 ⟨rfl, ho4, hf4⟩
    go_wp2
    refine bodyPost_ret (results_none rfl _ _ _) rfl ?_
    exact ⟨rfl, by rw [HBY.out, HIF.out]; exact ho4, HF.out.trans hf4⟩

end Go.Proofs.YtkjlbddaglcooaaGreatDoor
