/- The contracts of (*Cutter).lookHead and look. -/
import Derived.Test.YtkjlbddaglcooaaGreatDoorCtEnd
import Derived.Test.YtkjlbddaglcooaaGreatDoorBodyFeed
import Derived.Lib.SmallJoins
namespace Go.Proofs.YtkjlbddaglcooaaGreatDoor
open Go.RowKit Pl
open Go.Lib (byteCells)

/-- What waits behind a byte: nothing, once it is done. -/
def restC (c : Cst) (l : List UInt8) : List UInt8 := if c.done then [] else l

theorem ends_split (y : List UInt8) (h : endsB y = true) : ∃ x, y = x ++ [13, 10, 13, 10] := by
  unfold endsB Lib.hasSuffix at h
  rw [List.isSuffixOf_iff_suffix] at h
  obtain ⟨x, hx⟩ := h
  exact ⟨x, hx.symm⟩
theorem look_bad {c : Cst} {b : UInt8} (h : crB c.lines ≠ decide (b = 10)) : lookHeadC c b = stopC 400 := by
  unfold lookHeadC
  rw [if_pos (by simpa using h)]
theorem look_blank {c : Cst} {b : UInt8} (h : crB c.lines = decide (b = 10)) (h2 : c.lines ++ [b] = [13, 10]) : lookHeadC c b = ⟨[], c.rq, none, false, 0⟩ := by
  unfold lookHeadC
  rw [if_neg (by simp [h]), if_pos h2]
theorem look_long {c : Cst} {b : UInt8} (h : crB c.lines = decide (b = 10)) (h2 : c.lines ++ [b] ≠ [13, 10]) (h3 : 1000 < c.lines.length + 1) : lookHeadC c b = stopC 431 := by
  unfold lookHeadC
  rw [if_neg (by simp [h]), if_neg h2, if_pos h3]
theorem look_end {c : Cst} {b : UInt8} (h : crB c.lines = decide (b = 10)) (h2 : c.lines ++ [b] ≠ [13, 10]) (h3 : c.lines.length + 1 ≤ 1000) (h4 : endsB (c.lines ++ [b]) = true) : lookHeadC c b = endHeadC (c.lines ++ [b]) := by
  unfold lookHeadC
  rw [if_neg (by simp [h]), if_neg h2, if_neg (by omega), if_pos h4]
theorem look_more {c : Cst} {b : UInt8} (h : crB c.lines = decide (b = 10)) (h2 : c.lines ++ [b] ≠ [13, 10]) (h3 : c.lines.length + 1 ≤ 1000) (h4 : endsB (c.lines ++ [b]) = false) : lookHeadC c b = ⟨c.lines ++ [b], c.rq, none, false, 0⟩ := by
  unfold lookHeadC
  rw [if_neg (by simp [h]), if_neg h2, if_neg (by omega), if_neg (by simp [h4])]
theorem endHead_take {y x : List UInt8} (h : y = x ++ [13, 10, 13, 10]) : endHeadC y = byHead (parseF (linesOf x)) := by
  subst h
  unfold endHeadC
  simp
theorem byHead_done (h : Hd) : (byHead h).done = !(decide (h.status = 0)) := by
  unfold byHead
  split
  · rename_i hs; simp [hs]
  · rename_i hs; simp [hs, stopC]
theorem ten_b (b : UInt8) : ((b.toNat : Int) == 10) = decide (b = 10) := by
  by_cases h : b = 10
  · rw [ten_true h, decide_eq_true h]
  · rw [ten_false h, decide_eq_false h]

set_option maxRecDepth 10000 in
set_option maxHeartbeats 2000000 in
theorem lookBad_any {P : Nat → Prop} {w : World} {g : Nat} {c : Cst} {l : List UInt8} (h : CO P w g c l) (hlen : c.lines.length ≤ 1000) (b : UInt8) (hcr : crB c.lines ≠ decide (b = 10)) :
    Calls Tryz.prog 37 #[.pointer (some ⟨g, 0, none⟩), .int .u8 (b.toNat : Int)] w fun e w' => e = .returned (.tuple #[]) ∧ CO P w' g (stopC 400) [] ∧ Fr P g w w' := by
  obtain ⟨wv, lv, fv, bv, h⟩ := h
  have c1 := h.cell 1
  simp [ctCells] at c1
  have hb1 : Below w.heap.size w (w.alloc (.cells #[.int .u8 13] 5)) := (Below.refl _ _).alloc (Nat.le_refl _) _
  have HSF := Lib.hid (suffix_new w [13] #[.int .u8 13] (0, 0) rfl 1 rfl h.ln (by omega))
  rw [suffix_cr] at HSF
  have HST := Lib.hid (cstop_any ⟨_, _, _, _, h.below hb1⟩ 400)
  have HF : Hid (Fr P g w (w.alloc (.cells #[.int .u8 13] 5))) := Fr.of h.lo hb1
  have ht := ten_b b
  generalize decide (b = 10) = t at *
  generalize crB c.lines = u at *
  generalize (b.toNat : Int) = bn at *
  clear h hb1 hlen
  have hut : (u == t) = false := by simpa using hcr
  clear hcr
  go_enter Tryz.func37, Tryz.ntmps37
  go_wp2_with fail
  refine HSF.out.mono ?_
  rintro e w1 ⟨rfl, rfl⟩
  go_wp2_with fail
  refine HST.out.mono ?_
  rintro e w2 ⟨rfl, h1, h2⟩
  go_wp2
  refine bodyPost_ret (results_none rfl _ _ _) rfl ?_
  exact ⟨rfl, h1, HF.out.trans h2⟩

set_option maxRecDepth 10000 in
set_option maxHeartbeats 2000000 in
theorem lookBlank_any {P : Nat → Prop} {w : World} {g : Nat} {c : Cst} {l : List UInt8} (h : CO P w g c l) (hlen : c.lines.length ≤ 1000) (hbn : c.bd = none) (hd : c.done = false) (hst : c.status = 0) (b : UInt8) (hcr : crB c.lines = decide (b = 10)) (hy : c.lines ++ [b] = [13, 10]) :
    Calls Tryz.prog 37 #[.pointer (some ⟨g, 0, none⟩), .int .u8 (b.toNat : Int)] w fun e w' => e = .returned (.tuple #[]) ∧ CO P w' g ⟨[], c.rq, none, false, 0⟩ l ∧ Fr P g w w' := by
  obtain ⟨wv, lv, fv, bv, h⟩ := h
  obtain ⟨i0, hi, hz0, hz1, hz2⟩ := info_parts Tryz.info5w
  have HI := Lib.hid hi; have HZ0 := Lib.hid hz0; have HZ1 := Lib.hid hz1; have HZ2 := Lib.hid hz2
  clear hi hz0 hz1 hz2
  have c1 := h.cell 1
  simp [ctCells] at c1
  have hb1 : Below w.heap.size w (w.alloc (.cells #[.int .u8 13] 5)) := (Below.refl _ _).alloc (Nat.le_refl _) _
  have HSF := Lib.hid (suffix_new w [13] #[.int .u8 13] (0, 0) rfl 1 rfl h.ln (by omega))
  rw [suffix_cr, hcr] at HSF
  have ht := ten_b b
  generalize decide (b = 10) = t at *
  have hB := h.below hb1
  have hfr1 : Fr P g w (w.alloc (.cells #[.int .u8 13] 5)) := Fr.of h.lo hb1
  obtain ⟨Al, cl, hlv, _⟩ := Rd.own h.ln
  subst hlv
  have HB := Lib.hid hB; have HFR1 := Lib.hid hfr1; have HBN := Lib.hid hbn; have HD := Lib.hid hd; have HST := Lib.hid hst; have HCR := Lib.hid hcr
  clear h hB hfr1 hb1 hbn hd hst hcr
  have HY := Lib.hid hy
  clear hy
  go_enter Tryz.func37, Tryz.ntmps37
  go_wp2_with fail
  refine HSF.out.mono ?_
  rintro e w1 ⟨rfl, rfl⟩
  generalize w.alloc (.cells #[.int .u8 13] 5) = W at *
  have hA := HB.out.below ((Below.refl _ _).alloc (Nat.le_refl W.heap.size) (.cells #[.int .u8 (b.toNat : Int)] 5))
  have hfr2 : Fr P g w (W.alloc (.cells #[.int .u8 (b.toNat : Int)] 5)) := HFR1.out.trans (Fr.of HB.out.lo ((Below.refl _ _).alloc (Nat.le_refl W.heap.size) _))
  have kc1 := HB.out.cell 1
  have ka1 := hA.cell 1
  simp [ctCells] at kc1 ka1
  have HA := Lib.hid hA; have HFR2 := Lib.hid hfr2
  clear hA hfr2 HB HSF
  go_wp2_with (first | (at_builtin; refine wpList_append_lies _ rfl _ _ 46 rfl 0 5 i0 (.int .u8 0) 1 1 Tryz.underlying46 HI.out HZ0.out HZ1.out HZ2.out rfl (by decide) _ c.lines.length _ rfl HA.out.ln ⟨W.heap.size, 0, none⟩ 1 1 [.int .u8 (b.toNat : Int)] rfl rfl ?c1 ?c2 (by decide) ?c3 ?c4 ?c5 (W.heap.size + 1) ?c6 ?_))
  try (case c1 => exact cell_one_new _ _ _)
  case c2 => first | rfl | (intro u hu; simp at hu; subst hu; rfl)
  case c3 => unfold maxLen; omega
  case c4 => omega
  try (case c5 => first | omega | (simp; omega))
  try (case c6 => simp)
  intro g2 cap2 w5 hown5 hgr5 hat5 hlt5
  have hN := HA.out.addL (b := b) HBN.out rfl hgr5 (by simpa using hat5) hown5
  have hblk5 := (hgr5.block g HA.out.lt (fun e => HA.out.neL e.symm)).trans HA.out.blk
  have hfr5 : Fr P g w (w5.setCell ⟨g, 1, none⟩ (.slice (some ⟨g2, 0, none⟩) (c.lines.length + 1) cap2)) := (HFR2.out.grown hgr5 (fun k hk => HA.out.lo k hk) HA.out.lnP).setCell _ _
  have d1 := blk_cell hblk5 1
  have f1 := blk_free hblk5 1
  simp [ctCells] at d1
  have k1 := hN.cell 1
  have kf1 := hN.free 1
  simp [ctCells] at k1
  have hsv := own_string hN.ln
  have HN := Lib.hid hN; have HFR5 := Lib.hid hfr5
  clear hN hown5 hgr5 hat5 hblk5 hfr5 kc1 ka1
  rw [HY.out] at hsv
  have HL : Hid (CV P _ g _ _ _ _ _ _) := HN.out.noLines HBN.out
  go_wp2
  go_end0
  have h2 := HL.out
  simp only [HBN.out, HD.out, HST.out] at h2
  exact ⟨rfl, ⟨_, _, _, _, h2⟩, HFR5.out.setCell _ _⟩

set_option maxRecDepth 10000 in
set_option maxHeartbeats 2000000 in
theorem lookLong_any {P : Nat → Prop} {w : World} {g : Nat} {c : Cst} {l : List UInt8} (h : CO P w g c l) (hlen : c.lines.length ≤ 1000) (hbn : c.bd = none) (hd : c.done = false) (hst : c.status = 0) (b : UInt8) (hcr : crB c.lines = decide (b = 10)) (hy0 : c.lines ++ [b] ≠ [13, 10]) (h3 : 1000 < c.lines.length + 1) :
    Calls Tryz.prog 37 #[.pointer (some ⟨g, 0, none⟩), .int .u8 (b.toNat : Int)] w fun e w' => e = .returned (.tuple #[]) ∧ CO P w' g (stopC 431) [] ∧ Fr P g w w' := by
  obtain ⟨wv, lv, fv, bv, h⟩ := h
  obtain ⟨i0, hi, hz0, hz1, hz2⟩ := info_parts Tryz.info5w
  have HI := Lib.hid hi; have HZ0 := Lib.hid hz0; have HZ1 := Lib.hid hz1; have HZ2 := Lib.hid hz2
  clear hi hz0 hz1 hz2
  have c1 := h.cell 1
  simp [ctCells] at c1
  have hb1 : Below w.heap.size w (w.alloc (.cells #[.int .u8 13] 5)) := (Below.refl _ _).alloc (Nat.le_refl _) _
  have HSF := Lib.hid (suffix_new w [13] #[.int .u8 13] (0, 0) rfl 1 rfl h.ln (by omega))
  rw [suffix_cr, hcr] at HSF
  have ht := ten_b b
  generalize decide (b = 10) = t at *
  have hB := h.below hb1
  have hfr1 : Fr P g w (w.alloc (.cells #[.int .u8 13] 5)) := Fr.of h.lo hb1
  obtain ⟨Al, cl, hlv, _⟩ := Rd.own h.ln
  subst hlv
  have HB := Lib.hid hB; have HFR1 := Lib.hid hfr1; have HBN := Lib.hid hbn; have HD := Lib.hid hd; have HST := Lib.hid hst; have HCR := Lib.hid hcr
  clear h hB hfr1 hb1 hbn hd hst hcr
  have hy : (c.lines ++ [b] == [13, 10]) = false := by simpa using hy0
  clear hy0
  have hd3 : decide ((1000 : Int) < (c.lines.length : Int) + 1) = true := decide_eq_true (by omega)
  go_enter Tryz.func37, Tryz.ntmps37
  go_wp2_with fail
  refine HSF.out.mono ?_
  rintro e w1 ⟨rfl, rfl⟩
  generalize w.alloc (.cells #[.int .u8 13] 5) = W at *
  have hA := HB.out.below ((Below.refl _ _).alloc (Nat.le_refl W.heap.size) (.cells #[.int .u8 (b.toNat : Int)] 5))
  have hfr2 : Fr P g w (W.alloc (.cells #[.int .u8 (b.toNat : Int)] 5)) := HFR1.out.trans (Fr.of HB.out.lo ((Below.refl _ _).alloc (Nat.le_refl W.heap.size) _))
  have kc1 := HB.out.cell 1
  have ka1 := hA.cell 1
  simp [ctCells] at kc1 ka1
  have HA := Lib.hid hA; have HFR2 := Lib.hid hfr2
  clear hA hfr2 HB HSF
  go_wp2_with (first | (at_builtin; refine wpList_append_lies _ rfl _ _ 46 rfl 0 5 i0 (.int .u8 0) 1 1 Tryz.underlying46 HI.out HZ0.out HZ1.out HZ2.out rfl (by decide) _ c.lines.length _ rfl HA.out.ln ⟨W.heap.size, 0, none⟩ 1 1 [.int .u8 (b.toNat : Int)] rfl rfl ?c1 ?c2 (by decide) ?c3 ?c4 ?c5 (W.heap.size + 1) ?c6 ?_))
  try (case c1 => exact cell_one_new _ _ _)
  case c2 => first | rfl | (intro u hu; simp at hu; subst hu; rfl)
  case c3 => unfold maxLen; omega
  case c4 => omega
  try (case c5 => first | omega | (simp; omega))
  try (case c6 => simp)
  intro g2 cap2 w5 hown5 hgr5 hat5 hlt5
  have hN := HA.out.addL (b := b) HBN.out rfl hgr5 (by simpa using hat5) hown5
  have hblk5 := (hgr5.block g HA.out.lt (fun e => HA.out.neL e.symm)).trans HA.out.blk
  have hfr5 : Fr P g w (w5.setCell ⟨g, 1, none⟩ (.slice (some ⟨g2, 0, none⟩) (c.lines.length + 1) cap2)) := (HFR2.out.grown hgr5 (fun k hk => HA.out.lo k hk) HA.out.lnP).setCell _ _
  have d1 := blk_cell hblk5 1
  have f1 := blk_free hblk5 1
  simp [ctCells] at d1
  have k1 := hN.cell 1
  have kf1 := hN.free 1
  simp [ctCells] at k1
  have hsv := own_string hN.ln
  have HN := Lib.hid hN; have HFR5 := Lib.hid hfr5
  clear hN hown5 hgr5 hat5 hblk5 hfr5 kc1 ka1
  have HSTP := Lib.hid (cstop_any ⟨_, _, _, _, HN.out⟩ 431)
  generalize c.lines ++ [b] = y at *
  go_wp2_with fail
  refine HSTP.out.mono ?_
  rintro e w6 ⟨rfl, h6, f6⟩
  go_wp2
  go_end0
  exact ⟨rfl, h6, HFR5.out.trans f6⟩

set_option maxRecDepth 10000 in
set_option maxHeartbeats 2000000 in
theorem lookMore_any {P : Nat → Prop} {w : World} {g : Nat} {c : Cst} {l : List UInt8} (h : CO P w g c l) (hlen : c.lines.length ≤ 1000) (hbn : c.bd = none) (hd : c.done = false) (hst : c.status = 0) (b : UInt8) (hcr : crB c.lines = decide (b = 10)) (hy0 : c.lines ++ [b] ≠ [13, 10]) (h3 : c.lines.length + 1 ≤ 1000) (h4 : endsB (c.lines ++ [b]) = false) :
    Calls Tryz.prog 37 #[.pointer (some ⟨g, 0, none⟩), .int .u8 (b.toNat : Int)] w fun e w' => e = .returned (.tuple #[]) ∧ CO P w' g ⟨c.lines ++ [b], c.rq, none, false, 0⟩ l ∧ Fr P g w w' := by
  obtain ⟨wv, lv, fv, bv, h⟩ := h
  obtain ⟨i0, hi, hz0, hz1, hz2⟩ := info_parts Tryz.info5w
  have HI := Lib.hid hi; have HZ0 := Lib.hid hz0; have HZ1 := Lib.hid hz1; have HZ2 := Lib.hid hz2
  clear hi hz0 hz1 hz2
  have c1 := h.cell 1
  simp [ctCells] at c1
  have hb1 : Below w.heap.size w (w.alloc (.cells #[.int .u8 13] 5)) := (Below.refl _ _).alloc (Nat.le_refl _) _
  have HSF := Lib.hid (suffix_new w [13] #[.int .u8 13] (0, 0) rfl 1 rfl h.ln (by omega))
  rw [suffix_cr, hcr] at HSF
  have ht := ten_b b
  generalize decide (b = 10) = t at *
  have hB := h.below hb1
  have hfr1 : Fr P g w (w.alloc (.cells #[.int .u8 13] 5)) := Fr.of h.lo hb1
  obtain ⟨Al, cl, hlv, _⟩ := Rd.own h.ln
  subst hlv
  have HB := Lib.hid hB; have HFR1 := Lib.hid hfr1; have HBN := Lib.hid hbn; have HD := Lib.hid hd; have HST := Lib.hid hst; have HCR := Lib.hid hcr
  clear h hB hfr1 hb1 hbn hd hst hcr
  have hy : (c.lines ++ [b] == [13, 10]) = false := by simpa using hy0
  clear hy0
  have hd3 : decide ((1000 : Int) < (c.lines.length : Int) + 1) = false := decide_eq_false (by omega)
  have H4 := Lib.hid h4
  clear h4
  go_enter Tryz.func37, Tryz.ntmps37
  go_wp2_with fail
  refine HSF.out.mono ?_
  rintro e w1 ⟨rfl, rfl⟩
  generalize w.alloc (.cells #[.int .u8 13] 5) = W at *
  have hA := HB.out.below ((Below.refl _ _).alloc (Nat.le_refl W.heap.size) (.cells #[.int .u8 (b.toNat : Int)] 5))
  have hfr2 : Fr P g w (W.alloc (.cells #[.int .u8 (b.toNat : Int)] 5)) := HFR1.out.trans (Fr.of HB.out.lo ((Below.refl _ _).alloc (Nat.le_refl W.heap.size) _))
  have kc1 := HB.out.cell 1
  have ka1 := hA.cell 1
  simp [ctCells] at kc1 ka1
  have HA := Lib.hid hA; have HFR2 := Lib.hid hfr2
  clear hA hfr2 HB HSF
  go_wp2_with (first | (at_builtin; refine wpList_append_lies _ rfl _ _ 46 rfl 0 5 i0 (.int .u8 0) 1 1 Tryz.underlying46 HI.out HZ0.out HZ1.out HZ2.out rfl (by decide) _ c.lines.length _ rfl HA.out.ln ⟨W.heap.size, 0, none⟩ 1 1 [.int .u8 (b.toNat : Int)] rfl rfl ?c1 ?c2 (by decide) ?c3 ?c4 ?c5 (W.heap.size + 1) ?c6 ?_))
  try (case c1 => exact cell_one_new _ _ _)
  case c2 => first | rfl | (intro u hu; simp at hu; subst hu; rfl)
  case c3 => unfold maxLen; omega
  case c4 => omega
  try (case c5 => first | omega | (simp; omega))
  try (case c6 => simp)
  intro g2 cap2 w5 hown5 hgr5 hat5 hlt5
  have hN := HA.out.addL (b := b) HBN.out rfl hgr5 (by simpa using hat5) hown5
  have hblk5 := (hgr5.block g HA.out.lt (fun e => HA.out.neL e.symm)).trans HA.out.blk
  have hfr5 : Fr P g w (w5.setCell ⟨g, 1, none⟩ (.slice (some ⟨g2, 0, none⟩) (c.lines.length + 1) cap2)) := (HFR2.out.grown hgr5 (fun k hk => HA.out.lo k hk) HA.out.lnP).setCell _ _
  have d1 := blk_cell hblk5 1
  have f1 := blk_free hblk5 1
  simp [ctCells] at d1
  have k1 := hN.cell 1
  have kf1 := hN.free 1
  simp [ctCells] at k1
  have hsv := own_string hN.ln
  have HN := Lib.hid hN; have HFR5 := Lib.hid hfr5
  clear hN hown5 hgr5 hat5 hblk5 hfr5 kc1 ka1
  have hll : (c.lines ++ [b]).length = c.lines.length + 1 := by simp
  have hln := HN.out.ln
  simp only at hln
  have HSX := Lib.hid (suffix_new _ [13, 10, 13, 10] #[.int .u8 13, .int .u8 10, .int .u8 13, .int .u8 10] (4, 5) rfl 4 rfl hln (by omega))
  have H4' : Hid (Lib.hasSuffix (c.lines ++ [b]) [13, 10, 13, 10] = false) := H4.out
  rw [H4'.out] at HSX
  have hbx : Below _ (w5.setCell ⟨g, 1, none⟩ (.slice (some ⟨g2, 0, none⟩) (c.lines.length + 1) cap2)) ((w5.setCell ⟨g, 1, none⟩ (.slice (some ⟨g2, 0, none⟩) (c.lines.length + 1) cap2)).alloc (.cells #[.int .u8 13, .int .u8 10, .int .u8 13, .int .u8 10] 5 (4, 5))) := (Below.refl _ _).alloc (Nat.le_refl _) _
  have hcv := Go.Joins.run_convert_bytes_const_at (P := Tryz.prog) (w5.setCell ⟨g, 1, none⟩ (.slice (some ⟨g2, 0, none⟩) (c.lines.length + 1) cap2)) 46 5 #[.int .u8 13, .int .u8 10, .int .u8 13, .int .u8 10] 4 4 w5.heap.size (by simp [World.setCell]) Tryz.underlying46 Tryz.underlying5
  simp only [show (#[Value.int .u8 13, .int .u8 10, .int .u8 13, .int .u8 10] : Array Value).size = 4 from rfl, Nat.reduceAdd] at hcv
  rw [show (w5.setCell ⟨g, 1, none⟩ (.slice (some ⟨g2, 0, none⟩) (c.lines.length + 1) cap2)).heap.size = w5.heap.size from by simp [World.setCell]] at HSX
  have HNX := Lib.hid (HN.out.below hbx)
  have HFX := Lib.hid (HFR5.out.trans (Fr.of (g := g) HN.out.lo hbx))
  clear hbx hln hll H4 H4'
  generalize hyy : c.lines ++ [b] = y at *
  have HYY := Lib.hid hyy
  clear hyy
  go_wp2_with fail
  refine HSX.out.mono ?_
  rintro e w6 ⟨rfl, rfl⟩
  go_wp2
  go_end0
  have h2 := HNX.out
  simp only [HBN.out, HD.out, HST.out] at h2
  exact ⟨rfl, by rw [HYY.out]; exact ⟨_, _, _, _, h2⟩, HFX.out⟩

set_option maxRecDepth 10000 in
set_option maxHeartbeats 2000000 in
theorem lookEnd_any {P : Nat → Prop} {w : World} {g : Nat} {c : Cst} {l : List UInt8} (h : CO P w g c l) (hlen : c.lines.length ≤ 1000) (hbn : c.bd = none) (hd : c.done = false) (hst : c.status = 0) (b : UInt8) (hcr : crB c.lines = decide (b = 10)) (hy0 : c.lines ++ [b] ≠ [13, 10]) (h3 : c.lines.length + 1 ≤ 1000) (x : List UInt8) (h4 : c.lines ++ [b] = x ++ [13, 10, 13, 10]) (hm : MX w) (h0 : P 4) (r : Hd) (hr : Hid (parseF (linesOf x) = r)) (l' : List UInt8) (hl' : Hid ((if r.status = 0 then l else []) = l')) (c' : Cst) (hc' : Hid (byHead r = c')) :
    Calls Tryz.prog 37 #[.pointer (some ⟨g, 0, none⟩), .int .u8 (b.toNat : Int)] w fun e w' => e = .returned (.tuple #[]) ∧ CO P w' g c' l' ∧ Fr P g w w' := by
  obtain ⟨wv, lv, fv, bv, h⟩ := h
  obtain ⟨i0, hi, hz0, hz1, hz2⟩ := info_parts Tryz.info5w
  have HI := Lib.hid hi; have HZ0 := Lib.hid hz0; have HZ1 := Lib.hid hz1; have HZ2 := Lib.hid hz2
  clear hi hz0 hz1 hz2
  have c1 := h.cell 1
  simp [ctCells] at c1
  have hb1 : Below w.heap.size w (w.alloc (.cells #[.int .u8 13] 5)) := (Below.refl _ _).alloc (Nat.le_refl _) _
  have HSF := Lib.hid (suffix_new w [13] #[.int .u8 13] (0, 0) rfl 1 rfl h.ln (by omega))
  rw [suffix_cr, hcr] at HSF
  have ht := ten_b b
  generalize decide (b = 10) = t at *
  have hB := h.below hb1
  have hfr1 : Fr P g w (w.alloc (.cells #[.int .u8 13] 5)) := Fr.of h.lo hb1
  obtain ⟨Al, cl, hlv, _⟩ := Rd.own h.ln
  subst hlv
  have HB := Lib.hid hB; have HFR1 := Lib.hid hfr1; have HBN := Lib.hid hbn; have HD := Lib.hid hd; have HST := Lib.hid hst; have HCR := Lib.hid hcr
  clear h hB hfr1 hb1 hbn hd hst hcr
  have hy : (c.lines ++ [b] == [13, 10]) = false := by simpa using hy0
  clear hy0
  have hd3 : decide ((1000 : Int) < (c.lines.length : Int) + 1) = false := decide_eq_false (by omega)
  have H4 := Lib.hid h4
  have HM := Lib.hid hm
  clear h4 hm
  go_enter Tryz.func37, Tryz.ntmps37
  go_wp2_with fail
  refine HSF.out.mono ?_
  rintro e w1 ⟨rfl, rfl⟩
  generalize w.alloc (.cells #[.int .u8 13] 5) = W at *
  have hA := HB.out.below ((Below.refl _ _).alloc (Nat.le_refl W.heap.size) (.cells #[.int .u8 (b.toNat : Int)] 5))
  have hfr2 : Fr P g w (W.alloc (.cells #[.int .u8 (b.toNat : Int)] 5)) := HFR1.out.trans (Fr.of HB.out.lo ((Below.refl _ _).alloc (Nat.le_refl W.heap.size) _))
  have kc1 := HB.out.cell 1
  have ka1 := hA.cell 1
  simp [ctCells] at kc1 ka1
  have HA := Lib.hid hA; have HFR2 := Lib.hid hfr2
  clear hA hfr2 HB HSF
  go_wp2_with (first | (at_builtin; refine wpList_append_lies _ rfl _ _ 46 rfl 0 5 i0 (.int .u8 0) 1 1 Tryz.underlying46 HI.out HZ0.out HZ1.out HZ2.out rfl (by decide) _ c.lines.length _ rfl HA.out.ln ⟨W.heap.size, 0, none⟩ 1 1 [.int .u8 (b.toNat : Int)] rfl rfl ?c1 ?c2 (by decide) ?c3 ?c4 ?c5 (W.heap.size + 1) ?c6 ?_))
  try (case c1 => exact cell_one_new _ _ _)
  case c2 => first | rfl | (intro u hu; simp at hu; subst hu; rfl)
  case c3 => unfold maxLen; omega
  case c4 => omega
  try (case c5 => first | omega | (simp; omega))
  try (case c6 => simp)
  intro g2 cap2 w5 hown5 hgr5 hat5 hlt5
  have hN := HA.out.addL (b := b) HBN.out rfl hgr5 (by simpa using hat5) hown5
  have hblk5 := (hgr5.block g HA.out.lt (fun e => HA.out.neL e.symm)).trans HA.out.blk
  have hfr5 : Fr P g w (w5.setCell ⟨g, 1, none⟩ (.slice (some ⟨g2, 0, none⟩) (c.lines.length + 1) cap2)) := (HFR2.out.grown hgr5 (fun k hk => HA.out.lo k hk) HA.out.lnP).setCell _ _
  have d1 := blk_cell hblk5 1
  have f1 := blk_free hblk5 1
  simp [ctCells] at d1
  have k1 := hN.cell 1
  have kf1 := hN.free 1
  simp [ctCells] at k1
  have hsv := own_string hN.ln
  have HN := Lib.hid hN; have HFR5 := Lib.hid hfr5
  clear hN hown5 hgr5 hat5 hblk5 hfr5 kc1 ka1
  have hll : (c.lines ++ [b]).length = c.lines.length + 1 := by simp
  have hln := HN.out.ln
  simp only at hln
  have HSX := Lib.hid (suffix_new _ [13, 10, 13, 10] #[.int .u8 13, .int .u8 10, .int .u8 13, .int .u8 10] (4, 5) rfl 4 rfl hln (by omega))
  have H4' : Hid (Lib.hasSuffix (c.lines ++ [b]) [13, 10, 13, 10] = true) := by show _ = _; rw [H4.out]; simp [Lib.hasSuffix]
  rw [H4'.out] at HSX
  have hbx : Below _ (w5.setCell ⟨g, 1, none⟩ (.slice (some ⟨g2, 0, none⟩) (c.lines.length + 1) cap2)) ((w5.setCell ⟨g, 1, none⟩ (.slice (some ⟨g2, 0, none⟩) (c.lines.length + 1) cap2)).alloc (.cells #[.int .u8 13, .int .u8 10, .int .u8 13, .int .u8 10] 5 (4, 5))) := (Below.refl _ _).alloc (Nat.le_refl _) _
  have hcv := Go.Joins.run_convert_bytes_const_at (P := Tryz.prog) (w5.setCell ⟨g, 1, none⟩ (.slice (some ⟨g2, 0, none⟩) (c.lines.length + 1) cap2)) 46 5 #[.int .u8 13, .int .u8 10, .int .u8 13, .int .u8 10] 4 4 w5.heap.size (by simp [World.setCell]) Tryz.underlying46 Tryz.underlying5
  simp only [show (#[Value.int .u8 13, .int .u8 10, .int .u8 13, .int .u8 10] : Array Value).size = 4 from rfl, Nat.reduceAdd] at hcv
  rw [show (w5.setCell ⟨g, 1, none⟩ (.slice (some ⟨g2, 0, none⟩) (c.lines.length + 1) cap2)).heap.size = w5.heap.size from by simp [World.setCell]] at HSX
  have HNX := Lib.hid (HN.out.below hbx)
  have HFX := Lib.hid (HFR5.out.trans (Fr.of (g := g) HN.out.lo hbx))
  have HEH := Lib.hid (cendHead_any (x := x) ⟨_, _, _, _, HNX.out⟩ H4.out (by simp; omega) HD.out HST.out (HM.out.fr HFX.out h0 HN.out.ng) r hr l' hl' c' hc')
  clear hbx hln hll H4 H4'
  generalize hyy : c.lines ++ [b] = y at *
  have HYY := Lib.hid hyy
  clear hyy
  go_wp2_with fail
  refine HSX.out.mono ?_
  rintro e w6 ⟨rfl, rfl⟩
  go_wp2_with fail
  refine HEH.out.mono ?_
  rintro e w7 ⟨rfl, h7, f7⟩
  go_wp2
  go_end0
  exact ⟨rfl, h7, HFX.out.trans f7⟩

theorem clookHead_any {P : Nat → Prop} {w : World} {g : Nat} {c : Cst} {l : List UInt8} (h : CO P w g c l) (hok : Okc c) (hbn : c.bd = none) (hd : c.done = false) (b : UInt8) (hm : MX w) (h0 : P 4) :
    Calls Tryz.prog 37 #[.pointer (some ⟨g, 0, none⟩), .int .u8 (b.toNat : Int)] w fun e w' => e = .returned (.tuple #[]) ∧ CO P w' g (lookHeadC c b) (restC (lookHeadC c b) l) ∧ Fr P g w w' := by
  by_cases hcr : crB c.lines = decide (b = 10)
  · by_cases hy : c.lines ++ [b] = [13, 10]
    · rw [look_blank hcr hy]
      exact lookBlank_any h hok.len hbn hd (hok.stat hd) b hcr hy
    · by_cases h3 : 1000 < c.lines.length + 1
      · rw [look_long hcr hy h3]
        exact lookLong_any h hok.len hbn hd (hok.stat hd) b hcr hy h3
      · cases h4 : endsB (c.lines ++ [b]) with
        | true =>
          obtain ⟨x, hx⟩ := ends_split _ h4
          rw [look_end hcr hy (by omega) h4, endHead_take hx]
          refine lookEnd_any h hok.len hbn hd (hok.stat hd) b hcr hy (by omega) x hx hm h0 _ (Lib.hid rfl) _ (Lib.hid ?_) _ (Lib.hid rfl)
          unfold restC
          rw [byHead_done]
          by_cases hs : (parseF (linesOf x)).status = 0
          · simp [hs]
          · simp [hs]
        | false =>
          rw [look_more hcr hy (by omega) h4]
          exact lookMore_any h hok.len hbn hd (hok.stat hd) b hcr hy (by omega) h4
  · rw [look_bad hcr]
    exact lookBad_any h hok.len b hcr


theorem kept_block {w w' : World} {base n k : Nat} {e : TypeId} {v : Value} {xs : List Value} (h : w.ownsRow base e k v n xs) (hb : ∀ i, v.ownBlock = some i → w'.heap[i]? = w.heap[i]?) : w'.ownsRow base e k v n xs := by
  rcases h.2 with ⟨rfl, h0⟩ | ⟨g, cap, cur, rfl, h1, hh, h2⟩
  · exact ⟨h.1, .inl ⟨rfl, h0⟩⟩
  · exact ⟨h.1, .inr ⟨g, cap, cur, rfl, h1, (hb g rfl).trans hh, h2⟩⟩

theorem CV.fed {P : Nat → Prop} {w w' : World} {g gb : Nat} {c : Cst} {l : List UInt8} {wv lv fv bv : Value} {d d' : Bst} (h : CV P w g c l wv lv fv bv) (hln : c.lines = []) (hbv : bv = .pointer (some ⟨gb, 0, none⟩)) (hnP : ¬ P gb) (hb0 : BO (PB P g wv fv) w gb d) (hbo : BO (PB P g wv fv) w' gb d') (hfr : Fr (PB P g wv fv) gb w w') :
    CV P w' g ⟨c.lines, c.rq, some d', c.done, c.status⟩ l wv lv fv bv := by
  have hgg := h.gb_ne hb0
  obtain ⟨lv', dv', hb1⟩ := hb0
  refine ⟨(hfr.block g (.inr (.inl rfl)) hgg).trans h.blk, h.wt.block fun k hk => hfr.block k (.inr (.inr (.inl hk))) fun e => h.wt.ne hb1.blk (by decide) (e ▸ hk), ?_, kept_block h.fl fun k hk => hfr.block k (.inr (.inr (.inr hk))) fun e => own_ne2 h.fl hb1.blk (by decide) (e ▸ hk), fun k hk => Nat.lt_of_lt_of_le (h.lo k hk) hfr.size, h.ng, h.wtP, h.lnP, h.ap, h.nl, fun hx => (by cases hx), fun e he => ?_⟩
  · have := h.nl hln
    subst this
    have h2 := h.ln
    rw [hln] at h2 ⊢
    exact ⟨h2.1, .inl ⟨rfl, rfl⟩⟩
  · injection he with he
    subst he
    exact ⟨gb, hbv, hnP, hbo⟩
theorem Fr.out {P : Nat → Prop} {w w' : World} {g gb : Nat} {wv fv : Value} (hfr : Fr (PB P g wv fv) gb w w') (hnP : ¬ P gb) : Fr P g w w' :=
  ⟨hfr.os, hfr.tape, hfr.output, hfr.size, fun k hk _ => hfr.block k (.inl hk) fun e => hnP (e ▸ hk)⟩

theorem look_none {c : Cst} (b : UInt8) (h : c.bd = none) : lookC c b = lookHeadC c b := by unfold lookC; rw [h]
theorem look_some {c : Cst} (b : UInt8) {d : Bst} (h : c.bd = some d) : lookC c b = lookBodyC c (feedB d b) := by unfold lookC; rw [h]

set_option maxHeartbeats 2000000 in
theorem clook_any {P : Nat → Prop} {w : World} {g : Nat} {c : Cst} {l : List UInt8} (h : CO P w g c l) (hok : Okc c) (hd : c.done = false) (b : UInt8) (hm : MX w) (h0 : P 4) :
    Calls Tryz.prog 25 #[.pointer (some ⟨g, 0, none⟩), .int .u8 (b.toNat : Int)] w fun e w' => e = .returned (.tuple #[]) ∧ CO P w' g (lookC c b) (restC (lookC c b) l) ∧ Fr P g w w' := by
  cases hbd : c.bd with
  | none =>
    have HH := Lib.hid (clookHead_any h hok hbd hd b hm h0)
    rw [← look_none b hbd] at HH
    obtain ⟨wv, lv, fv, bv, h⟩ := h
    have hbv := h.bn hbd
    subst hbv
    have c7 := h.cell 7
    simp [ctCells] at c7
    clear h hok hd hm hbd
    generalize lookC c b = c2 at *
    go_enter Tryz.func25, Tryz.ntmps25
    go_wp2_with fail
    refine HH.out.mono ?_
    rintro e w1 ⟨rfl, h1, h2⟩
    go_wp2
    refine bodyPost_ret (results_none rfl _ _ _) rfl ?_
    exact ⟨rfl, h1, h2⟩
  | some d =>
    obtain ⟨ha1, ha2, ha3, ha4⟩ := hok.amid d hbd
    obtain ⟨wv, lv, fv, bv, h⟩ := h
    obtain ⟨gb, rfl, hnP, hbo⟩ := h.bs d hbd
    have c7 := h.cell 7
    simp [ctCells] at c7
    have HF := Lib.hid (feed_any hbo ha2 b)
    have HLK := Lib.hid (look_some b hbd)
    have HV := Lib.hid h; have HBO := Lib.hid hbo; have HNP := Lib.hid hnP; have HLN := Lib.hid ha1; have HDN := Lib.hid hd; have HST := Lib.hid (hok.stat hd)
    clear h hok hbd ha1 ha2 ha3 ha4 hm hbo hnP hd
    generalize feedB d b = d2 at *
    rw [HLK.out]
    go_enter Tryz.func25, Tryz.ntmps25
    go_wp2_with fail
    refine HF.out.mono ?_
    rintro e w1 ⟨rfl, ho1, hf1⟩
    have hv1 := HV.out.fed HLN.out rfl HNP.out HBO.out ho1 hf1
    have hfr1 : Fr P g w w1 := hf1.out HNP.out
    have k7 := hv1.cell 7
    simp [ctCells] at k7
    have HS := Lib.hid (status_any ho1)
    have HV1 := Lib.hid hv1; have HFR1 := Lib.hid hfr1
    clear hv1 hfr1 hf1 ho1 c7
    go_wp2_with fail
    refine HS.out.mono ?_
    rintro e w2 ⟨rfl, rfl⟩
    by_cases hs : d2.status = 0
    · have HL : Hid (lookBodyC c d2 = ⟨c.lines, c.rq, some d2, c.done, c.status⟩) := by unfold lookBodyC; rw [if_pos hs, HDN.out, HST.out]; rfl
      have HRC : Hid (restC (lookBodyC c d2) l = l) := by rw [HL.out]; unfold restC; simp only [HDN.out]; rfl
      rw [hs]
      clear hs
      go_wp2
      go_end0
      exact ⟨rfl, by rw [HRC.out, HL.out]; exact ⟨_, _, _, _, HV1.out⟩, HFR1.out⟩
    · have hs2 : (d2.status != 0) = true := by simpa using hs
      have HL : Hid (lookBodyC c d2 = stopC d2.status) := by unfold lookBodyC; rw [if_neg hs]; rfl
      have HRC : Hid (restC (lookBodyC c d2) l = []) := by rw [HL.out]; rfl
      have HSP := Lib.hid (cstop_any ⟨_, _, _, _, HV1.out⟩ d2.status)
      clear hs
      go_wp2_with fail
      refine HSP.out.mono ?_
      rintro e w3 ⟨rfl, h3, f3⟩
      go_wp2
      go_end0
      exact ⟨rfl, by rw [HRC.out, HL.out]; exact h3, HFR1.out.trans f3⟩

end Go.Proofs.YtkjlbddaglcooaaGreatDoor
