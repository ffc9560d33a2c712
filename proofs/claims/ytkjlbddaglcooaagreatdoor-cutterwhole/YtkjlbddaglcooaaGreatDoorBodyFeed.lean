/- The contracts of (*Body).feedLine and (*Body).Feed. -/
import Derived.Test.YtkjlbddaglcooaaGreatDoorBodyEnd
import Derived.Test.YtkjlbddaglcooaaGreatDoorBodyData
import Derived.BigQuiet
namespace Go.Proofs.YtkjlbddaglcooaaGreatDoor
open Go.RowKit Pl
open Go.Lib (byteCells)

theorem ten_true {c : UInt8} (h : c = 10) : ((c.toNat : Int) == 10) = true := by subst h; rfl
theorem ten_false {c : UInt8} (h : c ≠ 10) : ((c.toNat : Int) == 10) = false := by
  rw [beq_eq_false_iff_ne]; intro e; exact h (UInt8.toNat_inj.1 (by simp; omega))
theorem cr_true {c : UInt8} (h : c = 13) : ((c.toNat : Int) == 13) = true := by subst h; rfl
theorem cr_false {c : UInt8} (h : c ≠ 13) : ((c.toNat : Int) == 13) = false := by
  rw [beq_eq_false_iff_ne]; intro e; exact h (UInt8.toNat_inj.1 (by simp; omega))
theorem crB_snoc (y : List UInt8) (z : UInt8) : crB (y ++ [z]) = decide (z = 13) := by simp [crB]
theorem below_drewN (B : Nat) (w : World) (n : Nat) : Below B w (w.drewN n) := ⟨rfl, rfl, rfl, Nat.le_refl _, fun _ _ => rfl⟩

set_option maxHeartbeats 2000000 in
theorem feedLine_any {P : Nat → Prop} {w : World} {g : Nat} {b : Bst} (h : BO P w g b) (hok : Okb b) (hst : b.st = 1 ∨ b.st = 3 ∨ b.st = 4) (c : UInt8) : Calls Tryz.prog 55 #[.pointer (some ⟨g, 0, none⟩), .int .u8 (c.toNat : Int)] w fun e' w' => e' = .returned (.tuple #[]) ∧ BO P w' g (lineB b c) ∧ Fr P g w w' := by
  obtain ⟨lv, dv, h⟩ := h
  have hle := hok.line
  have HH := Lib.hid h
  rcases List.eq_nil_or_concat b.line with hl | ⟨y, z, hl⟩
  · have hlen : b.line.length = 0 := by rw [hl]; rfl
    obtain ⟨A, cc, hlv, _⟩ := Rd.own h.ln
    rw [hlen] at hlv
    subst hlv
    have c3 := h.cell 3
    simp [bdCells] at c3
    have HLEN := Lib.hid hlen
    by_cases hc : c = 10
    · have ht := ten_true hc
      have HD : Hid (lineB b c = stopB b 400) := by show _ = _; simp [lineB, hl, crB, hc]
      clear h hok hst hc hl hlen
      generalize (c.toNat : Int) = cv at *
      go_enter Tryz.func55, Tryz.ntmps55
      go_wp2_with fail
      go_quiet (fail)
      have hB := HH.out.below (below_drewN _ w nq)
      have hb0 : Fr P g w (w.drewN nq) := Fr.of HH.out.lo (below_drewN _ w nq)
      generalize w.drewN nq = W at *
      clear HH
      go_wp2_with (go_at_call 70; refine (stop_any ⟨_, _, hB⟩ _).mono ?_; rintro e w1 ⟨rfl, h1, h2⟩)
      refine bodyPost_ret (results_none rfl _ _ _) rfl ?_
      exact ⟨rfl, by rw [HD.out]; exact h1, hb0.trans h2⟩
    · have ht := ten_false hc
      have HD : Hid (lineB b c = ⟨b.st, b.left, b.status, b.line ++ [c], b.data⟩) := by show _ = _; simp [lineB, hl, crB, hc]
      clear h hok hst hc hl hlen
      obtain ⟨i0, hi, hz0, hz1, hz2⟩ := info_parts Tryz.info5
      have HI := Lib.hid hi; have HZ0 := Lib.hid hz0; have HZ1 := Lib.hid hz1; have HZ2 := Lib.hid hz2
      clear hi hz0 hz1 hz2
      go_enter Tryz.func55, Tryz.ntmps55
      go_wp2_with fail
      go_quiet (fail)
      have hB := HH.out.below (below_drewN _ w nq)
      have hb0 : Fr P g w (w.drewN nq) := Fr.of HH.out.lo (below_drewN _ w nq)
      generalize w.drewN nq = W at *
      clear HH c3
      have hA := hB.below ((Below.refl _ _).alloc (Nat.le_refl W.heap.size) (.cells #[.int .u8 (c.toNat : Int)] 5))
      have hsz : ∀ k, P k → k < W.heap.size := hB.lo
      have c3 := hB.cell 3
      have hc3 := hA.cell 3
      simp [bdCells] at c3 hc3
      have HA := Lib.hid hA
      clear hA hB
      go_wp2_with (first | (at_builtin; refine wpList_append_lies _ rfl _ _ 46 rfl 0 5 i0 (.int .u8 0) 1 1 Tryz.underlying46 HI.out HZ0.out HZ1.out HZ2.out rfl (by decide) _ 0 _ rfl (by have := HA.out.ln; rw [HLEN.out] at this; exact this) ⟨W.heap.size, 0, none⟩ 1 1 [.int .u8 (c.toNat : Int)] rfl rfl ?c1 ?c2 (by decide) ?c3 ?c4 ?c5 (W.heap.size + 1) ?c6 ?_))
      try (case c1 => exact cell_one_new _ _ _)
      case c2 => first | rfl | (intro u hu; simp at hu; subst hu; rfl)
      case c3 => unfold maxLen; omega
      case c4 => omega
      try (case c5 => first | omega | (simp; omega))
      try (case c6 => simp)
      intro g2 cap2 w5 hown5 hgr5 hat5 hlt5
      have hN := HA.out.addL (c := c) rfl hgr5 (by simpa using hat5) (by rw [HLEN.out]; exact hown5)
      rw [HLEN.out] at hN
      have hblk5 := (hgr5.block g HA.out.lt (fun e => HA.out.neL e.symm)).trans HA.out.blk
      have hb5 : Fr P g w (w5.setCell ⟨g, 3, none⟩ (.slice (some ⟨g2, 0, none⟩) (0 + 1) cap2)) :=
        hb0.trans ((fr_grown (Fr.of hsz ((Below.refl _ _).alloc (Nat.le_refl _) _)) HA.out.lo HA.out.lnP hgr5).setCell _ _)
      have d3 := blk_cell hblk5 3
      have f3 := blk_free hblk5 3
      simp [bdCells] at d3
      have HB5 := Lib.hid hb5
      have HO := Lib.hid (show BO P _ g _ from ⟨_, _, hN⟩)
      clear hN hown5 hgr5 hat5 hblk5 hb5 c3 hc3
      have hLL := Lib.hid (long_any HO.out (by simp [HLEN.out]))
      have hdec : decide (b.line.length + 1 > 200) = false := by rw [HLEN.out]; rfl
      simp only [List.length_append, List.length_cons, List.length_nil, Nat.zero_add, hdec] at hLL
      go_wp2_with (first | (go_at_call 72; refine hLL.out.mono ?_; rintro e w6 ⟨rfl, rfl⟩))
      go_end0
      exact ⟨rfl, by rw [HD.out]; exact HO.out, HB5.out⟩
  · rw [List.concat_eq_append] at hl
    have hlen : b.line.length = y.length + 1 := by rw [hl]; simp
    obtain ⟨gl, cap, rfl, _, _, hcap⟩ : ∃ gl cap, lv = .slice (some ⟨gl, 0, none⟩) (y.length + 1) cap ∧ 0 ≤ gl ∧ gl < w.heap.size ∧ y.length + 1 ≤ cap := by
      have hln := h.ln
      rw [hlen] at hln
      rcases hln.2 with ⟨_, h0⟩ | ⟨g, cap, cur, hv, hb, hh, hc, _⟩
      · omega
      · exact ⟨g, cap, hv, hb, blk_lt hh, hc⟩
    have c3 := h.cell 3
    simp [bdCells] at c3
    have hz : w.cell? ⟨gl, y.length, none⟩ = some (.int .u8 (z.toNat : Int)) := by
      have hln := h.ln
      rw [hlen] at hln
      have := hln.cells (g := gl) rfl y.length (.int .u8 (z.toNat : Int)) (by rw [hl]; simp [byteCells])
      rwa [add_zero_own] at this
    have HLEN := Lib.hid hlen
    rw [hlen] at hle
    have hny : decide ((0 : Int) < (y.length : Int) + 1) = true := decide_eq_true (by omega)
    by_cases hz13 : z = 13
    · have hzt := cr_true hz13
      by_cases hc : c = 10
      · have ht := ten_true hc
        have HD : Hid (lineB b c = endB (clearB ⟨b.st, b.left, b.status, b.line ++ [c], b.data⟩) y (decide (y.length + 2 > 200))) := by
          show _ = _
          unfold lineB
          rw [hl, crB_snoc, hz13, hc]
          simp [clearB]
        have HLINE : Hid (b.line ++ [c] = y ++ [13, 10]) := by show _ = _; rw [hl, hz13, hc]; simp
        clear h hok hc hl hlen hz13
        obtain ⟨i0, hi, hz0, hz1, hz2⟩ := info_parts Tryz.info5
        have HI := Lib.hid hi; have HZ0 := Lib.hid hz0; have HZ1 := Lib.hid hz1; have HZ2 := Lib.hid hz2
        clear hi hz0 hz1 hz2
        go_enter Tryz.func55, Tryz.ntmps55
        go_wp2_with fail
        go_quiet (fail)
        have hB := HH.out.below (below_drewN _ w nq)
        have hb0 : Fr P g w (w.drewN nq) := Fr.of HH.out.lo (below_drewN _ w nq)
        generalize w.drewN nq = W at *
        clear HH c3 hz hzt
        have hA := hB.below ((Below.refl _ _).alloc (Nat.le_refl W.heap.size) (.cells #[.int .u8 (c.toNat : Int)] 5))
        have hsz : ∀ k, P k → k < W.heap.size := hB.lo
        have c3 := hB.cell 3
        have hc3 := hA.cell 3
        simp [bdCells] at c3 hc3
        have HA := Lib.hid hA
        clear hA hB
        go_wp2_with (first | (at_builtin; refine wpList_append_lies _ rfl _ _ 46 rfl 0 5 i0 (.int .u8 0) 1 1 Tryz.underlying46 HI.out HZ0.out HZ1.out HZ2.out rfl (by decide) _ (y.length + 1) _ rfl (by have := HA.out.ln; rw [HLEN.out] at this; exact this) ⟨W.heap.size, 0, none⟩ 1 1 [.int .u8 (c.toNat : Int)] rfl rfl ?c1 ?c2 (by decide) ?c3 ?c4 ?c5 (W.heap.size + 1) ?c6 ?_))
        try (case c1 => exact cell_one_new _ _ _)
        case c2 => first | rfl | (intro u hu; simp at hu; subst hu; rfl)
        case c3 => unfold maxLen; omega
        case c4 => omega
        try (case c5 => first | omega | (simp; omega))
        try (case c6 => simp)
        intro g2 cap2 w5 hown5 hgr5 hat5 hlt5
        have hN := HA.out.addL (c := c) rfl hgr5 (by simpa using hat5) (by rw [HLEN.out]; exact hown5)
        rw [HLEN.out] at hN
        have hblk5 := (hgr5.block g HA.out.lt (fun e => HA.out.neL e.symm)).trans HA.out.blk
        have hb5 : Fr P g w (w5.setCell ⟨g, 3, none⟩ (.slice (some ⟨g2, 0, none⟩) (y.length + 1 + 1) cap2)) :=
          hb0.trans ((fr_grown (Fr.of hsz ((Below.refl _ _).alloc (Nat.le_refl _) _)) HA.out.lo HA.out.lnP hgr5).setCell _ _)
        have d3 := blk_cell hblk5 3
        have f3 := blk_free hblk5 3
        simp [bdCells] at d3
        have HB5 := Lib.hid hb5
        have HO := Lib.hid (show BO P _ g _ from ⟨_, _, hN⟩)
        clear hN hown5 hgr5 hat5 hblk5 hb5 c3 hc3
        have hEE := Lib.hid (endLine_any y HO.out HLINE.out hst (by omega))
        go_wp2_with (first | (go_at_call 71; refine hEE.out.mono ?_; rintro e w6 ⟨rfl, ho6, hb6⟩))
        go_end0
        exact ⟨rfl, by rw [HD.out]; exact ho6, HB5.out.trans hb6⟩
      · have ht := ten_false hc
        have HD : Hid (lineB b c = stopB b 400) := by show _ = _; unfold lineB; rw [hl, crB_snoc]; simp [hz13, hc]
        clear h hok hst hc hl hlen hz13
        go_enter Tryz.func55, Tryz.ntmps55
        go_wp2_with fail
        go_quiet (fail)
        have hB := HH.out.below (below_drewN _ w nq)
        have hb0 : Fr P g w (w.drewN nq) := Fr.of HH.out.lo (below_drewN _ w nq)
        generalize w.drewN nq = W at *
        clear HH
        go_wp2_with (go_at_call 70; refine (stop_any ⟨_, _, hB⟩ _).mono ?_; rintro e w1 ⟨rfl, h1, h2⟩)
        refine bodyPost_ret (results_none rfl _ _ _) rfl ?_
        exact ⟨rfl, by rw [HD.out]; exact h1, hb0.trans h2⟩
    · have hzt := cr_false hz13
      by_cases hc : c = 10
      · have ht := ten_true hc
        have HD : Hid (lineB b c = stopB b 400) := by show _ = _; unfold lineB; rw [hl, crB_snoc]; simp [hz13, hc]
        clear h hok hst hc hl hlen hz13
        go_enter Tryz.func55, Tryz.ntmps55
        go_wp2_with fail
        go_quiet (fail)
        have hB := HH.out.below (below_drewN _ w nq)
        have hb0 : Fr P g w (w.drewN nq) := Fr.of HH.out.lo (below_drewN _ w nq)
        generalize w.drewN nq = W at *
        clear HH
        go_wp2_with (go_at_call 70; refine (stop_any ⟨_, _, hB⟩ _).mono ?_; rintro e w1 ⟨rfl, h1, h2⟩)
        refine bodyPost_ret (results_none rfl _ _ _) rfl ?_
        exact ⟨rfl, by rw [HD.out]; exact h1, hb0.trans h2⟩
      · have ht := ten_false hc
        have hll : y.length + 1 + 1 > 200 ∨ y.length + 1 + 1 ≤ 200 := by omega
        rcases hll with hll | hll
        · have hdec : decide (y.length + 1 + 1 > 200) = true := decide_eq_true hll
          have HD : Hid (lineB b c = stopB ⟨b.st, b.left, b.status, b.line ++ [c], b.data⟩ 431) := by
            show _ = _; unfold lineB; rw [hlen, hl, crB_snoc]; simp [hz13, hc, stopB]; first | omega | (intro; omega)
          clear h hok hst hc hl hlen hz13
          obtain ⟨i0, hi, hz0, hz1, hz2⟩ := info_parts Tryz.info5
          have HI := Lib.hid hi; have HZ0 := Lib.hid hz0; have HZ1 := Lib.hid hz1; have HZ2 := Lib.hid hz2
          clear hi hz0 hz1 hz2
          go_enter Tryz.func55, Tryz.ntmps55
          go_wp2_with fail
          go_quiet (fail)
          have hB := HH.out.below (below_drewN _ w nq)
          have hb0 : Fr P g w (w.drewN nq) := Fr.of HH.out.lo (below_drewN _ w nq)
          generalize w.drewN nq = W at *
          clear HH c3 hz hzt
          have hA := hB.below ((Below.refl _ _).alloc (Nat.le_refl W.heap.size) (.cells #[.int .u8 (c.toNat : Int)] 5))
          have hsz : ∀ k, P k → k < W.heap.size := hB.lo
          have c3 := hB.cell 3
          have hc3 := hA.cell 3
          simp [bdCells] at c3 hc3
          have HA := Lib.hid hA
          clear hA hB
          go_wp2_with (first | (at_builtin; refine wpList_append_lies _ rfl _ _ 46 rfl 0 5 i0 (.int .u8 0) 1 1 Tryz.underlying46 HI.out HZ0.out HZ1.out HZ2.out rfl (by decide) _ (y.length + 1) _ rfl (by have := HA.out.ln; rw [HLEN.out] at this; exact this) ⟨W.heap.size, 0, none⟩ 1 1 [.int .u8 (c.toNat : Int)] rfl rfl ?c1 ?c2 (by decide) ?c3 ?c4 ?c5 (W.heap.size + 1) ?c6 ?_))
          try (case c1 => exact cell_one_new _ _ _)
          case c2 => first | rfl | (intro u hu; simp at hu; subst hu; rfl)
          case c3 => unfold maxLen; omega
          case c4 => omega
          try (case c5 => first | omega | (simp; omega))
          try (case c6 => simp)
          intro g2 cap2 w5 hown5 hgr5 hat5 hlt5
          have hN := HA.out.addL (c := c) rfl hgr5 (by simpa using hat5) (by rw [HLEN.out]; exact hown5)
          rw [HLEN.out] at hN
          have hblk5 := (hgr5.block g HA.out.lt (fun e => HA.out.neL e.symm)).trans HA.out.blk
          have hb5 : Fr P g w (w5.setCell ⟨g, 3, none⟩ (.slice (some ⟨g2, 0, none⟩) (y.length + 1 + 1) cap2)) :=
            hb0.trans ((fr_grown (Fr.of hsz ((Below.refl _ _).alloc (Nat.le_refl _) _)) HA.out.lo HA.out.lnP hgr5).setCell _ _)
          have d3 := blk_cell hblk5 3
          have f3 := blk_free hblk5 3
          simp [bdCells] at d3
          have HB5 := Lib.hid hb5
          have HO := Lib.hid (show BO P _ g _ from ⟨_, _, hN⟩)
          clear hN hown5 hgr5 hat5 hblk5 hb5 c3 hc3
          have hLL := Lib.hid (long_any HO.out (by simp [HLEN.out]; omega))
          simp only [List.length_append, List.length_cons, List.length_nil, HLEN.out, hdec, Nat.zero_add] at hLL
          go_wp2_with (first | (go_at_call 72; refine hLL.out.mono ?_; rintro e w6 ⟨rfl, rfl⟩) | (go_at_call 70; refine (stop_any HO.out _).mono ?_; rintro e w7 ⟨rfl, h7, hb7⟩))
          go_end0
          exact ⟨rfl, by rw [HD.out]; exact h7, HB5.out.trans hb7⟩
        · have hdec : decide (y.length + 1 + 1 > 200) = false := decide_eq_false (by omega)
          have HD : Hid (lineB b c = ⟨b.st, b.left, b.status, b.line ++ [c], b.data⟩) := by
            show _ = _; unfold lineB; rw [hlen, hl, crB_snoc]; simp [hz13, hc]; first | omega | (intro; omega)
          clear h hok hst hc hl hlen hz13
          obtain ⟨i0, hi, hz0, hz1, hz2⟩ := info_parts Tryz.info5
          have HI := Lib.hid hi; have HZ0 := Lib.hid hz0; have HZ1 := Lib.hid hz1; have HZ2 := Lib.hid hz2
          clear hi hz0 hz1 hz2
          go_enter Tryz.func55, Tryz.ntmps55
          go_wp2_with fail
          go_quiet (fail)
          have hB := HH.out.below (below_drewN _ w nq)
          have hb0 : Fr P g w (w.drewN nq) := Fr.of HH.out.lo (below_drewN _ w nq)
          generalize w.drewN nq = W at *
          clear HH c3 hz hzt
          have hA := hB.below ((Below.refl _ _).alloc (Nat.le_refl W.heap.size) (.cells #[.int .u8 (c.toNat : Int)] 5))
          have hsz : ∀ k, P k → k < W.heap.size := hB.lo
          have c3 := hB.cell 3
          have hc3 := hA.cell 3
          simp [bdCells] at c3 hc3
          have HA := Lib.hid hA
          clear hA hB
          go_wp2_with (first | (at_builtin; refine wpList_append_lies _ rfl _ _ 46 rfl 0 5 i0 (.int .u8 0) 1 1 Tryz.underlying46 HI.out HZ0.out HZ1.out HZ2.out rfl (by decide) _ (y.length + 1) _ rfl (by have := HA.out.ln; rw [HLEN.out] at this; exact this) ⟨W.heap.size, 0, none⟩ 1 1 [.int .u8 (c.toNat : Int)] rfl rfl ?c1 ?c2 (by decide) ?c3 ?c4 ?c5 (W.heap.size + 1) ?c6 ?_))
          try (case c1 => exact cell_one_new _ _ _)
          case c2 => first | rfl | (intro u hu; simp at hu; subst hu; rfl)
          case c3 => unfold maxLen; omega
          case c4 => omega
          try (case c5 => first | omega | (simp; omega))
          try (case c6 => simp)
          intro g2 cap2 w5 hown5 hgr5 hat5 hlt5
          have hN := HA.out.addL (c := c) rfl hgr5 (by simpa using hat5) (by rw [HLEN.out]; exact hown5)
          rw [HLEN.out] at hN
          have hblk5 := (hgr5.block g HA.out.lt (fun e => HA.out.neL e.symm)).trans HA.out.blk
          have hb5 : Fr P g w (w5.setCell ⟨g, 3, none⟩ (.slice (some ⟨g2, 0, none⟩) (y.length + 1 + 1) cap2)) :=
            hb0.trans ((fr_grown (Fr.of hsz ((Below.refl _ _).alloc (Nat.le_refl _) _)) HA.out.lo HA.out.lnP hgr5).setCell _ _)
          have d3 := blk_cell hblk5 3
          have f3 := blk_free hblk5 3
          simp [bdCells] at d3
          have HB5 := Lib.hid hb5
          have HO := Lib.hid (show BO P _ g _ from ⟨_, _, hN⟩)
          clear hN hown5 hgr5 hat5 hblk5 hb5 c3 hc3
          have hLL := Lib.hid (long_any HO.out (by simp [HLEN.out]; omega))
          simp only [List.length_append, List.length_cons, List.length_nil, HLEN.out, hdec, Nat.zero_add] at hLL
          go_wp2_with (first | (go_at_call 72; refine hLL.out.mono ?_; rintro e w6 ⟨rfl, rfl⟩))
          go_end0
          exact ⟨rfl, by rw [HD.out]; exact HO.out, HB5.out⟩

set_option maxHeartbeats 1000000 in
theorem feed_any {P : Nat → Prop} {w : World} {g : Nat} {b : Bst} (h : BO P w g b) (hok : Okb b) (c : UInt8) : Calls Tryz.prog 38 #[.pointer (some ⟨g, 0, none⟩), .int .u8 (c.toNat : Int)] w fun e' w' => e' = .returned (.tuple #[]) ∧ BO P w' g (feedB b c) ∧ Fr P g w w' := by
  have hr := hok.range
  have hst : b.st = 0 ∨ b.st = 2 ∨ b.st = 1 ∨ b.st = 3 ∨ b.st = 4 ∨ b.st = 5 := by omega
  have HD := Lib.hid fun hs => feedData_any h hok hs c
  have HL := Lib.hid fun hs => feedLine_any h hok hs c
  have HO := Lib.hid h
  obtain ⟨lv, dv, h⟩ := h
  have c0 := h.cell 0
  simp [bdCells] at c0
  have HF : Hid (feedB b c = if b.st = 0 ∨ b.st = 2 then dataB b c else if b.st = 1 ∨ b.st = 3 ∨ b.st = 4 then lineB b c else b) := rfl
  clear h hok hr
  rcases hst with hs | hs | hs | hs | hs | hs
  · have HX := Lib.hid (HD.out (.inl hs))
    have HE : Hid (feedB b c = dataB b c) := by rw [HF.out, if_pos (.inl hs)]; rfl
    rw [hs] at c0
    clear HD HL HF hs
    go_enter Tryz.func38, Tryz.ntmps38
    go_wp2_with (go_at_call 54; refine HX.out.mono ?_; rintro e w1 ⟨rfl, h1, h2⟩)
    go_end0
    exact ⟨rfl, by rw [HE.out]; exact h1, h2⟩
  · have HX := Lib.hid (HD.out (.inr hs))
    have HE : Hid (feedB b c = dataB b c) := by rw [HF.out, if_pos (.inr hs)]; rfl
    rw [hs] at c0
    clear HD HL HF hs
    go_enter Tryz.func38, Tryz.ntmps38
    go_wp2_with (go_at_call 54; refine HX.out.mono ?_; rintro e w1 ⟨rfl, h1, h2⟩)
    go_end0
    exact ⟨rfl, by rw [HE.out]; exact h1, h2⟩
  · have HX := Lib.hid (HL.out (.inl hs))
    have HE : Hid (feedB b c = lineB b c) := by rw [HF.out, if_neg (by omega), if_pos (.inl hs)]; rfl
    rw [hs] at c0
    clear HD HL HF hs
    go_enter Tryz.func38, Tryz.ntmps38
    go_wp2_with (go_at_call 55; refine HX.out.mono ?_; rintro e w1 ⟨rfl, h1, h2⟩)
    go_end0
    exact ⟨rfl, by rw [HE.out]; exact h1, h2⟩
  · have HX := Lib.hid (HL.out (.inr (.inl hs)))
    have HE : Hid (feedB b c = lineB b c) := by rw [HF.out, if_neg (by omega), if_pos (.inr (.inl hs))]; rfl
    rw [hs] at c0
    clear HD HL HF hs
    go_enter Tryz.func38, Tryz.ntmps38
    go_wp2_with (go_at_call 55; refine HX.out.mono ?_; rintro e w1 ⟨rfl, h1, h2⟩)
    go_end0
    exact ⟨rfl, by rw [HE.out]; exact h1, h2⟩
  · have HX := Lib.hid (HL.out (.inr (.inr hs)))
    have HE : Hid (feedB b c = lineB b c) := by rw [HF.out, if_neg (by omega), if_pos (.inr (.inr hs))]; rfl
    rw [hs] at c0
    clear HD HL HF hs
    go_enter Tryz.func38, Tryz.ntmps38
    go_wp2_with (go_at_call 55; refine HX.out.mono ?_; rintro e w1 ⟨rfl, h1, h2⟩)
    go_end0
    exact ⟨rfl, by rw [HE.out]; exact h1, h2⟩
  · have HE : Hid (feedB b c = b) := by rw [HF.out, if_neg (by omega), if_neg (by omega)]; rfl
    rw [hs] at c0
    clear HD HL HF hs
    go_enter Tryz.func38, Tryz.ntmps38
    go_wp2
    go_end0
    exact ⟨rfl, by rw [HE.out]; exact HO.out, Fr.refl _ _ _⟩

end Go.Proofs.YtkjlbddaglcooaaGreatDoor
