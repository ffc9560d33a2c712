/- The contract of (*Body).feedData. -/
import Derived.Test.YtkjlbddaglcooaaGreatDoorLower
import Derived.Test.YtkjlbddaglcooaaGreatDoorBodyLow
import Derived.Deep.AppendLies
namespace Go.Proofs.YtkjlbddaglcooaaGreatDoor
open Go.RowKit Pl
open Go.Lib (byteCells)


theorem fr_grown {P : Nat → Prop} {g : Nat} {a w w5 : World} {v : Value} (h : Fr P g a w) (hb : ∀ k, P k → k < w.heap.size) (hv : ∀ k, v.ownBlock = some k → ¬ P k) (hg : w.grownBy w5 v.ownBlock) : Fr P g a w5 :=
  h.grown hg hb hv

set_option maxHeartbeats 1000000 in
theorem feedData_any {P : Nat → Prop} {w : World} {g : Nat} {b : Bst} (h : BO P w g b) (hok : Okb b) (hst : b.st = 0 ∨ b.st = 2) (c : UInt8) : Calls Tryz.prog 54 #[.pointer (some ⟨g, 0, none⟩), .int .u8 (c.toNat : Int)] w fun e' w' => e' = .returned (.tuple #[]) ∧ BO P w' g (dataB b c) ∧ Fr P g w w' := by
  by_cases h600 : b.data.length = 600
  · have HS := Lib.hid fun s => stop_any h s
    obtain ⟨lv, dv, h⟩ := h
    obtain ⟨A, cc, rfl, _⟩ := Rd.own h.dt
    have c4 := h.cell 4
    simp [bdCells, h600] at c4
    have HD : Hid (dataB b c = stopB b 413) := by unfold dataB; rw [if_pos h600]; rfl
    clear h hok hst h600
    go_enter Tryz.func54, Tryz.ntmps54
    go_wp2_with fail
    refine (HS.out _).mono ?_
    rintro e w1 ⟨rfl, h1, h2⟩
    go_wp2
    refine bodyPost_ret (results_none rfl _ _ _) rfl ?_
    exact ⟨rfl, by rw [HD.out]; exact h1, h2⟩
  · obtain ⟨i0, hi, hz0, hz1, hz2⟩ := info_parts Tryz.info5
    have HI := Lib.hid hi; have HZ0 := Lib.hid hz0; have HZ1 := Lib.hid hz1; have HZ2 := Lib.hid hz2
    clear hi hz0 hz1 hz2
    obtain ⟨lv, dv, h⟩ := h
    obtain ⟨st, left, status, line, data⟩ := b
    have k1 := hok.left1; have k2 := hok.more hst; have k3 := hok.data
    simp only at k1 k2 k3 hst h600
    clear hok
    obtain ⟨A, cc, rfl, _⟩ := Rd.own h.dt
    have hlt : data.length < 600 := by omega
    have ht : ((data.length : Int) == 600) = false := by rw [beq_eq_false_iff_ne]; omega
    have HD : Hid (dataB ⟨st, left, status, line, data⟩ c = ⟨if left - 1 > 0 then st else if st = 0 then 5 else 3, left - 1, status, line, data ++ [c]⟩) := by unfold dataB; rw [if_neg h600]; rfl
    clear h600
    have c4 := h.cell 4
    simp [bdCells] at c4
    have hA := h.below ((Below.refl _ _).alloc (Nat.le_refl w.heap.size) (.cells #[.int .u8 (c.toNat : Int)] 5))
    have hsz : ∀ k, P k → k < w.heap.size := h.lo
    have hc4 := hA.cell 4
    simp [bdCells] at hc4
    have HA := Lib.hid hA
    clear h hA
    have hcase : 1 < left ∨ (left = 1 ∧ st = 0) ∨ (left = 1 ∧ st = 2) := by omega
    go_enter Tryz.func54, Tryz.ntmps54
    go_wp2_with (first | (at_builtin; refine wpList_append_lies _ rfl _ _ 46 rfl 0 5 i0 (.int .u8 0) 1 1 Tryz.underlying46 HI.out HZ0.out HZ1.out HZ2.out rfl (by decide) _ _ _ rfl HA.out.dt ⟨w.heap.size, 0, none⟩ 1 1 [.int .u8 (c.toNat : Int)] rfl rfl ?c1 ?c2 (by decide) ?c3 ?c4 ?c5 (w.heap.size + 1) ?c6 ?_))
    case c2 => rfl
    case c3 => unfold maxLen; omega
    case c4 => omega
    try (case c5 => omega)
    intro g2 cap w5 hown5 hgr5 hat5 hlt5
    have hB := HA.out.addD rfl hgr5 (by simpa using hat5) hown5
    have hblk5 := (hgr5.block g HA.out.lt (fun e => HA.out.neD e.symm)).trans HA.out.blk
    have hb5 : Fr P g w (w5.setCell ⟨g, 4, none⟩ (.slice (some ⟨g2, 0, none⟩) (data.length + 1) cap)) :=
      (fr_grown (Fr.of hsz ((Below.refl _ _).alloc (Nat.le_refl _) _)) HA.out.lo HA.out.dtP hgr5).setCell _ _
    have d0 := blk_cell hblk5 0; have d1 := blk_cell hblk5 1; have d4 := blk_cell hblk5 4
    have f0 := blk_free hblk5 0; have f1 := blk_free hblk5 1; have f4 := blk_free hblk5 4
    simp [bdCells] at d0 d1 d4
    have HB := Lib.hid hB
    have HB5 := Lib.hid hb5
    clear hB hown5 hgr5 hat5 hblk5 hb5 c4 hc4
    rcases hcase with hs | ⟨hs, hp⟩ | ⟨hs, hp⟩
    · have HF : Hid ((if left - 1 > 0 then st else if st = 0 then 5 else 3) = st) := if_pos (by omega)
      go_wp2
      go_end0
      exact ⟨rfl, by rw [HD.out, HF.out]; exact ⟨_, _, HB.out.set1 (left - 1)⟩, HB5.out.setCell _ _⟩
    · subst hs hp
      go_wp2
      go_end0
      exact ⟨rfl, by rw [HD.out]; exact ⟨_, _, (HB.out.set1 0).set0 5⟩, (HB5.out.setCell _ _).setCell _ _⟩
    · subst hs hp
      go_wp2
      go_end0
      exact ⟨rfl, by rw [HD.out]; exact ⟨_, _, (HB.out.set1 0).set0 3⟩, (HB5.out.setCell _ _).setCell _ _⟩

end Go.Proofs.YtkjlbddaglcooaaGreatDoor
