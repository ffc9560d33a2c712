/- The contract of Walk. -/
import Derived.Test.YthpklagnecoilaaDoorWs
import Derived.Deep.RegionHeld3
import Derived.Deep.Cut
import Derived.Deep.CutRange
import Derived.Deep.CutBlock
import Derived.LoopTactic
namespace Go.Proofs.YthpklagnecoilaaDoor
open Go.RowKit

abbrev Zc : Value := .complex .f64 0 0

set_option maxRecDepth 100000 in
set_option maxHeartbeats 4000000 in
theorem walk_long (s : ByteArray) (hs : 40 < s.size) (w : World) : Calls Tryd.prog 10 #[.string s] w fun e w' =>
    e = .returned (.tuple #[.agg #[.complex .f64 0 0, .complex .f64 0 0], .bool false]) ∧ Below w.heap.size w w' := by
  have hst := st_cx
  have HB := Lib.hid ((Below.refl w.heap.size w).alloc (Nat.le_refl _) (.cells #[.complex .f64 0 0, .complex .f64 0 0] 26))
  have h1 : (40 : Int) < (s.size : Int) := by omega
  go_enter Tryd.func10, Tryd.ntmps10
  go_wp2_with fail
  refine ret10 (bk_new _ _ _) rfl rfl rfl ?_
  exact ⟨rfl, HB.out⟩

theorem go_take (s : ByteArray) (k : Nat) (h : k < s.size) : goW newW (s.data.toList.take (k + 1)) = (goW newW (s.data.toList.take k)).bind fun q => stepW q s[k] := by
  rw [take_snoc s k h, go_snoc]
theorem go_none (s : ByteArray) (k : Nat) (h : goW newW (s.data.toList.take k) = none) : goW newW s.data.toList = none := by
  have := go_app (s.data.toList.take k) (s.data.toList.drop k) newW
  rw [List.take_append_drop, h] at this
  exact this

set_option maxRecDepth 100000 in
set_option maxHeartbeats 8000000 in
theorem walk_short (s : ByteArray) (hs : s.size ≤ 40) (w : World) : Calls Tryd.prog 10 #[.string s] w fun e w' =>
    ∃ a b c d, e = .returned (.tuple #[.agg #[.complex .f64 a b, .complex .f64 c d], .bool (goW newW s.data.toList).isSome]) ∧ Rw a b c d ((goW newW s.data.toList).getD noW) ∧ Below w.heap.size w w' := by
  have hst := st_cx
  have h1 : ¬ (40 : Int) < (s.size : Int) := by omega
  have hb0 := (Below.refl w.heap.size w).alloc (Nat.le_refl _) (.cells #[.complex .f64 0 0, .complex .f64 0 0] 26)
  have hk0 := bk_new w (.complex .f64 0 0) (.complex .f64 0 0)
  have HN := Lib.hid new_any
  have HB0 := Lib.hid hb0
  have HK0 := Lib.hid hk0
  clear hb0 hk0
  go_enter Tryd.func10, Tryd.ntmps10
  go_wp2_with fail
  generalize w.alloc (.cells #[.complex .f64 0 0, .complex .f64 0 0] 26) = w0 at *
  refine (HN.out w0).mono ?_
  rintro e w1 ⟨rfl, hb1⟩
  have HB1 := Lib.hid (bt HB0.out hb1)
  have HK1 := Lib.hid (HK0.out.on hb1 HK0.out.lt)
  clear hb1 HB0 HK0
  unfold wkV
  go_wp2_with fail
  have HR : Hid (w.heap.size < w1.heap.size) := HK1.out.lt
  have HB2 := Lib.hid (HB1.out.alloc HB1.out.size (.cells #[.complex .f64 0 0, .complex .f64 4607182418800017408 0] 26))
  have HK2 := Lib.hid (HK1.out.on ((Below.refl w1.heap.size w1).alloc (Nat.le_refl _) (.cells #[.complex .f64 0 0, .complex .f64 4607182418800017408 0] 26)) HR.out)
  have HG2 := Lib.hid (bk_new w1 (.complex .f64 0 0) (.complex .f64 4607182418800017408 0))
  generalize w1.alloc (.cells #[.complex .f64 0 0, .complex .f64 4607182418800017408 0] 26) = w2 at *
  generalize w1.heap.size = G at *
  obtain ⟨R, hR⟩ : ∃ R, w.heap.size = R := ⟨_, rfl⟩
  rw [hR] at HB1 HB2 HK1 HK2 HR ⊢
  clear HB1 HK1 HN
  go_loopw [15] (fun i wr => ∃ (k : Nat) (p : Wk) (a b c d : Nat), i = .int .i64 k ∧ k ≤ s.size ∧ Hid (goW newW (s.data.toList.take k) = some p) ∧ Hid (Rw a b c d p) ∧ Hid (In k p) ∧ Hid (Bk wr G (.complex .f64 a b) (.complex .f64 c d)) ∧ Hid (Bk wr R (.complex .f64 0 0) (.complex .f64 0 0)) ∧ Hid (Below R w wr)) (fun i _ => s.size - (intOf i).toNat)
  case atStart => exact ⟨0, newW, _, _, _, _, rfl, by omega, rfl, rw_new, in_new, HG2.out, HK2.out, HB2.out⟩
  case round =>
    obtain ⟨k, p, a, b, c, d, rfl, hk, HP, HW, HI, HG, HK, HB⟩ := hrel
    clear HB2 HK2 HG2
    have HBS : Hid (R ≤ wr.heap.size) := Nat.le_of_lt HK.out.lt
    by_cases hks : k < s.size
    · have HS := Lib.hid (fun wx => step_any HW.out HI.out (by omega) s[k] wx)
      have HT := Lib.hid (go_take s k hks)
      rw [HP.out] at HT
      have c0 := HG.out.c0
      have c1 := HG.out.c1
      have HGL := Lib.hid HG.out.lt
      have HKD := Lib.hid (fun wx (h : Below wr.heap.size wr wx) => HG.out.on h HGL.out)
      have HCD : Hid (∀ wx, Below wr.heap.size wr wx → wx.cell? ⟨G, 0, none⟩ = some (.complex .f64 a b) ∧ wx.cell? ⟨G, 1, none⟩ = some (.complex .f64 c d)) := fun wx h => ⟨(HKD.out wx h).c0, (HKD.out wx h).c1⟩
      have HD0 := Lib.hid (Below.refl wr.heap.size wr).drew
      have HD1 := Lib.hid ((Below.refl wr.heap.size wr).drew.alloc (Nat.le_refl _) (.cells #[.complex .f64 0 0, .complex .f64 0 0] 26))
      clear hs
      cases hq : stepW p s[k] with
      | some q =>
        have HQ := Lib.hid (in_step HI.out hq)
        have HE : Hid (stepW p s[k] = some q) := hq
        rw [hq] at HS
        clear hq
        go_upto_region 7 with fail
        go_cut [6, 7] from 16 to 30 (fun nv ov wx => ∃ g a' b' c' d', nv = .pointer (some ⟨g, 0, none⟩) ∧ ov = .bool true ∧ Hid (Bk wx g (.complex .f64 a' b') (.complex .f64 c' d')) ∧ Hid (Rw a' b' c' d' q) ∧ Hid (Below wr.heap.size wr wx))
        case first =>
          go_region_held3 (fun W => W.cell? ⟨G, 0, none⟩ = some (.complex .f64 a b) ∧ W.cell? ⟨G, 1, none⟩ = some (.complex .f64 c d)) (first | (exact HCD.out _ HD0.out) | (exact HCD.out _ HD1.out) | (exact HCD.out _ hc3) | (exact HCD.out _ (hc3.alloc hc3.size _)) | (exact HCD.out _ (put2_below hc3 (Nat.le_refl _) _ _))) ((first
            | (go_at_call 13; refine (HS.out _).mono ?_; rintro e w3 ⟨a', b', c', d', rfl, hw3, hb3⟩
               have hc3 := HD1.out.trans (hb3.mono HD1.out.size)
               have hk3 : Bk w3 wr.heap.size (.complex .f64 0 0) (.complex .f64 0 0) := (bk_new wr.drew (.complex .f64 0 0) (.complex .f64 0 0)).on hb3 (by simp)
               have r0 := hk3.c0; have r1 := hk3.c1
               have z0 := hk3.f 0; have z1 := hk3.f 1)
            | (go_at_call 13; refine (HS.out _).mono ?_; rintro e w3 ⟨a', b', c', d', rfl, hw3, hb3⟩
               have hc3 := HD0.out.trans (hb3.mono HD0.out.size))))
          all_goals
            go_wp2_with fail
            go_meet
            first
            | (exact ⟨_, a', b', c', d', rfl, rfl, bk_new _ _ _, hw3, hc3.alloc hc3.size _⟩)
            | (exact ⟨_, a', b', c', d', rfl, rfl, hk3.put _ _, hw3, put2_below hc3 (Nat.le_refl _) _ _⟩)
        case rest =>
          obtain ⟨g, a', b', c', d', rfl, rfl, HG3, HW3, HB3⟩ := hcut
          obtain ⟨w4, hw4⟩ : ∃ w4, w4 = wc := ⟨_, rfl⟩
          subst hw4
          have hgg := HKD.out w4 HB3.out
          have r0 := hgg.c0; have r1 := hgg.c1
          have z0 := hgg.f 0; have z1 := hgg.f 1
          have y0 := HG3.out.c0; have y1 := HG3.out.c1
          have HG4 := Lib.hid (hgg.put (.complex .f64 a' b') (.complex .f64 c' d'))
          have HBE : Hid (Below R w (put2 w4 G (.complex .f64 a' b') (.complex .f64 c' d'))) := put2_below (HB.out.trans (HB3.out.mono HBS.out)) (Nat.le_of_lt HR.out) _ _
          have HKE : Hid (Bk (put2 w4 G (.complex .f64 a' b') (.complex .f64 c' d')) R (.complex .f64 0 0) (.complex .f64 0 0)) := (HK.out.on HB3.out HK.out.lt).oth (by have := HR.out; omega) _ _
          rw [show (some p).bind (fun q => stepW q s[k]) = some q from HE.out] at HT
          clear hgg c0 c1
          go_wp2_with fail
          exact ⟨⟨k + 1, q, a', b', c', d', rfl, by omega, HT.out, HW3.out, HQ.out, HG4.out, HKE.out, HBE.out⟩, by simp [intOf]; omega⟩
      | none =>
        rw [hq] at HS
        have HE : Hid (goW newW s.data.toList = none) := go_none s (k + 1) (by rw [HT.out]; exact hq)
        clear hq HT
        go_upto_region 7 with fail
        go_cut [6, 7] from 16 to 30 (fun nv ov wx => ∃ g a' b' c' d', nv = .pointer (some ⟨g, 0, none⟩) ∧ ov = .bool false ∧ Hid (Bk wx g (.complex .f64 a' b') (.complex .f64 c' d')) ∧ Hid (Below wr.heap.size wr wx))
        case first =>
          go_region_held3 (fun W => W.cell? ⟨G, 0, none⟩ = some (.complex .f64 a b) ∧ W.cell? ⟨G, 1, none⟩ = some (.complex .f64 c d)) (first | (exact HCD.out _ HD0.out) | (exact HCD.out _ HD1.out) | (exact HCD.out _ hc3) | (exact HCD.out _ (hc3.alloc hc3.size _)) | (exact HCD.out _ (put2_below hc3 (Nat.le_refl _) _ _))) ((first
            | (go_at_call 13; refine (HS.out _).mono ?_; rintro e w3 ⟨a', b', c', d', rfl, hw3, hb3⟩
               have hc3 := HD1.out.trans (hb3.mono HD1.out.size)
               have hk3 : Bk w3 wr.heap.size (.complex .f64 0 0) (.complex .f64 0 0) := (bk_new wr.drew (.complex .f64 0 0) (.complex .f64 0 0)).on hb3 (by simp)
               have r0 := hk3.c0; have r1 := hk3.c1
               have z0 := hk3.f 0; have z1 := hk3.f 1)
            | (go_at_call 13; refine (HS.out _).mono ?_; rintro e w3 ⟨a', b', c', d', rfl, hw3, hb3⟩
               have hc3 := HD0.out.trans (hb3.mono HD0.out.size))))
          all_goals
            go_wp2_with fail
            go_meet
            first
            | (exact ⟨_, a', b', c', d', rfl, rfl, bk_new _ _ _, hc3.alloc hc3.size _⟩)
            | (exact ⟨_, a', b', c', d', rfl, rfl, hk3.put _ _, put2_below hc3 (Nat.le_refl _) _ _⟩)
        case rest =>
          obtain ⟨g, a', b', c', d', rfl, rfl, HG3, HB3⟩ := hcut
          obtain ⟨w4, hw4⟩ : ∃ w4, w4 = wc := ⟨_, rfl⟩
          subst hw4
          have HKE := Lib.hid (HK.out.on HB3.out HK.out.lt)
          have HBE : Hid (Below R w w4) := HB.out.trans (HB3.out.mono HBS.out)
          have r0 := HKE.out.c0; have r1 := HKE.out.c1
          have z0 := HKE.out.f 0; have z1 := HKE.out.f 1
          clear c0 c1
          go_wp2_with fail
          refine ret10 (HKE.out.put (.complex .f64 0 0) (.complex .f64 0 0)) rfl rfl rfl ?_
          rw [HE.out]
          exact ⟨0, 0, 0, 0, rfl, rw_no, by rw [hR]; exact put2_below HBE.out (Nat.le_refl _) _ _⟩
    · have hke : k = s.size := by omega
      have HE : Hid (goW newW s.data.toList = some p) := by
        have := HP.out
        rwa [take_all s k (by omega)] at this
      have c0 := HG.out.c0
      have c1 := HG.out.c1
      have r0 := HK.out.c0; have r1 := HK.out.c1
      have z0 := HK.out.f 0; have z1 := HK.out.f 1
      clear HP hke hs
      go_wp2_with fail
      refine ret10 (HK.out.put (.complex .f64 a b) (.complex .f64 c d)) rfl rfl rfl ?_
      rw [HE.out]
      exact ⟨a, b, c, d, rfl, HW.out, by rw [hR]; exact put2_below HB.out (Nat.le_refl _) _ _⟩

/-- Walk: what it tells stands for the plain walk. -/
theorem walk_any (s : ByteArray) (w : World) : Calls Tryd.prog 10 #[.string s] w fun e w' =>
    ∃ a b c d, e = .returned (.tuple #[.agg #[.complex .f64 a b, .complex .f64 c d], .bool (walkW s.data.toList).isSome]) ∧ Rw a b c d ((walkW s.data.toList).getD noW) ∧ Below w.heap.size w w' := by
  unfold walkW
  rw [data_len]
  by_cases h : 40 < s.size
  · rw [if_pos h]
    exact (walk_long s h w).mono fun e w' ⟨he, hb⟩ => ⟨0, 0, 0, 0, he, rw_no, hb⟩
  · rw [if_neg h]
    exact walk_short s (by omega) w
end Go.Proofs.YthpklagnecoilaaDoor
