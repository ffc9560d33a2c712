/- The walk of the law WalkLong. -/
import Derived.Test.YthpklagnecoilaaDoorWt
namespace Go.Proofs.YthpklagnecoilaaDoor
open Go.RowKit

theorem walk_some {l : List UInt8} {p : Wk} (h : walkW l = some p) : l.length ≤ 40 ∧ goW newW l = some p := by
  unfold walkW at h
  split at h
  · cases h
  · exact ⟨by omega, h⟩
theorem walk_app (l m : List UInt8) {p : Wk} (h : walkW l = some p) (hn : l.length + m.length ≤ 40) : walkW (l ++ m) = goW p m := by
  unfold walkW
  rw [if_neg (by simp; omega), go_app, (walk_some h).2]
  rfl
theorem walk_over {l m : List UInt8} (h : 40 < l.length + m.length) : walkW (l ++ m) = none := by
  unfold walkW
  rw [if_pos (by simp; omega)]
theorem walk_bad {l : List UInt8} (m : List UInt8) (h : walkW l = none) : walkW (l ++ m) = none := by
  unfold walkW at h ⊢
  split at h
  · rw [if_pos (by simp; omega)]
  · split
    · rfl
    · rw [go_app, h]; rfl
theorem go_take' (p : Wk) (s : ByteArray) (k : Nat) (h : k < s.size) : goW p (s.data.toList.take (k + 1)) = (goW p (s.data.toList.take k)).bind fun q => stepW q s[k] := by
  rw [take_snoc s k h, go_snoc]
theorem go_none' (p : Wk) (s : ByteArray) (k : Nat) (h : goW p (s.data.toList.take k) = none) : goW p s.data.toList = none := by
  have := go_app (s.data.toList.take k) (s.data.toList.drop k) p
  rw [List.take_append_drop, h] at this
  exact this

theorem app_data (a b : ByteArray) : (a ++ b).data.toList = a.data.toList ++ b.data.toList := by simp

set_option maxRecDepth 100000 in
set_option maxHeartbeats 8000000 in
theorem long_walk (s t : ByteArray) (w : World) (hs : s.size ≤ 140737488355328) (ht : t.size ≤ 140737488355328) (hg : GB w) : Calls Tryd.prog 7 #[.string s, .string t] w fun e w' => e = .returned (.bool true) ∧ Below w.heap.size w w' := by
  have hst := st_cx
  have HF := Lib.hid (fit_any w hg)
  clear hg
  by_cases hs60 : 60 < s.size
  · have h1 : (60 : Int) < (s.size : Int) := by omega
    go_enter Tryd.func7, Tryd.ntmps7
    go_wp2_with fail
    refine HF.out.mono ?_
    rintro e w1 ⟨rfl, hb1⟩
    go_wp2_with fail
    go_ret
    exact ⟨rfl, hb1⟩
  by_cases ht60 : 60 < t.size
  · have h1 : ¬ (60 : Int) < (s.size : Int) := by omega
    have h2 : (60 : Int) < (t.size : Int) := by omega
    go_enter Tryd.func7, Tryd.ntmps7
    go_wp2_with fail
    refine HF.out.mono ?_
    rintro e w1 ⟨rfl, hb1⟩
    go_wp2_with fail
    go_ret
    exact ⟨rfl, hb1⟩
  have h1 : ¬ (60 : Int) < (s.size : Int) := by omega
  have h2 : ¬ (60 : Int) < (t.size : Int) := by omega
  have s60 : s.size ≤ 60 := by omega
  have t60 : t.size ≤ 60 := by omega
  have a1 := fun wx => add_str s t (by omega) wx
  have HX := Lib.hid (fun wx => walk_any s wx)
  have HY := Lib.hid (fun wx => walk_any (s ++ t) wx)
  have HW0 := Lib.hid (fun p h hn => walk_app s.data.toList t.data.toList (p := p) h hn)
  have HW1 := Lib.hid (fun h => walk_over (l := s.data.toList) (m := t.data.toList) h)
  have HW2 := Lib.hid (fun h => walk_bad (l := s.data.toList) t.data.toList h)
  rw [data_len, data_len] at HW1
  simp only [data_len] at HW0
  rw [app_data] at HY
  clear hs ht hs60 ht60
  cases hq : walkW s.data.toList with
  | none =>
    rw [HW2.out hq] at HY
    rw [hq] at HX
    simp only [Option.isSome_none, Option.getD_none] at HX HY
    clear HW0 HW1 HW2 hq
    go_enter Tryd.func7, Tryd.ntmps7
    go_wp2_with fail
    refine HF.out.mono ?_
    rintro e w1 ⟨rfl, hb1⟩
    go_wp2_with fail
    refine (HX.out _).mono ?_
    rintro e w2 ⟨a, b, c, d, rfl, hr, hb2⟩
    have HB2 := Lib.hid (bt hb1 (hb2.alloc hb2.size (.cells #[.complex .f64 a b, .complex .f64 c d] 26)))
    clear hb1 hb2 hr
    generalize s ++ t = st at *
    go_wp2_with fail
    refine (HY.out _).mono ?_
    rintro e w3 ⟨a', b', c', d', rfl, hr', hb3⟩
    have HB3 := Lib.hid (bt HB2.out (hb3.alloc hb3.size (.cells #[.complex .f64 a' b', .complex .f64 c' d'] 26)))
    clear hb3 hr'
    by_cases h40 : 40 < s.size
    · have h3 : (40 : Int) < (s.size : Int) := by omega
      go_wp2_with fail
      go_ret
      exact ⟨rfl, HB3.out⟩
    · have h3 : ¬ (40 : Int) < (s.size : Int) := by omega
      go_wp2_with fail
      go_ret
      exact ⟨rfl, HB3.out⟩
  | some p =>
    have hin := (in_walk hq).2
    rw [data_len] at hin
    have hl := (walk_some hq).1
    rw [data_len] at hl
    rw [hq] at HX
    simp only [Option.isSome_some, Option.getD_some] at HX
    by_cases h40 : 40 < s.size + t.size
    · rw [HW1.out h40] at HY
      simp only [Option.isSome_none, Option.getD_none] at HY
      clear HW0 HW1 HW2 hq
      have h3 : ¬ (40 : Int) < (s.size : Int) := by omega
      have h4 : (40 : Int) < (s.size : Int) + (t.size : Int) := by omega
      go_enter Tryd.func7, Tryd.ntmps7
      go_wp2_with fail
      refine HF.out.mono ?_
      rintro e w1 ⟨rfl, hb1⟩
      go_wp2_with fail
      refine (HX.out _).mono ?_
      rintro e w2 ⟨a, b, c, d, rfl, hr, hb2⟩
      have HB2 := Lib.hid (bt hb1 (hb2.alloc hb2.size (.cells #[.complex .f64 a b, .complex .f64 c d] 26)))
      clear hb1 hb2 hr
      generalize s ++ t = st at *
      go_wp2_with fail
      refine (HY.out _).mono ?_
      rintro e w3 ⟨a', b', c', d', rfl, hr', hb3⟩
      have HB3 := Lib.hid (bt HB2.out (hb3.alloc hb3.size (.cells #[.complex .f64 a' b', .complex .f64 c' d'] 26)))
      clear hb3 hr'
      go_wp2_with fail
      go_ret
      exact ⟨rfl, HB3.out⟩
    · rw [HW0.out p hq (by omega)] at HY
      clear HW0 HW1 HW2 hq
      have h3 : ¬ (40 : Int) < (s.size : Int) := by omega
      have h4 : ¬ (40 : Int) < (s.size : Int) + (t.size : Int) := by omega
      obtain ⟨o, ho⟩ : ∃ o, goW p t.data.toList = o := ⟨_, rfl⟩
      have HO := Lib.hid ho
      rw [ho] at HY
      clear ho
      generalize ho1 : o.isSome = os at *
      go_enter Tryd.func7, Tryd.ntmps7
      go_wp2_with fail
      refine HF.out.mono ?_
      rintro e w1 ⟨rfl, hb1⟩
      have HB1 := Lib.hid hb1
      clear hb1
      go_wp2_with fail
      refine (HX.out _).mono ?_
      rintro e w2 ⟨a, b, c, d, rfl, hr, hb2⟩
      have hb2s := hb2.size
      have hb3 := hb2.alloc hb2.size (.cells #[.complex .f64 a b, .complex .f64 c d] 26)
      have hk2 := bk_new w2 (.complex .f64 a b) (.complex .f64 c d)
      have HB3 := Lib.hid (bt HB1.out hb3)
      have HW := Lib.hid hr
      clear hb2 hr hb3
      generalize hw3 : w2.alloc (.cells #[.complex .f64 a b, .complex .f64 c d] 26) = w3 at *
      have HK3 := Lib.hid hk2
      clear hk2
      generalize s ++ t = st at *
      go_wp2_with fail
      clear hw3
      refine (HY.out _).mono ?_
      rintro e w4 ⟨a', b', c', d', rfl, hr', hb4⟩
      have HV := Lib.hid hr'
      have hb5 := hb4.alloc hb4.size (.cells #[.complex .f64 a' b', .complex .f64 c' d'] 26)
      have hk5 := bk_new w4 (.complex .f64 a' b') (.complex .f64 c' d')
      have HK4 := Lib.hid (HK3.out.on hb5 HK3.out.lt)
      have HB5 := Lib.hid (bt HB3.out hb5)
      have HRG : Hid (w.heap.size ≤ w2.heap.size) := Nat.le_trans HB1.out.size hb2s
      have HNE : Hid (w2.heap.size ≠ w4.heap.size) := Nat.ne_of_lt (Nat.lt_of_lt_of_le HK3.out.lt hb4.size)
      clear hb4 hr' hb5 HK3 HB3 HX HY
      generalize hw5 : w4.alloc (.cells #[.complex .f64 a' b', .complex .f64 c' d'] 26) = w5 at *
      have HK5 := Lib.hid hk5
      clear hk5
      go_wp2_with fail
      generalize w2.heap.size = G at *
      generalize w4.heap.size = K at *
      obtain ⟨R, hR⟩ : ∃ R, w.heap.size = R := ⟨_, rfl⟩
      rw [hR] at HB1 HB5 HRG
      clear hw5
      go_loopw [56] (fun vi wr => ∃ (k : Nat) (q : Wk) (a b c d : Nat), vi = .int .i64 (k : Int) ∧ k ≤ t.size ∧ Hid (goW p (t.data.toList.take k) = some q) ∧ Hid (Rw a b c d q) ∧ Hid (In (s.size + k) q) ∧ Hid (Bk wr G (.complex .f64 a b) (.complex .f64 c d)) ∧ Hid (Bk wr K (.complex .f64 a' b') (.complex .f64 c' d')) ∧ Hid (Below R w wr) ∧ Hid (R ≤ G)) (fun vi _ => t.size - (intOf vi).toNat)
      case atStart => exact ⟨0, p, a, b, c, d, rfl, by omega, rfl, HW.out, hin, HK4.out, HK5.out, HB5.out, HRG.out⟩
      case round =>
        obtain ⟨k, q, a, b, c, d, rfl, hk, HP, HW, HI, HG, HK, HB, HRG⟩ := hrel
        clear HK4 HK5 HB5
        by_cases hks : k < t.size
        · have HS := Lib.hid (fun wx => step_any HW.out HI.out (by omega) t[k] wx)
          have HT := Lib.hid (go_take' p t k hks)
          rw [HP.out] at HT
          have c0 := HG.out.c0
          have c1 := HG.out.c1
          have HGL := Lib.hid HG.out.lt
          have HKD := Lib.hid (fun wx (h : Below wr.heap.size wr wx) => HG.out.on h HGL.out)
          have HD0 := Lib.hid (Below.refl wr.heap.size wr).drew
          have HKE := Lib.hid (fun wx (h : Below wr.heap.size wr wx) => HK.out.on h HK.out.lt)
          cases hq : stepW q t[k] with
          | some q2 =>
            have HQ := Lib.hid (in_step HI.out hq)
            have HE : Hid (goW p (t.data.toList.take (k + 1)) = some q2) := by show _ = _; rw [HT.out]; exact hq
            rw [hq] at HS
            simp only [Option.isSome_some, Option.getD_some] at HS
            clear hq HT
            go_upto_region 15 with fail
            go_region_law ((first
              | (go_simp; go_at_call 13; refine (HS.out _).mono ?_; rintro e w6 ⟨a2, b2, c2, d2, rfl, hw6, hb6⟩
                 have hc6 := HD0.out.trans (hb6.mono HD0.out.size)
                 have hg6 := HKD.out w6 hc6
                 have r0 := hg6.c0; have r1 := hg6.c1
                 have z0 := hg6.f 0; have z1 := hg6.f 1)))
            all_goals
              have HE2 : Hid (Bk (put2 w6 G (.complex .f64 a2 b2) (.complex .f64 c2 d2)) G (.complex .f64 a2 b2) (.complex .f64 c2 d2)) := hg6.put _ _
              have HK2 : Hid (Bk (put2 w6 G (.complex .f64 a2 b2) (.complex .f64 c2 d2)) K (.complex .f64 a' b') (.complex .f64 c' d')) := (HKE.out w6 hc6).oth (fun h => HNE.out h.symm) _ _
              have HB2 : Hid (Below R w (put2 w6 G (.complex .f64 a2 b2) (.complex .f64 c2 d2))) := put2_below (HB.out.trans (hc6.mono (Nat.le_trans HRG.out (Nat.le_of_lt HGL.out)))) HRG.out _ _
              clear hg6 hc6 hb6
              go_wp2_with fail
              exact ⟨⟨k + 1, q2, a2, b2, c2, d2, rfl, by omega, HE.out, hw6, by have h := HQ.out; rwa [Nat.add_assoc] at h, HE2.out, HK2.out, HB2.out, HRG.out⟩, by simp [intOf] <;> omega⟩
          | none =>
            have HE : Hid (os = false) := by
              have : goW p (t.data.toList.take (k + 1)) = none := by rw [HT.out]; exact hq
              have := go_none' p t (k + 1) this
              show os = false
              rw [← ho1, ← HO.out, this]
              rfl
            have hos := HE.out
            subst hos
            rw [hq] at HS
            simp only [Option.isSome_none, Option.getD_none] at HS
            clear hq HT
            go_upto_region 15 with fail
            go_region_law ((first
              | (go_simp; go_at_call 13; refine (HS.out _).mono ?_; rintro e w6 ⟨a2, b2, c2, d2, rfl, hw6, hb6⟩
                 have hc6 := HD0.out.trans (hb6.mono HD0.out.size)
                 have hg6 := HKD.out w6 hc6
                 have r0 := hg6.c0; have r1 := hg6.c1
                 have z0 := hg6.f 0; have z1 := hg6.f 1)))
            all_goals
              have HB2 : Hid (Below R w (put2 w6 G (.complex .f64 a2 b2) (.complex .f64 c2 d2))) := put2_below (HB.out.trans (hc6.mono (Nat.le_trans HRG.out (Nat.le_of_lt HGL.out)))) HRG.out _ _
              clear hg6 hc6 hb6
              go_wp2_with fail
              go_ret
              exact ⟨rfl, HB2.out⟩
        · have HE : Hid (o = some q) := by
            have := HP.out
            rw [take_all t k (by omega)] at this
            show o = _
            rw [← HO.out, this]
          have hoo := HE.out
          subst hoo
          have hos : os = true := ho1.symm
          subst hos
          have q1 := fun wx => eq_wk HW.out HV.out wx
          simp only [Option.getD_some, decide_true] at q1
          have c0 := HG.out.c0
          have c1 := HG.out.c1
          have k0 := HK.out.c0
          have k1 := HK.out.c1
          have hke : ¬ ((k : Int) < (t.size : Int)) := by omega
          clear hks HP HI
          go_wp2_with fail
          go_ret
          exact ⟨rfl, HB.out⟩
end Go.Proofs.YthpklagnecoilaaDoor
