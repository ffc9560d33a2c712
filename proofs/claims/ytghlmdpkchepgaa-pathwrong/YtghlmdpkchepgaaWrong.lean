/- The walk of PathWrong. -/
import Derived.Test.YtghlmdpkchepgaaPtJoin
namespace Go.Proofs.Ytghlmdpkchepgaa
open Go.RowKit Pl

theorem hd_index (t : ByteArray) (h : 0 < t.size) (c : UInt8) : ((t[0].toNat : Int) == (c.toNat : Int)) = hd t c := by
  have e : t.data.toList.head? = some t[0] := by
    rw [List.head?_eq_getElem?, List.getElem?_eq_getElem (by simpa using h)]; rfl
  rw [hd, e, Bool.eq_iff_iff]
  simp only [beq_iff_eq, decide_eq_true_eq, Option.some.injEq]
  exact ⟨fun h => UInt8.toNat_inj.1 (by omega), fun h => by rw [h]⟩
theorem hd_empty (t : ByteArray) (h : t.data.toList = []) (c : UInt8) : hd t c = false := by rw [hd, h]; rfl

theorem okh_ne (c : UInt8) (l : List UInt8) (h : c ≠ 37) : okHead (c :: l) = true := by
  match l with
  | [] => simp [okHead, h]
  | [a] => simp [okHead, h]
  | a :: b :: r => simp [okHead, h]
theorem okh_short (l : List UInt8) (h : l.length < 2) : okHead (37 :: l) = false := by
  match l, h with
  | [], _ => rfl
  | [a], _ => rfl
theorem okh_long (a b : UInt8) (r : List UInt8) : okHead (37 :: a :: b :: r) = (numB 16 [a, b]).isSome := by simp [okHead]
theorem ok_other (t : ByteArray) (k : Nat) (h : k < t.size) (hc : t[k] ≠ 37) : okHead (t.data.toList.drop k) = true := by
  rw [drop_at t k h]; exact okh_ne _ _ hc
theorem ok_short (t : ByteArray) (k : Nat) (h : k < t.size) (hc : t[k] = 37) (h2 : t.size ≤ k + 2) : okHead (t.data.toList.drop k) = false := by
  rw [drop_at t k h, hc]
  exact okh_short _ (by rw [List.length_drop, data_len]; omega)
theorem ok_long (t : ByteArray) (k : Nat) (h : k + 2 < t.size) (hc : t[k] = 37) : okHead (t.data.toList.drop k) = (numB 16 (t.extract (k + 1) (k + 3)).data.toList).isSome := by
  rw [drop_at t k (by omega), hc, ext_data, drop_at t (k + 1) (by omega), drop_at t (k + 1 + 1) (by omega), okh_long]
  simp only [show k + 3 - (k + 1) = 2 by omega, List.take_succ_cons, List.take_zero]
theorem many_eq (t : ByteArray) (h : rightL t.data.toList = true) (h2 : t.data.toList ≠ [47]) : manyL t.data.toList = (wordsB 47 (t.extract 1 t.size).data.toList).length := by
  have := tl_data t
  rw [tl] at this
  rw [manyL, if_pos ⟨h, h2⟩, this]; simp
theorem right_size (t : ByteArray) (h : rightL t.data.toList = true) : 0 < t.size := by
  rw [← data_len]
  cases hl : t.data.toList with
  | nil => rw [hl] at h; cases h
  | cons d l => simp

set_option maxRecDepth 100000 in
set_option maxHeartbeats 8000000 in
theorem wrong_any (s : ByteArray) (w : World) : Calls Try.prog 4 #[.string s] w fun e w' => e = .returned (.bool true) ∧ Below w.heap.size w w' := by
  have HF := Lib.hid (fun w => fit_any w)
  have HL1 := Lib.hid (fun w => light_any s w)
  by_cases h1 : s.size ≤ 600
  · rw [decide_eq_true h1] at HL1
    have HS1 := Lib.hid (fun w => split_any s w (by omega))
    have HW1 := Lib.hid (fun w => words_any s 63 w (by omega))
    obtain ⟨p1, p2⟩ := wrong_plain s.data.toList
    obtain ⟨rest, hrest⟩ := ahead_word s.data.toList
    rw [hrest] at HW1
    have hts : (mkB (aheadL s.data.toList)).size ≤ 600 := by rw [mkB_size]; have := ahead_len s.data.toList; rw [data_len] at this; omega
    have hcell : strV (aheadL s.data.toList) = .string (mkB (aheadL s.data.toList)) := rfl
    rw [← mkB_data (aheadL s.data.toList)] at p1 p2
    generalize mkB (aheadL s.data.toList) = t at *
    have hl0 : ((splitL s.data.toList).getD []).length = if (splitL s.data.toList).isSome then manyL t.data.toList else 0 := by
      cases hsp : splitL s.data.toList with
      | none => rfl
      | some l => simp [p2 l hsp]
    rw [p1] at HS1 hl0
    generalize (splitL s.data.toList).getD [] = ls at *
    have hlen := hl0
    clear hl0 p1 p2 hrest
    have hR : rightL t.data.toList = (hd t 47 && pctL t.data.toList) := rfl
    have hq0 := eq_list t []
    have HRS := Lib.hid (right_size t)
    have HME := Lib.hid (many_eq t)
    have HW2 := Lib.hid (fun w => words_any (t.extract 1 t.size) 47 w (by rw [← data_len, ext_data]; simp; omega))
    have HQ47 := Lib.hid (eq_list t [47])
    have hmz : rightL t.data.toList = false → manyL t.data.toList = 0 := fun h => by rw [manyL, if_neg (by rw [h]; simp)]
    have hm1 : t.data.toList = [47] → manyL t.data.toList = 0 := fun h => by rw [manyL, if_neg (by rw [h]; simp)]
    have HMZ := Lib.hid hmz; have HM1 := Lib.hid hm1
    clear hmz hm1
    have HR := Lib.hid hR
    clear hR
    generalize rightL t.data.toList = R at *
    generalize manyL t.data.toList = M at *
    obtain ⟨OK, hOK⟩ : ∃ b, (R && decide (M ≤ 8)) = b := ⟨_, rfl⟩
    rw [hOK] at HS1 hlen
    generalize ls.map strV = cells at *
    generalize ls.length = L at *
    have HLEN := Lib.hid hlen
    have HOK := Lib.hid hOK
    clear hlen hOK
    go_enter Try.func4, Try.ntmps4
    go_wp2_with fail
    refine (HF.out _).mono ?_
    rintro e w1 ⟨rfl, hb1⟩
    go_wp2_with fail
    refine (HL1.out _).mono ?_
    rintro e w1 ⟨rfl, rfl⟩
    go_wp2_with fail
    refine (HS1.out _).mono ?_
    rintro e w2 ⟨v2, rfl, ho2, hb2⟩
    obtain ⟨A2, c2, rfl, hr2⟩ := Rd.own ho2
    clear ho2 hr2
    go_wp2_with fail
    refine (HW1.out _).mono ?_
    rintro e w3 ⟨v3, rfl, ho3, hb3⟩
    obtain ⟨g, cap, rfl, hg0, hgl, hcl, hcm⟩ := own_shape ho3 (by simp)
    have hc0 := ho3.cellAt 0 (by simp)
    simp only [List.map_cons, List.getElem?_cons_zero] at hc0
    rw [hcell] at hc0
    have HB3 := Lib.hid (bt (bt hb1 hb2) hb3)
    clear ho3 hb1 hb2 hb3 hcell
    have hpos : (0 : Int) < ((aheadL s.data.toList :: rest).length : Int) := by simp
    generalize (aheadL s.data.toList :: rest).length = n3 at *
    by_cases hte : t.data.toList = []
    · have hx0 := hd_empty t hte 47
      rw [decide_eq_true hte] at hq0
      rw [hx0] at HR
      have hts0 : t.size = 0 := by rw [← data_len, hte]; rfl
      have HRF : Hid (R = false) := HR.out
      have HB := HB3
      clear hte hx0 HR
      go_wp2_with fail
      go_loopw [6, 34] (fun x i wr => x = .bool false ∧ i = .int .i64 0 ∧ wr = w3) (fun _ _ _ => 0)
      case atStart => exact ⟨rfl, rfl, rfl⟩
      case round =>
        obtain ⟨rfl, rfl, rfl⟩ := hrel
        have HOKF : Hid (OK = false) := by have := HOK.out; rw [HRF.out] at this; exact this.symm
        have hLL : L = 0 := by have := HLEN.out; rw [HOKF.out] at this; exact this
        have hOF := HOKF.out
        clear HOK HLEN HRF HOKF
        subst hOF
        subst hLL
        go_wp2_with fail
        go_ret
        exact ⟨rfl, HB.out⟩
    · rw [decide_eq_false hte] at hq0
      have hts0 : 0 < t.size := by rw [← data_len]; exact List.length_pos_iff.2 hte
      have H7 := Lib.hid (hd_index t hts0 47)
      generalize hd t 47 = x0 at *
      clear hte
      go_wp2_with fail
      go_loopw [6, 34] (fun x i wr => ∃ (k : Nat) (b : Bool), k ≤ t.size ∧ x = .bool b ∧ i = .int .i64 k ∧ Hid (Below w.heap.size w wr) ∧ Hid (R = (b && pctL (t.data.toList.drop k)))) (fun _ i _ => t.size - (intOf i).toNat)
      case atStart => exact ⟨0, _, by omega, rfl, rfl, HB3, by show _ = _; rw [HR.out, ← H7.out]; rfl⟩
      case round =>
        obtain ⟨k, b, hk, rfl, rfl, HB, HV⟩ := hrel
        by_cases hlt : k < t.size
        · have hpd := pct_drop t.data.toList k
          by_cases hc : t[k] = 37
          · have htest : ((t[k].toNat : Int) == 37) = true := by rw [hc]; rfl
            by_cases h2 : t.size ≤ k + 2
            · have HV2 : Hid (R = (false && pctL (t.data.toList.drop (k + 1)))) := by
                show _ = _
                rw [HV.out, hpd, ok_short t k hlt hc h2]; simp
              clear hc hpd HV
              go_wp2_with fail
              go_roundw
              case rel => exact ⟨k + 1, false, by omega, rfl, by go_num, HB, HV2⟩
              case measure => simp [intOf]; omega
            · have HNU := Lib.hid (fun w => num16_any (t.extract (k + 1) (k + 3)) w)
              have hol := ok_long t k (by omega) hc
              generalize numB 16 (t.extract (k + 1) (k + 3)).data.toList = on at *
              obtain ⟨nb, hnb⟩ : ∃ nb, on.isSome = nb := ⟨_, rfl⟩
              rw [hnb] at HNU hol
              have HV2 : Hid (R = ((b && nb) && pctL (t.data.toList.drop (k + 1)))) := by
                show _ = _
                rw [HV.out, hpd, hol, Bool.and_assoc]
              clear hc hpd HV hol hnb
              have j0 : (0 : Int) ≤ (k : Int) + 1 := by omega
              have j1 : (k : Int) + 3 ≤ (t.size : Int) := by omega
              have j2 : (k : Int) + 1 ≤ (k : Int) + 3 := by omega
              go_wp2_with fail
              refine (HNU.out _).mono ?_
              rintro e w4 ⟨rfl, hb4⟩
              have HB4 := Lib.hid (bt HB.out hb4)
              clear hb4
              cases b with
              | true =>
                go_wp2_with fail
                go_roundw
                case rel => exact ⟨k + 1, nb, by omega, rfl, by go_num, HB4, HV2⟩
                case measure => simp [intOf]; omega
              | false =>
                go_wp2_with fail
                go_roundw
                case rel => exact ⟨k + 1, false, by omega, rfl, by go_num, HB4, HV2⟩
                case measure => simp [intOf]; omega
          · have htest : ((t[k].toNat : Int) == 37) = false := by
              rw [beq_eq_false_iff_ne]; intro h; exact hc (UInt8.toNat_inj.1 (by simp; omega))
            have HV2 : Hid (R = (b && pctL (t.data.toList.drop (k + 1)))) := by
              show _ = _
              rw [HV.out, hpd, ok_other t k hlt hc]; simp
            clear hc hpd HV
            go_wp2_with fail
            go_roundw
            case rel => exact ⟨k + 1, b, by omega, rfl, by go_num, HB, HV2⟩
            case measure => simp [intOf]; omega
        · have hRb : R = b := by rw [HV.out, drop_all t k (by omega)]; simp [pctL]
          clear HV HR H7
          subst hRb
          cases R with
          | false =>
            have HRF : Hid (false = false) := rfl
            have HOKF : Hid (OK = false) := by have := HOK.out; exact this.symm
            have hLL : L = 0 := by have := HLEN.out; rw [HOKF.out] at this; exact this
            have hOF := HOKF.out
            clear HOK HLEN HRF HOKF
            subst hOF
            subst hLL
            go_wp2_with fail
            go_ret
            exact ⟨rfl, HB.out⟩
          | true =>
            by_cases h47 : t.data.toList = [47]
            · have hq7 := HQ47.out
              rw [decide_eq_true h47] at hq7
              have hM := HM1.out h47
              subst hM
              have HOKT : Hid (OK = true) := HOK.out.symm
              have hLL : L = 0 := by have := HLEN.out; rw [HOKT.out] at this; exact this
              have hOF := HOKT.out
              clear HOK HLEN HOKT HM1 HMZ HME HRS h47 HQ47
              subst hOF
              subst hLL
              go_wp2_with fail
              go_ret
              exact ⟨rfl, HB.out⟩
            · have hq7 := HQ47.out
              rw [decide_eq_false h47] at hq7
              have hM := HME.out rfl h47
              rw [← hM] at HW2
              have HM := Lib.hid hM
              clear HM1 HMZ HME HRS h47 HQ47 hM
              generalize (wordsB 47 (t.extract 1 t.size).data.toList).map strV = cells2 at *
              by_cases h8 : M ≤ 8
              · have HOKT : Hid (OK = true) := by have := HOK.out; rw [decide_eq_true h8] at this; exact this.symm
                have hLL : L = M := by have := HLEN.out; rw [HOKT.out] at this; exact this
                have hOF := HOKT.out
                clear HOK HLEN HOKT HM
                subst hOF
                subst hLL
                go_wp2_with fail
                refine (HW2.out _).mono ?_
                rintro e w5 ⟨v5, rfl, ho5, hb5⟩
                obtain ⟨A5, c5, rfl, hr5⟩ := Rd.own ho5
                clear ho5 hr5
                go_wp2_with fail
                go_ret
                exact ⟨rfl, bt HB.out hb5⟩
              · have HOKT : Hid (OK = false) := by have := HOK.out; rw [decide_eq_false h8] at this; exact this.symm
                have hLL : L = 0 := by have := HLEN.out; rw [HOKT.out] at this; exact this
                have hOF := HOKT.out
                clear HOK HLEN HOKT HM
                subst hOF
                subst hLL
                have hd8 : decide ((M : Int) ≤ 8) = false := by simp; omega
                go_wp2_with fail
                refine (HW2.out _).mono ?_
                rintro e w5 ⟨v5, rfl, ho5, hb5⟩
                obtain ⟨A5, c5, rfl, hr5⟩ := Rd.own ho5
                clear ho5 hr5
                go_wp2_with fail
                go_ret
                exact ⟨rfl, bt HB.out hb5⟩
  · rw [decide_eq_false h1] at HL1
    go_enter Try.func4, Try.ntmps4
    go_wp2_with fail
    refine (HF.out _).mono ?_
    rintro e w1 ⟨rfl, hb1⟩
    go_wp2_with fail
    refine (HL1.out _).mono ?_
    rintro e w1 ⟨rfl, rfl⟩
    go_wp2_with fail
    go_ret
    exact ⟨rfl, hb1⟩

theorem wrong_row (s : ByteArray) (w : World) (_ : s.size ≤ maxLen) : Calls Try.prog 4 #[.string s] w fun e w' => e = .returned (.bool true) ∧ Below w.heap.size w w' := wrong_any s w

end Go.Proofs.Ytghlmdpkchepgaa
