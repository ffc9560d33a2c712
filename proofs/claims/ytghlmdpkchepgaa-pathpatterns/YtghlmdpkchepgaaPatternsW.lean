/- The walk of PathPatterns. -/
import Derived.Test.YtghlmdpkchepgaaPlainW
import Derived.Test.YtghlmdpkchepgaaQuery
import Derived.Test.YtghlmdpkchepgaaWrong
import Derived.Test.YtghlmdpkchepgaaMapCnt
namespace Go.Proofs.Ytghlmdpkchepgaa
open Go.RowKit Pl

def namesTo (ws : List (List UInt8)) (k : Nat) : List (List UInt8) := ((ws.take k).filter (fun s => decide (kindL s ≠ 0))).map (·.drop 1)
theorem names_snoc (ws : List (List UInt8)) (k : Nat) (h : k < ws.length) : namesTo ws (k + 1) = namesTo ws k ++ if kindL ws[k] ≠ 0 then [ws[k].drop 1] else [] := by
  unfold namesTo
  rw [List.take_add_one, List.getElem?_eq_getElem h, List.filter_append, List.map_append]
  congr 1
  by_cases hk : kindL ws[k] ≠ 0
  · simp [hk]
  · simp [hk]
theorem names_count (ws : List (List UInt8)) (k : Nat) (x : List UInt8) : namedL (ws.take k) x = decide ((namesTo ws k).count x ≠ 0) := by
  rw [Bool.eq_iff_iff]
  simp only [namedL, List.any_eq_true, decide_eq_true_eq, Bool.and_eq_true, ne_eq, List.count_eq_zero, Decidable.not_not]
  unfold namesTo
  simp only [List.mem_map, List.mem_filter, decide_eq_true_eq]
  exact ⟨fun ⟨y, h1, h2, h3⟩ => ⟨y, ⟨h1, h2⟩, h3⟩, fun ⟨y, ⟨h1, h2⟩, h3⟩ => ⟨y, h1, h2, h3⟩⟩
theorem names_le (ws : List (List UInt8)) (k : Nat) (x : List UInt8) : (namesTo ws k).count x ≤ k := by
  refine Nat.le_trans List.count_le_length ?_
  unfold namesTo
  rw [List.length_map]
  refine Nat.le_trans (List.length_filter_le _ _) ?_
  simp; omega
theorem one_word (l : List UInt8) : ((wordsB 37 l).length = 1) = (l.contains 37 = false) := by
  apply propext
  rcases words_split 37 l with h | ⟨a, r, h, rfl⟩
  · rw [words_one 37 l h]
    simp [h]
  · rw [words_app 37 a r h]
    obtain ⟨x, t, e⟩ := words_cons 37 r
    rw [e]
    simp
theorem pat_none (s : ByteArray) (h : s.data.toList ≠ [47]) (h2 : s.size ≤ 1 ∨ hd s 47 = false) : patL s.data.toList = none := by
  have hsg : segsL s.data.toList = none := by
    rcases h2 with h2 | h2
    · rw [← data_len] at h2
      match s.data.toList, h, h2 with
      | [], _, _ => rfl
      | [c], h, _ =>
        have : c ≠ 47 := fun e => h (by rw [e])
        simp [segsL, this]
    · rw [segs_hd, h2]; rfl
  rw [patL, hsg]
theorem pat_words (s : ByteArray) (h : 1 < s.size) (h2 : hd s 47 = true) : patL s.data.toList = if ((fitsFrom (wordsB 47 (s.extract 1 s.size).data.toList) 0 (wordsB 47 (s.extract 1 s.size).data.toList)) && decide ((wordsB 47 (s.extract 1 s.size).data.toList).length ≤ 8)) = true then some (wordsB 47 (s.extract 1 s.size).data.toList) else none := by
  have hne : (tl s).data.toList ≠ [] := by
    intro e
    have := congrArg List.length e
    rw [tl_data, List.length_drop, data_len] at this
    simp at this
    omega
  rw [patL, segs_hd, h2, if_pos rfl, if_neg hne]
  have e : (tl s).data.toList = (s.extract 1 s.size).data.toList := rfl
  rw [e]
  generalize wordsB 47 (s.extract 1 s.size).data.toList = ws
  by_cases h8 : ws.length ≤ 8
  · rw [if_pos h8, decide_eq_true h8, Bool.and_true]
  · rw [if_neg h8, decide_eq_false h8, Bool.and_false]; rfl
theorem list_headP (p : ByteArray) (h : 0 < p.size) : p.data.toList = p[0] :: p.data.toList.drop 1 := by
  have := drop_at p 0 h
  simpa using this
theorem fit_first (ws : List (List UInt8)) (k : Nat) (p : ByteArray) (h : 0 < p.size) (hc : p[0] = 58) : kindL p.data.toList = 1 ∧ fitL ws k p.data.toList = (tokB (p.data.toList.drop 1) && !namedL (ws.take k) (p.data.toList.drop 1)) := by
  have e : kindL p.data.toList = 1 := by rw [list_headP p h, hc]; rfl
  exact ⟨e, by rw [fitL, e]; rfl⟩
theorem fit_last (ws : List (List UInt8)) (k : Nat) (p : ByteArray) (h : 0 < p.size) (hc : p[0] = 42) : kindL p.data.toList = 2 ∧ fitL ws k p.data.toList = (decide (k + 1 = ws.length) && (tokB (p.data.toList.drop 1) && !namedL (ws.take k) (p.data.toList.drop 1))) := by
  have e : kindL p.data.toList = 2 := by rw [list_headP p h, hc]; rfl
  exact ⟨e, by rw [fitL, e]; rfl⟩
theorem fit_word (ws : List (List UInt8)) (k : Nat) (p : ByteArray) (h : 0 < p.size) (hc : p[0] ≠ 58) (hc2 : p[0] ≠ 42) : kindL p.data.toList = 0 ∧ fitL ws k p.data.toList = (tokB p.data.toList && !p.data.toList.contains 37) := by
  have e : kindL p.data.toList = 0 := by rw [list_headP p h]; simp [kindL, hc, hc2]
  exact ⟨e, by rw [fitL, e]; rfl⟩

set_option maxRecDepth 100000 in
set_option maxHeartbeats 16000000 in
theorem patterns_any (s : ByteArray) (w : World) : Calls Try.prog 5 #[.string s] w fun e w' => e = .returned (.bool true) ∧ Below w.heap.size w w' := by
  have HF := Lib.hid (fun w => fit_any w)
  have HL1 := Lib.hid (fun w => light_any s w)
  have hmm := @run_makeMap Try.prog
  by_cases h1 : s.size ≤ 600
  · rw [decide_eq_true h1] at HL1
    have HP := Lib.hid (fun w => pat_any s w (by omega))
    have hq47 := eq_list s [47]
    by_cases h47 : s.data.toList = [47]
    · rw [decide_eq_true h47] at hq47
      have hpp : patL s.data.toList = some [] := by rw [h47]; rfl
      rw [hpp] at HP
      simp only [Option.getD_some, Option.isSome_some] at HP
      clear hpp h47
      go_enter Try.func5, Try.ntmps5
      go_wp2_with fail
      refine (HF.out _).mono ?_
      rintro e w1 ⟨rfl, hb1⟩
      go_wp2_with fail
      refine (HL1.out _).mono ?_
      rintro e w1 ⟨rfl, rfl⟩
      go_wp2_with fail
      refine (HP.out _).mono ?_
      rintro e w2 ⟨v2, rfl, ho2, hb2⟩
      obtain ⟨A2, c2, rfl, hr2⟩ := Rd.own ho2
      have HR2 := Lib.hid hr2; have HB2 := Lib.hid (bt hb1 hb2)
      clear ho2 hr2 hb1 hb2
      go_wp2_with fail
      go_ret
      exact ⟨rfl, HB2.out⟩
    · rw [decide_eq_false h47] at hq47
      by_cases hbad : s.size ≤ 1 ∨ hd s 47 = false
      · rw [pat_none s h47 hbad] at HP
        simp only [Option.getD_none, Option.isSome_none] at HP
        clear h47
        have hcase : decide ((1 : Int) < (s.size : Int)) = false ∨ (decide ((1 : Int) < (s.size : Int)) = true ∧ 0 < s.size ∧ hd s 47 = false) := by
          by_cases h : s.size ≤ 1
          · left; simp; omega
          · right
            refine ⟨by simp; omega, by omega, ?_⟩
            rcases hbad with hb | hb
            · exact absurd hb h
            · exact hb
        clear hbad
        rcases hcase with hsz | ⟨hsz, hs0, hh⟩
        · have hz : True := trivial
          go_enter Try.func5, Try.ntmps5
          go_wp2_with fail
          refine (HF.out _).mono ?_
          rintro e w1 ⟨rfl, hb1⟩
          go_wp2_with fail
          refine (HL1.out _).mono ?_
          rintro e w1 ⟨rfl, rfl⟩
          go_wp2_with fail
          refine (HP.out _).mono ?_
          rintro e w2 ⟨v2, rfl, ho2, hb2⟩
          obtain ⟨A2, c2, rfl, hr2⟩ := Rd.own ho2
          have HR2 := Lib.hid hr2; have HB2 := Lib.hid (bt hb1 hb2)
          clear ho2 hr2 hb1 hb2
          go_wp2_with fail
          have HBN := Lib.hid ((Below.refl w2.heap.size w2).alloc (Nat.le_refl _) (.map #[] 0))
          go_loopw [5, 44] (fun x i wr => x = .bool false ∧ i = .int .i64 0 ∧ wr = w2.alloc (.map #[] 0)) (fun _ _ _ => 0)
          case atStart => exact ⟨rfl, rfl, rfl⟩
          case round =>
            obtain ⟨rfl, rfl, rfl⟩ := hrel
            go_wp2_with fail
            go_loopw [114] (fun i wr => i = .int .i64 0 ∧ wr = w2.alloc (.map #[] 0)) (fun _ _ => 0)
            case atStart => exact ⟨rfl, rfl⟩
            case round =>
              obtain ⟨rfl, rfl⟩ := hrel
              go_wp2_with fail
              go_ret
              exact ⟨rfl, bt HB2.out HBN.out⟩
        · have t1 : ((s[0].toNat : Int) == 47) = hd s 47 := hd_index s hs0 47
          rw [hh] at t1
          clear hh
          have hz : True := trivial
          go_enter Try.func5, Try.ntmps5
          go_wp2_with fail
          refine (HF.out _).mono ?_
          rintro e w1 ⟨rfl, hb1⟩
          go_wp2_with fail
          refine (HL1.out _).mono ?_
          rintro e w1 ⟨rfl, rfl⟩
          go_wp2_with fail
          refine (HP.out _).mono ?_
          rintro e w2 ⟨v2, rfl, ho2, hb2⟩
          obtain ⟨A2, c2, rfl, hr2⟩ := Rd.own ho2
          have HR2 := Lib.hid hr2; have HB2 := Lib.hid (bt hb1 hb2)
          clear ho2 hr2 hb1 hb2
          go_wp2_with fail
          have HBN := Lib.hid ((Below.refl w2.heap.size w2).alloc (Nat.le_refl _) (.map #[] 0))
          go_loopw [5, 44] (fun x i wr => x = .bool false ∧ i = .int .i64 0 ∧ wr = w2.alloc (.map #[] 0)) (fun _ _ _ => 0)
          case atStart => exact ⟨rfl, rfl, rfl⟩
          case round =>
            obtain ⟨rfl, rfl, rfl⟩ := hrel
            go_wp2_with fail
            go_loopw [114] (fun i wr => i = .int .i64 0 ∧ wr = w2.alloc (.map #[] 0)) (fun _ _ => 0)
            case atStart => exact ⟨rfl, rfl⟩
            case round =>
              obtain ⟨rfl, rfl⟩ := hrel
              go_wp2_with fail
              go_ret
              exact ⟨rfl, bt HB2.out HBN.out⟩
      · have hsz : decide ((1 : Int) < (s.size : Int)) = true := by simp; omega
        have hs0 : 0 < s.size := by omega
        have hh : hd s 47 = true := by cases h : hd s 47 with | true => rfl | false => exact absurd (.inr h) hbad
        have t1 : ((s[0].toNat : Int) == 47) = true := (hd_index s hs0 47).trans hh
        rw [pat_words s (by omega) hh] at HP
        have HW := Lib.hid (fun w => words_any (s.extract 1 s.size) 47 w (by rw [← data_len, ext_data]; simp; omega))
        have hxs : (s.extract 1 s.size).data.toList.length ≤ 600 := by rw [ext_data]; simp; omega
        have HWS := Lib.hid (words_small 47 (s.extract 1 s.size).data.toList)
        have hwm := words_many 47 (s.extract 1 s.size).data.toList
        have sb1 : (1 : Int) ≤ (s.size : Int) := by omega
        clear h47 hbad hh
        generalize wordsB 47 (s.extract 1 s.size).data.toList = ws at *
        have hwl : ws.length ≤ 601 := by omega
        have HSM : Hid (∀ x ∈ ws, x.length ≤ 600) := fun x hx => Nat.le_trans (HWS.out x hx) hxs
        clear HWS hwm hxs
        obtain ⟨F, hF⟩ : ∃ F, fitsFrom ws 0 ws = F := ⟨_, rfl⟩
        rw [hF] at HP
        have HFF := Lib.hid hF
        clear hF
        obtain ⟨OK, hOK⟩ : ∃ b, (F && decide (ws.length ≤ 8)) = b := ⟨_, rfl⟩
        rw [hOK] at HP
        have hi1 : (if OK = true then some ws else none).isSome = OK := by cases OK <;> rfl
        obtain ⟨pl, hpl⟩ : ∃ pl, (if OK = true then some ws else none).getD [] = pl := ⟨_, rfl⟩
        rw [hi1, hpl] at HP
        have HPT : Hid (OK = true → pl = ws) := fun h => by rw [← hpl, h]; rfl
        have HPF : Hid (OK = false → pl = []) := fun h => by rw [← hpl, h]; rfl
        have HOK := Lib.hid hOK
        clear hi1 hpl hOK
        go_enter Try.func5, Try.ntmps5
        go_wp2_with fail
        refine (HF.out _).mono ?_
        rintro e w1 ⟨rfl, hb1⟩
        go_wp2_with fail
        refine (HL1.out _).mono ?_
        rintro e w1 ⟨rfl, rfl⟩
        go_wp2_with fail
        refine (HP.out _).mono ?_
        rintro e w2 ⟨v2, rfl, ho2, hb2⟩
        obtain ⟨A2, c2, rfl, hr2⟩ := Rd.own ho2
        have HR2 := Lib.hid hr2; have HB2 := Lib.hid (bt hb1 hb2)
        clear ho2 hr2 hb1 hb2
        go_wp2_with fail
        refine (HW.out _).mono ?_
        rintro e w4 ⟨v4, rfl, ho4, hb4⟩
        obtain ⟨A4, c4, rfl, hr4⟩ := Rd.own ho4
        have HR4 := Lib.hid hr4
        have HR24 := Lib.hid (HR2.out.below hb4 (Nat.le_refl _))
        have HB4 := Lib.hid (bt HB2.out hb4)
        have hs24 := hb4.size
        clear ho4 hr4 hb4 HR2
        have HCN := Lib.hid (cm_new w4)
        have HBN := Lib.hid ((Below.refl w4.heap.size w4).alloc (Nat.le_refl _) (.map #[] 0))
        go_wp2_with fail
        go_loopw [5, 44] (fun x i wr => ∃ (k : Nat) (b : Bool), k ≤ ws.length ∧ x = .bool b ∧ i = .int .i64 k ∧ Hid (Below w4.heap.size w4 wr) ∧ Hid (CM wr w4.heap.size (namesTo ws k)) ∧ Hid (F = (b && fitsFrom ws k (ws.drop k)))) (fun _ i _ => ws.length - (intOf i).toNat)
        case atStart => exact ⟨0, true, by omega, rfl, rfl, HBN, HCN, by show _ = _; rw [← HFF.out]; simp⟩
        case round =>
          obtain ⟨k, b, hk, rfl, rfl, HB, HC, HV⟩ := hrel
          by_cases hlt : k < ws.length
          · obtain ⟨a, rfl, hab, hc⟩ := (HR4.out.below HB.out (Nat.le_refl _)).at hlt (strV ws[k]) (by simp [hlt])
            rw [strV_mk] at hc
            have hps : (mkB ws[k]).size ≤ 600 := by rw [mkB_size]; exact HSM.out _ (List.getElem_mem hlt)
            have hfa := fits_at ws k hlt
            rw [hfa] at HV
            have hns := names_snoc ws k hlt
            rw [← mkB_data ws[k]] at HV hns
            have hq0 := eq_list (mkB ws[k]) []
            clear hfa
            generalize mkB ws[k] = p at *
            by_cases hpe : p.data.toList = []
            · rw [decide_eq_true hpe] at hq0
              have HC2 : Hid (CM wr w4.heap.size (namesTo ws (k + 1))) := by
                have := HC.out
                rw [hns, if_neg (by rw [hpe]; simp [kindL]), List.append_nil]
                exact this
              have HV2 : Hid (F = (false && fitsFrom ws (k + 1) (ws.drop (k + 1)))) := by
                show _ = _
                rw [HV.out, hpe]
                simp [fitL, kindL, tokB]
              clear HV HC hns hpe
              go_wp2_with fail
              go_roundw
              case rel => exact ⟨k + 1, false, by omega, rfl, by go_num, HB, HC2, HV2⟩
              case measure => simp [intOf]; omega
            · rw [decide_eq_false hpe] at hq0
              have hp0 : 0 < p.size := by rw [← data_len]; exact List.length_pos_iff.2 hpe
              have pb1 : (1 : Int) ≤ (p.size : Int) := by omega
              clear hpe
              have c1 : ((p[0].toNat : Int) == 58) = decide (p[0] = 58) := byte_test p[0] 58
              have c2 : ((p[0].toNat : Int) == 42) = decide (p[0] = 42) := byte_test p[0] 42
              by_cases h58 : p[0] = 58
              · rw [decide_eq_true h58] at c1
                obtain ⟨hke, hfe⟩ := fit_first ws k p hp0 h58
                clear c2 h58
                have hx : (p.extract 1 p.size).data.toList = p.data.toList.drop 1 := tl_data p
                have hput := cm_put HC.out (p.extract 1 p.size)
                have hlk := cm_look HC.out (p.extract 1 p.size)
                have HTK := Lib.hid (fun w => tok_any (p.extract 1 p.size) w)
                have hcl := names_le ws k (p.extract 1 p.size).data.toList
                have hcs : (namesTo ws k ++ [(p.extract 1 p.size).data.toList]).count (p.extract 1 p.size).data.toList = (namesTo ws k).count (p.extract 1 p.size).data.toList + 1 := by rw [count_snoc, if_pos rfl]
                rw [← hx, names_count] at hfe
                have hnm : namesTo ws (k + 1) = namesTo ws k ++ [(p.extract 1 p.size).data.toList] := by rw [hns, if_pos (by rw [hke]; decide), hx]
                obtain ⟨W5, hrun, hCM5, hsz5, hb5⟩ := hput
                have hlk2 := fun (W : World) (hb : Below W5.heap.size W5 W) => cm_look (hCM5.on hb) (p.extract 1 p.size)
                rw [hcs] at hlk2
                rw [← hnm] at hCM5
                clear hns hnm hcs hke hx
                generalize tokB (p.extract 1 p.size).data.toList = tk at *
                generalize (namesTo ws k).count (p.extract 1 p.size).data.toList = cN at *
                have HB5 : Hid (Below w4.heap.size w4 W5) := HB.out.trans (hb5 _ (Nat.le_refl _))
                have HC5 := Lib.hid hCM5
                have HLK := Lib.hid hlk2
                have HFE := Lib.hid hfe
                clear hCM5 hb5 hlk2 hfe hsz5
                cases b with
                | false =>
                  have HV2 : Hid (F = (false && fitsFrom ws (k + 1) (ws.drop (k + 1)))) := by show _ = _; rw [HV.out]; rfl
                  clear HV
                  go_wp2_with fail
                  go_roundw
                  case rel => exact ⟨k + 1, false, by omega, rfl, by go_num, HB5, HC5, HV2⟩
                  case measure => simp [intOf]; omega
                | true =>
                  cases tk with
                  | false =>
                    have HV2 : Hid (F = (false && fitsFrom ws (k + 1) (ws.drop (k + 1)))) := by show _ = _; rw [HV.out, HFE.out]; simp
                    clear HV
                    go_wp2_with fail
                    refine (HTK.out _).mono ?_
                    rintro e w6 ⟨rfl, hb6⟩
                    have HB6 := Lib.hid (HB5.out.trans (hb6.mono HB5.out.size))
                    have HC6 := Lib.hid (HC5.out.on hb6)
                    clear hb6
                    go_wp2_with fail
                    go_roundw
                    case rel => exact ⟨k + 1, false, by omega, rfl, by go_num, HB6, HC6, HV2⟩
                    case measure => simp [intOf]; omega
                  | true =>
                    by_cases hc0 : cN = 0
                    · subst hc0
                      have hrun1 : (Instr.mapUpdate 32 (.map (some w4.heap.size)) (.string (p.extract 1 p.size)) (.int .i64 1)).run Try.prog wr = .ok () W5 := hrun
                      clear hrun
                      have HV2 : Hid (F = (true && fitsFrom ws (k + 1) (ws.drop (k + 1)))) := by show _ = _; rw [HV.out, HFE.out]; simp
                      clear HV
                      go_wp2_with fail
                      refine (HTK.out _).mono ?_
                      rintro e w6 ⟨rfl, hb6⟩
                      have HB6 := Lib.hid (HB5.out.trans (hb6.mono HB5.out.size))
                      have HC6 := Lib.hid (HC5.out.on hb6)
                      have hl6 := HLK.out w6 hb6
                      clear hb6
                      go_wp2_with fail
                      go_roundw
                      case rel => exact ⟨k + 1, _, by omega, rfl, by go_num, HB6, HC6, HV2⟩
                      case measure => simp [intOf]; omega
                    · have HV2 : Hid (F = (false && fitsFrom ws (k + 1) (ws.drop (k + 1)))) := by show _ = _; rw [HV.out, HFE.out]; simp [hc0]
                      have hd0 : (((cN : Int) + 1) == 1) = false := by rw [beq_eq_false_iff_ne]; omega
                      clear HV
                      go_wp2_with fail
                      refine (HTK.out _).mono ?_
                      rintro e w6 ⟨rfl, hb6⟩
                      have HB6 := Lib.hid (HB5.out.trans (hb6.mono HB5.out.size))
                      have HC6 := Lib.hid (HC5.out.on hb6)
                      have hl6 := HLK.out w6 hb6
                      clear hb6
                      go_wp2_with fail
                      go_roundw
                      case rel => exact ⟨k + 1, _, by omega, rfl, by go_num, HB6, HC6, HV2⟩
                      case measure => simp [intOf]; omega
              rw [decide_eq_false h58] at c1
              by_cases h42 : p[0] = 42
              · rw [decide_eq_true h42] at c2
                obtain ⟨hke, hfe⟩ := fit_last ws k p hp0 h42
                have hlast : ((k : Int) == (ws.length : Int) - 1) = decide (k + 1 = ws.length) := by
                  rw [Bool.eq_iff_iff]; simp only [beq_iff_eq, decide_eq_true_eq]; omega
                clear h58 h42
                generalize decide (k + 1 = ws.length) = la at *
                have hx : (p.extract 1 p.size).data.toList = p.data.toList.drop 1 := tl_data p
                have hput := cm_put HC.out (p.extract 1 p.size)
                have hlk := cm_look HC.out (p.extract 1 p.size)
                have HTK := Lib.hid (fun w => tok_any (p.extract 1 p.size) w)
                have hcl := names_le ws k (p.extract 1 p.size).data.toList
                have hcs : (namesTo ws k ++ [(p.extract 1 p.size).data.toList]).count (p.extract 1 p.size).data.toList = (namesTo ws k).count (p.extract 1 p.size).data.toList + 1 := by rw [count_snoc, if_pos rfl]
                rw [← hx, names_count] at hfe
                have hnm : namesTo ws (k + 1) = namesTo ws k ++ [(p.extract 1 p.size).data.toList] := by rw [hns, if_pos (by rw [hke]; decide), hx]
                obtain ⟨W5, hrun, hCM5, hsz5, hb5⟩ := hput
                have hlk2 := fun (W : World) (hb : Below W5.heap.size W5 W) => cm_look (hCM5.on hb) (p.extract 1 p.size)
                rw [hcs] at hlk2
                rw [← hnm] at hCM5
                clear hns hnm hcs hke hx
                generalize tokB (p.extract 1 p.size).data.toList = tk at *
                generalize (namesTo ws k).count (p.extract 1 p.size).data.toList = cN at *
                have HB5 : Hid (Below w4.heap.size w4 W5) := HB.out.trans (hb5 _ (Nat.le_refl _))
                have HC5 := Lib.hid hCM5
                have HLK := Lib.hid hlk2
                have HFE := Lib.hid hfe
                clear hCM5 hb5 hlk2 hfe hsz5
                cases b with
                | false =>
                  have HV2 : Hid (F = (false && fitsFrom ws (k + 1) (ws.drop (k + 1)))) := by show _ = _; rw [HV.out]; rfl
                  clear HV
                  go_wp2_with fail
                  go_roundw
                  case rel => exact ⟨k + 1, false, by omega, rfl, by go_num, HB5, HC5, HV2⟩
                  case measure => simp [intOf]; omega
                | true =>
                  cases tk with
                  | false =>
                    have HV2 : Hid (F = (false && fitsFrom ws (k + 1) (ws.drop (k + 1)))) := by show _ = _; rw [HV.out, HFE.out]; simp
                    clear HV
                    go_wp2_with fail
                    refine (HTK.out _).mono ?_
                    rintro e w6 ⟨rfl, hb6⟩
                    have HB6 := Lib.hid (HB5.out.trans (hb6.mono HB5.out.size))
                    have HC6 := Lib.hid (HC5.out.on hb6)
                    clear hb6
                    go_wp2_with fail
                    go_roundw
                    case rel => exact ⟨k + 1, false, by omega, rfl, by go_num, HB6, HC6, HV2⟩
                    case measure => simp [intOf]; omega
                  | true =>
                    by_cases hc0 : cN = 0
                    · subst hc0
                      have hrun1 : (Instr.mapUpdate 32 (.map (some w4.heap.size)) (.string (p.extract 1 p.size)) (.int .i64 1)).run Try.prog wr = .ok () W5 := hrun
                      clear hrun
                      have HV2 : Hid (F = (la && fitsFrom ws (k + 1) (ws.drop (k + 1)))) := by show _ = _; rw [HV.out, HFE.out]; simp
                      clear HV
                      go_wp2_with fail
                      refine (HTK.out _).mono ?_
                      rintro e w6 ⟨rfl, hb6⟩
                      have HB6 := Lib.hid (HB5.out.trans (hb6.mono HB5.out.size))
                      have HC6 := Lib.hid (HC5.out.on hb6)
                      have hl6 := HLK.out w6 hb6
                      clear hb6
                      go_wp2_with fail
                      go_roundw
                      case rel => exact ⟨k + 1, _, by omega, rfl, by go_num, HB6, HC6, by first | exact HV2 | (rw [hlast]; exact HV2)⟩
                      case measure => simp [intOf]; omega
                    · have HV2 : Hid (F = (false && fitsFrom ws (k + 1) (ws.drop (k + 1)))) := by show _ = _; rw [HV.out, HFE.out]; simp [hc0]
                      have hd0 : (((cN : Int) + 1) == 1) = false := by rw [beq_eq_false_iff_ne]; omega
                      clear HV
                      go_wp2_with fail
                      refine (HTK.out _).mono ?_
                      rintro e w6 ⟨rfl, hb6⟩
                      have HB6 := Lib.hid (HB5.out.trans (hb6.mono HB5.out.size))
                      have HC6 := Lib.hid (HC5.out.on hb6)
                      have hl6 := HLK.out w6 hb6
                      clear hb6
                      go_wp2_with fail
                      go_roundw
                      case rel => exact ⟨k + 1, _, by omega, rfl, by go_num, HB6, HC6, HV2⟩
                      case measure => simp [intOf]; omega
              rw [decide_eq_false h42] at c2
              obtain ⟨hke, hfe⟩ := fit_word ws k p hp0 h58 h42
              have HC2 : Hid (CM wr w4.heap.size (namesTo ws (k + 1))) := by
                have := HC.out
                rw [hns, if_neg (by rw [hke]; simp), List.append_nil]
                exact this
              have HTK := Lib.hid (fun w => tok_any p w)
              have HWP := Lib.hid (fun w => words_any p 37 w (by omega))
              have how := one_word p.data.toList
              have hww := words_many 37 p.data.toList
              rw [data_len] at hww
              generalize wordsB 37 p.data.toList = pw at *
              generalize tokB p.data.toList = tk at *
              generalize p.data.toList.contains 37 = ct at *
              have HFE := Lib.hid hfe; have HOW := Lib.hid how
              clear hfe how hns h58 h42 HC hke
              cases b with
              | false =>
                have HV2 : Hid (F = (false && fitsFrom ws (k + 1) (ws.drop (k + 1)))) := by show _ = _; rw [HV.out]; rfl
                clear HV
                go_wp2_with fail
                go_roundw
                case rel => exact ⟨k + 1, false, by omega, rfl, by go_num, HB, HC2, HV2⟩
                case measure => simp [intOf]; omega
              | true =>
                cases tk with
                | false =>
                  have HV2 : Hid (F = (false && fitsFrom ws (k + 1) (ws.drop (k + 1)))) := by show _ = _; rw [HV.out, HFE.out]; simp
                  clear HV
                  go_wp2_with fail
                  refine (HTK.out _).mono ?_
                  rintro e w6 ⟨rfl, hb6⟩
                  have HB6 := Lib.hid (HB.out.trans (hb6.mono HB.out.size))
                  have HC6 := Lib.hid (HC2.out.on hb6)
                  clear hb6
                  go_wp2_with fail
                  go_roundw
                  case rel => exact ⟨k + 1, false, by omega, rfl, by go_num, HB6, HC6, HV2⟩
                  case measure => simp [intOf]; omega
                | true =>
                  have hct : ((pw.length : Int) == 1) = !ct := by
                    have := HOW.out
                    rw [Bool.eq_iff_iff]
                    simp only [beq_iff_eq, Bool.not_eq_true']
                    rw [← this]
                    omega
                  have HV2 : Hid (F = (!ct && fitsFrom ws (k + 1) (ws.drop (k + 1)))) := by show _ = _; rw [HV.out, HFE.out]; simp
                  clear HV
                  go_wp2_with fail
                  refine (HTK.out _).mono ?_
                  rintro e w6 ⟨rfl, hb6⟩
                  have HB6 := Lib.hid (HB.out.trans (hb6.mono HB.out.size))
                  have HC6 := Lib.hid (HC2.out.on hb6)
                  clear hb6
                  go_wp2_with fail
                  refine (HWP.out _).mono ?_
                  rintro e w7 ⟨v7, rfl, ho7, hb7⟩
                  obtain ⟨A7, c7, rfl, hr7⟩ := Rd.own ho7
                  have HB7 := Lib.hid (HB6.out.trans (hb7.mono HB6.out.size))
                  have HC7 := Lib.hid (HC6.out.on hb7)
                  clear ho7 hr7 hb7
                  go_wp2_with fail
                  go_roundw
                  case rel => exact ⟨k + 1, _, by omega, rfl, by go_num, HB7, HC7, by first | exact HV2 | (rw [hct]; exact HV2)⟩
                  case measure => simp [intOf]; omega
          · have hFb : F = b := by rw [HV.out, fits_end ws k (by omega), Bool.and_true]
            clear HV HC
            subst hFb
            cases F with
            | false =>
              have HOF : Hid (OK = false) := HOK.out.symm
              have hp0 := HPF.out HOF.out
              have hof := HOF.out
              clear HOF HPF HPT HOK
              subst hp0
              subst hof
              go_wp2_with fail
              go_loopw [114] (fun i wq => i = .int .i64 0 ∧ wq = wr) (fun _ _ => 0)
              case atStart => exact ⟨rfl, rfl⟩
              case round =>
                obtain ⟨rfl, rfl⟩ := hrel
                go_wp2_with fail
                go_ret
                exact ⟨rfl, bt HB4.out HB.out⟩
            | true =>
              by_cases h8 : ws.length ≤ 8
              · have hd8 : decide ((ws.length : Int) ≤ 8) = true := by simp; omega
                have HOT : Hid (OK = true) := by have := HOK.out; rw [decide_eq_true h8] at this; exact this.symm
                have hp0 := HPT.out HOT.out
                have hof := HOT.out
                clear HOT HPF HPT HOK
                subst hp0
                subst hof
                have HRA := Lib.hid (HR24.out.below HB.out hs24)
                have HRB := Lib.hid (HR4.out.below HB.out (Nat.le_refl _))
                clear HR24 HR4
                go_wp2_with fail
                go_loopw [114] (fun i wq => ∃ j n : Nat, j ≤ pl.length ∧ i = .int .i64 j ∧ wq = wr.drewN n) (fun i _ => pl.length - (intOf i).toNat)
                case atStart => exact ⟨0, 0, by omega, rfl, rfl⟩
                case round =>
                  obtain ⟨j, n, hj, rfl, rfl⟩ := hrel
                  by_cases hjl : j < pl.length
                  · obtain ⟨a2, rfl, _, x2⟩ := HRA.out.at hjl (strV pl[j]) (by simp [hjl])
                    obtain ⟨a3, rfl, _, x3⟩ := HRB.out.at hjl (strV pl[j]) (by simp [hjl])
                    rw [strV_mk] at x2 x3
                    generalize mkB pl[j] = y at *
                    have i0 : (0 : Int) ≤ (j : Int) := by omega
                    have i1 : (j : Int) < (pl.length : Int) := by omega
                    go_wp2_with fail
                    go_quiet (fail)
                    go_wp2_with fail
                    go_roundw
                    case rel => exact ⟨j + 1, n + nq, by omega, by go_num, rfl⟩
                    case measure => simp [intOf]; omega
                  · go_wp2_with fail
                    go_ret
                    exact ⟨rfl, below_drewN (bt HB4.out HB.out) _⟩
              · have HOF : Hid (OK = false) := by have := HOK.out; rw [decide_eq_false h8] at this; exact this.symm
                have hd8 : decide ((ws.length : Int) ≤ 8) = false := by simp; omega
                have hp0 := HPF.out HOF.out
                have hof := HOF.out
                clear HOF HPF HPT HOK
                subst hp0
                subst hof
                go_wp2_with fail
                go_loopw [114] (fun i wq => i = .int .i64 0 ∧ wq = wr) (fun _ _ => 0)
                case atStart => exact ⟨rfl, rfl⟩
                case round =>
                  obtain ⟨rfl, rfl⟩ := hrel
                  go_wp2_with fail
                  go_ret
                  exact ⟨rfl, bt HB4.out HB.out⟩
  · rw [decide_eq_false h1] at HL1
    go_enter Try.func5, Try.ntmps5
    go_wp2_with fail
    refine (HF.out _).mono ?_
    rintro e w1 ⟨rfl, hb1⟩
    go_wp2_with fail
    refine (HL1.out _).mono ?_
    rintro e w1 ⟨rfl, rfl⟩
    go_wp2_with fail
    go_ret
    exact ⟨rfl, hb1⟩

theorem patterns_row (s : ByteArray) (w : World) (_ : s.size ≤ maxLen) : Calls Try.prog 5 #[.string s] w fun e w' => e = .returned (.bool true) ∧ Below w.heap.size w w' := patterns_any s w

end Go.Proofs.Ytghlmdpkchepgaa
