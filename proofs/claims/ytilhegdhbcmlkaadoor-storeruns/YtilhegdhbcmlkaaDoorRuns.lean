/- StoreRuns, walked. -/
import Derived.Test.YtilhegdhbcmlkaaDoorRunsK
namespace Go.Proofs.YtilhegdhbcmlkaaDoor
open Go.RowKit

set_option maxRecDepth 100000 in
set_option maxHeartbeats 16000000 in
theorem runs_walk (xs : List Cl) (A : Option Addr) (c : Nat) (w : World) (hrd : Rd w w.heap.size 6 A xs.length (clCells xs)) (hxc : xs.length ≤ c) (hcm : c ≤ maxLen) (hz : ∀ x ∈ xs, x.key.length ≤ 140737488355328 ∧ x.val.length ≤ 140737488355328) (hg : GB w) : Calls Tryd.prog 3 #[.slice A xs.length c] w fun e w' => e = .returned (.bool true) ∧ Below w.heap.size w w' := by
  have HF := Lib.hid (fit_any w hg)
  have HG := Lib.hid (fun w1 (hb : Below w.heap.size w w1) => hg.on hb)
  have HLT := Lib.hid (fun w1 (hb : Below w.heap.size w w1) => light_any xs A c w1 ((hrd.below hb (Nat.le_refl _)).wide hb.size) hxc hcm hz)
  have HRD := Lib.hid (fun w1 (hb : Below w.heap.size w w1) => hrd.below hb (Nat.le_refl _))
  have hmm := @run_makeMap Tryd.prog
  unfold maxLen at hcm
  clear hg hrd hz
  cases hl : lightL xs with
  | false =>
    rw [hl] at HLT
    clear hl
    obtain ⟨n, hn⟩ : ∃ n, xs.length = n := ⟨_, rfl⟩
    rw [hn] at HLT hxc HRD ⊢
    clear hn
    go_enter Tryd.func3, Tryd.ntmps3
    go_wp2_with fail
    refine HF.out.mono ?_
    rintro e w1 ⟨rfl, hb1⟩
    have HB1 := Lib.hid hb1
    clear hb1
    go_wp2_with fail
    refine (HLT.out _ HB1.out).mono ?_
    rintro e w2 ⟨rfl, hb2⟩
    have HB2 := Lib.hid (bt HB1.out hb2)
    clear hb2
    go_wp2_with fail
    go_ret
    exact ⟨rfl, HB2.out⟩
  | true =>
    rw [hl] at HLT
    have h200 : xs.length ≤ 200 := by
      unfold lightL at hl
      simp at hl
      exact hl.1
    have HSH : Hid (∀ x ∈ xs, x.key.length + x.val.length ≤ 300) := by
      unfold lightL at hl
      simp at hl
      exact fun x hx => hl.2 x hx
    clear hl
    obtain ⟨n, hn⟩ : ∃ n, xs.length = n := ⟨_, rfl⟩
    have HNX := Lib.hid hn
    rw [hn] at HLT hxc HRD h200 ⊢
    clear hn
    have HN := Lib.hid (fun wx => new_any wx)
    go_enter Tryd.func3, Tryd.ntmps3
    go_wp2_with fail
    refine HF.out.mono ?_
    rintro e w1 ⟨rfl, hb1⟩
    have HB1 := Lib.hid hb1
    clear hb1
    go_wp2_with fail
    refine (HLT.out _ HB1.out).mono ?_
    rintro e w2 ⟨rfl, hb2⟩
    have HB2 := Lib.hid (bt HB1.out hb2)
    clear hb2
    go_wp2_with fail
    refine (HN.out _).mono ?_
    rintro e w4 ⟨bs, rfl, hst, hbm, hb4⟩
    obtain ⟨G, hG⟩ : ∃ G, w2.heap.size = G := ⟨_, rfl⟩
    rw [hG] at hst hbm hb4
    have hGB : w.heap.size ≤ G := by have := HB2.out.size; omega
    have HGB := Lib.hid hGB
    have HBM := Lib.hid (fun i (hi : i < 4) => Nat.le_trans hGB (hbm i hi))
    have hb4' := HB2.out.trans (hb4.mono hGB)
    have hal : Below w4.heap.size w4 (w4.alloc (.map #[] 0)) := (Below.refl _ _).alloc (Nat.le_refl _) _
    have hal2 : Below (w4.alloc (.map #[] 0)).heap.size (w4.alloc (.map #[] 0)) ((w4.alloc (.map #[] 0)).alloc (.cells #[.int .i64 0, .int .i64 0, .int .i64 0, .int .i64 0] 28)) := (Below.refl _ _).alloc (Nat.le_refl _) _
    have hS0 : StAt ((w4.alloc (.map #[] 0)).alloc (.cells #[.int .i64 0, .int .i64 0, .int .i64 0, .int .i64 0] 28)) G bs (fun _ => 0) (fun _ => []) := (hst.on hal).on hal2
    have HR0 : Hid (RS ((w4.alloc (.map #[] 0)).alloc (.cells #[.int .i64 0, .int .i64 0, .int .i64 0, .int .i64 0] 28)) G w4.heap.size (w4.alloc (.map #[] 0)).heap.size bs (fun _ => 0) (fun _ => []) []) :=
      ⟨hS0, (ma_new w4).on hal2, SI.new, heap_alloc_new _ _, fun i hi => by have := (hst.maps i hi).lt; omega⟩
    have HB0 := Lib.hid ((bt hb4' hal).trans (hal2.mono ((bt hb4' hal).size)))
    have HPM : Hid (w.heap.size ≤ w4.heap.size) := hb4'.size
    have HPC : Hid (w.heap.size ≤ (w4.alloc (.map #[] 0)).heap.size) := (bt hb4' hal).size
    have hcs : (w4.alloc (.map #[] 0)).heap.size = w4.heap.size + 1 := by simp
    rw [hcs] at HR0 HPC
    rw [hG]
    clear hst hbm hb4 hGB hG hal hal2 hb4' hS0 hcs HN HLT
    go_wp2_with fail
    obtain ⟨bm, hbm⟩ : ∃ bm, w4.heap.size = bm := ⟨_, rfl⟩
    rw [hbm] at HR0 HPM HPC
    rw [hbm]
    obtain ⟨C, hC⟩ : ∃ C, bm + 1 = C := ⟨_, rfl⟩
    rw [hC] at HR0 HPC
    rw [hC]
    generalize (w4.alloc (.map #[] 0)).alloc (.cells #[.int .i64 0, .int .i64 0, .int .i64 0, .int .i64 0] 28) = w6 at *
    clear hbm hC hmm
    go_loopw [38] (fun i wx => ∃ (k : Nat) (m : Nat → Txs) (M : Txs), i = .int .i64 k ∧ k ≤ n ∧ Hid (RS wx G bm C bs (fun _ => 0) m M) ∧ Hid (Below w.heap.size w wx)) (fun i _ => n - (intOf i).toNat)
    case atStart => exact ⟨0, _, [], rfl, by omega, HR0.out, HB0.out⟩
    case round =>
      clear HR0 HB0
      obtain ⟨k, m, M, rfl, hk, hR, hB⟩ := hrel
      by_cases hkn : k < n
      · obtain ⟨x, hx⟩ : ∃ x, xs[k]? = some x := ⟨xs[k]'(by rw [HNX.out]; exact hkn), List.getElem?_eq_getElem _⟩
        obtain ⟨a, rfl, hab, c0, c1, c2, c3, c4, c5⟩ := cl_in (HRD.out wr hB.out) hkn hx
        have hsh := HSH.out x (List.mem_of_getElem? hx)
        unfold strV at c3 c4
        have hkz : (mkB x.key).size ≤ 300 := by rw [mkB_size]; omega
        have hvz : (mkB x.val).size ≤ 300 := by rw [mkB_size]; omega
        have hal : Below wr.heap.size wr (wr.alloc (.cells #[.int .i64 x.kind, .int .i64 x.owner, .int .i64 x.shard, .string (mkB x.key), .string (mkB x.val), .int .i64 x.tag] 30)) := (Below.refl _ _).alloc (Nat.le_refl _) _
        have HR1 := Lib.hid (hR.out.on hal)
        have HB1' := Lib.hid (hB.out.trans (hal.mono hB.out.size))
        have hkd : decide ((k : Int) < (n : Int)) = true := by simp; omega
        have hand := i64_and3 x.tag
        obtain ⟨tk, htk⟩ : ∃ tk : Nat, x.tag % 4 = (tk : Int) := ⟨(x.tag % 4).toNat, by omega⟩
        have htk4 : tk < 4 := by omega
        rw [htk] at hand
        clear hx hsh hR hB hal htk
        obtain ⟨kind, hkind⟩ : ∃ kind, x.kind = kind := ⟨_, rfl⟩
        obtain ⟨owner, howner⟩ : ∃ owner, x.owner = owner := ⟨_, rfl⟩
        obtain ⟨sh, hshd⟩ : ∃ sh, x.shard = sh := ⟨_, rfl⟩
        obtain ⟨tg, htg⟩ : ∃ tg, x.tag = tg := ⟨_, rfl⟩
        obtain ⟨kb, hkb⟩ : ∃ kb, mkB x.key = kb := ⟨_, rfl⟩
        obtain ⟨vb, hvb⟩ : ∃ vb, mkB x.val = vb := ⟨_, rfl⟩
        rw [hkind] at c0 HR1 HB1'
        rw [howner] at c1 HR1 HB1'
        rw [hshd] at c2 HR1 HB1'
        rw [hkb] at c3 hkz HR1 HB1'
        rw [hvb] at c4 hvz HR1 HB1'
        rw [htg] at c5 hand HR1 HB1'
        clear hkind howner hshd htg hkb hvb
        obtain ⟨q7, hq7⟩ : ∃ q7, wr.heap.size = q7 := ⟨_, rfl⟩
        have HC7 : Hid ((wr.alloc (.cells #[.int .i64 kind, .int .i64 owner, .int .i64 sh, .string kb, .string vb, .int .i64 tg] 30)).heap[q7]? = some (.cells #[.int .i64 kind, .int .i64 owner, .int .i64 sh, .string kb, .string vb, .int .i64 tg] 30 (0, 0))) := by
          show _ = _
          rw [← hq7]; exact heap_alloc_new wr _
        obtain ⟨s, hs⟩ : ∃ s, shardL kb.data.toList = s := ⟨_, rfl⟩
        have HSS := Lib.hid hs
        have hs4 : s < 4 := by rw [← hs]; exact shard_lt _
        have HLS := Lib.hid (fun wx => lshard_any kb (by omega) wx)
        rw [hs] at HLS
        clear hs
        go_wp2_with fail
        refine (HLS.out _).mono ?_
        rintro e w7 ⟨rfl, rfl⟩
        go_upto_region 12 with fail
        generalize wr.alloc (.cells #[.int .i64 kind, .int .i64 owner, .int .i64 sh, .string kb, .string vb, .int .i64 tg] 30) = wa at *
        clear hq7 c0 c1 c2 c3 c4 c5 hab HLS
        go_cut [65] from 39 to 301 (fun v wx => v = .bool false ∧ Hid (Below wa.heap.size wa wx))
        case first =>
          as_aux_lemma =>
            have HSH2 := Lib.hid (fun j => (shard_any kb (by omega) (wa.drewN j)).mono (fun e w'' (hh : e = .returned (.int .i64 (shardL kb.data.toList : Nat)) ∧ wa.drewN j = w'') => (⟨hh.1, j, hh.2.symm⟩ : e = .returned (.int .i64 (shardL kb.data.toList : Nat)) ∧ ∃ q, w'' = wa.drewN q)))
            rw [HSS.out] at HSH2
            have HRT2 := Lib.hid (fun j => (right_any kb (wa.drewN j)).mono (fun e w'' (hh : e = .returned (.bool (rightL kb.data.toList)) ∧ wa.drewN j = w'') => (⟨hh.1, j, hh.2.symm⟩ : e = .returned (.bool (rightL kb.data.toList)) ∧ ∃ q, w'' = wa.drewN q)))
            have d3 := fun j => blk_cell ((drewN_below wa j).block q7 (blk_lt HC7.out) |>.trans HC7.out) 3
            simp only [List.getElem?_toArray, List.getElem?_cons_zero, List.getElem?_cons_succ] at d3
            have hss : ((s : Int) == (s : Int)) = true := by simp
            have hsn : ((s : Int) != (s : Int)) = false := by simp
            rcases (by omega : kb.size = 0 ∨ (1 ≤ kb.size ∧ kb.size ≤ 40) ∨ 40 < kb.size) with h0 | ⟨h0, h1⟩ | h0
            · have hr : rightL kb.data.toList = false := by unfold rightL; rw [data_len]; simp; omega
              rw [hr] at HRT2
              have b1 : decide ((1 : Int) ≤ (kb.size : Int)) = false := by simp; omega
              clear hr h0
              go_wp2_with fail
              go_quiet ((first | (go_at_call 14; exact HSH2.out _) | (go_at_call 15; exact HRT2.out _)))
              go_wp2_with fail
              go_meet
              exact ⟨rfl, drewN_below _ _⟩
            · have hr : rightL kb.data.toList = true := by unfold rightL; rw [data_len]; simp; omega
              rw [hr] at HRT2
              have b1 : decide ((1 : Int) ≤ (kb.size : Int)) = true := by simp; omega
              have b2 : decide ((kb.size : Int) ≤ 40) = true := by simp; omega
              clear hr h0 h1
              go_wp2_with fail
              go_quiet ((first | (go_at_call 14; exact HSH2.out _) | (go_at_call 15; exact HRT2.out _)))
              go_wp2_with fail
              go_meet
              exact ⟨rfl, drewN_below _ _⟩
            · have hr : rightL kb.data.toList = false := by unfold rightL; rw [data_len]; simp; omega
              rw [hr] at HRT2
              have b1 : decide ((1 : Int) ≤ (kb.size : Int)) = true := by simp; omega
              have b2 : decide ((kb.size : Int) ≤ 40) = false := by simp; omega
              clear hr h0
              go_wp2_with fail
              go_quiet ((first | (go_at_call 14; exact HSH2.out _) | (go_at_call 15; exact HRT2.out _)))
              go_wp2_with fail
              go_meet
              exact ⟨rfl, drewN_below _ _⟩
        case rest =>
          obtain ⟨rfl, hcut⟩ := hcut
          have HRa := Lib.hid (HR1.out.on hcut.out)
          have HBa := Lib.hid (bt HB1'.out hcut.out)
          have HCa : Hid (wc.heap[q7]? = _) := (hcut.out.block q7 (blk_lt HC7.out)).trans HC7.out
          clear hcut HR1 HB1' HC7
          have HL := Lib.hid (fun wx k (hk : k < 4) h => lock_any G bs (ownK 7 k) m 7 (k : Int) wx h)
          have HLL := Lib.hid (fun k (hk : k < 4) => lock_all (o := ownK 7 k) (ow := 7) (by decide) k hk (ownK_or 7 k))
          go_wp2_with fail
          go_loopw [66] (fun i wx => ∃ j : Nat, i = .int .i64 j ∧ j ≤ 4 ∧ Hid (RS wx G bm C bs (ownK 7 j) m M) ∧ Hid (Below w.heap.size w wx) ∧ Hid (wx.heap[q7]? = some (.cells #[.int .i64 kind, .int .i64 owner, .int .i64 sh, .string kb, .string vb, .int .i64 tg] 30 (0, 0)))) (fun i _ => 4 - (intOf i).toNat)
          case atStart => exact ⟨0, rfl, by omega, ⟨HRa.out.st.same (fun i _ => rfl) (fun _ _ => rfl), HRa.out.mp, HRa.out.si, HRa.out.nm, HRa.out.ne⟩, HBa.out, HCa.out⟩
          case round =>
            clear HRa HBa HCa
            obtain ⟨j, rfl, hj, hR, hB, hC7⟩ := hrel
            by_cases hj4 : j < 4
            · have HLk := Lib.hid (HL.out wr j hj4 hR.out.st)
              obtain ⟨l1, l2⟩ := HLL.out j hj4
              rw [l1, l2, ownK_succ] at HLk
              clear l1 l2
              go_wp2_with fail
              refine HLk.out.mono ?_
              rintro e w8 ⟨rfl, hst8, hf8⟩
              have HR8 := Lib.hid (hR.out.fr hf8 hst8)
              have HB8 := Lib.hid (hB.out.trans (hf8.below hB.out.size HGB.out HBM.out))
              have HC8 := Lib.hid (hf8.keep hR.out.st hC7.out (by decide))
              clear hst8 hf8
              go_wp2_with fail
              exact ⟨⟨j + 1, by simp, by omega, HR8.out, HB8.out, HC8.out⟩, by simp [intOf]; omega⟩
            · have hj' : j = 4 := by omega
              rw [hj'] at hR
              have d0 := blk_cell hC7.out 0
              have d3 := blk_cell hC7.out 3
              have d4 := blk_cell hC7.out 4
              have d5 := blk_cell hC7.out 5
              simp only [List.getElem?_toArray, List.getElem?_cons_zero, List.getElem?_cons_succ] at d0 d3 d4 d5
              have hjc : (j : Int) = 4 := by omega
              clear hj' HL HLL
              have hlk := ma_look Tryd.underlying27 zero9 hR.out.mp kb.data.toList
              rw [strV_of, vhas, vlook] at hlk
              have hold : ((mLook M kb.data.toList).map strV).getD (.string ⟨#[]⟩) = .string (mkB ((mLook M kb.data.toList).getD [])) := by cases mLook M kb.data.toList <;> rfl
              rw [hold] at hlk
              have hol : ((mLook M kb.data.toList).getD []).length ≤ 300 := by
                cases hl : mLook M kb.data.toList with
                | none => simp
                | some v => rw [hR.out.si.look] at hl; exact hR.out.si.vlen _ _ hl
              obtain ⟨ob, hob⟩ : ∃ ob, mkB ((mLook M kb.data.toList).getD []) = ob := ⟨_, rfl⟩
              have HOB : Hid (ob.data.toList = (mLook M kb.data.toList).getD []) := by show _ = _; rw [← hob, mkB_data]
              have hoz : ob.size ≤ 300 := by rw [← hob, mkB_size]; exact hol
              obtain ⟨th, hth⟩ : ∃ th, mHas M kb.data.toList = th := ⟨_, rfl⟩
              have HTH := Lib.hid hth
              rw [hob, hth] at hlk
              obtain ⟨tb, htb⟩ : ∃ tb, mkB (tgL tk ((mLook M kb.data.toList).getD [])) = tb := ⟨_, rfl⟩
              have HTB : Hid (tb.data.toList = tgL tk ((mLook M kb.data.toList).getD [])) := by show _ = _; rw [← htb, mkB_data]
              have HTE : Hid (tb.toList.isEmpty = rtB tk false) := by show _ = _; rw [empty_iff, HTB.out, tgL_empty]
              have HTG := Lib.hid (fun wx hgx => tag_any ob (by omega) wx hgx)
              clear hold hol hob hth htb
              go_upto_block 4 with fail
              clear hlk hjc
              go_cut [12] from 67 to 301 (fun v wx => v = .string tb ∧ Hid (Below wr.heap.size wr wx))
              case first =>
                as_aux_lemma =>
                  have HTL := Lib.hid (tgL_len tk ob.data.toList (by rw [data_len]; exact hoz))
                  have HTX : Hid (tb = mkB (tgL tk ob.data.toList)) := by
                    show _ = _
                    apply bytes_ext
                    rw [HTB.out, mkB_data, HOB.out]
                  rcases (by omega : tk = 1 ∨ tk = 2 ∨ tk = 0 ∨ tk = 3) with h0 | h0 | h0
                  · have b1 : ((tk : Int) == 1) = true := by rw [beq_iff_eq]; omega
                    have htb : tagB ob = tb := by rw [HTX.out]; unfold tgL; rw [if_pos h0]; rfl
                    rw [htb] at HTG
                    clear h0 htb
                    go_wp2_with fail
                    refine (HTG.out _ (HG.out _ hB.out)).mono ?_
                    rintro e x1 ⟨rfl, hb1⟩
                    have HX1 := Lib.hid hb1
                    clear hb1
                    go_wp2_with fail
                    go_meet
                    exact ⟨rfl, HX1.out⟩
                  · have b1 : ((tk : Int) == 1) = false := by rw [beq_eq_false_iff_ne]; omega
                    have b2 : ((tk : Int) == 2) = true := by rw [beq_iff_eq]; omega
                    have htb : tagB ob ++ ⟨#[120]⟩ = tb := by
                      rw [HTX.out]
                      apply bytes_ext
                      unfold tgL
                      rw [if_neg (by omega), if_pos h0, app_data, tagB_data, mkB_data]
                    have hadd := add_str (tagB ob) ⟨#[120]⟩ (by
                      have h1 := HTL.out
                      unfold tgL at h1
                      rw [if_neg (by omega), if_pos h0] at h1
                      have h2 : (tagB ob).size = (tagL ob.data.toList).length := mkB_size _
                      simp at h1
                      show (tagB ob).size + 1 ≤ _
                      omega)
                    rw [htb] at hadd
                    clear h0 htb
                    go_wp2_with fail
                    refine (HTG.out _ (HG.out _ hB.out)).mono ?_
                    rintro e x1 ⟨rfl, hb1⟩
                    have HX1 := Lib.hid hb1
                    clear hb1
                    go_wp2_with fail
                    go_meet
                    exact ⟨rfl, HX1.out⟩
                  · have b1 : ((tk : Int) == 1) = false := by rw [beq_eq_false_iff_ne]; omega
                    have b2 : ((tk : Int) == 2) = false := by rw [beq_eq_false_iff_ne]; omega
                    have htb : tb = ⟨#[]⟩ := by
                      rw [HTX.out]; unfold tgL
                      rw [if_neg (by omega), if_neg (by omega)]; rfl
                    have HTBE := Lib.hid htb
                    clear h0 htb
                    go_wp2_with fail
                    go_meet
                    exact ⟨by rw [HTBE.out], Below.refl _ _⟩
              case rest =>
                obtain ⟨rfl, hcb⟩ := hcut
                have HRb := Lib.hid (hR.out.on hcb.out)
                have HBb := Lib.hid (bt hB.out hcb.out)
                have HCb : Hid (wc.heap[q7]? = some (.cells #[.int .i64 kind, .int .i64 owner, .int .i64 sh, .string kb, .string vb, .int .i64 tg] 30 (0, 0))) := (hcb.out.block q7 (blk_lt hC7.out)).trans hC7.out
                clear hcb d0 d3 d4 d5 hR hB hC7
                have d0 := blk_cell HCb.out 0
                have d3 := blk_cell HCb.out 3
                have d4 := blk_cell HCb.out 4
                have d5 := blk_cell HCb.out 5
                simp only [List.getElem?_toArray, List.getElem?_cons_zero, List.getElem?_cons_succ] at d0 d3 d4 d5
                go_upto_region 27 with fail
                obtain ⟨rt, hrt⟩ : ∃ rt, rtB tk th = rt := ⟨_, rfl⟩
                have HRT := Lib.hid hrt
                clear hrt
                go_cut [13] from 67 to 301 (fun v wx => v = .bool rt ∧ wx = wc)
                case first =>
                  as_aux_lemma =>
                    have hte := HTE.out
                    have hrt := HRT.out
                    unfold rtB at hte hrt
                    rcases (by omega : tk = 1 ∨ tk = 2 ∨ tk = 0 ∨ tk = 3) with h0 | h0 | h0
                    · have b1 : ((tk : Int) == 1) = true := by rw [beq_iff_eq]; omega
                      rw [if_pos h0] at hte hrt
                      subst hrt
                      clear h0
                      cases th with
                      | true =>
                        go_wp2_with fail
                        go_meet
                        exact ⟨rfl, rfl⟩
                      | false =>
                        go_wp2_with fail
                        go_meet
                        exact ⟨rfl, rfl⟩
                    · have b1 : ((tk : Int) == 1) = false := by rw [beq_eq_false_iff_ne]; omega
                      rw [if_neg (by omega), if_pos h0] at hte hrt
                      subst hrt
                      clear h0
                      cases th with
                      | true =>
                        go_wp2_with fail
                        go_meet
                        exact ⟨rfl, rfl⟩
                      | false =>
                        go_wp2_with fail
                        go_meet
                        exact ⟨rfl, rfl⟩
                    · rw [if_neg (by omega), if_neg (by omega)] at hte hrt
                      subst hrt
                      clear h0
                      go_wp2_with fail
                      go_meet
                      exact ⟨rfl, rfl⟩
                case rest =>
                  obtain ⟨rfl, hwc⟩ := hcut
                  have hwc2 := hwc.symm
                  subst hwc2
                  clear hwc
                  obtain ⟨t, ht⟩ : ∃ t, kind.tmod 6 = t := ⟨_, rfl⟩
                  obtain ⟨ht1, ht2⟩ := tm6 kind
                  rw [ht] at ht1 ht2
                  obtain ⟨kk, hkk⟩ : ∃ kk : Nat, (t + 6) % 6 = (kk : Int) := ⟨((t + 6) % 6).toNat, by omega⟩
                  have hk6 : kk < 6 := by omega
                  go_upto_block 5 with fail
                  clear ht ht1 ht2
                  go_cut [14, 15, 16, 17, 18, 19, 20, 21, 22, 23, 24, 25, 26, 27, 28] from 67 to 301 (fun _ _ _ _ _ _ _ _ _ _ _ _ _ _ _ wx => ∃ (m : Nat → Txs) (M : Txs), Hid (RS wx G bm C bs (ownK 7 4) m M) ∧ Hid (Below w.heap.size w wx))
                  case first =>
                    rcases (by omega : kk = 3 ∨ kk = 4 ∨ kk = 5 ∨ kk < 3) with h0 | h0 | h0 | h0
                    · as_aux_lemma =>
                        have b0 : ((kk : Int) == 3) = true := by rw [beq_iff_eq]; omega
                        have hee : (ob.toList == ob.toList) = true := by simp
                        have hne : (ob.toList != ob.toList) = false := by simp
                        have HRI := Lib.hid (fun wx => right_any kb wx)
                        have hgt := si_get HRb.out.si kb.data.toList
                        rw [← HOB.out, HTH.out] at hgt
                        have HGT := Lib.hid (get_any G bs (ownK 7 4) m 7 kb wc HRb.out.st)
                        rw [hgt] at HGT
                        cases hr : rightL kb.data.toList with
                        | true =>
                          rw [hr] at HGT HRI
                          cases th with
                          | true =>
                            simp only [strV_of, if_true] at HGT
                            clear hr hgt
                            go_wp2_with fail
                            refine HGT.out.mono ?_
                            rintro e x1 ⟨rfl, hb1⟩
                            have HX1 := Lib.hid hb1
                            have HC1 : Hid (x1.heap[q7]? = some (.cells #[.int .i64 kind, .int .i64 owner, .int .i64 sh, .string kb, .string vb, .int .i64 tg] 30 (0, 0))) := (hb1.block q7 (blk_lt HCb.out)).trans HCb.out
                            clear hb1
                            have f3 := blk_cell HC1.out 3
                            simp only [List.getElem?_toArray, List.getElem?_cons_zero, List.getElem?_cons_succ] at f3
                            go_wp2_with fail
                            refine (HRI.out _).mono ?_
                            rintro e x2 ⟨rfl, rfl⟩
                            go_wp2_with fail
                            go_meet
                            exact ⟨m, M, HRb.out.on HX1.out, bt HBb.out HX1.out⟩
                          | false =>
                            simp only [strV_of, if_true, Bool.false_eq_true, if_false] at HGT
                            clear hr hgt
                            go_wp2_with fail
                            refine HGT.out.mono ?_
                            rintro e x1 ⟨rfl, hb1⟩
                            have HX1 := Lib.hid hb1
                            have HC1 : Hid (x1.heap[q7]? = some (.cells #[.int .i64 kind, .int .i64 owner, .int .i64 sh, .string kb, .string vb, .int .i64 tg] 30 (0, 0))) := (hb1.block q7 (blk_lt HCb.out)).trans HCb.out
                            clear hb1
                            have f3 := blk_cell HC1.out 3
                            simp only [List.getElem?_toArray, List.getElem?_cons_zero, List.getElem?_cons_succ] at f3
                            go_wp2_with fail
                            refine (HRI.out _).mono ?_
                            rintro e x2 ⟨rfl, rfl⟩
                            go_wp2_with fail
                            go_meet
                            exact ⟨m, M, HRb.out.on HX1.out, bt HBb.out HX1.out⟩
                        | false =>
                          rw [hr] at HGT HRI
                          have htf := si_hasR HRb.out.si hr
                          rw [HTH.out] at htf
                          subst htf
                          simp only [strV_of, Bool.false_eq_true, if_false] at HGT
                          clear hr hgt
                          go_wp2_with fail
                          refine HGT.out.mono ?_
                          rintro e x1 ⟨rfl, hb1⟩
                          have HX1 := Lib.hid hb1
                          have HC1 : Hid (x1.heap[q7]? = some (.cells #[.int .i64 kind, .int .i64 owner, .int .i64 sh, .string kb, .string vb, .int .i64 tg] 30 (0, 0))) := (hb1.block q7 (blk_lt HCb.out)).trans HCb.out
                          clear hb1
                          have f3 := blk_cell HC1.out 3
                          simp only [List.getElem?_toArray, List.getElem?_cons_zero, List.getElem?_cons_succ] at f3
                          go_wp2_with fail
                          refine (HRI.out _).mono ?_
                          rintro e x2 ⟨rfl, rfl⟩
                          go_wp2_with fail
                          go_meet
                          exact ⟨m, M, HRb.out.on HX1.out, bt HBb.out HX1.out⟩
                    · as_aux_lemma =>
                        have b0 : ((kk : Int) == 3) = false := by rw [beq_eq_false_iff_ne]; omega
                        have b1 : ((kk : Int) == 4) = true := by rw [beq_iff_eq]; omega
                        have HRI := Lib.hid (fun wx => right_any kb wx)
                        have HD := Lib.hid (fun wx (hs : StAt wx G bs (ownK 7 4) m) hgx => del_any G bs (ownK 7 4) m 7 kb tb wx hs hgx (fun v hv => by have := HRb.out.si.vlen _ _ hv; omega))
                        rw [HTB.out] at HD
                        cases hr : rightL kb.data.toList with
                        | false =>
                          rw [hr] at HRI
                          obtain ⟨y1, y2⟩ := si_del8 HRb.out.si (tgL tk ((mLook M kb.data.toList).getD [])) hr
                          rw [y1, y2] at HD
                          clear y1 y2
                          clear hr
                          go_wp2_with fail
                          refine (HRI.out _).mono ?_
                          rintro e x1 ⟨rfl, rfl⟩
                          go_wp2_with fail
                          refine (HD.out _ HRb.out.st (HG.out _ HBb.out)).mono ?_
                          rintro e x2 ⟨rfl, hs2, hf2⟩
                          have HR2 := Lib.hid (HRb.out.fr hf2 hs2)
                          have HB2 := Lib.hid (HBb.out.trans (hf2.below HBb.out.size HGB.out HBM.out))
                          clear hs2 hf2
                          go_wp2_with fail
                          go_meet
                          exact ⟨m, M, HR2.out, HB2.out⟩
                        | true =>
                          rw [hr] at HRI
                          cases th with
                          | false =>
                            obtain ⟨y1, y2⟩ := si_del5 HRb.out.si (tgL tk ((mLook M kb.data.toList).getD [])) hr HTH.out
                            rw [y1, y2] at HD
                            clear y1 y2
                            clear hr
                            go_wp2_with fail
                            refine (HRI.out _).mono ?_
                            rintro e x1 ⟨rfl, rfl⟩
                            go_wp2_with fail
                            refine (HD.out _ HRb.out.st (HG.out _ HBb.out)).mono ?_
                            rintro e x2 ⟨rfl, hs2, hf2⟩
                            have HR2 := Lib.hid (HRb.out.fr hf2 hs2)
                            have HB2 := Lib.hid (HBb.out.trans (hf2.below HBb.out.size HGB.out HBM.out))
                            clear hs2 hf2
                            go_wp2_with fail
                            go_meet
                            exact ⟨m, M, HR2.out, HB2.out⟩
                          | true =>
                            cases rt with
                            | false =>
                              obtain ⟨y1, y2⟩ := si_del6 HRb.out.si hr HTH.out HRT.out
                              rw [y1, y2] at HD
                              clear y1 y2
                              clear hr
                              go_wp2_with fail
                              refine (HRI.out _).mono ?_
                              rintro e x1 ⟨rfl, rfl⟩
                              go_wp2_with fail
                              refine (HD.out _ HRb.out.st (HG.out _ HBb.out)).mono ?_
                              rintro e x2 ⟨rfl, hs2, hf2⟩
                              have HR2 := Lib.hid (HRb.out.fr hf2 hs2)
                              have HB2 := Lib.hid (HBb.out.trans (hf2.below HBb.out.size HGB.out HBM.out))
                              clear hs2 hf2
                              go_wp2_with fail
                              go_meet
                              exact ⟨m, M, HR2.out, HB2.out⟩
                            | true =>
                              obtain ⟨y1, y2⟩ := si_del0 HRb.out.si hr HTH.out HRT.out
                              rw [y1, y2, HSS.out] at HD
                              have hsi := HRb.out.si.del kb.data.toList
                              rw [HSS.out] at hsi
                              have HSI := Lib.hid hsi
                              have hmh := HRb.out.si.has kb.data.toList
                              rw [HTH.out, HSS.out] at hmh
                              have hld := len_del (HRb.out.si.nd s hs4) hmh.symm
                              have hl8 := HRb.out.si.len s hs4
                              obtain ⟨l1, hl1⟩ : ∃ l1, (mDel (m s) kb.data.toList).length = l1 := ⟨_, rfl⟩
                              rw [hl1] at hld
                              have HL1 := Lib.hid hl1
                              have hnm := HRb.out.nm
                              obtain ⟨W8, hrun, hs8, hm8, hn8, hb8, hot8⟩ := del_map HRb.out.st HRb.out.mp HRb.out.nm HRb.out.neG HRb.out.neC HRb.out.ne kb
                              have hqb := HRb.out.qC HCb.out
                              have HC8 : Hid (W8.heap[q7]? = some (.cells #[.int .i64 kind, .int .i64 owner, .int .i64 sh, .string kb, .string vb, .int .i64 tg] 30 (0, 0))) := (hot8 q7 hqb.2).trans HCb.out
                              obtain ⟨c1, c2⟩ := hn8.at s hs4
                              simp only [← hld] at c1
                              have hcast : ((l1 + 1 : Nat) : Int) = (l1 : Int) + 1 := rfl
                              rw [hcast] at c1
                              have hl1b : l1 ≤ 7 := by omega
                              have hsub : (l1 : Int) + 1 - 1 = (l1 : Int) := by omega
                              obtain ⟨hs9, hm9, hn9⟩ := cnt_set hs8 hm8 hn8 HRb.out.neC s hs4 l1
                              have HS9 := Lib.hid hs9
                              have HM9 := Lib.hid hm9
                              have HN9 := Lib.hid hn9
                              have HB9 := Lib.hid ((HBb.out.trans (hb8 w.heap.size HPM.out)).setCell (p := ⟨C, s, none⟩) HPC.out (.int .i64 (l1 : Int)))
                              have HC9 : Hid ((W8.setCell ⟨C, s, none⟩ (.int .i64 (l1 : Int))).heap[q7]? = some (.cells #[.int .i64 kind, .int .i64 owner, .int .i64 sh, .string kb, .string vb, .int .i64 tg] 30 (0, 0))) := (set_oth W8 _ _ q7 hqb.1).trans HC8.out
                              have f3 := blk_cell HC9.out 3
                              simp only [List.getElem?_toArray, List.getElem?_cons_zero, List.getElem?_cons_succ] at f3
                              clear hr y1 y2 hsi hmh hld hl8 hl1 hnm hs8 hm8 hn8 hb8 hot8 hqb hcast hs9 hm9 hn9
                              go_wp2_with fail
                              refine (HRI.out _).mono ?_
                              rintro e x1 ⟨rfl, rfl⟩
                              go_wp2_with fail
                              refine (HD.out _ HS9.out (HG.out _ HB9.out)).mono ?_
                              rintro e x2 ⟨rfl, hs2, hf2⟩
                              have HR2 := Lib.hid (RS.fin HS9.out HM9.out HN9.out (cnt_fun m s _ _ HL1.out) HSI.out HRb.out.neG HRb.out.ne hf2 hs2)
                              have HB2 := Lib.hid (HB9.out.trans (hf2.below HB9.out.size HGB.out HBM.out))
                              clear hs2 hf2
                              go_wp2_with fail
                              go_meet
                              exact ⟨_, _, HR2.out, HB2.out⟩
                    · as_aux_lemma =>
                        have b0 : ((kk : Int) == 3) = false := by rw [beq_eq_false_iff_ne]; omega
                        have b1 : ((kk : Int) == 4) = false := by rw [beq_eq_false_iff_ne]; omega
                        have b2 : ((kk : Int) == 5) = true := by rw [beq_iff_eq]; omega
                        have hkl : ∀ i, i < 4 → (m i).length ≤ 1000 := fun i hi => by have := HRb.out.si.len i hi; omega
                        have HLO := Lib.hid (list_ok G bs (ownK 7 4) m 7 kb wc HRb.out.st (held_own (by decide)) hkl (fun i hi q hq => by have h1 := (HRb.out.si.right i hi q hq).1; unfold rightL at h1; simp at h1; omega) (by omega))
                        clear hkl
                        go_wp2_with fail
                        refine HLO.out.mono ?_
                        rintro e w9 ⟨L, AL, cL, rfl, ⟨ks, hks, hL⟩, hrdL, hb9⟩
                        have HLT := Lib.hid (HRb.out.si.listed hks hL)
                        have HB9 := Lib.hid (bt HBb.out hb9)
                        have HR9 := Lib.hid (HRb.out.on hb9)
                        have HRS := Lib.hid (fun wx (hb : Below w9.heap.size w9 wx) => HR9.out.on hb)
                        have HC9 : Hid (w9.heap[q7]? = some (.cells #[.int .i64 kind, .int .i64 owner, .int .i64 sh, .string kb, .string vb, .int .i64 tg] 30 (0, 0))) := (hb9.block q7 (blk_lt HCb.out)).trans HCb.out
                        have hbmR := HR9.out.mp.lt
                        have hqR := blk_lt HC9.out
                        have HRL := Lib.hid hrdL
                        obtain ⟨W10, hrng, hit, hsz10, hbl10⟩ := it_new HR9.out.mp Tryd.underlying27
                        have HIT := Lib.hid hit
                        have HC0 := Lib.hid (CI.start (p := kb.data.toList) HRb.out.si.ndM)
                        have HB10 := Lib.hid hbl10
                        have hML : M.length ≤ 32 := HRb.out.si.lenM
                        have hLl : L.length ≤ 32 := by
                          have h1 := HLT.out.len
                          have h2 := List.length_filter_le (preL kb.data.toList) (mKeys M)
                          have h3 : (mKeys M).length = M.length := by unfold mKeys; simp
                          omega
                        have HRM := Lib.hid (fun q (hq : q ∈ M) => HRb.out.si.rightM hq)
                        clear HLO hks hL hrdL hb9 hit hbl10 hsz10
                        obtain ⟨R, hR⟩ : ∃ R, w9.heap.size = R := ⟨_, rfl⟩
                        rw [hR] at hrng HIT HB10 HRL hbmR hqR HRS
                        have HRR : Hid (w.heap.size ≤ R) := by show _ ≤ _; rw [← hR]; exact HB9.out.size
                        have HRz : Hid (R ≤ w9.heap.size) := by show _ ≤ _; omega
                        clear hR
                        go_wp2_with fail
                        go_loopw [20] (fun n wx => ∃ (cnt : Nat) (left : Txs), n = .int .i64 cnt ∧ Hid (IT wx bm R (vMap strV M) (vMap strV left)) ∧ Hid (CI M kb.data.toList left cnt) ∧ Hid (Below R w9 wx)) (fun _ wx => wx.rangeLeft bm R)
                        case atStart => exact ⟨0, M, rfl, HIT.out, HC0.out, HB10.out⟩
                        case round =>
                          obtain ⟨cnt, left, rfl, hI, hC, hB11⟩ := hrel
                          have HM0 : Hid (wr.rangeLeft bm R = left.length) := by show _ = _; have := hI.out.left_eq; rwa [vlen] at this
                          have HRn : Hid (R ≤ wr.heap.size) := Nat.le_trans HRz.out hB11.out.size
                          rcases it_next hI.out 0 with ⟨hl0, hnx⟩ | ⟨q, hq, W2, hnx, hit2, hen, hsz2, hbl2, hot2⟩
                          · have hl1 : left = [] := by
                              cases left with
                              | nil => rfl
                              | cons x l => simp [vMap] at hl0
                            subst hl1
                            have hcd := hC.out.done
                            have hll : ((L.length : Int) != (cnt : Int)) = false := by
                              have h1 := HLT.out.len
                              rw [← hcd] at h1
                              rw [h1]; simp
                            have HRW := Lib.hid (HRS.out wr hB11.out)
                            have HDW := Lib.hid (HRL.out.below hB11.out (Nat.le_refl _))
                            have HBW : Hid (Below w.heap.size w wr) := HB9.out.trans (hB11.out.mono HRR.out)
                            have HCW : Hid (wr.heap[q7]? = some (.cells #[.int .i64 kind, .int .i64 owner, .int .i64 sh, .string kb, .string vb, .int .i64 tg] 30 (0, 0))) := (hB11.out.block q7 hqR).trans HC9.out
                            clear hl0 hI hC hcd hbmR hqR
                            go_wp2_with fail
                            go_loopw [246] (fun i wx => ∃ j : Nat, i = .int .i64 j ∧ j ≤ L.length ∧ Hid (RS wx G bm C bs (ownK 7 4) m M) ∧ Hid (Rd wx R 1 AL L.length (L.map strV)) ∧ Hid (Below w.heap.size w wx) ∧ Hid (wx.heap[q7]? = some (.cells #[.int .i64 kind, .int .i64 owner, .int .i64 sh, .string kb, .string vb, .int .i64 tg] 30 (0, 0))) ∧ R ≤ wx.heap.size) (fun i _ => L.length - (intOf i).toNat)
                            case atStart => exact ⟨0, rfl, by omega, HRW.out, HDW.out, HBW.out, HCW.out, HRn.out⟩
                            case round =>
                              clear HRW HDW HBW HCW HRn hnx
                              obtain ⟨j, rfl, hj, hR2, hRd, hB2, hC2, hRs⟩ := hrel
                              by_cases hjl : j < L.length
                              · obtain ⟨x, hx⟩ : ∃ x, L[j]? = some x := ⟨L[j], List.getElem?_eq_getElem hjl⟩
                                obtain ⟨a2, rfl, _, hcx⟩ := hRd.out.at hjl (strV x) (by rw [List.getElem?_map, hx]; rfl)
                                obtain ⟨hm, hpx⟩ := HLT.out.mem x (List.mem_of_getElem? hx)
                                have hlk := ma_look Tryd.underlying27 zero9 hR2.out.mp x
                                rw [vhas, vlook, hm] at hlk
                                obtain ⟨vv, hvv⟩ : ∃ vv, ((mLook M x).map strV).getD (.string ⟨#[]⟩) = vv := ⟨_, rfl⟩
                                rw [hvv] at hlk
                                have hpl : kb.size ≤ (mkB x).size := by
                                  unfold preL at hpx
                                  rw [data_len] at hpx
                                  simp at hpx
                                  rw [mkB_size]; exact hpx.1
                                have hxe : (((mkB x).extract 0 kb.size).toList == kb.toList) = true := by
                                  rw [← hpx]
                                  unfold preL
                                  rw [data_len, decide_eq_true (by rw [← mkB_size]; exact hpl), Bool.true_and, Lib.toList_data, Lib.toList_data, ext_data, mkB_data]
                                  simp
                                have hxn : (((mkB x).extract 0 kb.size).toList != kb.toList) = false := by
                                  unfold bne; rw [hxe]; rfl
                                have hmin : min (kb.size : Int) ((mkB x).size : Int) = (kb.size : Int) := by omega
                                have g1 : decide (((mkB x).size : Int) < (kb.size : Int)) = false := by simp; omega
                                have g2 : decide ((mkB x).size < kb.size) = false := by simp; omega
                                unfold strV at hcx hlk
                                have f3 := fun q => blk_cell (((drewN_below wr q).block q7 (blk_lt hC2.out)).trans hC2.out) 3
                                simp only [List.getElem?_toArray, List.getElem?_cons_zero, List.getElem?_cons_succ] at f3
                                have hprev : ∀ j', j = j' + 1 → ∃ y, (∀ q, (wr.drewN q).cell? (a2.add j') = some (.string (mkB y))) ∧ Go.Op.bytesLess (mkB y).toList (mkB x).toList = true := by
                                  intro j' hjj
                                  subst hjj
                                  have hy : L[j']? = some L[j'] := List.getElem?_eq_getElem (by omega)
                                  refine ⟨L[j'], fun q => ?_, ?_⟩
                                  · obtain ⟨a3, e3, _, hcy⟩ := (hRd.out.below (drewN_below wr q) hRs).at (i := j') (by omega) (strV L[j']) (by rw [List.getElem?_map, hy]; rfl)
                                    cases e3
                                    exact hcy
                                  · have h1 := HLT.out.rise j' hjl
                                    rw [List.getElem?_eq_getElem hjl] at hx
                                    injection hx with hx
                                    rw [hx] at h1
                                    rw [Lib.toList_data, Lib.toList_data, mkB_data, mkB_data, less_eq]
                                    exact h1
                                clear hm hpx hx hvv
                                rcases Nat.eq_zero_or_pos j with h0 | h0
                                · have hd1 : decide ((0 : Int) < (j : Int)) = false := by simp; omega
                                  have hd2 : decide (0 < j) = false := by simp; omega
                                  clear hprev h0
                                  go_wp2_with fail
                                  go_quiet (fail)
                                  go_wp2_with fail
                                  exact ⟨⟨j + 1, by simp, by omega, hR2.out.on (drewN_below _ _), hRd.out.below (drewN_below _ _) hRs, bt hB2.out (drewN_below _ _), ((drewN_below _ _).block q7 (blk_lt hC2.out)).trans hC2.out, Nat.le_trans hRs (drewN_below _ _).size⟩, by simp [intOf]; omega⟩
                                · obtain ⟨y, hcy, hly⟩ := hprev (j - 1) (by omega)
                                  have hd1 : decide ((0 : Int) < (j : Int)) = true := by simp; omega
                                  have hd2 : decide (0 < j) = true := by simp; omega
                                  have h1j : (1 : Int) ≤ (j : Int) := by omega
                                  clear hprev h0
                                  go_wp2_with fail
                                  go_quiet (fail)
                                  go_wp2_with fail
                                  exact ⟨⟨j + 1, by simp, by omega, hR2.out.on (drewN_below _ _), hRd.out.below (drewN_below _ _) hRs, bt hB2.out (drewN_below _ _), ((drewN_below _ _).block q7 (blk_lt hC2.out)).trans hC2.out, Nat.le_trans hRs (drewN_below _ _).size⟩, by simp [intOf]; omega⟩
                              · have hjL : (j : Int) = (L.length : Nat) := by omega
                                go_wp2_with fail
                                go_meet
                                exact ⟨m, M, hR2.out, hB2.out⟩
                          · obtain ⟨qk, hqk⟩ : ∃ qk, q.1 = qk := ⟨_, rfl⟩
                            obtain ⟨x, hx, hv⟩ := vmemF hq
                            have hcl := hC.out.le
                            have hrt := HRM.out _ (hC.out.sub hx)
                            rw [vdel] at hit2
                            have hlen : (mDel left q.1).length < left.length := by
                              have := len_del hC.out.nd (k := q.1) (has_iff.2 (List.mem_map.2 ⟨_, hx, rfl⟩))
                              omega
                            have HCT : Hid (CI M kb.data.toList (mDel left q.1) (cnt + if preL kb.data.toList q.1 then 1 else 0)) := hC.out.take hx
                            have hR2s : R ≤ W2.heap.size := by rw [hsz2]; exact HRn.out
                            have HB2 := Lib.hid (fun n => (hB11.out.trans (hbl2 R (Nat.le_refl _))).trans ((drewN_below W2 n).mono hR2s))
                            have HM2 := Lib.hid (fun n => show (W2.drewN n).rangeLeft bm R = (mDel left q.1).length from by have := (hit2.on (drewN_below W2 n)).left_eq; rwa [vlen] at this)
                            have HI2 := Lib.hid (fun n => hit2.on (drewN_below W2 n))
                            have hC2 : W2.heap[q7]? = some (.cells #[.int .i64 kind, .int .i64 owner, .int .i64 sh, .string kb, .string vb, .int .i64 tg] 30 (0, 0)) := (hot2 q7 (by omega)).trans ((hB11.out.block q7 hqR).trans HC9.out)
                            have f3 := fun n => blk_cell (((drewN_below W2 n).block q7 (blk_lt hC2)).trans hC2) 3
                            simp only [List.getElem?_toArray, List.getElem?_cons_zero, List.getElem?_cons_succ] at f3
                            rw [hv] at hnx hen
                            unfold strV at hnx hen
                            simp only at hrt
                            rw [hqk] at hnx hen hlen HCT HM2 HI2 hrt
                            have hks : (mkB qk).size ≤ 40 := by
                              rw [mkB_size]
                              unfold rightL at hrt
                              simp at hrt
                              omega
                            clear hsz2 hit2 hbl2 hot2 hI hC hqk hv hx hq hrt hC2 hR2s hB11
                            by_cases hpl : kb.size ≤ (mkB qk).size
                            · have hx : (((mkB qk).extract 0 kb.size).toList == kb.toList) = preL kb.data.toList qk := by
                                unfold preL
                                rw [data_len, decide_eq_true (by rw [← mkB_size]; exact hpl), Bool.true_and, Lib.toList_data, Lib.toList_data, ext_data, mkB_data]
                                simp
                              have g1 : decide ((kb.size : Int) ≤ ((mkB qk).size : Int)) = true := by simp; omega
                              have g2 : decide (kb.size ≤ (mkB qk).size) = true := by simp; omega
                              have hmin : min (kb.size : Int) ((mkB qk).size : Int) = (kb.size : Int) := by omega
                              cases hpr : preL kb.data.toList qk with
                              | true =>
                                rw [hpr] at hx HCT
                                clear hpr
                                go_wp2_with fail
                                go_quiet (fail)
                                go_wp2_with fail
                                exact ⟨⟨cnt + 1, _, by simp, HI2.out _, HCT.out, HB2.out _⟩, by rw [HM2.out, HM0.out]; exact hlen⟩
                              | false =>
                                rw [hpr] at hx HCT
                                clear hpr
                                go_wp2_with fail
                                go_quiet (fail)
                                go_wp2_with fail
                                exact ⟨⟨cnt, _, by simp, HI2.out _, HCT.out, HB2.out _⟩, by rw [HM2.out, HM0.out]; exact hlen⟩
                            · have hpr : preL kb.data.toList qk = false := by
                                unfold preL
                                rw [data_len, decide_eq_false (by rw [← mkB_size]; exact hpl), Bool.false_and]
                              rw [hpr] at HCT
                              have g1 : decide ((kb.size : Int) ≤ ((mkB qk).size : Int)) = false := by simp; omega
                              have g2 : decide (kb.size ≤ (mkB qk).size) = false := by simp; omega
                              clear hpr
                              go_wp2_with fail
                              go_quiet (fail)
                              go_wp2_with fail
                              exact ⟨⟨cnt, _, by simp, HI2.out _, HCT.out, HB2.out _⟩, by rw [HM2.out, HM0.out]; exact hlen⟩
                    · as_aux_lemma =>
                        have b0 : ((kk : Int) == 3) = false := by rw [beq_eq_false_iff_ne]; omega
                        have b1 : ((kk : Int) == 4) = false := by rw [beq_eq_false_iff_ne]; omega
                        have b2 : ((kk : Int) == 5) = false := by rw [beq_eq_false_iff_ne]; omega
                        have HRI := Lib.hid (fun wx => right_any kb wx)
                        have HP := Lib.hid (fun wx (hs : StAt wx G bs (ownK 7 4) m) hgx => put_any G bs (ownK 7 4) m 7 kb vb tb wx hs hgx (fun v hv => by have := HRb.out.si.vlen _ _ hv; omega) (by have := HRb.out.si.len _ (shard_lt kb.data.toList); omega))
                        rw [HTB.out] at HP
                        cases hr : rightL kb.data.toList with
                        | false =>
                          rw [hr] at HRI
                          have htf := si_hasR HRb.out.si hr
                          rw [HTH.out] at htf
                          subst htf
                          obtain ⟨y1, y2, y3⟩ := si_put8 HRb.out.si vb.data.toList (tgL tk ((mLook M kb.data.toList).getD [])) hr
                          rw [y1, y2, y3] at HP
                          clear y1 y2 y3 hr
                          go_wp2_with fail
                          refine (HRI.out _).mono ?_
                          rintro e x1 ⟨rfl, rfl⟩
                          go_wp2_with fail
                          refine (HP.out _ HRb.out.st (HG.out _ HBb.out)).mono ?_
                          rintro e x2 ⟨rfl, hs2, hf2⟩
                          have HR2 := Lib.hid (HRb.out.fr hf2 hs2)
                          have HB2 := Lib.hid (HBb.out.trans (hf2.below HBb.out.size HGB.out HBM.out))
                          clear hs2 hf2
                          go_wp2_with fail
                          go_meet
                          exact ⟨m, M, HR2.out, HB2.out⟩
                        | true =>
                          rw [hr] at HRI
                          have hsi := fun hx => HRb.out.si.put (v := vb.data.toList) hr (by rw [data_len]; exact hvz) hx
                          rw [HSS.out] at hsi
                          have hmh := HRb.out.si.has kb.data.toList
                          rw [HTH.out, HSS.out] at hmh
                          have hl8 := HRb.out.si.len s hs4
                          obtain ⟨ln, hln⟩ : ∃ ln, (m s).length = ln := ⟨_, rfl⟩
                          cases rt with
                          | false =>
                            obtain ⟨y1, y2, y3⟩ := si_put6 HRb.out.si vb.data.toList (tk := tk) hr (by rw [HTH.out]; exact HRT.out)
                            rw [y1, y2, y3] at HP
                            clear y1 y2 y3 hr hsi hmh hl8 hln
                            cases th with
                            | true =>
                              go_wp2_with fail
                              refine (HRI.out _).mono ?_
                              rintro e x1 ⟨rfl, rfl⟩
                              go_wp2_with fail
                              refine (HP.out _ HRb.out.st (HG.out _ HBb.out)).mono ?_
                              rintro e x2 ⟨rfl, hs2, hf2⟩
                              have HR2 := Lib.hid (HRb.out.fr hf2 hs2)
                              have HB2 := Lib.hid (HBb.out.trans (hf2.below HBb.out.size HGB.out HBM.out))
                              clear hs2 hf2
                              go_wp2_with fail
                              go_meet
                              exact ⟨m, M, HR2.out, HB2.out⟩
                            | false =>
                              go_wp2_with fail
                              refine (HRI.out _).mono ?_
                              rintro e x1 ⟨rfl, rfl⟩
                              go_wp2_with fail
                              refine (HP.out _ HRb.out.st (HG.out _ HBb.out)).mono ?_
                              rintro e x2 ⟨rfl, hs2, hf2⟩
                              have HR2 := Lib.hid (HRb.out.fr hf2 hs2)
                              have HB2 := Lib.hid (HBb.out.trans (hf2.below HBb.out.size HGB.out HBM.out))
                              clear hs2 hf2
                              go_wp2_with fail
                              go_meet
                              exact ⟨m, M, HR2.out, HB2.out⟩
                          | true =>
                            cases th with
                            | true =>
                              obtain ⟨y1, y2, y3⟩ := si_putT HRb.out.si vb.data.toList hr HTH.out HRT.out
                              rw [y1, y2, y3, HSS.out] at HP
                              have HSI := Lib.hid (hsi (.inl hmh.symm))
                              have hlp : (mPut (m s) kb.data.toList vb.data.toList).length = (m s).length := by rw [len_put, ← hmh]; rfl
                              have HFE := Lib.hid (cnt_same m s _ hlp)
                              obtain ⟨W8, hrun, hs9, hm9, hn9, hb8, hot8⟩ := put_map HRb.out.st HRb.out.mp HRb.out.nm HRb.out.neG HRb.out.neC HRb.out.ne kb vb
                              have hqb := HRb.out.qC HCb.out
                              have HC9 : Hid (W8.heap[q7]? = some (.cells #[.int .i64 kind, .int .i64 owner, .int .i64 sh, .string kb, .string vb, .int .i64 tg] 30 (0, 0))) := (hot8 q7 hqb.2).trans HCb.out
                              have HB9 := Lib.hid (HBb.out.trans (hb8 w.heap.size HPM.out))
                              have HS9 := Lib.hid hs9
                              have HM9 := Lib.hid hm9
                              have HN9 := Lib.hid hn9
                              have f3 := blk_cell HC9.out 3
                              have f4 := blk_cell HC9.out 4
                              simp only [List.getElem?_toArray, List.getElem?_cons_zero, List.getElem?_cons_succ] at f3 f4
                              clear hr y1 y2 y3 hsi hmh hl8 hln hlp hs9 hm9 hn9 hb8 hot8 hqb
                              go_wp2_with fail
                              refine (HRI.out _).mono ?_
                              rintro e x1 ⟨rfl, rfl⟩
                              go_wp2_with fail
                              refine (HP.out _ HS9.out (HG.out _ HB9.out)).mono ?_
                              rintro e x2 ⟨rfl, hs2, hf2⟩
                              have HR2 := Lib.hid (RS.fin HS9.out HM9.out HN9.out HFE.out HSI.out HRb.out.neG HRb.out.ne hf2 hs2)
                              have HB2 := Lib.hid (HB9.out.trans (hf2.below HB9.out.size HGB.out HBM.out))
                              clear hs2 hf2
                              go_wp2_with fail
                              go_meet
                              exact ⟨_, _, HR2.out, HB2.out⟩
                            | false =>
                              obtain ⟨c1, c2⟩ := HRb.out.nm.at s hs4
                              simp only [hln] at c1
                              have hlp : (mPut (m s) kb.data.toList vb.data.toList).length = ln + 1 := by rw [len_put, ← hmh, hln]; rfl
                              by_cases h8 : ln = 8
                              · obtain ⟨y1, y2, y3⟩ := si_put4 HRb.out.si vb.data.toList hr HTH.out HRT.out (by rw [HSS.out, hln]; exact h8)
                                rw [y1, y2, y3] at HP
                                have b8 : ((ln : Int) == 8) = true := by rw [beq_iff_eq]; omega
                                clear hr y1 y2 y3 hsi hmh hl8 hln hlp h8
                                go_wp2_with fail
                                refine (HRI.out _).mono ?_
                                rintro e x1 ⟨rfl, rfl⟩
                                go_wp2_with fail
                                refine (HP.out _ HRb.out.st (HG.out _ HBb.out)).mono ?_
                                rintro e x2 ⟨rfl, hs2, hf2⟩
                                have HR2 := Lib.hid (HRb.out.fr hf2 hs2)
                                have HB2 := Lib.hid (HBb.out.trans (hf2.below HBb.out.size HGB.out HBM.out))
                                clear hs2 hf2
                                go_wp2_with fail
                                go_meet
                                exact ⟨m, M, HR2.out, HB2.out⟩
                              · have h8' : ln < 8 := by omega
                                obtain ⟨y1, y2, y3⟩ := si_putF HRb.out.si vb.data.toList hr HTH.out HRT.out (by rw [HSS.out, hln]; exact h8')
                                rw [y1, y2, y3, HSS.out] at HP
                                have b8 : ((ln : Int) == 8) = false := by rw [beq_eq_false_iff_ne]; omega
                                have HSI := Lib.hid (hsi (.inr (by omega)))
                                have HFE := Lib.hid (cnt_fun m s _ _ hlp)
                                obtain ⟨hs7, hm7, hn7⟩ := cnt_set HRb.out.st HRb.out.mp HRb.out.nm HRb.out.neC s hs4 (ln + 1)
                                have hqb := HRb.out.qC HCb.out
                                have hb7 := HBb.out.setCell (p := ⟨C, s, none⟩) HPC.out (.int .i64 ((ln + 1 : Nat) : Int))
                                have hC7' : (wc.setCell ⟨C, s, none⟩ (.int .i64 ((ln + 1 : Nat) : Int))).heap[q7]? = some (.cells #[.int .i64 kind, .int .i64 owner, .int .i64 sh, .string kb, .string vb, .int .i64 tg] 30 (0, 0)) := (set_oth wc _ _ q7 hqb.1).trans HCb.out
                                obtain ⟨W8, hrun, hs9, hm9, hn9, hb8, hot8⟩ := put_map hs7 hm7 hn7 HRb.out.neG HRb.out.neC HRb.out.ne kb vb
                                have HC9 : Hid (W8.heap[q7]? = some (.cells #[.int .i64 kind, .int .i64 owner, .int .i64 sh, .string kb, .string vb, .int .i64 tg] 30 (0, 0))) := (hot8 q7 hqb.2).trans hC7'
                                have HB9 := Lib.hid (hb7.trans (hb8 w.heap.size HPM.out))
                                have hcast : ((ln + 1 : Nat) : Int) = (ln : Int) + 1 := rfl
                                rw [hcast] at hrun hC7'
                                have g3 := blk_cell hC7' 3
                                have g4 := blk_cell hC7' 4
                                simp only [List.getElem?_toArray, List.getElem?_cons_zero, List.getElem?_cons_succ] at g3 g4
                                have HS9 := Lib.hid hs9
                                have HM9 := Lib.hid hm9
                                have HN9 := Lib.hid hn9
                                have f3 := blk_cell HC9.out 3
                                have f4 := blk_cell HC9.out 4
                                simp only [List.getElem?_toArray, List.getElem?_cons_zero, List.getElem?_cons_succ] at f3 f4
                                clear hr y1 y2 y3 hsi hmh hl8 hln hlp hs9 hm9 hn9 hb8 hot8 hqb hs7 hm7 hn7 hb7 hC7' hcast h8
                                go_wp2_with fail
                                refine (HRI.out _).mono ?_
                                rintro e x1 ⟨rfl, rfl⟩
                                go_wp2_with fail
                                refine (HP.out _ HS9.out (HG.out _ HB9.out)).mono ?_
                                rintro e x2 ⟨rfl, hs2, hf2⟩
                                have HR2 := Lib.hid (RS.fin HS9.out HM9.out HN9.out HFE.out HSI.out HRb.out.neG HRb.out.ne hf2 hs2)
                                have HB2 := Lib.hid (HB9.out.trans (hf2.below HB9.out.size HGB.out HBM.out))
                                clear hs2 hf2
                                go_wp2_with fail
                                go_meet
                                exact ⟨_, _, HR2.out, HB2.out⟩
                  case rest =>
                    as_aux_lemma =>
                      obtain ⟨m2, M2, hR2, hB2⟩ := hcut
                      have HUN := Lib.hid (unlock_any G bs (ownK 7 4) m2 7 wc hR2.out.st)
                      go_wp2_with fail
                      refine HUN.out.mono ?_
                      rintro e x1 ⟨rfl, hs1, hf1⟩
                      have hs2 : StAt x1 G bs (fun _ => 0) m2 := hs1.same (fun i hi => by unfold unlockL ofL ownK; rw [if_pos hi]; simp) (fun _ _ => rfl)
                      have HRx := Lib.hid (hR2.out.fr hf1 hs2)
                      have HBx := Lib.hid (hB2.out.trans (hf1.below hB2.out.size HGB.out HBM.out))
                      clear hs1 hf1 hs2
                      go_wp2_with fail
                      exact ⟨⟨k + 1, m2, M2, by simp, by omega, HRx.out, HBx.out⟩, by simp [intOf]; omega⟩
      · have hkd : decide ((k : Int) < (n : Int)) = false := by simp; omega
        go_wp2_with fail
        go_ret
        exact ⟨rfl, hB.out⟩
end Go.Proofs.YtilhegdhbcmlkaaDoor
