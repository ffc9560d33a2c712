/- The walk of the law HeadClose. -/
import Derived.Test.YtihdjgjceadooaaDoorMany
import Derived.Test.YtihdjgjceadooaaDoorClosePlain
namespace Go.Proofs.YtihdjgjceadooaaDoor
open Go.RowKit Pl

theorem closeW_eq (x : ByteArray) : closeW x.data.toList = decide ((lowS (trS x)).data.toList = [99, 108, 111, 115, 101]) := by
  unfold closeW
  rw [mkB_of]
  exact decide_eq_decide.2 ⟨fun e => by rw [e]; rfl, fun e => bytes_ext (by rw [e]; rfl)⟩

set_option maxHeartbeats 4000000 in
theorem close_walk (l : List ByteArray) (A : Option Addr) (c : Nat) (w : World) (hr : Rd w w.heap.size 1 A l.length (l.map .string)) (hn : l.length ≤ 10) (hsm : ∀ s ∈ l, s.size ≤ maxLen) :
    Calls Tryd.prog 6 #[.slice A l.length c] w fun e w' => e = .returned (.bool true) ∧ Below w.heap.size w w' := by
  obtain ⟨i0, hi, hz0, hz1, hz2⟩ := info_parts Tryd.info9
  have HI := Lib.hid hi; have HZ0 := Lib.hid hz0; have HZ1 := Lib.hid hz1; have HZ2 := Lib.hid hz2
  have HR := Lib.hid hr; have HSM := Lib.hid hsm
  clear hi hz0 hz1 hz2 hr hsm
  go_enter Tryd.func6, Tryd.ntmps6
  go_wp2_with fail
  refine (fit_any _).mono ?_
  rintro e w1 ⟨rfl, hb1⟩
  go_wp2_with fail
  have hown0 : (w1.alloc (Obj.cells #[Value.string { data := #[71, 69, 84, 32, 47, 32, 72, 84, 84, 80, 47, 49, 46, 49] }, Value.string { data := #[104, 111, 115, 116, 58, 32, 97] }] 9)).ownsRow w.heap.size 9 1 (.slice (some ⟨w1.heap.size, 0, none⟩) 2 2) (linesC (l.take 0)).length ((linesC (l.take 0)).map .string) :=
    own_blk (heap_alloc_new w1 _) hb1.size rfl (by decide)
  have hb2 : Below w.heap.size w (w1.alloc (Obj.cells #[Value.string { data := #[71, 69, 84, 32, 47, 32, 72, 84, 84, 80, 47, 49, 46, 49] }, Value.string { data := #[104, 111, 115, 116, 58, 32, 97] }] 9)) := ba hb1 _
  generalize w1.alloc (Obj.cells #[Value.string { data := #[71, 69, 84, 32, 47, 32, 72, 84, 84, 80, 47, 49, 46, 49] }, Value.string { data := #[104, 111, 115, 116, 58, 32, 97] }] 9) = W at *
  go_loopw [3, 4, 18] (fun v wa i wr => ∃ k : Nat, k ≤ l.length ∧ i = .int .i64 k ∧ wa = .bool (wantC (l.take k)) ∧ wr.ownsRow w.heap.size 9 1 v (linesC (l.take k)).length ((linesC (l.take k)).map .string) ∧ Below w.heap.size w wr ∧ Hid (∀ x ∈ l.take k, valB x.data.toList = true ∧ x.size ≤ 60)) (fun _ _ i _ => l.length - (intOf i).toNat)
  case atStart => exact ⟨0, by omega, rfl, rfl, hown0, hb2, fun x hx => by simp at hx⟩
  case round =>
    obtain ⟨k, hk, rfl, rfl, hown, hbr, hval⟩ := hrel
    clear hown0 hb2
    by_cases hlt : k < l.length
    · obtain ⟨a, rfl, hab, hc⟩ := (HR.out.below hbr (Nat.le_refl _)).at hlt (.string l[k]) (by simp [hlt])
      have hsz := HSM.out l[k] (List.getElem_mem hlt)
      unfold maxLen at hsz
      have hws := wantC_snoc l k hlt
      have hls := linesC_snoc l k hlt
      have htk : l.take (k + 1) = l.take k ++ [l[k]] := List.take_succ_eq_append_getElem hlt
      have hll := linesC_len (l.take k)
      rw [List.length_take] at hll
      generalize l[k] = s at *
      have HWS := Lib.hid hws; have HLS := Lib.hid hls; have HTK := Lib.hid htk
      have hlk : (linesC (l.take k)).length ≤ 12 := by omega
      clear hws hls htk hll
      generalize wantC (l.take k) = want at *
      by_cases h60 : s.size ≤ 60
      · have HT := Lib.hid fun w => trim_any s w (by omega)
        have hvc := fun w => val_any (trS s) w
        have htz := trS_size s
        cases hv : valB (trS s).data.toList with
        | false =>
          rw [hv] at hvc
          have HV := Lib.hid hvc
          clear hvc hv
          go_wp2_with fail
          refine (HT.out _).mono ?_
          rintro e w2 ⟨rfl, hb2⟩
          go_wp2_with fail
          refine (HV.out _).mono ?_
          rintro e w3 ⟨rfl, hb3⟩
          go_wp2_with fail
          go_ret
          exact ⟨rfl, bt (bt hbr hb2) hb3⟩
        | true =>
          rw [hv] at hvc
          have hvs : valB s.data.toList = true := val_tr _ (by rw [trS_data] at hv; exact hv)
          have HV := Lib.hid hvc; have HVS := Lib.hid hvs
          clear hvc hv hvs
          go_wp2_with fail
          refine (HT.out _).mono ?_
          rintro e w2 ⟨rfl, hb2⟩
          go_wp2_with fail
          refine (HV.out _).mono ?_
          rintro e w3 ⟨rfl, hb3⟩
          have hbw3 := bt (bt hbr hb2) hb3
          have hown3 := own_below (own_below hown hb2) hb3
          clear hown hb2 hb3 HV
          go_wp2_with (at_builtin; refine wpList_append_own _ rfl _ _ 24 rfl w.heap.size 9 i0 (.string ⟨#[]⟩) 1 16 Tryd.underlying24 HI.out HZ0.out HZ1.out HZ2.out rfl (by decide) _ _ _ rfl (hown3.alloc _) ⟨w3.heap.size, 0, none⟩ 1 1 [.string (connL s)] rfl rfl ?c1 ?c2 ?c3 ?c4 ?c5 ?_)
          case c1 => exact cell_one_new w3 (.string (connL s)) 9
          case c2 => intro u hu; simp at hu; subst hu; rfl
          case c3 => unfold maxLen; omega
          case c4 => omega
          case c5 => have := hbw3.size; simp; omega
          intro v' w4 hown' hgr _
          have hb4 : Below w.heap.size w w4 := (ba hbw3 _).grown hgr (by have := hbw3.size; simp; omega) (fun k hk => (hown3.lt k hk).1)
          have hO4 : w4.ownsRow w.heap.size 9 1 v' (linesC (l.take (k + 1))).length ((linesC (l.take (k + 1))).map .string) := by
            rw [HLS.out, List.length_append, List.map_append]; exact hown'
          have HO4 := Lib.hid hO4
          clear hown' hgr hown3 hO4
          have HW := Lib.hid fun w => words_any (trS s) 44 w (by omega)
          have hwl := words_len 44 (trS s).data.toList
          have hwp := words_pos 44 (trS s).data.toList
          have hwm := Lib.hid (words_small 44 (trS s).data.toList)
          rw [data_len] at hwl hwm
          change Hid (wantC (l.take (k + 1)) = (want || (wordsB 44 (trS s).data.toList).any closeW)) at HWS
          generalize trS s = ts at *
          generalize wordsB 44 ts.data.toList = ws at *
          go_wp2_with fail
          refine (HT.out _).mono ?_
          rintro e w5 ⟨rfl, hb5⟩
          go_wp2_with fail
          refine (HW.out _).mono ?_
          rintro e w6 ⟨v6, rfl, hown6, hb6⟩
          obtain ⟨gw, cap, rfl, hgw, hgl, hcap⟩ := own_shape hown6 hwp
          have HO6 := Lib.hid hown6
          have hbw6 := bt (bt hb4 hb5) hb6
          have HO46 := Lib.hid (own_below (own_below HO4.out hb5) hb6)
          clear hown6 HO4 hb5 hb6 hb4 hbw3
          go_wp2_with fail
          go_loopw [4, 40] (fun wa i wq => ∃ j : Nat, j ≤ ws.length ∧ i = .int .i64 j ∧ wa = .bool (want || (ws.take j).any closeW) ∧ Below w6.heap.size w6 wq) (fun _ i _ => ws.length - (intOf i).toNat)
          case atStart => exact ⟨0, by omega, rfl, by simp, Below.refl _ _⟩
          case round =>
            obtain ⟨j, hj, rfl, rfl, hbq⟩ := hrel
            by_cases hjl : j < ws.length
            · have hcell : wr.cell? ⟨gw, j, none⟩ = some (.string (mkB ws[j])) := by
                refine (hbq.cell (p := ⟨gw, j, none⟩) hgl).trans ?_
                have := HO6.out.cells (g := gw) rfl j (strV ws[j]) (by simp [hjl])
                rw [add_zero_own] at this
                exact this
              have hsn2 := any_snoc closeW ws j hjl
              have hxs : (mkB ws[j]).size ≤ ts.size := by rw [mkB_size]; exact hwm.out _ (List.getElem_mem hjl)
              have hx2 := closeW_eq (mkB ws[j])
              rw [mkB_data] at hx2
              rw [hx2] at hsn2
              clear hx2
              generalize mkB ws[j] = x at *
              have htr := trS_size x
              have HTX := Lib.hid fun w => trim_any x w (by omega)
              have HLX := Lib.hid fun w => low_s (trS x) w (by omega)
              have hq := eq_list (lowS (trS x)) [99, 108, 111, 115, 101]
              generalize lowS (trS x) = lx at *
              generalize trS x = tx at *
              have HSN2 := Lib.hid hsn2
              clear hsn2 htr
              cases hw0 : (want || (ws.take j).any closeW) with
              | true =>
                have HN : Hid ((want || (ws.take (j + 1)).any closeW) = true) := by rw [HSN2.out, ← Bool.or_assoc, hw0]; rfl
                clear hq hw0
                go_wp2_with fail
                go_roundw
                case rel => exact ⟨j + 1, by omega, by go_num, by rw [HN.out], hbq⟩
                case measure => simp [intOf]; omega
              | false =>
                have HN : Hid ((want || (ws.take (j + 1)).any closeW) = (lx.toList == [99, 108, 111, 115, 101])) := by rw [HSN2.out, ← Bool.or_assoc, hw0, hq]; rfl
                clear hq hw0
                go_wp2_with fail
                refine (HTX.out _).mono ?_
                rintro e w7 ⟨rfl, hb7⟩
                go_wp2_with fail
                refine (HLX.out _).mono ?_
                rintro e w8 ⟨rfl, hb8⟩
                go_wp2_with fail
                go_roundw
                case rel => exact ⟨j + 1, by omega, by go_num, by rw [HN.out], bt (bt hbq hb7) hb8⟩
                case measure => simp [intOf]; omega
            · have hE : ws.take j = ws := List.take_of_length_le (by omega)
              have HY : Hid ((want || (ws.take j).any closeW) = wantC (l.take (k + 1))) := by rw [hE, HWS.out]; rfl
              have HO := Lib.hid (own_below HO46.out hbq)
              have HVN : Hid (∀ x ∈ l.take (k + 1), valB x.data.toList = true ∧ x.size ≤ 60) := by
                intro x hx
                rw [HTK.out, List.mem_append, List.mem_singleton] at hx
                rcases hx with hx | rfl
                · exact hval.out x hx
                · exact ⟨HVS.out, h60⟩
              clear hE
              go_wp2_with fail
              go_roundw
              case rel => exact ⟨k + 1, by omega, by go_num, by rw [HY.out], HO.out, bt hbw6 hbq, HVN⟩
              case measure => simp [intOf]; omega
      · go_wp2_with fail
        go_ret
        exact ⟨rfl, hbr⟩
    · have hE : l.take k = l := List.take_of_length_le (by omega)
      rw [hE] at hown hval
      rw [hE]
      clear hE
      have hll := linesC_len l
      obtain ⟨g2, cg, rfl, hrd, hcc, hcm, hgb, hgl⟩ := own_rd hown (by omega)
      have HS : Hid (∀ s ∈ linesC l, s.size ≤ 1000000) := by
        intro s hs
        unfold linesC at hs
        rw [List.mem_cons, List.mem_cons, List.mem_map] at hs
        rcases hs with rfl | rfl | ⟨x, hx, rfl⟩
        · decide
        · decide
        · have := (hval.out x hx).2
          unfold connL
          rw [app_size]
          have : connP.size = 11 := rfl
          omega
      have hpa := parse_any (linesC l) _ cg wr hrd (by omega) hcc hcm HS.out
      rw [parse_close l (fun s hs => (hval.out s hs).1) hn, wantC_eq] at hpa
      have HPA := Lib.hid hpa
      have HFC := Lib.hid (fldsC_conn l)
      have hfl : (fldsC l).length = l.length + 1 := by simp [fldsC]
      have HFL := Lib.hid hfl
      clear hpa hown hrd hll hfl
      generalize wantC l = want at *
      go_wp2_with fail
      refine HPA.out.mono ?_
      rintro e w4 ⟨vv, rfl, hov, hb4⟩
      obtain ⟨Av, cv, rfl, hrv⟩ := Rd.own hov
      have HOV := Lib.hid hov
      have HRV := Lib.hid hrv
      clear hov hrv
      simp only [hdVal]
      have hall := fun o => all_any (fldsC l) connN Av cv (w4.alloc o) ((HRV.out.below ((Below.refl _ _).alloc (Nat.le_refl _) o) (Nat.le_refl _)).wide (by simp)) (by rw [HFL.out]; omega)
      rw [HFC.out, List.length_map] at hall
      unfold connN at hall
      have HALL := Lib.hid hall
      clear hall
      go_wp2_with fail
      refine (HALL.out _).mono ?_
      rintro e w5 ⟨v5, rfl, ho5, hb5⟩
      obtain ⟨A5, c5, rfl, _⟩ := Rd.own ho5
      clear ho5
      go_wp2_with fail
      go_ret
      exact ⟨ret_bool (by simp), bt (ba (bt hbr hb4) _) hb5⟩

theorem close_any (l : List ByteArray) (A : Option Addr) (c : Nat) (w : World) (hr : Rd w w.heap.size 1 A l.length (l.map .string)) (hl : l.length ≤ c) (hc : c ≤ maxLen) (hsm : ∀ s ∈ l, s.size ≤ maxLen) :
    Calls Tryd.prog 6 #[.slice A l.length c] w fun e w' => e = .returned (.bool true) ∧ Below w.heap.size w w' := by
  by_cases hn : l.length ≤ 10
  · exact close_walk l A c w hr hn hsm
  · unfold maxLen at hc
    clear hr hsm
    go_enter Tryd.func6, Tryd.ntmps6
    go_wp2_with fail
    refine (fit_any _).mono ?_
    rintro e w1 ⟨rfl, hb1⟩
    go_wp2_with fail
    go_ret
    exact ⟨rfl, hb1⟩

end Go.Proofs.YtihdjgjceadooaaDoor
