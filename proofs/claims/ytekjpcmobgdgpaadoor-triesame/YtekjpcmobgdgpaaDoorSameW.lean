/- The walk of TrieSame. -/
import Derived.Test.YtekjpcmobgdgpaaDoorLws
namespace Go.Proofs.YtekjpcmobgdgpaaDoor
open Go.RowKit Pl

set_option maxRecDepth 100000 in
set_option maxHeartbeats 8000000 in
theorem trie_same (l : List Rt) (A : Option Addr) (c : Nat) (x : List Seg) (PA : Option Addr) (pc : Nat) (w : World) (hr : Rd w w.heap.size 3 A l.length (rtCells l)) (hx : Rd w w.heap.size 1 PA x.length (x.map strV)) (hxc : x.length ≤ pc) (hxn : x.length ≤ 9223372036854775807) (hxs : ∀ s ∈ x, s.length ≤ 1000000000000000) (hln : l.length ≤ 9223372036854775807) (hls : ∀ r ∈ l, r.m.length ≤ 1000000000000000 ∧ r.p.length ≤ 1000000000000000) (hw : HB w) :
    Calls Tryd.prog 8 #[.slice A l.length c, .slice PA x.length pc] w fun e w' => e = .returned (.bool true) ∧ Below w.heap.size w w' := by
  have HW := Lib.hid hw
  have HR := Lib.hid hr
  have HX := Lib.hid hx
  have HF := Lib.hid (fit_any w hw)
  have HLT := Lib.hid (fun wx (h : Below w.heap.size w wx) => light_any x PA pc wx ((hx.below h (Nat.le_refl _)).wide h.size) hxn hxs)
  have HLL := Lib.hid (@light_le x)
  have HSM := Lib.hid (fun wx (h : Below w.heap.size w wx) hl => some_any l A c wx ((hr.below h (Nat.le_refl _)).wide h.size) (hw.below h) hl hls)
  have hlaw := law_of l
  generalize someL l = L at *
  have HLW := Lib.hid hlaw
  have HL24 := hlaw.len
  clear hr hx hxs hls hw hlaw
  by_cases h60 : l.length ≤ 60
  · have HSM2 := Lib.hid (fun wx h => HSM.out wx h (by omega))
    clear HSM
    cases hli : lightL x with
    | false =>
      rw [hli] at HLT
      clear HLL hli
      go_enter Tryd.func8, Tryd.ntmps8
      go_wp2_with fail
      refine HF.out.mono ?_
      rintro e w1 ⟨rfl, hb1⟩
      have HB1 := Lib.hid hb1
      clear hb1
      go_wp2_with fail
      refine (HLT.out w1 HB1.out).mono ?_
      rintro e w2 ⟨rfl, rfl⟩
      go_wp2_with fail
      go_ret
      exact ⟨rfl, HB1.out⟩
    | true =>
      obtain ⟨hx12, hx1000⟩ := HLL.out hli
      rw [hli] at HLT
      have HPT := Lib.hid (fun wx (h : Below w.heap.size w wx) => Pth.of (c := pc) ((HX.out.below h (Nat.le_refl _)).wide h.size) hxc (by omega) (fun s hs => by have := hx1000 s hs; omega))
      clear HLL hli hx1000
      go_enter Tryd.func8, Tryd.ntmps8
      go_wp2_with fail
      refine HF.out.mono ?_
      rintro e w1 ⟨rfl, hb1⟩
      have HB1 := Lib.hid hb1
      clear hb1
      go_wp2_with fail
      refine (HLT.out w1 HB1.out).mono ?_
      rintro e w2 ⟨rfl, rfl⟩
      go_wp2_with fail
      refine (HSM2.out _ HB1.out).mono ?_
      rintro e w3 ⟨sv, rfl, hown3, hb3⟩
      obtain ⟨oa, oc, rfl, hr3⟩ := Rd.own hown3
      have HB3 := Lib.hid (bt HB1.out hb3)
      have HR3 := Lib.hid hr3
      clear hown3 hb3 hr3
      have HWI := Lib.hid (with_any none [] L oa oc w3 (Tr.nil _ _) HR3.out HLW.out.pat (by simp; omega))
      rw [List.nil_append] at HWI
      go_wp2_with fail
      refine HWI.out.mono ?_
      rintro e w4 ⟨ga, rfl, hta, hb4⟩
      have HTA := Lib.hid hta
      have HB4 := Lib.hid (bt HB3.out hb4)
      have HR4 := Lib.hid ((HR3.out.below hb4 (Nat.le_refl _)).wide hb4.size)
      clear hta hb4
      go_wp2_with fail
      go_loopw [6, 32] (fun bv i wr => ∃ (k : Nat) (vb : Option Addr), k ≤ L.length ∧ i = .int .i64 k ∧ bv = .pointer vb ∧ Hid (Tr wr wr.heap.size vb (L.take k)) ∧ Hid (Below w4.heap.size w4 wr)) (fun _ i _ => L.length - (intOf i).toNat)
      case atStart => exact ⟨0, none, by omega, rfl, rfl, Tr.nil _ _, Below.refl _ _⟩
      case round =>
        obtain ⟨k, vb, hk, rfl, rfl, HTB, HB⟩ := hrel
        by_cases hlt : k < L.length
        · obtain ⟨a, rfl, hab, k0, k1, k2⟩ := rt_in (HR4.out.below HB.out (Nat.le_refl _)) rfl k hlt
          have hst : L.take (k + 1) = L.take k ++ [L[k]] := List.take_succ_eq_append_getElem hlt
          have HA1 := Lib.hid ((Below.refl wr.heap.size wr).alloc (Nat.le_refl _) (.cells #[.string (mkB L[k].m), .string (mkB L[k].p), .string (mkB L[k].h)] 41))
          have HA2 := Lib.hid (HA1.out.alloc HA1.out.size (.cells #[.string (mkB L[k].m), .string (mkB L[k].p), .string (mkB L[k].h)] 41))
          have hsz : (wr.alloc (.cells #[.string (mkB L[k].m), .string (mkB L[k].p), .string (mkB L[k].h)] 41)).heap.size = wr.heap.size + 1 := by simp
          have hwi := with_any vb (L.take k) [L[k]] (some ⟨(wr.alloc (.cells #[.string (mkB L[k].m), .string (mkB L[k].p), .string (mkB L[k].h)] 41)).heap.size, 0, none⟩) 1 ((wr.alloc (.cells #[.string (mkB L[k].m), .string (mkB L[k].p), .string (mkB L[k].h)] 41)).alloc (.cells #[.string (mkB L[k].m), .string (mkB L[k].p), .string (mkB L[k].h)] 41)) (HTB.out.on HA2.out)
            (rd_new (wr.alloc (.cells #[.string (mkB L[k].m), .string (mkB L[k].p), .string (mkB L[k].h)] 41)) #[.string (mkB L[k].m), .string (mkB L[k].p), .string (mkB L[k].h)] 41 3 1 rfl) (fun r hr => by simp at hr; subst hr; exact HLW.out.pat _ (List.getElem_mem hlt)) (by rw [List.length_take]; simp; omega)
          rw [← hst, hsz] at hwi
          have HWI2 := Lib.hid hwi
          clear hst hsz hwi
          rw [show [L[k]].length = 1 from rfl] at HWI2
          generalize mkB L[k].m = xm at *
          generalize mkB L[k].p = xp at *
          generalize mkB L[k].h = xh at *
          go_wp2_with fail
          refine HWI2.out.mono ?_
          rintro e w5 ⟨gb, rfl, htb, hb5⟩
          have HT5 := Lib.hid htb
          have HB5 : Hid (Below w4.heap.size w4 w5) := bt HB.out (HA2.out.trans (hb5.mono HA2.out.size))
          clear htb hb5
          go_wp2_with fail
          go_roundw
          case rel => exact ⟨k + 1, _, by omega, by go_num, rfl, HT5, HB5⟩
          case measure => simp [intOf]; omega
        · have hke : k = L.length := by omega
          have HTB2 : Hid (Tr wr wr.heap.size vb L) := by
            have := HTB.out
            rw [List.take_of_length_le (by omega)] at this
            exact this
          have HTA2 := Lib.hid (HTA.out.on HB.out)
          have HWB := Lib.hid (bt HB4.out HB.out)
          clear HTB hke
          obtain ⟨w6, hw6⟩ : ∃ w6, w6 = wr := ⟨_, rfl⟩
          rw [← hw6] at HTB2 HTA2 HWB HB ⊢
          clear hw6
          have HA6 := Lib.hid ((Below.refl w6.heap.size w6).alloc (Nat.le_refl _) (.cells #[.string ⟨#[71, 69, 84]⟩, .string ⟨#[80, 85, 84]⟩, .string ⟨#[110, 111, 110, 101]⟩] 9))
          have HRM := Lib.hid (rd_new w6 #[.string ⟨#[71, 69, 84]⟩, .string ⟨#[80, 85, 84]⟩, .string ⟨#[110, 111, 110, 101]⟩] 9 1 3 rfl)
          have hsz6 : (w6.alloc (.cells #[.string ⟨#[71, 69, 84]⟩, .string ⟨#[80, 85, 84]⟩, .string ⟨#[110, 111, 110, 101]⟩] 9)).heap.size = w6.heap.size + 1 := by simp
          have HTA7 := Lib.hid (HTA2.out.on HA6.out)
          have HTB7 := Lib.hid (HTB2.out.on HA6.out)
          have HWB7 := Lib.hid (bt HWB.out HA6.out)
          go_wp2_with fail
          generalize w6.alloc (.cells #[.string ⟨#[71, 69, 84]⟩, .string ⟨#[80, 85, 84]⟩, .string ⟨#[110, 111, 110, 101]⟩] 9) = w7 at *
          go_loopw [43] (fun i wr => ∃ (j : Nat), j ≤ 3 ∧ i = .int .i64 j ∧ Hid (Below w7.heap.size w7 wr)) (fun i _ => 3 - (intOf i).toNat)
          case atStart => exact ⟨0, by omega, rfl, Below.refl _ _⟩
          case round =>
            obtain ⟨j, hj, rfl, HBR⟩ := hrel
            by_cases hlt3 : j < 3
            · obtain ⟨mb, hmb⟩ : ∃ mb : ByteArray, w7.cell? ⟨w6.heap.size, j, none⟩ = some (.string mb) := by
                obtain ⟨a2, e2, _, h2⟩ := HRM.out.2 (by decide)
                cases e2
                have hj3 : j = 0 ∨ j = 1 ∨ j = 2 := by omega
                rcases hj3 with rfl | rfl | rfl
                · exact ⟨_, by have := h2 0 _ rfl; rwa [add_zero_own] at this⟩
                · exact ⟨_, by have := h2 1 _ rfl; rwa [add_zero_own] at this⟩
                · exact ⟨_, by have := h2 2 _ rfl; rwa [add_zero_own] at this⟩
              have mcell := (HBR.out.cell (p := ⟨w6.heap.size, j, none⟩) (by rw [hsz6]; exact Nat.lt_succ_self _)).trans hmb
              have HM1 := Lib.hid (match_any (some ⟨ga, 0, none⟩) L mb PA x.length pc x wr (HTA7.out.on HBR.out) HLW.out.good HLW.out.apart (HPT.out wr (bt HWB7.out HBR.out)) (by omega))
              have HM2 := Lib.hid (fun wx (h : Below wr.heap.size wr wx) => match_any vb L mb PA x.length pc x wx (HTB7.out.on (bt HBR.out h)) HLW.out.good HLW.out.apart (HPT.out wx (bt HWB7.out (bt HBR.out h))) (by omega))
              have HFEW := Lib.hid (mt_few HLW.out mb.data.toList x)
              generalize matchL mb.data.toList x L = T at *
              have HSS := Lib.hid (same_self T)
              clear hmb hsz6
              go_wp2_with fail
              refine HM1.out.mono ?_
              rintro e w8 ⟨⟨P1, n1, c1, Q1, m1, d1, rfl, hat1⟩, hb8⟩
              have HB8 := Lib.hid hb8
              have HAT1 := Lib.hid hat1
              clear hat1 hb8
              have HA9 := Lib.hid (HB8.out.alloc HB8.out.size (.cells #[.string (mkB T.h), .slice P1 n1 c1, .slice Q1 m1 d1] 32))
              have HM3 := Lib.hid (HM2.out _ HA9.out)
              have x0 := new_cell4 w8 #[.string (mkB T.h), .slice P1 n1 c1, .slice Q1 m1 d1] 32 0
              have x1 := new_cell4 w8 #[.string (mkB T.h), .slice P1 n1 c1, .slice Q1 m1 d1] 32 1
              have x2 := new_cell4 w8 #[.string (mkB T.h), .slice P1 n1 c1, .slice Q1 m1 d1] 32 2
              simp only [List.getElem?_toArray, List.getElem?_cons_succ, List.getElem?_cons_zero] at x0 x1 x2
              have hs8 : w8.heap.size < (w8.alloc (.cells #[.string (mkB T.h), .slice P1 n1 c1, .slice Q1 m1 d1] 32)).heap.size := by simp
              have HAT9 := Lib.hid (HAT1.out.on ((Below.refl w8.heap.size w8).alloc (Nat.le_refl _) (.cells #[.string (mkB T.h), .slice P1 n1 c1, .slice Q1 m1 d1] 32)))
              have HSA := Lib.hid (fun (P2 Q2 : Option Addr) (n2 c2 m2 d2 : Nat) (wx : World) (h1 : MtAt wx T (mkB T.h) P1 n1 c1 Q1 m1 d1) (h2 : MtAt wx T (mkB T.h) P2 n2 c2 Q2 m2 d2) => same_any T T P1 P2 Q1 Q2 n1 c1 n2 c2 m1 d1 m2 d2 wx h1 h2 ⟨HFEW.out.1, HFEW.out.1, HFEW.out.2, HFEW.out.2⟩)
              rw [HSS.out] at HSA
              generalize hth : mkB T.h = tb at *
              have HTH := Lib.hid hth
              generalize hok : T.ok = ok at *
              have HOK := Lib.hid hok
              clear hth hok
              go_wp2_with fail
              refine HM3.out.mono ?_
              rintro e w10 ⟨⟨P2, n2, c2, Q2, m2, d2, he10, hat2⟩, hb10⟩
              rw [HTH.out, HOK.out] at he10
              rw [HTH.out] at hat2
              subst he10
              have HA10 := Lib.hid ((Below.refl w10.heap.size w10).alloc (Nat.le_refl _) (.cells #[.string tb, .slice P2 n2 c2, .slice Q2 m2 d2] 32))
              have HAT2 := Lib.hid (hat2.on HA10.out)
              have HAT3 := Lib.hid ((HAT9.out.on hb10).on HA10.out)
              have y0 := new_cell4 w10 #[.string tb, .slice P2 n2 c2, .slice Q2 m2 d2] 32 0
              have y1 := new_cell4 w10 #[.string tb, .slice P2 n2 c2, .slice Q2 m2 d2] 32 1
              have y2 := new_cell4 w10 #[.string tb, .slice P2 n2 c2, .slice Q2 m2 d2] 32 2
              simp only [List.getElem?_toArray, List.getElem?_cons_succ, List.getElem?_cons_zero] at y0 y1 y2
              have hb10a : Below (w8.alloc (.cells #[.string tb, .slice P1 n1 c1, .slice Q1 m1 d1] 32)).heap.size (w8.alloc (.cells #[.string tb, .slice P1 n1 c1, .slice Q1 m1 d1] 32)) (w10.alloc (.cells #[.string tb, .slice P2 n2 c2, .slice Q2 m2 d2] 32)) := bt hb10 HA10.out
              have z0 := (hb10a.cell (p := ⟨w8.heap.size, 0, none⟩) hs8).trans x0
              have z1 := (hb10a.cell (p := ⟨w8.heap.size, 1, none⟩) hs8).trans x1
              have z2 := (hb10a.cell (p := ⟨w8.heap.size, 2, none⟩) hs8).trans x2
              have HB10 : Hid (Below w7.heap.size w7 (w10.alloc (.cells #[.string tb, .slice P2 n2 c2, .slice Q2 m2 d2] 32))) := bt HBR.out (HA9.out.trans (hb10a.mono HA9.out.size))
              have HSC := Lib.hid (HSA.out P2 Q2 n2 c2 m2 d2 _ HAT3.out HAT2.out)
              clear hat2 hb10 hb10a x0 x1 x2 hs8
              cases ok
              all_goals
                go_wp2_with fail
                refine HSC.out.mono ?_
                rintro e w12 ⟨rfl, hb12⟩
                have HB12 := Lib.hid (bt HB10.out hb12)
                clear hb12
                go_wp2_with fail
                go_roundw
                case rel => exact ⟨j + 1, by omega, by go_num, HB12⟩
                case measure => simp [intOf]; omega
            · have HLA := Lib.hid (fun wx h => len_any wx.heap.size (some ⟨ga, 0, none⟩) L wx h)
              have HLB := Lib.hid (fun wx h => len_any wx.heap.size vb L wx h)
              have HTA8 := Lib.hid (HTA7.out.on HBR.out)
              have HTB8 := Lib.hid (HTB7.out.on HBR.out)
              have HWN := Lib.hid (with_any (some ⟨ga, 0, none⟩) L [] none 0 wr HTA8.out ⟨rfl, fun h => absurd rfl h⟩ (fun r hr => by cases hr) (by simp; omega))
              rw [List.append_nil] at HWN
              have HWW := Lib.hid (bt HWB7.out HBR.out)
              generalize hnL : L.length = nL at *
              go_wp2_with fail
              refine (HLA.out wr HTA8.out).mono ?_
              rintro e w8 ⟨rfl, rfl⟩
              go_wp2_with fail
              refine (HLB.out _ HTB8.out).mono ?_
              rintro e w9 ⟨rfl, rfl⟩
              go_wp2_with fail
              refine HWN.out.mono ?_
              rintro e w10 ⟨gc, rfl, htc, hb10⟩
              have HTC := Lib.hid htc
              have HTA10 := Lib.hid (HTA8.out.on hb10)
              have HWX := Lib.hid (bt HWW.out hb10)
              clear htc hb10
              have HLC := Lib.hid (len_any _ _ L w10 HTC.out)
              have HLD := Lib.hid (len_any _ _ L w10 HTA10.out)
              rw [hnL] at HLC HLD
              clear hnL
              go_wp2_with fail
              refine HLC.out.mono ?_
              rintro e w11 ⟨rfl, rfl⟩
              go_wp2_with fail
              refine HLD.out.mono ?_
              rintro e w12 ⟨rfl, rfl⟩
              go_wp2_with fail
              go_ret
              exact ⟨rfl, HWX.out⟩
  · have h60' : ¬ (l.length : Int) ≤ 60 := by omega
    go_enter Tryd.func8, Tryd.ntmps8
    go_wp2_with fail
    refine HF.out.mono ?_
    rintro e w1 ⟨rfl, hb1⟩
    go_wp2_with fail
    go_ret
    exact ⟨rfl, hb1⟩

theorem same_walk (l : List Rt) (A : Option Addr) (c : Nat) (x : List Seg) (PA : Option Addr) (pc : Nat) (w : World) (hr : Rd w w.heap.size 3 A l.length (rtCells l)) (_hl : l.length ≤ c) (hm : c ≤ maxLen) (hz : ∀ r ∈ l, r.m.length ≤ 140737488355328 ∧ r.p.length ≤ 140737488355328 ∧ r.h.length ≤ 140737488355328)
    (hx : Rd w w.heap.size 1 PA x.length (x.map strV)) (hxc : x.length ≤ pc) (hxm : pc ≤ maxLen) (hxs : ∀ s ∈ x, s.length ≤ 140737488355328) (hw : HB w) :
    Calls Tryd.prog 8 #[.slice A l.length c, .slice PA x.length pc] w fun e w' => e = .returned (.bool true) ∧ Below w.heap.size w w' :=
  trie_same l A c x PA pc w hr hx hxc (by unfold maxLen at hxm; omega) (fun s hs => by have := hxs s hs; omega) (by unfold maxLen at hm; omega) (fun r hr => by have := hz r hr; omega) hw
end Go.Proofs.YtekjpcmobgdgpaaDoor
