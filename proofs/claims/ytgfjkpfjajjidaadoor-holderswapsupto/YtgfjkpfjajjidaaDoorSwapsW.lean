/- The walk of HolderSwaps. -/
import Derived.Test.YtgfjkpfjajjidaaDoorSwapsM
import Derived.Test.YtgfjkpfjajjidaaDoorWordsW
import Derived.BigQuiet
import Derived.Deep.DrawnRows
namespace Go.Proofs.YtgfjkpfjajjidaaDoor
open Go.RowKit Pl

theorem swap_yes (G : Nat) (v A : Option Addr) (n c m : Nat) (l : List Rt) (s : ByteArray) (w : World) (h : HoAt w G v A n c l m) (hw : HB w) (hs : s.size ≤ 10000) (hk : m ≤ 1000) (h0 : (parseL s.data.toList).2 = 0) :
    Calls Tryd.prog 16 #[.pointer (some ⟨G, 0, none⟩), .string s] w fun e w' => ∃ v' A' c', e = .returned (.tuple #[.int .i64 ((m : Int) + 1), .int .i64 0]) ∧ HoAt w' G v' A' (parseL s.data.toList).1.length c' (parseL s.data.toList).1 (m + 1) ∧ Swp G w w' := by
  refine (swap_any G v A n c m l s w h hw hs (by omega)).mono ?_
  rintro e w' ⟨v', A', n', c', he, hh, hs'⟩
  rw [swapN, if_pos h0, h0] at he
  rw [swapL, swapV, if_pos h0, if_pos h0] at hh
  obtain rfl := hh.sn.len
  exact ⟨v', A', c', he, hh, hs'⟩
theorem swap_not (G : Nat) (v A : Option Addr) (c m : Nat) (l : List Rt) (s : ByteArray) (w : World) (h : HoAt w G v A l.length c l m) (hw : HB w) (hs : s.size ≤ 10000) (hk : m ≤ 1000) (h0 : (parseL s.data.toList).2 ≠ 0) :
    Calls Tryd.prog 16 #[.pointer (some ⟨G, 0, none⟩), .string s] w fun e w' => ∃ v' A' c', e = .returned (.tuple #[.int .i64 0, .int .i64 (parseL s.data.toList).2]) ∧ HoAt w' G v' A' l.length c' l m ∧ Swp G w w' := by
  refine (swap_any G v A l.length c m l s w h hw hs (by omega)).mono ?_
  rintro e w' ⟨v', A', n', c', he, hh, hs'⟩
  rw [swapN, if_neg h0] at he
  rw [swapL, swapV, if_neg h0, if_neg h0] at hh
  obtain rfl := hh.sn.len
  exact ⟨v', A', c', he, hh, hs'⟩
theorem lc_first : Lc firstR := ⟨first_check, first_short⟩
theorem lc_parse {s : List UInt8} (h : (parseL s).2 = 0) (hs : s.length ≤ 10000) : Lc (parseL s).1 := by
  rcases parse_check s with ⟨_, h2⟩ | ⟨h2, _⟩
  · exact ⟨h2, fun r hr => by have := ((parse_small s).2 r hr).2.1; omega⟩
  · rw [h2]; exact ⟨by decide +kernel, fun _ h => by cases h⟩
theorem snv_new (w : World) (x : SnR) : ∀ j u, (snV x)[j]? = some u → (w.alloc (.cells #[.pointer x.v, .int .i64 x.k, .slice x.A x.n x.c] 49)).cell? ((⟨w.heap.size, 0, none⟩ : Addr).add j) = some u := by
  obtain ⟨a, e, _, hc⟩ := (rd_new w #[.pointer x.v, .int .i64 x.k, .slice x.A x.n x.c] 49 3 1 rfl).2 (by decide)
  cases e
  exact hc

set_option maxRecDepth 100000 in
set_option maxHeartbeats 16000000 in
theorem swaps_walk0 (ts : List Seg) (TA : Option Addr) (tc : Nat) (xs : List Seg) (XA : Option Addr) (xc : Nat) (w : World) (ht : Rd w w.heap.size 1 TA ts.length (ts.map strV)) (htn : ts.length ≤ 20) (hts : ∀ t ∈ ts, t.length ≤ 2000000)
    (hp : Pth w w.heap.size XA xs.length xc xs) (hxn : xs.length ≤ 12) (hw : HB w) :
    Calls Tryd.prog 4 #[.slice TA ts.length tc, .slice XA xs.length xc] w fun e w' => e = .returned (.bool true) ∧ Below w.heap.size w w' := by
  have HW := Lib.hid hw
  have HTS := Lib.hid ht
  have HTL := Lib.hid hts
  have HF := Lib.hid (fith_any w hw)
  have HFR := Lib.hid (fun w1 => first_rows w1)
  have HNW : Hid (∀ w0 w1, Below w.heap.size w w1 → Rd w1 w1.heap.size 3 (some ⟨w0, 0, none⟩) 8 (rtCells firstR) → Calls Tryd.prog 12 #[.slice (some ⟨w0, 0, none⟩) 8 8] w1 fun e w' => ∃ G v A' c', e = .returned (.pointer (some ⟨G, 0, none⟩)) ∧ HoAt w' G v A' firstR.length c' firstR 1 ∧ w1.heap.size ≤ G ∧ Below w1.heap.size w1 w') := fun w0 w1 hb hr => by
    have := new_any firstR (some ⟨w0, 0, none⟩) 8 w1 hr (hw.below hb) (by decide) first_short
    rw [first_new] at this
    exact this
  have HLD := Lib.hid (fun G v A n c (l : List Rt) m wx (h : HoAt wx G v A n c l m) (hl : Lc l) => load_any G v A n c l m wx h hl.law)
  have HPA := Lib.hid (fun s wx (hb : Below w.heap.size w wx) (hs : s.size ≤ 10000) => parse_any s wx (hw.below hb) hs)
  have HSY := Lib.hid (fun G v A n c m l s wx (hb : Below w.heap.size w wx) h h1 h2 h3 => swap_yes G v A n c m l s wx h (hw.below hb) h1 h2 h3)
  have HSN := Lib.hid (fun G v A c m l s wx (hb : Below w.heap.size w wx) h h1 h2 h3 => swap_not G v A c m l s wx h (hw.below hb) h1 h2 h3)
  have HMA := Lib.hid (fun v (l : List Rt) wx (h : Tr wx wx.heap.size v l) (hl : Lc l) (hb : Below w.heap.size w wx) => match_any v l ⟨#[71, 69, 84]⟩ XA xs.length xc xs wx h hl.law.good hl.law.apart ((hp.keep hb (Nat.le_refl _)).wide hb.size) (by have := hl.law.few; omega))
  have HNX : Hid (∀ (l : List Rt) A c wx, Lc l → Rd wx wx.heap.size 3 A l.length (rtCells l) → Below w.heap.size w wx → Calls Tryd.prog 12 #[.slice A l.length c] wx fun e w' => ∃ G v A' c', e = .returned (.pointer (some ⟨G, 0, none⟩)) ∧ HoAt w' G v A' l.length c' l 1 ∧ wx.heap.size ≤ G ∧ Below wx.heap.size wx w') := fun l A c wx hl hr hb => by
    have := new_any l A c wx hr (hw.below hb) (by have := hl.law.few; omega) hl.2
    rw [hl.new] at this
    exact this
  have HNE : Hid (∀ (x : Rt) (wx : World), (binOp .neq 31 (.agg #[.string (mkB x.m), .string (mkB x.p), .string (mkB x.h)]) (.agg #[.string (mkB x.m), .string (mkB x.p), .string (mkB x.h)])).run Tryd.prog wx = .ok (.bool false) wx) := fun x wx => by rw [ne_route x x wx]; simp
  have HLN := Lib.hid (fun wx v (l : List Rt) (h : Tr wx wx.heap.size v l) => len_any wx.heap.size v l wx h)
  obtain ⟨i0, hi, hz0, hz1, hz2⟩ := info_parts Tryd.info49
  have HZ := Lib.hid (And.intro hz0 (And.intro hz1 hz2))
  clear ht hts hw hp hz0 hz1 hz2
  go_enter Tryd.func4, Tryd.ntmps4
  go_wp2_with fail
  refine HF.out.mono ?_
  rintro e w1 ⟨rfl, hb1⟩
  have HB1 := Lib.hid hb1
  clear hb1
  go_wp2_with fail
  refine (HFR.out w1).mono ?_
  rintro e w2 ⟨rfl, hr2, hb2⟩
  have HB2 := Lib.hid (bt HB1.out hb2)
  have HN2 := Lib.hid (HNW.out w1.heap.size w2 HB2.out hr2)
  clear hb2 hr2
  go_wp2_with fail
  refine HN2.out.mono ?_
  rintro e w3 ⟨G, v3, A3, c3, rfl, hh, hG, hb3⟩
  have HB3 := Lib.hid (bt HB2.out hb3)
  have HG : Hid (w.heap.size ≤ G) := Nat.le_trans HB2.out.size hG
  have HGB : Hid (G < w3.heap.size) := hh.bk.lt
  have HI3 : Hid (Inv w3 G w3.heap.size 1 firstR (.slice none 0 0) []) := ⟨⟨v3, A3, c3, hh⟩, lc_first, World.ownsRow_nil _ _ _ _, fun x hx => by (cases hx), fun i hi => by (simp at hi)⟩
  have HBS : Hid (w.heap.size ≤ w3.heap.size) := HB3.out.size
  clear hh hG hb3 HN2 HNW HFR HF
  go_wp2_with fail
  obtain ⟨base, hbase⟩ : ∃ base, w3.heap.size = base := ⟨_, rfl⟩
  have HBE : Hid (base ≤ w3.heap.size) := Nat.le_of_eq hbase.symm
  rw [hbase] at HI3 HGB HBS
  clear hbase
  go_loopw [6, 7, 38] (fun ver svx i wr => ∃ (k m : Nat) (L : List Rt) (os : List SnR) (sv : Value), sv = svx ∧ k ≤ ts.length ∧ i = .int .i64 k ∧ ver = .int .i64 m ∧ os.length = k ∧ m ≤ 1 + k ∧ Hid (Inv wr G base m L sv os) ∧ Hid (Below w.heap.size w wr) ∧ Hid (base ≤ wr.heap.size)) (fun _ _ i _ => ts.length - (intOf i).toNat)
  case atStart => exact ⟨0, 1, firstR, [], _, rfl, by omega, rfl, rfl, rfl, by omega, HI3.out, HB3.out, HBE.out⟩
  case round =>
    obtain ⟨k, m, L, os, sv, rfl, hk, rfl, rfl, hok, hm, HI, HB, HBR⟩ := hrel
    have hol : os.length ≤ 20 := by omega
    have HOK := Lib.hid hok
    clear hok
    by_cases hlt : k < ts.length
    · obtain ⟨a, rfl, hab, k0⟩ := seg_in (HTS.out.below HB.out (Nat.le_refl _)) rfl k hlt
      have hts := HTL.out _ (List.getElem_mem hlt)
      obtain ⟨tt, htt⟩ : ∃ tt, mkB ts[k] = tt := ⟨_, rfl⟩
      have hsz : tt.size ≤ 2000000 := by rw [← htt, mkB_size]; exact hts
      rw [htt] at k0
      clear hts htt
      by_cases h15 : tt.size ≤ 2000
      · have g15 : decide ((2000 : Int) < (tt.size : Int)) = false := by rw [decide_eq_false_iff_not]; omega
        have HP := Lib.hid (HPA.out tt wr HB.out (by omega))
        by_cases hpe : (parseL tt.data.toList).2 = 0
        · rw [hpe] at HP
          have HLC := Lib.hid (lc_parse hpe (by rw [data_len]; omega))
          have HSX := Lib.hid (fun v A c wx (hb : Below w.heap.size w wx) (h : HoAt wx G v A L.length c L m) => HSY.out G v A L.length c m L tt wx hb h (by omega) (by omega) hpe)
          generalize (parseL tt.data.toList).1 = PL at *
          clear hpe
          go_wp2_with fail
          refine HP.out.mono ?_
          rintro e wa ⟨pv, rfl, hown, hba⟩
          obtain ⟨PA, pc, rfl, hpc, hrt⟩ := RdT.own hown
          have HIa := Lib.hid (HI.out.on hba)
          have HBa := Lib.hid (bt HB.out hba)
          have HBRa : Hid (base ≤ wa.heap.size) := Nat.le_trans HBR.out hba.size
          have HRa := Lib.hid hrt
          obtain ⟨va, Aa, ca, hha⟩ := HIa.out.ho
          have HLa := Lib.hid (HLD.out G va Aa L.length ca L m wa hha HIa.out.lc)
          clear hown hba hrt hha hpc
          go_wp2_with fail
          refine HLa.out.mono ?_
          rintro e wb ⟨v5, A5, c5, rfl, hs5, hbb⟩
          have hA := (Below.refl wb.heap.size wb).alloc (Nat.le_refl _) (.cells #[.pointer v5, .int .i64 m, .slice A5 L.length c5] 49)
          have hac := bt hbb hA
          have HIc := Lib.hid (HIa.out.on hac)
          have HBc := Lib.hid (bt HBa.out hac)
          have HBRc := Lib.hid (Nat.le_trans HBRa.out hac.size)
          have HRc := Lib.hid (HRa.out.on hac)
          have HSc := Lib.hid (hs5.on hA)
          have HRB : Hid (∀ R, sv.ownBlock = some R → R < wb.heap.size) := fun R h => ((HIa.out.on hbb).row.lt R h).2
          have HGF : Hid (G < wb.heap.size) := Nat.lt_of_lt_of_le (by obtain ⟨_, _, _, h⟩ := HIa.out.ho; exact h.bk.lt) hbb.size
          have x0 := new_cell4 wb #[.pointer v5, .int .i64 m, .slice A5 L.length c5] 49 0
          have x1 := new_cell4 wb #[.pointer v5, .int .i64 m, .slice A5 L.length c5] 49 1
          have x2 := new_cell4 wb #[.pointer v5, .int .i64 m, .slice A5 L.length c5] 49 2
          simp only [List.getElem?_toArray, List.getElem?_cons_succ, List.getElem?_cons_zero] at x0 x1 x2
          have HFc : Hid (wb.heap.size < (wb.alloc (.cells #[.pointer v5, .int .i64 m, .slice A5 L.length c5] 49)).heap.size) := by show _ < _; simp
          clear hs5 hbb hA hac
          go_upto_region 15 with fail
          generalize wb.alloc (.cells #[.pointer v5, .int .i64 m, .slice A5 L.length c5] 49) = wc at *
          generalize wb.heap.size = F at *
          have hAd := (Below.refl wc.heap.size wc).alloc (Nat.le_refl _) (.cells #[.pointer v5, .int .i64 m, .slice A5 L.length c5] 49)
          have HId := Lib.hid (HIc.out.on hAd)
          have HBd := Lib.hid (bt HBc.out hAd)
          have HBRd := Lib.hid (Nat.le_trans HBRc.out hAd.size)
          have HRd := Lib.hid (HRc.out.on hAd)
          have HSd := Lib.hid (HSc.out.on hAd)
          have HXd := Lib.hid ((hAd.cell (p := ⟨F, 2, none⟩) HFc.out).trans x2)
          have HFd : Hid (F < (wc.alloc (.cells #[.pointer v5, .int .i64 m, .slice A5 L.length c5] 49)).heap.size) := Nat.lt_of_lt_of_le HFc.out hAd.size
          have HNV := Lib.hid (snv_new wc ⟨v5, A5, L.length, c5, m, L⟩)
          have HNO : Hid (∀ u ∈ snV ⟨v5, A5, L.length, c5, m, L⟩, u.oneCell' = true) := fun u hu => sn_one [⟨v5, A5, L.length, c5, m, L⟩] u (by simpa [snCells] using hu)
          have HM63 : Hid (os.length + 1 ≤ maxLen) := by show _ ≤ _; unfold maxLen; omega
          have HM40 : Hid ((os.length + 1) * 40 ≤ 140737488355328) := by show _ ≤ _; omega
          have HRW := Lib.hid HId.out.row
          clear hAd
          go_wp2_with (at_builtin; refine wpList_append_own_at _ rfl _ _ 44 rfl base 49 i0 (.agg #[.pointer none, .int .i64 0, .slice none 0 0]) 3 40 Tryd.underlying44 hi HZ.out.1 HZ.out.2.1 HZ.out.2.2 rfl (by decide) sv os.length (snCells os) rfl HRW.out ⟨wc.heap.size, 0, none⟩ 1 1 (snV ⟨v5, A5, L.length, c5, m, L⟩) rfl rfl HNV.out HNO.out HM63.out HM40.out ?hle ?_)
          case hle => have := HBRc.out; omega
          intro sv2 we hown hgr _ _
          have HIe := Lib.hid (HId.out.push ⟨v5, A5, L.length, c5, m, L⟩ HSd.out HIa.out.lc rfl hown hgr)
          have HBe : Hid (Below w.heap.size w we) := HBd.out.grown hgr HBd.out.size (fun k hk => Nat.le_trans HBS.out (HRW.out.lt k hk).1)
          have HRe := Lib.hid (HRd.out.grown (by decide) HRW.out hgr)
          have HXe := Lib.hid (hgr.cell HXd.out (fun e => Nat.lt_irrefl _ (HRB.out F e.symm)))
          have HFe := Lib.hid (Nat.lt_of_lt_of_le HFd.out hgr.size)
          have HBRe := Lib.hid (Nat.le_trans HBRd.out hgr.size)
          clear hown hgr
          obtain ⟨ve, Ae, ce, hhe⟩ := HIe.out.ho
          have HSe := Lib.hid (HSX.out ve Ae ce we HBe.out hhe)
          have HKe := Lib.hid hhe.bk
          clear hhe x0 x1 x2
          go_wp2_with fail
          refine HSe.out.mono ?_
          rintro e wf ⟨vf, Af, cf, rfl, hhf, hsf⟩
          have HIf := Lib.hid (HIe.out.swp HGB.out hsf ⟨vf, Af, cf, hhf⟩ HLC.out (by omega))
          have HBf := Lib.hid (HBe.out.trans (hsf.below HBe.out.size HG.out))
          have HRf := Lib.hid (HRe.out.swp (by decide) HKe.out hsf)
          have HXf := Lib.hid ((hsf.cell (p := ⟨F, 2, none⟩) HFe.out (Nat.ne_of_gt HGF.out)).trans HXe.out)
          have HFf := Lib.hid (Nat.lt_of_lt_of_le HFe.out hsf.size)
          have HBRf := Lib.hid (Nat.le_trans HBRe.out hsf.size)
          have HLf := Lib.hid (HLD.out G vf Af PL.length cf PL (m + 1) wf hhf HLC.out)
          rw [show ((m + 1 : Nat) : Int) = (m : Int) + 1 from rfl] at HLf
          clear hhf hsf
          go_wp2_with fail
          refine HLf.out.mono ?_
          rintro e wg ⟨v7, A7, c7, rfl, hs7, hbg⟩
          have hA := (Below.refl wg.heap.size wg).alloc (Nat.le_refl _) (.cells #[.pointer v7, .int .i64 ((m : Int) + 1), .slice A7 PL.length c7] 49)
          have hah := bt hbg hA
          have HIh := Lib.hid (HIf.out.on hah)
          have HBh := Lib.hid (bt HBf.out hah)
          have HRh := Lib.hid (HRf.out.on hah)
          have HSh := Lib.hid (hs7.on hA)
          have y2 := (hah.cell (p := ⟨F, 2, none⟩) HFf.out).trans HXf.out
          have HBRh := Lib.hid (Nat.le_trans HBRf.out hah.size)
          have n0 := new_cell4 wg #[.pointer v7, .int .i64 ((m : Int) + 1), .slice A7 PL.length c7] 49 0
          have n1 := new_cell4 wg #[.pointer v7, .int .i64 ((m : Int) + 1), .slice A7 PL.length c7] 49 1
          have n2 := new_cell4 wg #[.pointer v7, .int .i64 ((m : Int) + 1), .slice A7 PL.length c7] 49 2
          simp only [List.getElem?_toArray, List.getElem?_cons_succ, List.getElem?_cons_zero] at n0 n1 n2
          have HNh : Hid (wg.heap.size < (wg.alloc (.cells #[.pointer v7, .int .i64 ((m : Int) + 1), .slice A7 PL.length c7] 49)).heap.size) := by show _ < _; simp
          have hm0 : (0 : Int) ≤ (m : Int) := by omega
          have hm1 : (m : Int) + 1 ≤ 1000 := by omega
          clear hs7 hbg hA hah
          go_upto_region 18 with fail
          generalize wg.alloc (.cells #[.pointer v7, .int .i64 ((m : Int) + 1), .slice A7 PL.length c7] 49) = wh at *
          generalize wg.heap.size = N at *
          have HLNh := Lib.hid (HLN.out wh v7 PL HSh.out.tr)
          have HN2 := Lib.hid n2
          have hpl : PL.length ≤ 24 := HLC.out.law.few
          go_wp2_with fail
          refine HLNh.out.mono ?_
          rintro e wi ⟨rfl, rfl⟩
          clear n0 n1 y2
          go_wp2_with fail
          clear n2
          go_loopw [115] (fun i wr => ∃ (j : Nat), j ≤ PL.length ∧ i = .int .i64 j ∧ Hid (Below wh.heap.size wh wr)) (fun i _ => PL.length - (intOf i).toNat)
          case atStart => exact ⟨0, by omega, rfl, Below.refl _ _⟩
          case round =>
            obtain ⟨j, hj, rfl, HBJ⟩ := hrel
            by_cases hlj : j < PL.length
            · obtain ⟨b1, e1, _, p0, p1, p2⟩ := rt_in (HSh.out.on HBJ.out).rd rfl j hlj
              obtain ⟨b2, e2, _, q0, q1, q2⟩ := rt_in (HRh.out.on HBJ.out).1 rfl j hlj
              subst e1 e2
              have n2 := (HBJ.out.cell (p := ⟨N, 2, none⟩) HNh.out).trans HN2.out
              have hneq := HNE.out PL[j]
              have hj0 : (0 : Int) ≤ (j : Int) := by omega
              have hj1 : (j : Int) < (PL.length : Int) := by omega
              generalize mkB PL[j].m = zm at *
              generalize mkB PL[j].p = zp at *
              generalize mkB PL[j].h = zh at *
              go_upto_region 29 with fail
              go_quiet (fail)
              go_wp2_with fail
              go_roundw
              case rel => exact ⟨j + 1, by omega, by go_num, bt HBJ.out (below_dn _ _ _)⟩
              case measure => simp [intOf]; omega
            · go_wp2_with fail
              go_roundw
              case rel => exact ⟨k + 1, m + 1, PL, os ++ [⟨v5, A5, L.length, c5, m, L⟩], sv2, rfl, by omega, by go_num, rfl, by rw [List.length_append, HOK.out]; rfl, by omega, Lib.hid (HIh.out.on HBJ.out), Lib.hid (bt HBh.out HBJ.out), Lib.hid (Nat.le_trans HBRh.out HBJ.out.size)⟩
              case measure => simp [intOf]; omega
        · have HLC := Lib.hid HI.out.lc
          have HSX := Lib.hid (fun v A c wx (hb : Below w.heap.size w wx) (h : HoAt wx G v A L.length c L m) => HSN.out G v A c m L tt wx hb h (by omega) (by omega) hpe)
          generalize (parseL tt.data.toList).1 = PL at *
          generalize (parseL tt.data.toList).2 = PE at *
          have hKb : (!(PE == 0)) = true := by simp [hpe]
          have hKc : (PE == 0) = false := by simp [hpe]
          clear hpe
          go_wp2_with fail
          refine HP.out.mono ?_
          rintro e wa ⟨pv, rfl, hown, hba⟩
          obtain ⟨PA, pc, rfl, hpc, hrt⟩ := RdT.own hown
          have HIa := Lib.hid (HI.out.on hba)
          have HBa := Lib.hid (bt HB.out hba)
          have HBRa : Hid (base ≤ wa.heap.size) := Nat.le_trans HBR.out hba.size
          
          obtain ⟨va, Aa, ca, hha⟩ := HIa.out.ho
          have HLa := Lib.hid (HLD.out G va Aa L.length ca L m wa hha HIa.out.lc)
          clear hown hba hrt hha hpc
          go_wp2_with fail
          refine HLa.out.mono ?_
          rintro e wb ⟨v5, A5, c5, rfl, hs5, hbb⟩
          have hA := (Below.refl wb.heap.size wb).alloc (Nat.le_refl _) (.cells #[.pointer v5, .int .i64 m, .slice A5 L.length c5] 49)
          have hac := bt hbb hA
          have HIc := Lib.hid (HIa.out.on hac)
          have HBc := Lib.hid (bt HBa.out hac)
          have HBRc := Lib.hid (Nat.le_trans HBRa.out hac.size)
          
          have HSc := Lib.hid (hs5.on hA)
          have HRB : Hid (∀ R, sv.ownBlock = some R → R < wb.heap.size) := fun R h => ((HIa.out.on hbb).row.lt R h).2
          have HGF : Hid (G < wb.heap.size) := Nat.lt_of_lt_of_le (by obtain ⟨_, _, _, h⟩ := HIa.out.ho; exact h.bk.lt) hbb.size
          have x0 := new_cell4 wb #[.pointer v5, .int .i64 m, .slice A5 L.length c5] 49 0
          have x1 := new_cell4 wb #[.pointer v5, .int .i64 m, .slice A5 L.length c5] 49 1
          have x2 := new_cell4 wb #[.pointer v5, .int .i64 m, .slice A5 L.length c5] 49 2
          simp only [List.getElem?_toArray, List.getElem?_cons_succ, List.getElem?_cons_zero] at x0 x1 x2
          have HFc : Hid (wb.heap.size < (wb.alloc (.cells #[.pointer v5, .int .i64 m, .slice A5 L.length c5] 49)).heap.size) := by show _ < _; simp
          clear hs5 hbb hA hac
          go_upto_region 15 with fail
          generalize wb.alloc (.cells #[.pointer v5, .int .i64 m, .slice A5 L.length c5] 49) = wc at *
          generalize wb.heap.size = F at *
          have hAd := (Below.refl wc.heap.size wc).alloc (Nat.le_refl _) (.cells #[.pointer v5, .int .i64 m, .slice A5 L.length c5] 49)
          have HId := Lib.hid (HIc.out.on hAd)
          have HBd := Lib.hid (bt HBc.out hAd)
          have HBRd := Lib.hid (Nat.le_trans HBRc.out hAd.size)
          
          have HSd := Lib.hid (HSc.out.on hAd)
          have HXd := Lib.hid ((hAd.cell (p := ⟨F, 2, none⟩) HFc.out).trans x2)
          have HFd : Hid (F < (wc.alloc (.cells #[.pointer v5, .int .i64 m, .slice A5 L.length c5] 49)).heap.size) := Nat.lt_of_lt_of_le HFc.out hAd.size
          have HNV := Lib.hid (snv_new wc ⟨v5, A5, L.length, c5, m, L⟩)
          have HNO : Hid (∀ u ∈ snV ⟨v5, A5, L.length, c5, m, L⟩, u.oneCell' = true) := fun u hu => sn_one [⟨v5, A5, L.length, c5, m, L⟩] u (by simpa [snCells] using hu)
          have HM63 : Hid (os.length + 1 ≤ maxLen) := by show _ ≤ _; unfold maxLen; omega
          have HM40 : Hid ((os.length + 1) * 40 ≤ 140737488355328) := by show _ ≤ _; omega
          have HRW := Lib.hid HId.out.row
          clear hAd
          go_wp2_with (at_builtin; refine wpList_append_own_at _ rfl _ _ 44 rfl base 49 i0 (.agg #[.pointer none, .int .i64 0, .slice none 0 0]) 3 40 Tryd.underlying44 hi HZ.out.1 HZ.out.2.1 HZ.out.2.2 rfl (by decide) sv os.length (snCells os) rfl HRW.out ⟨wc.heap.size, 0, none⟩ 1 1 (snV ⟨v5, A5, L.length, c5, m, L⟩) rfl rfl HNV.out HNO.out HM63.out HM40.out ?hle ?_)
          case hle => have := HBRc.out; omega
          intro sv2 we hown hgr _ _
          have HIe := Lib.hid (HId.out.push ⟨v5, A5, L.length, c5, m, L⟩ HSd.out HIa.out.lc rfl hown hgr)
          have HBe : Hid (Below w.heap.size w we) := HBd.out.grown hgr HBd.out.size (fun k hk => Nat.le_trans HBS.out (HRW.out.lt k hk).1)
          
          have HXe := Lib.hid (hgr.cell HXd.out (fun e => Nat.lt_irrefl _ (HRB.out F e.symm)))
          have HFe := Lib.hid (Nat.lt_of_lt_of_le HFd.out hgr.size)
          have HBRe := Lib.hid (Nat.le_trans HBRd.out hgr.size)
          clear hown hgr
          obtain ⟨ve, Ae, ce, hhe⟩ := HIe.out.ho
          have HSe := Lib.hid (HSX.out ve Ae ce we HBe.out hhe)
          have HKe := Lib.hid hhe.bk
          clear hhe x0 x1 x2
          go_wp2_with fail
          refine HSe.out.mono ?_
          rintro e wf ⟨vf, Af, cf, rfl, hhf, hsf⟩
          have HIf := Lib.hid (HIe.out.swp HGB.out hsf ⟨vf, Af, cf, hhf⟩ HLC.out (by omega))
          have HBf := Lib.hid (HBe.out.trans (hsf.below HBe.out.size HG.out))
          
          have HXf := Lib.hid ((hsf.cell (p := ⟨F, 2, none⟩) HFe.out (Nat.ne_of_gt HGF.out)).trans HXe.out)
          have HFf := Lib.hid (Nat.lt_of_lt_of_le HFe.out hsf.size)
          have HBRf := Lib.hid (Nat.le_trans HBRe.out hsf.size)
          have HLf := Lib.hid (HLD.out G vf Af L.length cf L m wf hhf HLC.out)
          
          clear hhf hsf
          go_wp2_with fail
          refine HLf.out.mono ?_
          rintro e wg ⟨v7, A7, c7, rfl, hs7, hbg⟩
          have hA := (Below.refl wg.heap.size wg).alloc (Nat.le_refl _) (.cells #[.pointer v7, .int .i64 m, .slice A7 L.length c7] 49)
          have hah := bt hbg hA
          have HIh := Lib.hid (HIf.out.on hah)
          have HBh := Lib.hid (bt HBf.out hah)
          
          have HSh := Lib.hid (hs7.on hA)
          have y2 := (hah.cell (p := ⟨F, 2, none⟩) HFf.out).trans HXf.out
          have HBRh := Lib.hid (Nat.le_trans HBRf.out hah.size)
          have n0 := new_cell4 wg #[.pointer v7, .int .i64 m, .slice A7 L.length c7] 49 0
          have n1 := new_cell4 wg #[.pointer v7, .int .i64 m, .slice A7 L.length c7] 49 1
          have n2 := new_cell4 wg #[.pointer v7, .int .i64 m, .slice A7 L.length c7] 49 2
          simp only [List.getElem?_toArray, List.getElem?_cons_succ, List.getElem?_cons_zero] at n0 n1 n2
          have HNh : Hid (wg.heap.size < (wg.alloc (.cells #[.pointer v7, .int .i64 m, .slice A7 L.length c7] 49)).heap.size) := by show _ < _; simp
          have hm0 : (0 : Int) ≤ (m : Int) := by omega
          have hm1 : (m : Int) + 1 ≤ 1000 := by omega
          clear hs7 hbg hA hah
          go_upto_region 18 with fail
          generalize wg.alloc (.cells #[.pointer v7, .int .i64 m, .slice A7 L.length c7] 49) = wh at *
          generalize wg.heap.size = N at *
          go_wp2_with fail
          go_roundw
          case rel => exact ⟨k + 1, m, L, os ++ [⟨v5, A5, L.length, c5, m, L⟩], sv2, rfl, by omega, by go_num, rfl, by rw [List.length_append, HOK.out]; rfl, by omega, HIh, HBh, HBRh⟩
          case measure => simp [intOf]; omega
      · have g15 : decide ((2000 : Int) < (tt.size : Int)) = true := by rw [decide_eq_true_eq]; omega
        have g16 : (2000 : Int) < (tt.size : Int) := by omega
        go_wp2_with fail
        go_ret
        exact ⟨rfl, HB.out⟩
    · obtain ⟨RA, rc, rfl, hrc, hrd⟩ := Rd.ownc HI.out.row
      have HRD := Lib.hid hrd
      clear hrd
      obtain ⟨w6, hw6⟩ : ∃ w6, w6 = wr := ⟨_, rfl⟩
      rw [← hw6] at HI HB HRD ⊢
      clear hw6 HBR
      go_wp2_with fail
      go_loopw [132] (fun i wr => ∃ (j : Nat), j ≤ os.length ∧ i = .int .i64 j ∧ Hid (Below w6.heap.size w6 wr)) (fun i _ => os.length - (intOf i).toNat)
      case atStart => exact ⟨0, by omega, rfl, Below.refl _ _⟩
      case round =>
        obtain ⟨j, hj, rfl, HBJ⟩ := hrel
        by_cases hlj : j < os.length
        · obtain ⟨ra, e0, _, p0, p1, p2⟩ := sn_in ((HRD.out.below HBJ.out (Nat.le_refl _)).wide HBJ.out.size) rfl j hlj
          subst e0
          obtain ⟨hsx, hlx, _⟩ := (HI.out.on HBJ.out).sns os[j] (List.getElem_mem hlj)
          have HPV : Hid (0 < j → ∃ j' kp : Nat, j = j' + 1 ∧ kp ≤ os[j].k ∧ ∀ wx, Below w6.heap.size w6 wx → wx.cell? ⟨(ra.add (j' * 3)).block, (ra.add (j' * 3)).off + 1, none⟩ = some (.int .i64 kp)) := fun h0 => by
            obtain ⟨j', rfl⟩ : ∃ j', j = j' + 1 := ⟨j - 1, by omega⟩
            refine ⟨j', os[j'].k, rfl, HI.out.ver j' hlj, fun wx hb => ?_⟩
            obtain ⟨ra2, e2, _, _, q1, _⟩ := sn_in ((HRD.out.below hb (Nat.le_refl _)).wide hb.size) rfl j' (by omega)
            cases e2
            exact q1
          generalize os[j] = x at *
          obtain ⟨xv, xA, xn, xcc, xk, xl⟩ := x
          dsimp only at hsx hlx p0 p1 p2 HPV
          obtain rfl : xn = xl.length := hsx.len
          have HMX : Hid (∀ v wx, Tr wx wx.heap.size v xl → Below w.heap.size w wx → Calls Tryd.prog 10 #[.pointer v, .string ⟨#[71, 69, 84]⟩, .slice XA xs.length xc] wx fun e w' => MtRet (matchL [71, 69, 84] xs xl) e w' ∧ Below wx.heap.size wx w') := fun v wx h hb => HMA.out v xl wx h hlx hb
          generalize matchL [71, 69, 84] xs xl = T at *
          have HLX := Lib.hid hlx
          have hxl : xl.length ≤ 24 := hlx.law.few
          have hA := (Below.refl wr.heap.size wr).alloc (Nat.le_refl _) (.cells #[.pointer xv, .int .i64 xk, .slice xA xl.length xcc] 49)
          have HB7 := Lib.hid (bt (bt HB.out HBJ.out) hA)
          have HJ7 := Lib.hid (bt HBJ.out hA)
          have HS7 := Lib.hid (hsx.on hA)
          have f0 := new_cell4 wr #[.pointer xv, .int .i64 xk, .slice xA xl.length xcc] 49 0
          have f1 := new_cell4 wr #[.pointer xv, .int .i64 xk, .slice xA xl.length xcc] 49 1
          have f2 := new_cell4 wr #[.pointer xv, .int .i64 xk, .slice xA xl.length xcc] 49 2
          simp only [List.getElem?_toArray, List.getElem?_cons_succ, List.getElem?_cons_zero] at f0 f1 f2
          have HF7 : Hid (wr.heap.size < (wr.alloc (.cells #[.pointer xv, .int .i64 xk, .slice xA xl.length xcc] 49)).heap.size) := by show _ < _; simp
          have hj0 : (0 : Int) ≤ (j : Int) := by omega
          have hj1 : (j : Int) < (os.length : Int) := by omega
          have HX0 := Lib.hid f0
          have HX1 := Lib.hid f1
          have HX2 := Lib.hid f2
          clear hsx hlx hA f1 f2
          go_upto_region 36 with fail
          generalize wr.alloc (.cells #[.pointer xv, .int .i64 xk, .slice xA xl.length xcc] 49) = w7 at *
          generalize wr.heap.size = F at *
          have HM7 := Lib.hid (HMX.out xv w7 HS7.out.tr HB7.out)
          go_wp2_with fail
          refine HM7.out.mono ?_
          rintro e w8 ⟨⟨P1, n1, d1, Q1, m1, e1, rfl, _⟩, hb8⟩
          obtain ⟨tb, htb⟩ : ∃ tb, mkB T.h = tb := ⟨_, rfl⟩
          rw [htb]
          have HTB := Lib.hid htb
          have hA := (Below.refl w8.heap.size w8).alloc (Nat.le_refl _) (.cells #[.string tb, .slice P1 n1 d1, .slice Q1 m1 e1] 34)
          have h79 := bt hb8 hA
          have HC9 := Lib.hid h79
          have HB9 := Lib.hid (bt HB7.out h79)
          have HS9 := Lib.hid (HS7.out.on h79)
          have f2 := (h79.cell (p := ⟨F, 2, none⟩) HF7.out).trans HX2.out
          have a0 := new_cell4 w8 #[.string tb, .slice P1 n1 d1, .slice Q1 m1 e1] 34 0
          simp only [List.getElem?_toArray, List.getElem?_cons_zero] at a0
          have HA0 := Lib.hid a0
          have HF9 : Hid (w8.heap.size < (w8.alloc (.cells #[.string tb, .slice P1 n1 d1, .slice Q1 m1 e1] 34)).heap.size) := by show _ < _; simp
          have HNQ := Lib.hid (HNX.out xl xA xcc _ HLX.out HS9.out.rd HB9.out)
          clear htb hb8 hA h79 a0
          go_upto_region 37 with fail
          clear f0
          generalize w8.alloc (.cells #[.string tb, .slice P1 n1 d1, .slice Q1 m1 e1] 34) = w9 at *
          generalize w8.heap.size = M1 at *
          go_wp2_with fail
          refine HNQ.out.mono ?_
          rintro e w10 ⟨G2, vq, Aq, cq, rfl, hhq, _, hb10⟩
          have HB10 := Lib.hid (bt HB9.out hb10)
          have HC10 := Lib.hid hb10
          have HLQ := Lib.hid (HLD.out G2 vq Aq xl.length cq xl 1 w10 hhq HLX.out)
          clear hhq hb10 f2
          go_wp2_with fail
          refine HLQ.out.mono ?_
          rintro e w11 ⟨v11, A11, c11, rfl, hs11, hb11⟩
          have hA := (Below.refl w11.heap.size w11).alloc (Nat.le_refl _) (.cells #[.pointer v11, .int .i64 (1 : Nat), .slice A11 xl.length c11] 49)
          have HC12 := Lib.hid (bt HC10.out (bt hb11 hA))
          have HB12 := Lib.hid (bt HB10.out (bt hb11 hA))
          have HS12 := Lib.hid (hs11.on hA)
          have b0 := new_cell4 w11 #[.pointer v11, .int .i64 (1 : Nat), .slice A11 xl.length c11] 49 0
          simp only [List.getElem?_toArray, List.getElem?_cons_zero] at b0
          have HM12 := Lib.hid (HMX.out v11 _ HS12.out.tr HB12.out)
          clear hs11 hb11 hA
          go_upto_region 38 with fail
          generalize w11.alloc (.cells #[.pointer v11, .int .i64 (1 : Nat), .slice A11 xl.length c11] 49) = w12 at *
          generalize w11.heap.size = M2 at *
          go_wp2_with fail
          refine HM12.out.mono ?_
          rintro e w13 ⟨⟨P2, n2, d2, Q2, m2, e2, he, _⟩, hb13⟩
          rw [HTB.out] at he
          subst he
          have hA := (Below.refl w13.heap.size w13).alloc (Nat.le_refl _) (.cells #[.string tb, .slice P2 n2 d2, .slice Q2 m2 e2] 34)
          have HC14 := Lib.hid (bt HC12.out (bt hb13 hA))
          have HB14 := Lib.hid (bt HB12.out (bt hb13 hA))
          have c0 := new_cell4 w13 #[.string tb, .slice P2 n2 d2, .slice Q2 m2 e2] 34 0
          simp only [List.getElem?_toArray, List.getElem?_cons_zero] at c0
          have H714 := Lib.hid (bt HC9.out HC14.out)
          have HJ14 := Lib.hid (bt HJ7.out H714.out)
          have g0 := (H714.out.cell (p := ⟨F, 0, none⟩) HF7.out).trans HX0.out
          have g1 := (H714.out.cell (p := ⟨F, 1, none⟩) HF7.out).trans HX1.out
          have g2 := (H714.out.cell (p := ⟨F, 2, none⟩) HF7.out).trans HX2.out
          have h0 := (HC14.out.cell (p := ⟨M1, 0, none⟩) HF9.out).trans HA0.out
          have HS14 := Lib.hid (HS7.out.on H714.out)
          clear b0 hb13 hA
          go_upto_region 39 with fail
          generalize w13.alloc (.cells #[.string tb, .slice P2 n2 d2, .slice Q2 m2 e2] 34) = w14 at *
          generalize w13.heap.size = M3 at *
          have HLEN : Hid (∀ q, Calls Tryd.prog 17 #[.pointer xv] (w14.drewN q) fun e w'' => e = .returned (.int .i64 xl.length) ∧ ∃ q', w'' = w14.drewN q') := fun q => (HLN.out (w14.drewN q) xv xl (HS14.out.on (below_dn _ _ _)).tr).mono fun e w'' ⟨h1, h2⟩ => ⟨h1, q, h2.symm⟩
          generalize T.ok = ok at *
          rcases Nat.eq_zero_or_pos j with hz | hz
          · have hgt : decide ((0 : Int) < (j : Int)) = false := by rw [decide_eq_false_iff_not]; omega
            have hgt2 : decide (0 < j) = false := by rw [decide_eq_false_iff_not]; omega
            clear hz
            go_quiet ((first | (go_at_call 17; exact HLEN.out _)))
            go_wp2_with fail
            go_roundw
            case rel => exact ⟨j + 1, by omega, by go_num, bt HJ14.out (below_dn _ _ _)⟩
            case measure => simp [intOf]; omega
          · have hgt : decide ((0 : Int) < (j : Int)) = true := by rw [decide_eq_true_eq]; omega
            have hgt2 : decide (0 < j) = true := by rw [decide_eq_true_eq]; omega
            obtain ⟨j', kp, hjj, hkp, hcp⟩ := HPV.out hz
            have q1 := hcp w14 HJ14.out
            have hs1 : wrap64 ((j : Int) - 1) = (j' : Int) := sub64w j j' hjj (by omega)
            have hs2 : IntKind.i64.wrap ((j : Int) - 1) = (j' : Int) := sub64 j j' hjj (by omega)
            have hl1 : (j' : Int) < (os.length : Int) := by omega
            have hl2 : (0 : Int) ≤ (j' : Int) := by omega
            have hl3 : j' < os.length := by omega
            have hlt2 : decide ((xk : Int) < (kp : Int)) = false := by rw [decide_eq_false_iff_not]; omega
            have hlt3 : decide (xk < kp) = false := by rw [decide_eq_false_iff_not]; omega
            clear hz hcp hkp
            go_quiet ((first | (go_at_call 17; exact HLEN.out _)))
            go_wp2_with fail
            go_roundw
            case rel => exact ⟨j + 1, by omega, by go_num, bt HJ14.out (below_dn _ _ _)⟩
            case measure => simp [intOf]; omega
        · go_wp2_with fail
          go_ret
          exact ⟨rfl, bt HB.out HBJ.out⟩
end Go.Proofs.YtgfjkpfjajjidaaDoor
