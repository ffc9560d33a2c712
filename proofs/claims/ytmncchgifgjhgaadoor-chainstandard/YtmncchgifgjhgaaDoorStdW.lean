/- The walk of ChainStandard. -/
import Derived.Test.YtmncchgifgjhgaaDoorMarksH
import Derived.Test.YtmncchgifgjhgaaDoorStdP
namespace Go.Proofs.YtmncchgifgjhgaaDoor
open Go.RowKit Go.Shelf

set_option maxRecDepth 100000 in
set_option maxHeartbeats 4000000 in
theorem std_walk (c : Cl) (st : Int) (A : Option Addr) (l : List Fld) (n : Nat) (b : ByteArray) (cl gv : Bool) (w : World) (hg : GB w) (h : c.at w) (hr : RspIn w st A l n) :
    Calls Tryd.prog 3 #[c.v, .agg #[.int .i64 st, .slice A l.length n, .string b, .bool cl], .bool gv] w fun e w' => e = .returned (.bool true) ∧ Below w.heap.size w w' := by
  have HL := Lib.hid (fun wx (hb : Below w.heap.size w wx) => light_any c wx ⟨(h.row.below hb (Nat.le_refl _)).wide hb.size, (h.rowS.below hb (Nat.le_refl _)).wide hb.size, h.cap, h.fsz, h.alz, h.fsn, h.aln, h.z0, h.z1, h.z2, h.z3, h.icn, h.isq, h.ivs⟩)
  have HH := Lib.hid h
  have HF := Lib.hid (fun wx (hb : Below w.heap.size w wx) => fit_any wx (hg.on hb))
  have HG := Lib.hid hg
  have HR := Lib.hid hr
  have hln := hr.len
  clear h hg hr
  obtain ⟨m, tg, A1, fs, fc, bd, cc, cn, sq, vs, hn, pv, B1, al, ac, fd, tk⟩ := c
  simp only [Cl.v] at *
  have hb1 := (Below.refl w.heap.size w).alloc (Nat.le_refl _) (.cells #[.string m, .string tg, .slice A1 fs.length fc, .string bd, .bool cc, .int .i64 cn, .int .i64 sq, .int .i64 vs, .string hn, pv, .slice B1 al.length ac, .bool fd, .string tk] 30)
  have hb2 := hb1.alloc hb1.size (.cells #[.int .i64 st, .slice A l.length n, .string b, .bool cl] 32)
  have hb3 := hb2.alloc hb2.size (.cells #[.bool gv] 4)
  have hs1 : (w.alloc (.cells #[.string m, .string tg, .slice A1 fs.length fc, .string bd, .bool cc, .int .i64 cn, .int .i64 sq, .int .i64 vs, .string hn, pv, .slice B1 al.length ac, .bool fd, .string tk] 30)).heap.size = w.heap.size + 1 := by simp
  have hs2 : ((w.alloc (.cells #[.string m, .string tg, .slice A1 fs.length fc, .string bd, .bool cc, .int .i64 cn, .int .i64 sq, .int .i64 vs, .string hn, pv, .slice B1 al.length ac, .bool fd, .string tk] 30)).alloc (.cells #[.int .i64 st, .slice A l.length n, .string b, .bool cl] 32)).heap.size = w.heap.size + 2 := by simp
  have k3 := heap_alloc_new ((w.alloc (.cells #[.string m, .string tg, .slice A1 fs.length fc, .string bd, .bool cc, .int .i64 cn, .int .i64 sq, .int .i64 vs, .string hn, pv, .slice B1 al.length ac, .bool fd, .string tk] 30)).alloc (.cells #[.int .i64 st, .slice A l.length n, .string b, .bool cl] 32)) (.cells #[.bool gv] 4)
  rw [hs2] at k3
  have hkc : (((w.alloc (.cells #[.string m, .string tg, .slice A1 fs.length fc, .string bd, .bool cc, .int .i64 cn, .int .i64 sq, .int .i64 vs, .string hn, pv, .slice B1 al.length ac, .bool fd, .string tk] 30)).alloc (.cells #[.int .i64 st, .slice A l.length n, .string b, .bool cl] 32)).alloc (.cells #[.bool gv] 4)).heap[w.heap.size]? = some (.cells #[.string m, .string tg, .slice A1 fs.length fc, .string bd, .bool cc, .int .i64 cn, .int .i64 sq, .int .i64 vs, .string hn, pv, .slice B1 al.length ac, .bool fd, .string tk] 30 (0, 0)) := (Below.heap_alloc ((w.alloc (.cells #[.string m, .string tg, .slice A1 fs.length fc, .string bd, .bool cc, .int .i64 cn, .int .i64 sq, .int .i64 vs, .string hn, pv, .slice B1 al.length ac, .bool fd, .string tk] 30)).alloc (.cells #[.int .i64 st, .slice A l.length n, .string b, .bool cl] 32)) (.cells #[.bool gv] 4) w.heap.size (by rw [hs2]; omega)).trans ((Below.heap_alloc (w.alloc (.cells #[.string m, .string tg, .slice A1 fs.length fc, .string bd, .bool cc, .int .i64 cn, .int .i64 sq, .int .i64 vs, .string hn, pv, .slice B1 al.length ac, .bool fd, .string tk] 30)) (.cells #[.int .i64 st, .slice A l.length n, .string b, .bool cl] 32) w.heap.size (by rw [hs1]; omega)).trans (heap_alloc_new w (.cells #[.string m, .string tg, .slice A1 fs.length fc, .string bd, .bool cc, .int .i64 cn, .int .i64 sq, .int .i64 vs, .string hn, pv, .slice B1 al.length ac, .bool fd, .string tk] 30)))
  have hkr : (((w.alloc (.cells #[.string m, .string tg, .slice A1 fs.length fc, .string bd, .bool cc, .int .i64 cn, .int .i64 sq, .int .i64 vs, .string hn, pv, .slice B1 al.length ac, .bool fd, .string tk] 30)).alloc (.cells #[.int .i64 st, .slice A l.length n, .string b, .bool cl] 32)).alloc (.cells #[.bool gv] 4)).heap[w.heap.size + 1]? = some (.cells #[.int .i64 st, .slice A l.length n, .string b, .bool cl] 32 (0, 0)) := by
    have k2 := heap_alloc_new (w.alloc (.cells #[.string m, .string tg, .slice A1 fs.length fc, .string bd, .bool cc, .int .i64 cn, .int .i64 sq, .int .i64 vs, .string hn, pv, .slice B1 al.length ac, .bool fd, .string tk] 30)) (.cells #[.int .i64 st, .slice A l.length n, .string b, .bool cl] 32)
    rw [hs1] at k2
    exact (Below.heap_alloc ((w.alloc (.cells #[.string m, .string tg, .slice A1 fs.length fc, .string bd, .bool cc, .int .i64 cn, .int .i64 sq, .int .i64 vs, .string hn, pv, .slice B1 al.length ac, .bool fd, .string tk] 30)).alloc (.cells #[.int .i64 st, .slice A l.length n, .string b, .bool cl] 32)) (.cells #[.bool gv] 4) (w.heap.size + 1) (by rw [hs2]; omega)).trans k2
  have HC := Lib.hid hkc; have HK := Lib.hid hkr; have HV := Lib.hid k3; have HB := Lib.hid hb3
  clear hkc hkr hb1 hb2 hb3 k3 hs1 hs2
  go_enter Tryd.func3, Tryd.ntmps3
  go_wp2_with fail
  generalize (((w.alloc (.cells #[.string m, .string tg, .slice A1 fs.length fc, .string bd, .bool cc, .int .i64 cn, .int .i64 sq, .int .i64 vs, .string hn, pv, .slice B1 al.length ac, .bool fd, .string tk] 30)).alloc (.cells #[.int .i64 st, .slice A l.length n, .string b, .bool cl] 32)).alloc (.cells #[.bool gv] 4)) = w2 at *
  refine (HF.out w2 HB.out).mono ?_
  rintro e w3 ⟨rfl, hb3⟩
  have HB3 := Lib.hid (bt HB.out hb3)
  have hkq := (hb3.block _ (blk_lt HC.out)).trans HC.out
  have HC3 := Lib.hid hkq
  have HK3 := Lib.hid ((hb3.block _ (blk_lt HK.out)).trans HK.out)
  have HV3 := Lib.hid ((hb3.block _ (blk_lt HV.out)).trans HV.out)
  have c0 := blk_cell hkq 0; have c1 := blk_cell hkq 1; have c2 := blk_cell hkq 2; have c3 := blk_cell hkq 3; have c4 := blk_cell hkq 4; have c5 := blk_cell hkq 5; have c6 := blk_cell hkq 6; have c7 := blk_cell hkq 7; have c8 := blk_cell hkq 8; have c9 := blk_cell hkq 9; have c10 := blk_cell hkq 10; have c11 := blk_cell hkq 11; have c12 := blk_cell hkq 12
  simp only [List.getElem?_toArray, List.getElem?_cons_zero, List.getElem?_cons_succ] at c0 c1 c2 c3 c4 c5 c6 c7 c8 c9 c10 c11 c12
  clear hkq hb3 HC HK HV HF
  go_wp2_with fail
  refine (HL.out _ HB3.out).mono ?_
  rintro e w4 ⟨⟨lr, rfl, hlr⟩, hb4⟩
  have HB4 := Lib.hid (bt HB3.out hb4)
  have HC4 := Lib.hid ((hb4.block _ (blk_lt HC3.out)).trans HC3.out)
  have HK4 := Lib.hid ((hb4.block _ (blk_lt HK3.out)).trans HK3.out)
  have HV4 := Lib.hid ((hb4.block _ (blk_lt HV3.out)).trans HV3.out)
  clear c0 c1 c2 c3 c4 c5 c6 c7 c8 c9 c10 c11 c12 HC3 HK3 HV3 HL hb4
  have hkr4 := HK4.out
  have r0 := blk_cell hkr4 0; have r1 := blk_cell hkr4 1; have r2 := blk_cell hkr4 2; have r3 := blk_cell hkr4 3
  simp only [List.getElem?_toArray, List.getElem?_cons_zero, List.getElem?_cons_succ] at r0 r1 r2 r3
  clear hkr4
  cases lr with
  | false =>
    clear hlr
    go_wp2_with fail
    go_ret
    exact ⟨rfl, HB4.out⟩
  | true =>
    have HLI := Lib.hid (hlr rfl)
    clear hlr
    by_cases hl20 : (20 : Int) < (l.length : Int)
    · go_wp2_with fail
      go_ret
      exact ⟨rfl, HB4.out⟩
    · have HL20 : Hid (l.length ≤ 20) := by show _ ≤ _; omega
      have hk5 := heap_alloc_new w4 (.cells #[.int .i64 0] 3)
      have hb5 := (Below.refl w4.heap.size w4).alloc (Nat.le_refl _) (.cells #[.int .i64 0] 3)
      have HC5 := Lib.hid ((hb5.block _ (blk_lt HC4.out)).trans HC4.out)
      have HK5 := Lib.hid ((hb5.block _ (blk_lt HK4.out)).trans HK4.out)
      have HV5 := Lib.hid ((hb5.block _ (blk_lt HV4.out)).trans HV4.out)
      have HB5 := Lib.hid (bt HB4.out hb5)
      have hsz5 : (w4.alloc (.cells #[.int .i64 0] 3)).heap.size = w4.heap.size + 1 := by simp
      have HN5 := Lib.hid hk5
      have HW4 : Hid (w.heap.size + 2 < w4.heap.size) := blk_lt HV4.out
      clear hk5 hb5
      obtain ⟨w5, hw5⟩ : ∃ w5, w4.alloc (.cells #[.int .i64 0] 3) = w5 := ⟨_, rfl⟩
      rw [hw5] at HC5 HK5 HV5 HB5 hsz5 HN5
      have HSZ5 := Lib.hid hsz5
      obtain ⟨N, hN⟩ : ∃ N, w4.heap.size = N := ⟨_, rfl⟩
      rw [hN] at HSZ5 HN5 HW4
      have HATP : Hid (∀ j, atP N j → w.heap.size ≤ j) := fun j q => by unfold atP at q; have := HW4.out; omega
      have HRDY : Hid (∀ wx, Below w5.heap.size w5 wx → ∀ wq, wq = wx.alloc (.cells #[.func (.func 26) #[] #[], .func (.func 25) #[] #[], .func (.func 21) #[] #[], .func (.func 22) #[] #[], .func (.func 23) #[] #[], .func (.func 24) #[] #[]] 47) → Calls Tryd.prog 11 #[.func (.func 12) #[] #[.pointer (some ⟨N, 0, none⟩), .pointer (some ⟨w.heap.size + 1 + 1, 0, none⟩), .pointer (some ⟨w.heap.size + 1, 0, none⟩)], .slice (some ⟨wx.heap.size, 0, none⟩) 6 6] wq fun e w' => ∃ H, e = .returned (.func (.func 33) #[] #[.pointer (some ⟨H, 0, none⟩)]) ∧ Below wx.heap.size wx w' ∧
          Hid (Calls Tryd.prog 33 #[.agg #[.string m, .string tg, .slice A1 fs.length fc, .string bd, .bool cc, .int .i64 cn, .int .i64 sq, .int .i64 vs, .string hn, pv, .slice B1 al.length ac, .bool fd, .string tk], .pointer (some ⟨H, 0, none⟩)] w' fun e wy => ∃ sst sl sb scl once OA on, e = .returned (.agg #[.int .i64 sst, .slice OA (List.length sl + 2) on, .string sb, .bool (scl || cc)]) ∧
            Says (wantB (kbT m) (sbT m bd) (gbT tk tg (valsOf tokB fs)) fd (decide (al ≠ [])) gv) st l b cl gv sst sl sb scl once ∧ Rd wy wy.heap.size 2 OA (sl.length + 2) (fldCells (markL cn sq vs ++ sl)) ∧ Num N (if once = true then 1 else 0) wy ∧ Frm (atP N) w5 wy)) := fun wx hbx wq hwq => by
        subst hwq
        have h := all_any12 stdL (.func (.func 12) #[] #[.pointer (some ⟨N, 0, none⟩), .pointer (some ⟨w.heap.size + 1 + 1, 0, none⟩), .pointer (some ⟨w.heap.size + 1, 0, none⟩)]) ⟨_, _, rfl, enters_of Tryd.func12 (by kernel_rfl) rfl⟩ _ 6 _ (by decide) (std_rd wx)
        refine h.mono ?_
        rintro e w' ⟨rfl, ⟨v, hk, _, hch⟩, hb'⟩
        have hbx' := ((Below.refl wx.heap.size wx).alloc (Nat.le_refl _) (.cells #[.func (.func 26) #[] #[], .func (.func 25) #[] #[], .func (.func 21) #[] #[], .func (.func 22) #[] #[], .func (.func 23) #[] #[], .func (.func 24) #[] #[]] 47))
        have hb6 := bt hbx' hb'
        have hbw := bt hbx hb6
        have hbww := bt HB5.out hbw
        have hs5 := HSZ5.out
        have hNx : N < wx.heap.size := by have := hbx.size; omega
        have hNw : N < w'.heap.size := by have := hb6.size; omega
        have hw4 := HW4.out
        have hsq := hbx'.size
        refine ⟨_, rfl, hb6, ?_⟩
        show Calls _ _ _ _ _
        have t0 : Hd (atP N) (Num N 0) (Num N 1) (Cl.v ⟨m, tg, A1, fs, fc, bd, cc, cn, sq, vs, hn, pv, B1, al, ac, fd, tk⟩) (own0 gv st l b cl) w' (.func (.func 12) #[] #[.pointer (some ⟨N, 0, none⟩), .pointer (some ⟨w.heap.size + 1 + 1, 0, none⟩), .pointer (some ⟨w.heap.size + 1, 0, none⟩)]) := by
          cases gv with
          | false => exact std1_ans ((hbw.block _ (blk_lt HV5.out)).trans HV5.out) (by omega) hNw ((hbw.block _ (blk_lt HK5.out)).trans HK5.out) (by omega) (Row.old HR.out.row hbww HATP.out) (by have := HL20.out; omega)
          | true => exact std1_gone ((hbw.block _ (blk_lt HV5.out)).trans HV5.out) (by omega) hNw ((hbw.block _ (blk_lt HK5.out)).trans HK5.out) (by omega) (Row.old HR.out.row hbww HATP.out) (by have := HL20.out; omega)
        have hp : ∀ j, atP N j → j < w'.heap.size := fun j q => by unfold atP at q; omega
        have t1 := std_hd (c := ⟨m, tg, A1, fs, fc, bd, cc, cn, sq, vs, hn, pv, B1, al, ac, fd, tk⟩) (HH.out.ok HLI.out hbww HATP.out) (HG.out.on hbww) (fun j q => by have := HATP.out j q; have := HG.out.big; omega) (fun st' l' b' cl' e => by unfold own0 at e; split at e <;> cases e; have := HL20.out; omega) t0 hp (fun j q => by unfold atP at q; omega) (of_num N 0) (of_num N 1) hch
        obtain ⟨sst, sl, sb, scl, hsafe, hsays⟩ := std_says ⟨m, tg, A1, fs, fc, bd, cc, cn, sq, vs, hn, pv, B1, al, ac, fd, tk⟩ gv st l b cl
        rw [hsafe] at t1
        have t2 := all1_o t1 hp (of_num N 0) (of_sel (of_num N 0) (of_num N 1)) (blk_lt hk) (fun q => by unfold atP at q; omega) (blk_cell hk 0)
        generalize (stdO ⟨m, tg, A1, fs, fc, bd, cc, cn, sq, vs, hn, pv, B1, al, ac, fd, tk⟩ (own0 gv st l b cl)).2 = once at *
        obtain ⟨_, _, he2, _, hcall⟩ := t2
        cases he2
        refine (hcall w' (Frm.refl _ _) ((hbw.block N (by omega)).trans HN5.out)).mono ?_
        rintro e wy ⟨⟨OA, on, rfl, hrow, hll, _⟩, hf, hsel⟩
        have hmn : (markL cn sq vs ++ sl).length = sl.length + 2 := by rw [List.length_append]; show 2 + sl.length = _; omega
        have hrd := hrow.rd
        rw [hmn] at hrd
        refine ⟨sst, sl, sb, scl, once, OA, on, by rw [← hmn], hsays, hrd, ?_, (Frm.of hbw).trans hf⟩
        cases once <;> exact hsel
      have HW5 := Lib.hid hw5
      clear hw5 hsz5
      go_upto_region 6 with fail
      rw [HW5.out]
      clear r0 r1 r2 r3 hl20 HW5
      go_wp2_with fail
      refine (standard_any w5).mono ?_
      rintro e wq ⟨rfl, hwq⟩
      have HQ := Lib.hid (HRDY.out w5 (Below.refl _ _) wq hwq)
      clear hwq
      go_wp2_with fail
      refine HQ.out.mono ?_
      rintro e w6 ⟨H, rfl, hb6, HCALL⟩
      have HC6 := Lib.hid ((hb6.block _ (blk_lt HC5.out)).trans HC5.out)
      have hkq := HC6.out
      have c0 := blk_cell hkq 0; have c1 := blk_cell hkq 1; have c2 := blk_cell hkq 2; have c3 := blk_cell hkq 3; have c4 := blk_cell hkq 4; have c5 := blk_cell hkq 5; have c6 := blk_cell hkq 6; have c7 := blk_cell hkq 7; have c8 := blk_cell hkq 8; have c9 := blk_cell hkq 9; have c10 := blk_cell hkq 10; have c11 := blk_cell hkq 11; have c12 := blk_cell hkq 12
      simp only [List.getElem?_toArray, List.getElem?_cons_zero, List.getElem?_cons_succ] at c0 c1 c2 c3 c4 c5 c6 c7 c8 c9 c10 c11 c12
      clear hkq HQ HRDY
      go_wp2_with fail
      refine HCALL.out.mono ?_
      rintro e w7 ⟨sst, sl, sb, scl, once, OA, on, rfl, hsays, hrd, hnum, hfr⟩
      have hw4 := HW4.out
      have hbw7 : Below w.heap.size w w7 := HB5.out.trans (hfr.below HB5.out.size HATP.out)
      have kc7 := (hfr.block _ (blk_lt HC5.out) (fun q => by unfold atP at q; omega)).trans HC5.out
      have kr7 := (hfr.block _ (blk_lt HK5.out) (fun q => by unfold atP at q; omega)).trans HK5.out
      have kv7 := (hfr.block _ (blk_lt HV5.out) (fun q => by unfold atP at q; omega)).trans HV5.out
      have hb8 := (Below.refl w7.heap.size w7).alloc (Nat.le_refl _) (.cells #[.int .i64 sst, .slice OA (sl.length + 2) on, .string sb, .bool (scl || cc)] 32)
      have HGK := Lib.hid (heap_alloc_new w7 (.cells #[.int .i64 sst, .slice OA (sl.length + 2) on, .string sb, .bool (scl || cc)] 32))
      have HB8 := Lib.hid (bt hbw7 hb8)
      have HC8 := Lib.hid ((hb8.block _ (blk_lt kc7)).trans kc7)
      have HK8 := Lib.hid ((hb8.block _ (blk_lt kr7)).trans kr7)
      have HV8 := Lib.hid ((hb8.block _ (blk_lt kv7)).trans kv7)
      have HN8 := Lib.hid ((hb8.block N (blk_lt hnum)).trans hnum)
      have HRD8 := Lib.hid ((hrd.below hb8 (Nat.le_refl _)).wide hb8.size)
      have HSY := Lib.hid hsays
      clear hbw7 kc7 kr7 kv7 hb8 hnum hrd hsays hfr hw4 HCALL hb6 HC6 HC5 HK5 HV5 HB5 HN5 HC4 HK4 HV4 HB4 HB3 HSZ5 c0 c1 c2 c3 c4 c5 c6 c7 c8 c9 c10 c11 c12
      go_upto_region 8 with fail
      generalize w7.alloc (.cells #[.int .i64 sst, .slice OA (sl.length + 2) on, .string sb, .bool (scl || cc)] 32) = w8 at *
      generalize w7.heap.size = G at *
      have HTK := Lib.hid (all_any fs tokB A1 fc w8 ((HH.out.row.below HB8.out (Nat.le_refl _)).wide HB8.out.size) (by have := HLI.out.fsn; simp only at this; omega))
      generalize valsOf tokB fs = vals at *
      obtain ⟨want, hwant⟩ : ∃ x, wantB (kbT m) (sbT m bd) (gbT tk tg vals) fd (decide (al ≠ [])) gv = x := ⟨_, rfl⟩
      have HWA := Lib.hid hwant
      rw [hwant] at HSY
      clear hwant
      have hkq := HC8.out
      have c0 := blk_cell hkq 0; have c1 := blk_cell hkq 1; have c2 := blk_cell hkq 2; have c3 := blk_cell hkq 3; have c4 := blk_cell hkq 4; have c5 := blk_cell hkq 5; have c6 := blk_cell hkq 6; have c7 := blk_cell hkq 7; have c8 := blk_cell hkq 8; have c9 := blk_cell hkq 9; have c10 := blk_cell hkq 10; have c11 := blk_cell hkq 11; have c12 := blk_cell hkq 12
      simp only [List.getElem?_toArray, List.getElem?_cons_zero, List.getElem?_cons_succ] at c0 c1 c2 c3 c4 c5 c6 c7 c8 c9 c10 c11 c12
      clear hkq
      go_wp2_with fail
      refine HTK.out.mono ?_
      rintro e w9 ⟨v, rfl, hown, hb9⟩
      have HB9 := Lib.hid (bt HB8.out hb9)
      have HC9 := Lib.hid ((hb9.block _ (blk_lt HC8.out)).trans HC8.out)
      have HK9 := Lib.hid ((hb9.block _ (blk_lt HK8.out)).trans HK8.out)
      have HV9 := Lib.hid ((hb9.block _ (blk_lt HV8.out)).trans HV8.out)
      have HG9 := Lib.hid ((hb9.block _ (blk_lt HGK.out)).trans HGK.out)
      have HN9 := Lib.hid ((hb9.block N (blk_lt HN8.out)).trans HN8.out)
      have HRD9 := Lib.hid ((HRD8.out.below hb9 (Nat.le_refl _)).wide hb9.size)
      obtain ⟨B, k, rfl, hrdk⟩ := Rd.own hown
      have HRK := Lib.hid hrdk
      clear hown hb9 hrdk HTK HC8 HK8 HV8 HGK HN8 HRD8 HB8 c0 c1 c2 c3 c4 c5 c6 c7 c8 c9 c10 c11 c12
      have hkq := HC9.out
      have c0 := blk_cell hkq 0; have c1 := blk_cell hkq 1; have c2 := blk_cell hkq 2; have c3 := blk_cell hkq 3; have c4 := blk_cell hkq 4; have c5 := blk_cell hkq 5; have c6 := blk_cell hkq 6; have c7 := blk_cell hkq 7; have c8 := blk_cell hkq 8; have c9 := blk_cell hkq 9; have c10 := blk_cell hkq 10; have c11 := blk_cell hkq 11; have c12 := blk_cell hkq 12
      simp only [List.getElem?_toArray, List.getElem?_cons_zero, List.getElem?_cons_succ] at c0 c1 c2 c3 c4 c5 c6 c7 c8 c9 c10 c11 c12
      clear hkq
      obtain ⟨adm, hadm⟩ : ∃ x, preL admL tg.data.toList = x := ⟨_, rfl⟩
      have HAD := Lib.hid hadm
      clear hadm
      go_upto_region 10 with fail
      go_cut [12] from 36 (fun v wx => v = .bool adm ∧ wx = w9)
      case first =>
        as_aux_lemma =>
          have hx : (tg.extract 0 7).data.toList = (tg.data.toList.drop 0).take (7 - 0) := ext_data tg 0 7
          have hl : tg.data.toList.length = tg.size := data_len tg
          by_cases ha7 : (7 : Int) ≤ (tg.size : Int)
          · have hq : preL admL tg.data.toList = ((tg.extract 0 7).toList == [47, 97, 100, 109, 105, 110, 47]) := by
              rw [Lib.toList_data, hx]
              unfold preL
              have h7 : admL.length = 7 := rfl
              rw [h7, hl, decide_eq_true (by omega)]
              rfl
            rw [HAD.out] at hq
            clear hx hl
            cases hp7 : ((tg.extract 0 7).toList == [47, 97, 100, 109, 105, 110, 47]) with
            | true =>
              rw [hp7] at hq
              go_wp2_with fail
              go_meet
              exact ⟨by rw [hq], rfl⟩
            | false =>
              rw [hp7] at hq
              go_wp2_with fail
              go_meet
              exact ⟨by rw [hq], rfl⟩
          · have hq : preL admL tg.data.toList = false := by
              unfold preL
              have h7 : admL.length = 7 := rfl
              rw [h7, hl, decide_eq_false (by omega)]
              rfl
            rw [HAD.out] at hq
            clear hx hl
            go_wp2_with fail
            go_meet
            exact ⟨by rw [hq], rfl⟩
      case rest =>
        obtain ⟨rfl, rfl⟩ := hcut
        obtain ⟨kk, hkk⟩ : ∃ x, kbT m = x := ⟨_, rfl⟩
        have HKK := Lib.hid hkk
        obtain ⟨ss, hss⟩ : ∃ x, sbT m bd = x := ⟨_, rfl⟩
        have HSS := Lib.hid hss
        obtain ⟨gg, hgg⟩ : ∃ x, gbT tk tg vals = x := ⟨_, rfl⟩
        have HGG := Lib.hid hgg
        clear hkk hss hgg
        rename World => w10
        have HDN := Lib.hid (Below.refl w10.heap.size w10)
        go_upto_block 0 with fail
        go_cut [10] from 48 to 124 (fun v wx => v = .int .i64 want ∧ Hid (Below w10.heap.size w10 wx))
        case first =>
          as_aux_lemma =>
            go_upto_region 11 with fail
            go_cut [48] from 49 to 70 (fun v wx => v = .bool (!kk) ∧ wx = w10)
            case first =>
              as_aux_lemma =>
                cases g1 : (m.toList == [71, 69, 84]) with
                | true =>
                  have hq : kk = true := by rw [← HKK.out]; unfold kbT; rw [g1]; rfl
                  subst hq
                  go_wp2_with fail
                  go_meet
                  exact ⟨rfl, rfl⟩
                | false =>
                  cases g2 : (m.toList == [80, 85, 84]) with
                  | true =>
                    have hq : kk = true := by rw [← HKK.out]; unfold kbT; rw [g1, g2]; rfl
                    subst hq
                    go_wp2_with fail
                    go_meet
                    exact ⟨rfl, rfl⟩
                  | false =>
                    cases g3 : (m.toList == [80, 79, 83, 84]) with
                    | true =>
                      have hq : kk = true := by rw [← HKK.out]; unfold kbT; rw [g1, g2, g3]; rfl
                      subst hq
                      go_wp2_with fail
                      go_meet
                      exact ⟨rfl, rfl⟩
                    | false =>
                      cases g4 : (m.toList == [68, 69, 76, 69, 84, 69]) with
                      | true =>
                        have hq : kk = true := by rw [← HKK.out]; unfold kbT; rw [g1, g2, g3, g4]; rfl
                        subst hq
                        go_wp2_with fail
                        go_meet
                        exact ⟨rfl, rfl⟩
                      | false =>
                        have hq : kk = false := by rw [← HKK.out]; unfold kbT; rw [g1, g2, g3, g4]; rfl
                        subst hq
                        go_wp2_with fail
                        go_meet
                        exact ⟨rfl, rfl⟩
            case rest =>
              obtain ⟨rfl, rfl⟩ := hcut
              cases kk with
              | false =>
                have hq : want = 501 := by rw [← HWA.out]; unfold wantB; rw [HKK.out]; rfl
                subst hq
                go_wp2_with fail
                go_meet
                exact ⟨rfl, HDN.out⟩
              | true =>
                go_upto_region 13 with fail
                go_cut [71] from 72 to 87 (fun v wx => v = .bool (!ss) ∧ wx = wc)
                case first =>
                  as_aux_lemma =>
                    cases ge : (bd.toList == []) with
                    | true =>
                      have hq : ss = true := by rw [← HSS.out]; unfold sbT; rw [ge, Bool.true_or]
                      subst hq
                      go_wp2_with fail
                      go_meet
                      exact ⟨rfl, rfl⟩
                    | false =>
                      cases g1 : (m.toList == [71, 69, 84]) with
                      | true =>
                        have hq : ss = false := by rw [← HSS.out]; unfold sbT; rw [ge, g1]; rfl
                        subst hq
                        go_wp2_with fail
                        go_meet
                        exact ⟨rfl, rfl⟩
                      | false =>
                        cases g4 : (m.toList == [68, 69, 76, 69, 84, 69]) with
                        | true =>
                          have hq : ss = false := by rw [← HSS.out]; unfold sbT; rw [ge, g1, g4]; rfl
                          subst hq
                          go_wp2_with fail
                          go_meet
                          exact ⟨rfl, rfl⟩
                        | false =>
                          have hq : ss = true := by rw [← HSS.out]; unfold sbT; rw [ge, g1, g4]; rfl
                          subst hq
                          go_wp2_with fail
                          go_meet
                          exact ⟨rfl, rfl⟩
                case rest =>
                  obtain ⟨rfl, rfl⟩ := hcut
                  cases ss with
                  | false =>
                    have hq : want = 400 := by rw [← HWA.out]; unfold wantB; rw [HKK.out, HSS.out]; rfl
                    subst hq
                    go_wp2_with fail
                    go_meet
                    exact ⟨rfl, HDN.out⟩
                  | true =>
                    go_upto_region 15 with fail
                    go_cut [88] from 89 to 107 (fun v wx => v = .bool (!gg) ∧ Hid (Below wc.heap.size wc wx))
                    case first =>
                      as_aux_lemma =>
                        rename World => w10
                        obtain ⟨gt, hgt⟩ : ∃ x, (tk.toList == []) = x := ⟨_, rfl⟩
                        have GT := Lib.hid hgt
                        by_cases hl1 : vals.length = 1
                        · obtain ⟨x, hx⟩ : ∃ x, vals = [x] := List.length_eq_one_iff.1 hl1
                          obtain ⟨a, ea, hab, hc⟩ := HRK.out.2 (by omega)
                          have y0 : w10.cell? (a.add 0) = some (.string x) := hc 0 _ (by rw [hx]; rfl)
                          have y1 : w10.cell? a = some (.string x) := y0
                          have HV : Hid (decide (vals = [tk]) = (x.toList == tk.toList)) := by show _ = _; rw [eq_test, hx]; simp
                          obtain ⟨vx, VX⟩ : ∃ x', (x.toList == tk.toList) = x' := ⟨_, rfl⟩
                          have HVX := Lib.hid VX
                          have hlt : (vals.length : Int) = 1 := by omega
                          have hl : ((vals.length : Int) == 1) = true := by rw [hlt]; rfl
                          have hl0 : (0 : Int) < (vals.length : Int) := by omega
                          have hvne : ¬ vals = [] := by rw [hx]; simp
                          have HSX : Hid (∀ W, Below w10.heap.size w10 W → W.cell? ⟨w.heap.size, 12, none⟩ = some (.string tk) ∧ W.cell? a = some (.string x)) := fun W hb => by
                            have hk := (hb.block _ (blk_lt HC9.out)).trans HC9.out
                            exact ⟨blk_cell hk 12, (hb.cell (p := a) hab).trans y1⟩
                          subst ea
                          clear hc hx hl1 y0 y1 hab
                          refine wp_region_held_drew (S := fun W => W.cell? ⟨w.heap.size, 12, none⟩ = some (.string tk) ∧ W.cell? a = some (.string x)) (by kernel_rfl) (HSX.out _ (Below.refl _ _).drew) (fun hHeld => ?_)
                          refine wpAnyH_take (i := 0) (oi := ({ dst := some 89, op := Op.fieldAddr 30 (Operand.tmp 3) 6, type := 0, pos := "law.go:69", after := #[], guard := none } : Oper)) (v := ?_) rfl (by kernel_rfl) (by kernel_rfl) (by kernel_rfl) (fun _ _ _ h => h) ?_ (by assumption) ?_
                          rotate_left 1
                          · refine Or.inl ⟨by rfl, ?_⟩
                            (intro wq hSw; (try dsimp only at hSw); go_simp) <;> (try with_reducible rfl)
                          try simp only [Act.put, List.setIfInBounds_toArray, List.set_cons_zero, List.set_cons_succ]
                          refine wpAnyH_take (i := 1) (oi := ({ dst := some 90, op := Op.load 9 (Operand.tmp 89), type := 9, pos := "law.go:69", after := #[{ on := 0, ground := Ground.data }], guard := none } : Oper)) (v := ?_) rfl (by kernel_rfl) (by kernel_rfl) (by kernel_rfl) (fun _ _ _ h => h) ?_ (by assumption) ?_
                          rotate_left 1
                          · refine Or.inl ⟨by rfl, ?_⟩
                            (intro wq hSw; (try dsimp only at hSw); go_simp) <;> (try with_reducible rfl)
                          try simp only [Act.put, List.setIfInBounds_toArray, List.set_cons_zero, List.set_cons_succ]
                          refine wpAnyH_take (i := 2) (oi := ({ dst := some 91, op := Op.binOp BinOp.neq 9 (Operand.tmp 90) (Operand.const (Value.string { data := #[] })) 9, type := 4, pos := "law.go:69", after := #[{ on := 1, ground := Ground.data }], guard := none } : Oper)) (v := .bool (!gt)) rfl (by kernel_rfl) (by kernel_rfl) (by kernel_rfl) (fun _ _ _ h => h) ?_ (by assumption) ?_
                          · refine Or.inl ⟨by rfl, ?_⟩
                            (intro wq hSw; (try dsimp only at hSw); go_simp) <;> (try with_reducible rfl)
                          try simp only [Act.put, List.setIfInBounds_toArray, List.set_cons_zero, List.set_cons_succ]
                          refine wpAnyH_take (i := 3) (oi := ({ dst := some 92, op := Op.move (Operand.tmp 91), type := 4, pos := "law.go:69", after := #[{ on := 2, ground := Ground.data }], guard := none } : Oper)) (v := .bool (!gt)) rfl (by kernel_rfl) (by kernel_rfl) (by kernel_rfl) (fun _ _ _ h => h) ?_ (by assumption) ?_
                          · refine Or.inl ⟨by rfl, ?_⟩
                            (intro wq hSw; (try dsimp only at hSw); go_simp) <;> (try with_reducible rfl)
                          try simp only [Act.put, List.setIfInBounds_toArray, List.set_cons_zero, List.set_cons_succ]
                          refine wpAnyH_take (i := 4) (oi := ({ dst := some 93, op := Op.move (Operand.tmp 12), type := 4, pos := "law.go:69", after := #[{ on := 3, ground := Ground.guard }], guard := some (3, true) } : Oper)) (v := (bif gt then undef else .bool adm)) rfl (by kernel_rfl) (by kernel_rfl) (by kernel_rfl) (fun _ _ _ h => h) ?_ (by assumption) ?_
                          · cases gt <;> first | exact Or.inr ⟨by rfl, by rfl⟩ | (refine Or.inl ⟨by rfl, ?_⟩; (intro wq hSw; (try dsimp only at hSw); go_simp) <;> (try with_reducible rfl); done) | (refine Or.inl ⟨by rfl, ?_⟩; (intro wq hSw; (try dsimp only at hSw); go_simp) <;> first | rfl | assumption)
                          try simp only [Act.put, List.setIfInBounds_toArray, List.set_cons_zero, List.set_cons_succ]
                          refine wpAnyH_take (i := 5) (oi := ({ dst := some 94, op := Op.pick (Operand.tmp 92) (Operand.tmp 93) (Operand.const (Value.bool false)), type := 4, pos := "law.go:69", after := #[{ on := 3, ground := Ground.data }, { on := 4, ground := Ground.data }], guard := none } : Oper)) (v := .bool (!gt && adm)) rfl (by kernel_rfl) (by kernel_rfl) (by kernel_rfl) (fun _ _ _ h => h) ?_ (by assumption) ?_
                          · cases gt <;> first | exact Or.inr ⟨by rfl, by rfl⟩ | (refine Or.inl ⟨by rfl, ?_⟩; (intro wq hSw; (try dsimp only at hSw); go_simp) <;> (try with_reducible rfl); done) | (refine Or.inl ⟨by rfl, ?_⟩; (intro wq hSw; (try dsimp only at hSw); go_simp) <;> first | rfl | assumption)
                          try simp only [Act.put, List.setIfInBounds_toArray, List.set_cons_zero, List.set_cons_succ]
                          generalize hp : (!gt && adm) = p
                          refine wpAnyH_take (i := 6) (oi := ({ dst := some 95, op := Op.move (Operand.tmp 94), type := 4, pos := "law.go:69", after := #[{ on := 5, ground := Ground.data }, { on := 3, ground := Ground.chain }], guard := none } : Oper)) (v := ?_) rfl (by kernel_rfl) (by kernel_rfl) (by kernel_rfl) (fun _ _ _ h => h) ?_ (by assumption) ?_
                          rotate_left 1
                          · refine Or.inl ⟨by rfl, ?_⟩
                            (intro wq hSw; (try dsimp only at hSw); go_simp) <;> (try with_reducible rfl)
                          try simp only [Act.put, List.setIfInBounds_toArray, List.set_cons_zero, List.set_cons_succ]
                          refine wpAnyH_take (i := 7) (oi := ({ dst := some 96, op := Op.move (Operand.tmp 11), type := 26, pos := "law.go:69", after := #[{ on := 6, ground := Ground.guard }], guard := some (6, true) } : Oper)) (v := (bif p then .slice (some a) vals.length k else undef)) rfl (by kernel_rfl) (by kernel_rfl) (by kernel_rfl) (fun _ _ _ h => h) ?_ (by assumption) ?_
                          · cases p <;> first | exact Or.inr ⟨by rfl, by rfl⟩ | (refine Or.inl ⟨by rfl, ?_⟩; (intro wq hSw; (try dsimp only at hSw); go_simp) <;> (try with_reducible rfl); done) | (refine Or.inl ⟨by rfl, ?_⟩; (intro wq hSw; (try dsimp only at hSw); go_simp) <;> first | rfl | assumption)
                          try simp only [Act.put, List.setIfInBounds_toArray, List.set_cons_zero, List.set_cons_succ]
                          refine wpAnyH_take (i := 8) (oi := ({ dst := some 97, op := Op.call { callee := Callee.builtin Builtin.len, args := #[Operand.tmp 96], argTypes := #[26] }, type := 3, pos := "law.go:69", after := #[{ on := 7, ground := Ground.data }, { on := 6, ground := Ground.guard }], guard := some (6, true) } : Oper)) (v := (bif p then .int .i64 (vals.length : Int) else undef)) rfl (by kernel_rfl) (by kernel_rfl) (by kernel_rfl) (fun _ _ _ h => h) ?_ (by assumption) ?_
                          · cases p <;> first | exact Or.inr ⟨by rfl, by rfl⟩ | (refine Or.inl ⟨by rfl, ?_⟩; (intro wq hSw; (try dsimp only at hSw); go_simp) <;> (try with_reducible rfl); done) | (refine Or.inl ⟨by rfl, ?_⟩; (intro wq hSw; (try dsimp only at hSw); go_simp) <;> first | rfl | assumption)
                          try simp only [Act.put, List.setIfInBounds_toArray, List.set_cons_zero, List.set_cons_succ]
                          refine wpAnyH_take (i := 9) (oi := ({ dst := some 98, op := Op.binOp BinOp.neq 3 (Operand.tmp 97) (Operand.const (Value.int IntKind.i64 1)) 3, type := 4, pos := "law.go:69", after := #[{ on := 8, ground := Ground.data }, { on := 6, ground := Ground.guard }], guard := some (6, true) } : Oper)) (v := (bif p then .bool false else undef)) rfl (by kernel_rfl) (by kernel_rfl) (by kernel_rfl) (fun _ _ _ h => h) ?_ (by assumption) ?_
                          · cases p <;> first | exact Or.inr ⟨by rfl, by rfl⟩ | (refine Or.inl ⟨by rfl, ?_⟩; (intro wq hSw; (try dsimp only at hSw); go_simp) <;> (try with_reducible rfl); done) | (refine Or.inl ⟨by rfl, ?_⟩; (intro wq hSw; (try dsimp only at hSw); go_simp) <;> first | rfl | assumption)
                          try simp only [Act.put, List.setIfInBounds_toArray, List.set_cons_zero, List.set_cons_succ]
                          refine wpAnyH_take (i := 10) (oi := ({ dst := some 99, op := Op.move (Operand.tmp 98), type := 4, pos := "law.go:69", after := #[{ on := 9, ground := Ground.data }, { on := 6, ground := Ground.chain }, { on := 6, ground := Ground.guard }], guard := some (6, true) } : Oper)) (v := (bif p then .bool false else undef)) rfl (by kernel_rfl) (by kernel_rfl) (by kernel_rfl) (fun _ _ _ h => h) ?_ (by assumption) ?_
                          · cases p <;> first | exact Or.inr ⟨by rfl, by rfl⟩ | (refine Or.inl ⟨by rfl, ?_⟩; (intro wq hSw; (try dsimp only at hSw); go_simp) <;> (try with_reducible rfl); done) | (refine Or.inl ⟨by rfl, ?_⟩; (intro wq hSw; (try dsimp only at hSw); go_simp) <;> first | rfl | assumption)
                          try simp only [Act.put, List.setIfInBounds_toArray, List.set_cons_zero, List.set_cons_succ]
                          refine wpAnyH_take (i := 11) (oi := ({ dst := some 100, op := Op.move (Operand.tmp 11), type := 26, pos := "law.go:69", after := #[{ on := 10, ground := Ground.guard }], guard := some (10, false) } : Oper)) (v := (bif p then .slice (some a) vals.length k else undef)) rfl (by kernel_rfl) (by kernel_rfl) (by kernel_rfl) (fun _ _ _ h => h) ?_ (by assumption) ?_
                          · cases p <;> first | exact Or.inr ⟨by rfl, by rfl⟩ | (refine Or.inl ⟨by rfl, ?_⟩; (intro wq hSw; (try dsimp only at hSw); go_simp) <;> (try with_reducible rfl); done) | (refine Or.inl ⟨by rfl, ?_⟩; (intro wq hSw; (try dsimp only at hSw); go_simp) <;> first | rfl | assumption)
                          try simp only [Act.put, List.setIfInBounds_toArray, List.set_cons_zero, List.set_cons_succ]
                          refine wpAnyH_take (i := 12) (oi := ({ dst := some 101, op := Op.indexAddr 26 (Operand.tmp 100) (Operand.const (Value.int IntKind.i64 0)), type := 0, pos := "law.go:69", after := #[{ on := 11, ground := Ground.data }, { on := 10, ground := Ground.guard }], guard := some (10, false) } : Oper)) (v := (bif p then .pointer (some a) else undef)) rfl (by kernel_rfl) (by kernel_rfl) (by kernel_rfl) (fun _ _ _ h => h) ?_ (by assumption) ?_
                          · cases p <;> first | exact Or.inr ⟨by rfl, by rfl⟩ | (refine Or.inl ⟨by rfl, ?_⟩; (intro wq hSw; (try dsimp only at hSw); go_simp) <;> (try with_reducible rfl); done) | (refine Or.inl ⟨by rfl, ?_⟩; (intro wq hSw; (try dsimp only at hSw); go_simp) <;> first | rfl | assumption)
                          try simp only [Act.put, List.setIfInBounds_toArray, List.set_cons_zero, List.set_cons_succ]
                          refine wpAnyH_take (i := 13) (oi := ({ dst := some 102, op := Op.load 9 (Operand.tmp 101), type := 9, pos := "law.go:69", after := #[{ on := 12, ground := Ground.data }, { on := 10, ground := Ground.guard }], guard := some (10, false) } : Oper)) (v := (bif p then .string x else undef)) rfl (by kernel_rfl) (by kernel_rfl) (by kernel_rfl) (fun _ _ _ h => h) ?_ (by assumption) ?_
                          · cases p <;> first | exact Or.inr ⟨by rfl, by rfl⟩ | (refine Or.inl ⟨by rfl, ?_⟩; (intro wq hSw; (try dsimp only at hSw); go_simp) <;> (try with_reducible rfl); done) | (refine Or.inl ⟨by rfl, ?_⟩; (intro wq hSw; (try dsimp only at hSw); go_simp) <;> first | rfl | assumption)
                          try simp only [Act.put, List.setIfInBounds_toArray, List.set_cons_zero, List.set_cons_succ]
                          refine wpAnyH_take (i := 14) (oi := ({ dst := some 103, op := Op.fieldAddr 30 (Operand.tmp 3) 6, type := 0, pos := "law.go:69", after := #[{ on := 10, ground := Ground.guard }], guard := some (10, false) } : Oper)) (v := (bif p then .pointer (some ⟨w.heap.size, 12, none⟩) else undef)) rfl (by kernel_rfl) (by kernel_rfl) (by kernel_rfl) (fun _ _ _ h => h) ?_ (by assumption) ?_
                          · cases p <;> first | exact Or.inr ⟨by rfl, by rfl⟩ | (refine Or.inl ⟨by rfl, ?_⟩; (intro wq hSw; (try dsimp only at hSw); go_simp) <;> (try with_reducible rfl); done) | (refine Or.inl ⟨by rfl, ?_⟩; (intro wq hSw; (try dsimp only at hSw); go_simp) <;> first | rfl | assumption)
                          try simp only [Act.put, List.setIfInBounds_toArray, List.set_cons_zero, List.set_cons_succ]
                          refine wpAnyH_take (i := 15) (oi := ({ dst := some 104, op := Op.load 9 (Operand.tmp 103), type := 9, pos := "law.go:69", after := #[{ on := 14, ground := Ground.data }, { on := 10, ground := Ground.guard }], guard := some (10, false) } : Oper)) (v := (bif p then .string tk else undef)) rfl (by kernel_rfl) (by kernel_rfl) (by kernel_rfl) (fun _ _ _ h => h) ?_ (by assumption) ?_
                          · cases p <;> first | exact Or.inr ⟨by rfl, by rfl⟩ | (refine Or.inl ⟨by rfl, ?_⟩; (intro wq hSw; (try dsimp only at hSw); go_simp) <;> (try with_reducible rfl); done) | (refine Or.inl ⟨by rfl, ?_⟩; (intro wq hSw; (try dsimp only at hSw); go_simp) <;> first | rfl | assumption)
                          try simp only [Act.put, List.setIfInBounds_toArray, List.set_cons_zero, List.set_cons_succ]
                          refine wpAnyH_take (i := 16) (oi := ({ dst := some 105, op := Op.binOp BinOp.neq 9 (Operand.tmp 102) (Operand.tmp 104) 9, type := 4, pos := "law.go:69", after := #[{ on := 13, ground := Ground.data }, { on := 15, ground := Ground.data }, { on := 10, ground := Ground.guard }], guard := some (10, false) } : Oper)) (v := (bif p then .bool (!vx) else undef)) rfl (by kernel_rfl) (by kernel_rfl) (by kernel_rfl) (fun _ _ _ h => h) ?_ (by assumption) ?_
                          · cases p <;> first | exact Or.inr ⟨by rfl, by rfl⟩ | (refine Or.inl ⟨by rfl, ?_⟩; (intro wq hSw; (try dsimp only at hSw); go_simp) <;> (try with_reducible rfl); done) | (refine Or.inl ⟨by rfl, ?_⟩; (intro wq hSw; (try dsimp only at hSw); go_simp) <;> first | rfl | assumption)
                          try simp only [Act.put, List.setIfInBounds_toArray, List.set_cons_zero, List.set_cons_succ]
                          refine wpAnyH_take (i := 17) (oi := ({ dst := some 106, op := Op.pick (Operand.tmp 99) (Operand.const (Value.bool true)) (Operand.tmp 105), type := 4, pos := "law.go:69", after := #[{ on := 10, ground := Ground.data }, { on := 16, ground := Ground.data }, { on := 6, ground := Ground.guard }], guard := some (6, true) } : Oper)) (v := (bif p then .bool (!vx) else undef)) rfl (by kernel_rfl) (by kernel_rfl) (by kernel_rfl) (fun _ _ _ h => h) ?_ (by assumption) ?_
                          · cases p <;> first | exact Or.inr ⟨by rfl, by rfl⟩ | (refine Or.inl ⟨by rfl, ?_⟩; (intro wq hSw; (try dsimp only at hSw); go_simp) <;> (try with_reducible rfl); done) | (refine Or.inl ⟨by rfl, ?_⟩; (intro wq hSw; (try dsimp only at hSw); go_simp) <;> first | rfl | assumption)
                          try simp only [Act.put, List.setIfInBounds_toArray, List.set_cons_zero, List.set_cons_succ]
                          refine wpAnyH_take (i := 18) (oi := ({ dst := some 107, op := Op.pick (Operand.tmp 95) (Operand.tmp 106) (Operand.const (Value.bool false)), type := 4, pos := "law.go:69", after := #[{ on := 6, ground := Ground.data }, { on := 17, ground := Ground.data }], guard := none } : Oper)) (v := .bool (p && !vx)) rfl (by kernel_rfl) (by kernel_rfl) (by kernel_rfl) (fun _ _ _ h => h) ?_ (by assumption) ?_
                          · cases p <;> first | exact Or.inr ⟨by rfl, by rfl⟩ | (refine Or.inl ⟨by rfl, ?_⟩; (intro wq hSw; (try dsimp only at hSw); go_simp) <;> (try with_reducible rfl); done) | (refine Or.inl ⟨by rfl, ?_⟩; (intro wq hSw; (try dsimp only at hSw); go_simp) <;> first | rfl | assumption)
                          try simp only [Act.put, List.setIfInBounds_toArray, List.set_cons_zero, List.set_cons_succ]
                          generalize hq2 : (p && !vx) = q2
                          refine wpAnyH_take (i := 19) (oi := ({ dst := some 88, op := Op.assign (Operand.tmp 107), type := 4, pos := "law.go:69", after := #[{ on := 18, ground := Ground.data }, { on := 10, ground := Ground.chain }], guard := none } : Oper)) (v := ?_) rfl (by kernel_rfl) (by kernel_rfl) (by kernel_rfl) (fun _ _ _ h => h) ?_ (by assumption) ?_
                          rotate_left 1
                          · refine Or.inl ⟨by rfl, ?_⟩
                            (intro wq hSw; (try dsimp only at hSw); go_simp) <;> (try with_reducible rfl)
                          try simp only [Act.put, List.setIfInBounds_toArray, List.set_cons_zero, List.set_cons_succ]
                          refine wpAnyH_done (by kernel_rfl) ?_ _
                          have e2 : q2 = !gg := by rw [← HGG.out]; unfold gbT; rw [GT.out, HAD.out, HV.out, HVX.out, ← hq2, ← hp]; cases gt <;> cases adm <;> cases vx <;> rfl
                          subst e2
                          clear hp hq2
                          go_wp2_with fail
                          go_meet
                          exact ⟨rfl, (Below.refl _ _).drew⟩
                        · have hl : ((vals.length : Int) == 1) = false := by rw [beq_eq_false_iff_ne]; omega
                          have HV : Hid (decide (vals = [tk]) = false) := by show _ = _; exact decide_eq_false (fun e => hl1 (by rw [e]; rfl))
                          have HSX : Hid (∀ W, Below w10.heap.size w10 W → W.cell? ⟨w.heap.size, 12, none⟩ = some (.string tk) ∧ True) := fun W hb => by
                            have hk := (hb.block _ (blk_lt HC9.out)).trans HC9.out
                            exact ⟨blk_cell hk 12, trivial⟩
                          have hlt : ¬ (vals.length : Int) = 1 := by omega
                          clear hl1
                          refine wp_region_held_drew (S := fun W => W.cell? ⟨w.heap.size, 12, none⟩ = some (.string tk) ∧ True) (by kernel_rfl) (HSX.out _ (Below.refl _ _).drew) (fun hHeld => ?_)
                          refine wpAnyH_take (i := 0) (oi := ({ dst := some 89, op := Op.fieldAddr 30 (Operand.tmp 3) 6, type := 0, pos := "law.go:69", after := #[], guard := none } : Oper)) (v := ?_) rfl (by kernel_rfl) (by kernel_rfl) (by kernel_rfl) (fun _ _ _ h => h) ?_ (by assumption) ?_
                          rotate_left 1
                          · refine Or.inl ⟨by rfl, ?_⟩
                            (intro wq hSw; (try dsimp only at hSw); go_simp) <;> (try with_reducible rfl)
                          try simp only [Act.put, List.setIfInBounds_toArray, List.set_cons_zero, List.set_cons_succ]
                          refine wpAnyH_take (i := 1) (oi := ({ dst := some 90, op := Op.load 9 (Operand.tmp 89), type := 9, pos := "law.go:69", after := #[{ on := 0, ground := Ground.data }], guard := none } : Oper)) (v := ?_) rfl (by kernel_rfl) (by kernel_rfl) (by kernel_rfl) (fun _ _ _ h => h) ?_ (by assumption) ?_
                          rotate_left 1
                          · refine Or.inl ⟨by rfl, ?_⟩
                            (intro wq hSw; (try dsimp only at hSw); go_simp) <;> (try with_reducible rfl)
                          try simp only [Act.put, List.setIfInBounds_toArray, List.set_cons_zero, List.set_cons_succ]
                          refine wpAnyH_take (i := 2) (oi := ({ dst := some 91, op := Op.binOp BinOp.neq 9 (Operand.tmp 90) (Operand.const (Value.string { data := #[] })) 9, type := 4, pos := "law.go:69", after := #[{ on := 1, ground := Ground.data }], guard := none } : Oper)) (v := .bool (!gt)) rfl (by kernel_rfl) (by kernel_rfl) (by kernel_rfl) (fun _ _ _ h => h) ?_ (by assumption) ?_
                          · refine Or.inl ⟨by rfl, ?_⟩
                            (intro wq hSw; (try dsimp only at hSw); go_simp) <;> (try with_reducible rfl)
                          try simp only [Act.put, List.setIfInBounds_toArray, List.set_cons_zero, List.set_cons_succ]
                          refine wpAnyH_take (i := 3) (oi := ({ dst := some 92, op := Op.move (Operand.tmp 91), type := 4, pos := "law.go:69", after := #[{ on := 2, ground := Ground.data }], guard := none } : Oper)) (v := .bool (!gt)) rfl (by kernel_rfl) (by kernel_rfl) (by kernel_rfl) (fun _ _ _ h => h) ?_ (by assumption) ?_
                          · refine Or.inl ⟨by rfl, ?_⟩
                            (intro wq hSw; (try dsimp only at hSw); go_simp) <;> (try with_reducible rfl)
                          try simp only [Act.put, List.setIfInBounds_toArray, List.set_cons_zero, List.set_cons_succ]
                          refine wpAnyH_take (i := 4) (oi := ({ dst := some 93, op := Op.move (Operand.tmp 12), type := 4, pos := "law.go:69", after := #[{ on := 3, ground := Ground.guard }], guard := some (3, true) } : Oper)) (v := (bif gt then undef else .bool adm)) rfl (by kernel_rfl) (by kernel_rfl) (by kernel_rfl) (fun _ _ _ h => h) ?_ (by assumption) ?_
                          · cases gt <;> first | exact Or.inr ⟨by rfl, by rfl⟩ | (refine Or.inl ⟨by rfl, ?_⟩; (intro wq hSw; (try dsimp only at hSw); go_simp) <;> (try with_reducible rfl); done) | (refine Or.inl ⟨by rfl, ?_⟩; (intro wq hSw; (try dsimp only at hSw); go_simp) <;> first | rfl | assumption)
                          try simp only [Act.put, List.setIfInBounds_toArray, List.set_cons_zero, List.set_cons_succ]
                          refine wpAnyH_take (i := 5) (oi := ({ dst := some 94, op := Op.pick (Operand.tmp 92) (Operand.tmp 93) (Operand.const (Value.bool false)), type := 4, pos := "law.go:69", after := #[{ on := 3, ground := Ground.data }, { on := 4, ground := Ground.data }], guard := none } : Oper)) (v := .bool (!gt && adm)) rfl (by kernel_rfl) (by kernel_rfl) (by kernel_rfl) (fun _ _ _ h => h) ?_ (by assumption) ?_
                          · cases gt <;> first | exact Or.inr ⟨by rfl, by rfl⟩ | (refine Or.inl ⟨by rfl, ?_⟩; (intro wq hSw; (try dsimp only at hSw); go_simp) <;> (try with_reducible rfl); done) | (refine Or.inl ⟨by rfl, ?_⟩; (intro wq hSw; (try dsimp only at hSw); go_simp) <;> first | rfl | assumption)
                          try simp only [Act.put, List.setIfInBounds_toArray, List.set_cons_zero, List.set_cons_succ]
                          generalize hp : (!gt && adm) = p
                          refine wpAnyH_take (i := 6) (oi := ({ dst := some 95, op := Op.move (Operand.tmp 94), type := 4, pos := "law.go:69", after := #[{ on := 5, ground := Ground.data }, { on := 3, ground := Ground.chain }], guard := none } : Oper)) (v := ?_) rfl (by kernel_rfl) (by kernel_rfl) (by kernel_rfl) (fun _ _ _ h => h) ?_ (by assumption) ?_
                          rotate_left 1
                          · refine Or.inl ⟨by rfl, ?_⟩
                            (intro wq hSw; (try dsimp only at hSw); go_simp) <;> (try with_reducible rfl)
                          try simp only [Act.put, List.setIfInBounds_toArray, List.set_cons_zero, List.set_cons_succ]
                          refine wpAnyH_take (i := 7) (oi := ({ dst := some 96, op := Op.move (Operand.tmp 11), type := 26, pos := "law.go:69", after := #[{ on := 6, ground := Ground.guard }], guard := some (6, true) } : Oper)) (v := (bif p then .slice B vals.length k else undef)) rfl (by kernel_rfl) (by kernel_rfl) (by kernel_rfl) (fun _ _ _ h => h) ?_ (by assumption) ?_
                          · cases p <;> first | exact Or.inr ⟨by rfl, by rfl⟩ | (refine Or.inl ⟨by rfl, ?_⟩; (intro wq hSw; (try dsimp only at hSw); go_simp) <;> (try with_reducible rfl); done) | (refine Or.inl ⟨by rfl, ?_⟩; (intro wq hSw; (try dsimp only at hSw); go_simp) <;> first | rfl | assumption)
                          try simp only [Act.put, List.setIfInBounds_toArray, List.set_cons_zero, List.set_cons_succ]
                          refine wpAnyH_take (i := 8) (oi := ({ dst := some 97, op := Op.call { callee := Callee.builtin Builtin.len, args := #[Operand.tmp 96], argTypes := #[26] }, type := 3, pos := "law.go:69", after := #[{ on := 7, ground := Ground.data }, { on := 6, ground := Ground.guard }], guard := some (6, true) } : Oper)) (v := (bif p then .int .i64 (vals.length : Int) else undef)) rfl (by kernel_rfl) (by kernel_rfl) (by kernel_rfl) (fun _ _ _ h => h) ?_ (by assumption) ?_
                          · cases p <;> first | exact Or.inr ⟨by rfl, by rfl⟩ | (refine Or.inl ⟨by rfl, ?_⟩; (intro wq hSw; (try dsimp only at hSw); go_simp) <;> (try with_reducible rfl); done) | (refine Or.inl ⟨by rfl, ?_⟩; (intro wq hSw; (try dsimp only at hSw); go_simp) <;> first | rfl | assumption)
                          try simp only [Act.put, List.setIfInBounds_toArray, List.set_cons_zero, List.set_cons_succ]
                          refine wpAnyH_take (i := 9) (oi := ({ dst := some 98, op := Op.binOp BinOp.neq 3 (Operand.tmp 97) (Operand.const (Value.int IntKind.i64 1)) 3, type := 4, pos := "law.go:69", after := #[{ on := 8, ground := Ground.data }, { on := 6, ground := Ground.guard }], guard := some (6, true) } : Oper)) (v := (bif p then .bool true else undef)) rfl (by kernel_rfl) (by kernel_rfl) (by kernel_rfl) (fun _ _ _ h => h) ?_ (by assumption) ?_
                          · cases p <;> first | exact Or.inr ⟨by rfl, by rfl⟩ | (refine Or.inl ⟨by rfl, ?_⟩; (intro wq hSw; (try dsimp only at hSw); go_simp) <;> (try with_reducible rfl); done) | (refine Or.inl ⟨by rfl, ?_⟩; (intro wq hSw; (try dsimp only at hSw); go_simp) <;> first | rfl | assumption)
                          try simp only [Act.put, List.setIfInBounds_toArray, List.set_cons_zero, List.set_cons_succ]
                          refine wpAnyH_take (i := 10) (oi := ({ dst := some 99, op := Op.move (Operand.tmp 98), type := 4, pos := "law.go:69", after := #[{ on := 9, ground := Ground.data }, { on := 6, ground := Ground.chain }, { on := 6, ground := Ground.guard }], guard := some (6, true) } : Oper)) (v := (bif p then .bool true else undef)) rfl (by kernel_rfl) (by kernel_rfl) (by kernel_rfl) (fun _ _ _ h => h) ?_ (by assumption) ?_
                          · cases p <;> first | exact Or.inr ⟨by rfl, by rfl⟩ | (refine Or.inl ⟨by rfl, ?_⟩; (intro wq hSw; (try dsimp only at hSw); go_simp) <;> (try with_reducible rfl); done) | (refine Or.inl ⟨by rfl, ?_⟩; (intro wq hSw; (try dsimp only at hSw); go_simp) <;> first | rfl | assumption)
                          try simp only [Act.put, List.setIfInBounds_toArray, List.set_cons_zero, List.set_cons_succ]
                          refine wpAnyH_take (i := 11) (oi := ({ dst := some 100, op := Op.move (Operand.tmp 11), type := 26, pos := "law.go:69", after := #[{ on := 10, ground := Ground.guard }], guard := some (10, false) } : Oper)) (v := undef) rfl (by kernel_rfl) (by kernel_rfl) (by kernel_rfl) (fun _ _ _ h => h) ?_ (by assumption) ?_
                          · cases p <;> first | exact Or.inr ⟨by rfl, by rfl⟩ | (refine Or.inl ⟨by rfl, ?_⟩; (intro wq hSw; (try dsimp only at hSw); go_simp) <;> (try with_reducible rfl); done) | (refine Or.inl ⟨by rfl, ?_⟩; (intro wq hSw; (try dsimp only at hSw); go_simp) <;> first | rfl | assumption)
                          try simp only [Act.put, List.setIfInBounds_toArray, List.set_cons_zero, List.set_cons_succ]
                          refine wpAnyH_take (i := 12) (oi := ({ dst := some 101, op := Op.indexAddr 26 (Operand.tmp 100) (Operand.const (Value.int IntKind.i64 0)), type := 0, pos := "law.go:69", after := #[{ on := 11, ground := Ground.data }, { on := 10, ground := Ground.guard }], guard := some (10, false) } : Oper)) (v := undef) rfl (by kernel_rfl) (by kernel_rfl) (by kernel_rfl) (fun _ _ _ h => h) ?_ (by assumption) ?_
                          · cases p <;> first | exact Or.inr ⟨by rfl, by rfl⟩ | (refine Or.inl ⟨by rfl, ?_⟩; (intro wq hSw; (try dsimp only at hSw); go_simp) <;> (try with_reducible rfl); done) | (refine Or.inl ⟨by rfl, ?_⟩; (intro wq hSw; (try dsimp only at hSw); go_simp) <;> first | rfl | assumption)
                          try simp only [Act.put, List.setIfInBounds_toArray, List.set_cons_zero, List.set_cons_succ]
                          refine wpAnyH_take (i := 13) (oi := ({ dst := some 102, op := Op.load 9 (Operand.tmp 101), type := 9, pos := "law.go:69", after := #[{ on := 12, ground := Ground.data }, { on := 10, ground := Ground.guard }], guard := some (10, false) } : Oper)) (v := undef) rfl (by kernel_rfl) (by kernel_rfl) (by kernel_rfl) (fun _ _ _ h => h) ?_ (by assumption) ?_
                          · cases p <;> first | exact Or.inr ⟨by rfl, by rfl⟩ | (refine Or.inl ⟨by rfl, ?_⟩; (intro wq hSw; (try dsimp only at hSw); go_simp) <;> (try with_reducible rfl); done) | (refine Or.inl ⟨by rfl, ?_⟩; (intro wq hSw; (try dsimp only at hSw); go_simp) <;> first | rfl | assumption)
                          try simp only [Act.put, List.setIfInBounds_toArray, List.set_cons_zero, List.set_cons_succ]
                          refine wpAnyH_take (i := 14) (oi := ({ dst := some 103, op := Op.fieldAddr 30 (Operand.tmp 3) 6, type := 0, pos := "law.go:69", after := #[{ on := 10, ground := Ground.guard }], guard := some (10, false) } : Oper)) (v := undef) rfl (by kernel_rfl) (by kernel_rfl) (by kernel_rfl) (fun _ _ _ h => h) ?_ (by assumption) ?_
                          · cases p <;> first | exact Or.inr ⟨by rfl, by rfl⟩ | (refine Or.inl ⟨by rfl, ?_⟩; (intro wq hSw; (try dsimp only at hSw); go_simp) <;> (try with_reducible rfl); done) | (refine Or.inl ⟨by rfl, ?_⟩; (intro wq hSw; (try dsimp only at hSw); go_simp) <;> first | rfl | assumption)
                          try simp only [Act.put, List.setIfInBounds_toArray, List.set_cons_zero, List.set_cons_succ]
                          refine wpAnyH_take (i := 15) (oi := ({ dst := some 104, op := Op.load 9 (Operand.tmp 103), type := 9, pos := "law.go:69", after := #[{ on := 14, ground := Ground.data }, { on := 10, ground := Ground.guard }], guard := some (10, false) } : Oper)) (v := undef) rfl (by kernel_rfl) (by kernel_rfl) (by kernel_rfl) (fun _ _ _ h => h) ?_ (by assumption) ?_
                          · cases p <;> first | exact Or.inr ⟨by rfl, by rfl⟩ | (refine Or.inl ⟨by rfl, ?_⟩; (intro wq hSw; (try dsimp only at hSw); go_simp) <;> (try with_reducible rfl); done) | (refine Or.inl ⟨by rfl, ?_⟩; (intro wq hSw; (try dsimp only at hSw); go_simp) <;> first | rfl | assumption)
                          try simp only [Act.put, List.setIfInBounds_toArray, List.set_cons_zero, List.set_cons_succ]
                          refine wpAnyH_take (i := 16) (oi := ({ dst := some 105, op := Op.binOp BinOp.neq 9 (Operand.tmp 102) (Operand.tmp 104) 9, type := 4, pos := "law.go:69", after := #[{ on := 13, ground := Ground.data }, { on := 15, ground := Ground.data }, { on := 10, ground := Ground.guard }], guard := some (10, false) } : Oper)) (v := undef) rfl (by kernel_rfl) (by kernel_rfl) (by kernel_rfl) (fun _ _ _ h => h) ?_ (by assumption) ?_
                          · cases p <;> first | exact Or.inr ⟨by rfl, by rfl⟩ | (refine Or.inl ⟨by rfl, ?_⟩; (intro wq hSw; (try dsimp only at hSw); go_simp) <;> (try with_reducible rfl); done) | (refine Or.inl ⟨by rfl, ?_⟩; (intro wq hSw; (try dsimp only at hSw); go_simp) <;> first | rfl | assumption)
                          try simp only [Act.put, List.setIfInBounds_toArray, List.set_cons_zero, List.set_cons_succ]
                          refine wpAnyH_take (i := 17) (oi := ({ dst := some 106, op := Op.pick (Operand.tmp 99) (Operand.const (Value.bool true)) (Operand.tmp 105), type := 4, pos := "law.go:69", after := #[{ on := 10, ground := Ground.data }, { on := 16, ground := Ground.data }, { on := 6, ground := Ground.guard }], guard := some (6, true) } : Oper)) (v := (bif p then .bool true else undef)) rfl (by kernel_rfl) (by kernel_rfl) (by kernel_rfl) (fun _ _ _ h => h) ?_ (by assumption) ?_
                          · cases p <;> first | exact Or.inr ⟨by rfl, by rfl⟩ | (refine Or.inl ⟨by rfl, ?_⟩; (intro wq hSw; (try dsimp only at hSw); go_simp) <;> (try with_reducible rfl); done) | (refine Or.inl ⟨by rfl, ?_⟩; (intro wq hSw; (try dsimp only at hSw); go_simp) <;> first | rfl | assumption)
                          try simp only [Act.put, List.setIfInBounds_toArray, List.set_cons_zero, List.set_cons_succ]
                          refine wpAnyH_take (i := 18) (oi := ({ dst := some 107, op := Op.pick (Operand.tmp 95) (Operand.tmp 106) (Operand.const (Value.bool false)), type := 4, pos := "law.go:69", after := #[{ on := 6, ground := Ground.data }, { on := 17, ground := Ground.data }], guard := none } : Oper)) (v := .bool p) rfl (by kernel_rfl) (by kernel_rfl) (by kernel_rfl) (fun _ _ _ h => h) ?_ (by assumption) ?_
                          · cases p <;> first | exact Or.inr ⟨by rfl, by rfl⟩ | (refine Or.inl ⟨by rfl, ?_⟩; (intro wq hSw; (try dsimp only at hSw); go_simp) <;> (try with_reducible rfl); done) | (refine Or.inl ⟨by rfl, ?_⟩; (intro wq hSw; (try dsimp only at hSw); go_simp) <;> first | rfl | assumption)
                          try simp only [Act.put, List.setIfInBounds_toArray, List.set_cons_zero, List.set_cons_succ]
                          refine wpAnyH_take (i := 19) (oi := ({ dst := some 88, op := Op.assign (Operand.tmp 107), type := 4, pos := "law.go:69", after := #[{ on := 18, ground := Ground.data }, { on := 10, ground := Ground.chain }], guard := none } : Oper)) (v := ?_) rfl (by kernel_rfl) (by kernel_rfl) (by kernel_rfl) (fun _ _ _ h => h) ?_ (by assumption) ?_
                          rotate_left 1
                          · refine Or.inl ⟨by rfl, ?_⟩
                            (intro wq hSw; (try dsimp only at hSw); go_simp) <;> (try with_reducible rfl)
                          try simp only [Act.put, List.setIfInBounds_toArray, List.set_cons_zero, List.set_cons_succ]
                          refine wpAnyH_done (by kernel_rfl) ?_ _
                          have e2 : p = !gg := by rw [← HGG.out]; unfold gbT; rw [GT.out, HAD.out, HV.out, ← hp]; cases gt <;> cases adm <;> rfl
                          subst e2
                          clear hp
                          go_wp2_with fail
                          go_meet
                          exact ⟨rfl, (Below.refl _ _).drew⟩
                    case rest =>
                      as_aux_lemma =>
                        obtain ⟨rfl, HX⟩ := hcut
                        rename World => w11
                        cases gg with
                        | false =>
                          have hq : want = 401 := by rw [← HWA.out]; unfold wantB; rw [HKK.out, HSS.out, HGG.out]; rfl
                          subst hq
                          go_wp2_with fail
                          go_meet
                          exact ⟨rfl, HX.out⟩
                        | true =>
                          have hkq := (HX.out.block _ (blk_lt HC9.out)).trans HC9.out
                          have hkv := (HX.out.block _ (blk_lt HV9.out)).trans HV9.out
                          clear c0 c1 c2 c3 c4 c5 c6 c7 c8 c9 c10 c11 c12
                          have c0 := blk_cell hkq 0; have c1 := blk_cell hkq 1; have c2 := blk_cell hkq 2; have c3 := blk_cell hkq 3; have c4 := blk_cell hkq 4; have c5 := blk_cell hkq 5; have c6 := blk_cell hkq 6; have c7 := blk_cell hkq 7; have c8 := blk_cell hkq 8; have c9 := blk_cell hkq 9; have c10 := blk_cell hkq 10; have c11 := blk_cell hkq 11; have c12 := blk_cell hkq 12
                          simp only [List.getElem?_toArray, List.getElem?_cons_zero, List.getElem?_cons_succ] at c0 c1 c2 c3 c4 c5 c6 c7 c8 c9 c10 c11 c12
                          have v0 := blk_cell hkv 0
                          simp only [List.getElem?_toArray, List.getElem?_cons_zero] at v0
                          clear hkq hkv
                          have hw : want = wantB true true true fd (decide (al ≠ [])) gv := by rw [← HWA.out, HKK.out, HSS.out, HGG.out]
                          cases fd with
                          | true =>
                            cases gv with
                            | true =>
                              have hq : want = 500 := by rw [hw]; rfl
                              clear hw
                              subst hq
                              go_wp2_with fail
                              go_meet
                              exact ⟨rfl, HX.out⟩
                            | false =>
                              have hq : want = 0 := by rw [hw]; rfl
                              clear hw
                              subst hq
                              go_wp2_with fail
                              go_meet
                              exact ⟨rfl, HX.out⟩
                          | false =>
                            by_cases ha : al = []
                            · have hq : want = 404 := by rw [hw, decide_eq_false (fun h => h ha)]; rfl
                              clear hw
                              subst hq
                              have hla : al.length = 0 := by rw [ha]; rfl
                              have hlt : ¬ (0 : Int) < (al.length : Int) := by omega
                              clear hla ha
                              go_wp2_with fail
                              go_meet
                              exact ⟨rfl, HX.out⟩
                            · have hq : want = 405 := by rw [hw, decide_eq_true ha]; rfl
                              clear hw
                              subst hq
                              have hla : 0 < al.length := List.length_pos_iff.2 ha
                              have hlt : (0 : Int) < (al.length : Int) := by omega
                              clear hla ha
                              go_wp2_with fail
                              go_meet
                              exact ⟨rfl, HX.out⟩
        case rest =>
          as_aux_lemma =>
            obtain ⟨rfl, HX⟩ := hcut
            rename World => w11
            have hw0 : Below w.heap.size w w11 := bt HB9.out HX.out
            have HB11 := Lib.hid hw0
            have HKG := Lib.hid ((HX.out.block _ (blk_lt HG9.out)).trans HG9.out)
            have HKR := Lib.hid ((HX.out.block _ (blk_lt HK9.out)).trans HK9.out)
            have HKC := Lib.hid ((HX.out.block _ (blk_lt HC9.out)).trans HC9.out)
            have HKN := Lib.hid ((HX.out.block N (blk_lt HN9.out)).trans HN9.out)
            have HRG := Lib.hid ((HRD9.out.below HX.out (Nat.le_refl _)).wide HX.out.size)
            clear HB9 HG9 HK9 HC9 HN9 HRD9 HV9 HRK HKK HSS HGG HDN HWA HAD c0 c1 c2 c3 c4 c5 c6 c7 c8 c9 c10 c11 c12
            have HAT : Hid (∃ a, OA = some a ∧ a.block < w11.heap.size ∧ ∀ wx, Below w11.heap.size w11 wx → wx.cell? a = some (.string ⟨#[120, 45, 105, 100]⟩) ∧ wx.cell? ⟨a.block, a.off + 1, none⟩ = some (.string (idB cn sq)) ∧ wx.cell? ⟨a.block, a.off + 2, none⟩ = some (.string ⟨#[120, 45, 118, 101, 114, 115, 105, 111, 110]⟩) ∧ wx.cell? ⟨a.block, a.off + 2 + 1, none⟩ = some (.string (mkB (Lib.itoa vs)))) := by
              show Exists _
              obtain ⟨a, ea, hab, hac⟩ := HRG.out.2 (by omega)
              refine ⟨a, ea, hab, fun wx hb => ?_⟩
              have x0 := hac 0 (.string xidB) rfl
              have x1 := hac 1 (.string (idB cn sq)) rfl
              have x2 := hac 2 (.string xveB) rfl
              have x3 := hac 3 (.string (mkB (Lib.itoa vs))) rfl
              exact ⟨(hb.cell (p := a) hab).trans x0, (hb.cell (p := ⟨a.block, a.off + 1, none⟩) hab).trans x1, (hb.cell (p := ⟨a.block, a.off + 2, none⟩) hab).trans x2, (hb.cell (p := ⟨a.block, a.off + 2 + 1, none⟩) hab).trans x3⟩
            obtain ⟨a, rfl, hab, hac⟩ := HAT.out
            have HHD : Hid (∀ wx, Below w11.heap.size w11 wx → wx.cell? ⟨w.heap.size, 5, none⟩ = some (.int .i64 cn) ∧ wx.cell? ⟨w.heap.size, 6, none⟩ = some (.int .i64 sq) ∧ wx.cell? ⟨w.heap.size, 7, none⟩ = some (.int .i64 vs) ∧ wx.cell? ⟨G, 1, none⟩ = some (.slice (some a) (sl.length + 2) on) ∧
                wx.cell? a = some (.string ⟨#[120, 45, 105, 100]⟩) ∧ wx.cell? ⟨a.block, a.off + 1, none⟩ = some (.string (idB cn sq)) ∧ wx.cell? ⟨a.block, a.off + 2, none⟩ = some (.string ⟨#[120, 45, 118, 101, 114, 115, 105, 111, 110]⟩) ∧ wx.cell? ⟨a.block, a.off + 2 + 1, none⟩ = some (.string (mkB (Lib.itoa vs)))) := fun wx hb => by
              have hk := (hb.block _ (blk_lt HKC.out)).trans HKC.out
              have hkg := (hb.block _ (blk_lt HKG.out)).trans HKG.out
              exact ⟨blk_cell hk 5, blk_cell hk 6, blk_cell hk 7, blk_cell hkg 1, hac wx hb⟩
            clear HAT hab hac
            have l1 : (Lib.itoa cn).length ≤ 21 := Lib.itoa_length_le cn HH.out.icn.1 HH.out.icn.2
            have l2 : (Lib.itoa sq).length ≤ 21 := Lib.itoa_length_le sq HH.out.isq.1 HH.out.isq.2
            have HA := Lib.hid (fun wx => digits_any cn HLI.out.icn HH.out.icn.2 wx)
            have HC2 := Lib.hid (fun wx => digits_any sq HLI.out.isq HH.out.isq.2 wx)
            have HV := Lib.hid (fun wx => digits_any vs HLI.out.ivs HH.out.ivs.2 wx)
            have HID : Hid (idB cn sq = mkB (Lib.itoa cn ++ [45] ++ Lib.itoa sq)) := rfl
            have HML : Hid ((markL cn sq vs ++ sl).length = sl.length + 2 ∧ ∀ (k : Nat) (hk : k < sl.length), (fldCells (markL cn sq vs ++ sl))[(k + 2) * 2]? = some (.string (sl[k]).1) ∧ (fldCells (markL cn sq vs ++ sl))[(k + 2) * 2 + 1]? = some (.string (sl[k]).2)) := by
              have hlen : (markL cn sq vs ++ sl).length = sl.length + 2 := by rw [List.length_append]; show 2 + sl.length = _; omega
              refine ⟨hlen, fun k hk => ?_⟩
              have q := fldCells_at (markL cn sq vs ++ sl) (k + 2) (by rw [hlen]; omega)
              have e : (markL cn sq vs ++ sl)[k + 2]'(by rw [hlen]; omega) = sl[k] := by
                rw [List.getElem_append_right (by simp [markL])]
                simp [markL]
              rw [e] at q
              exact q
            generalize hFL : fldCells (markL cn sq vs ++ sl) = fcl at *
            clear hFL
            have n0 : ¬ ((sl.length : Int) + 2) < 2 := by omega
            have n1 : (0 : Int) < (sl.length : Int) + 2 := by omega
            have n2 : (1 : Int) < (sl.length : Int) + 2 := by omega
            generalize hix : idB cn sq = ix at *
            generalize hp1 : Lib.itoa cn = p1 at *
            generalize hp2 : Lib.itoa sq = p2 at *
            have a1 := fun wx => add_str (mkB p1) ⟨#[45]⟩ (by rw [mkB_size]; show p1.length + 1 ≤ _; omega) wx
            have e1 : mkB p1 ++ ⟨#[45]⟩ = mkB (p1 ++ [45]) := mkB_app p1 [45]
            have a2 := fun wx => add_str (mkB (p1 ++ [45])) (mkB p2) (by rw [mkB_size, mkB_size]; simp; omega) wx
            rw [mkB_app, ← HID.out] at a2
            simp only [e1] at a1
            generalize mkB (p1 ++ [45]) = m1 at *
            generalize mkB p1 = m2 at *
            generalize mkB p2 = m3 at *
            generalize mkB (Lib.itoa vs) = m4 at *
            have q1 := ne_fld ⟨#[120, 45, 105, 100]⟩ ix
            have q2 := ne_fld ⟨#[120, 45, 118, 101, 114, 115, 105, 111, 110]⟩ m4
            have HDD := Lib.hid (Below.refl w11.heap.size w11).drew
            clear l1 l2 e1 hix hp1 hp2 HID hw0
            go_upto_region 23 with fail
            go_cut [155] from 125 (fun v wx => v = .bool false ∧ Hid (Below w11.heap.size w11 wx))
            case first =>
              as_aux_lemma =>
                go_region_held3 (fun W => W.cell? ⟨w.heap.size, 5, none⟩ = some (.int .i64 cn) ∧ W.cell? ⟨w.heap.size, 6, none⟩ = some (.int .i64 sq) ∧ W.cell? ⟨w.heap.size, 7, none⟩ = some (.int .i64 vs) ∧ W.cell? ⟨G, 1, none⟩ = some (.slice (some a) (sl.length + 2) on) ∧
                  W.cell? a = some (.string ⟨#[120, 45, 105, 100]⟩) ∧ W.cell? ⟨a.block, a.off + 1, none⟩ = some (.string ix) ∧ W.cell? ⟨a.block, a.off + 2, none⟩ = some (.string ⟨#[120, 45, 118, 101, 114, 115, 105, 111, 110]⟩) ∧ W.cell? ⟨a.block, a.off + 2 + 1, none⟩ = some (.string m4)) (first | (exact HHD.out _ HDD.out) | (exact HHD.out _ hg3) | (exact HHD.out _ hg4) | (exact HHD.out _ hg5)) ((first
                  | (have hgq := hg4; go_at_call 15; refine (HV.out _).mono ?_; rintro e w5' ⟨rfl, hb5⟩
                     have hg5 := bt hg4 hb5)
                  | (have hgq := hg3; go_at_call 15; refine (HC2.out _).mono ?_; rintro e w4' ⟨rfl, hb4⟩
                     have hg4 := bt hg3 hb4)
                  | (go_at_call 15; refine (HA.out _).mono ?_; rintro e w3' ⟨rfl, hb3⟩
                     have hg3 := bt HDD.out hb3)))
                all_goals
                  have HG5 := Lib.hid hg5
                  clear hg5 hg4 hg3 hb3 hb4 hb5
                  go_wp2_with fail
                  go_meet
                  exact ⟨rfl, HG5.out⟩
            case rest =>
              as_aux_lemma =>
                obtain ⟨rfl, HY⟩ := hcut
                rename World => w12
                have HKG2 := Lib.hid ((HY.out.block _ (blk_lt HKG.out)).trans HKG.out)
                have HKR2 := Lib.hid ((HY.out.block _ (blk_lt HKR.out)).trans HKR.out)
                have HKC2 := Lib.hid ((HY.out.block _ (blk_lt HKC.out)).trans HKC.out)
                have HKN2 := Lib.hid ((HY.out.block N (blk_lt HKN.out)).trans HKN.out)
                have HRG2 := Lib.hid ((HRG.out.below HY.out (Nat.le_refl _)).wide HY.out.size)
                have HB12 := Lib.hid (bt HB11.out HY.out)
                have HRA := Lib.hid ((HR.out.row.below HB12.out (Nat.le_refl _)).wide HB12.out.size)
                clear HKG HKR HKC HKN HRG HB11 HHD HA HC2 HV a1 a2 q1 q2 HDD n0 n1 n2
                by_cases hz : want = 0
                · subst hz
                  obtain ⟨h0, h1, h2, h3, h4, h5⟩ := HSY.out.own rfl
                  subst h0
                  have h1' := h1.symm
                  have h2' := h2.symm
                  have h3' := h3.symm
                  have h4' := h4.symm
                  clear h1 h2 h3 h4 HSY
                  subst h1'
                  subst h2'
                  subst h3'
                  subst h4'
                  subst h5
                  generalize hoc : (cl || cc) = oc at *
                  go_upto_region 26 with fail
                  go_cut [195] from 158 (fun v wx => v = .bool false ∧ wx = w12)
                  case first =>
                    as_aux_lemma =>
                      have hkg := HKG2.out
                      have hkr := HKR2.out
                      have d4 := blk_cell HKC2.out 4
                      have nn : w12.cell? ⟨N, 0, none⟩ = some (.int .i64 1) := blk_cell HKN2.out 0
                      have r0 := blk_cell hkr 0; have r1 := blk_cell hkr 1; have r2 := blk_cell hkr 2; have r3 := blk_cell hkr 3
                      have x0 := blk_cell hkg 0; have x1 := blk_cell hkg 1; have x2 := blk_cell hkg 2; have x3 := blk_cell hkg 3
                      simp only [List.getElem?_toArray, List.getElem?_cons_zero, List.getElem?_cons_succ] at r0 r1 r2 r3 x0 x1 x2 x3 d4
                      have e1 : (st == st) = true := by simp
                      have e2 : (b.toList == b.toList) = true := by simp
                      have e3 : (cc == cc) = true := by simp
                      have hwr : IntKind.i64.wrap ((l.length : Int) + 2) = (l.length : Int) + 2 := by have := HL20.out; rw [IntKind.wrap_i64]; omega
                      have hlz : (((l.length : Int) + 2) != ((l.length : Int) + 2)) = false := by simp
                      have hlx : (((l.length + 2 : Nat) : Int) == (l.length : Int) + 2) = true := by simp
                      have hly : (((l.length : Int) + 2) == (l.length : Int) + 2) = true := by simp
                      clear hkg hkr
                      cases cl with
                      | true =>
                        obtain rfl : oc = true := by rw [← hoc]; rfl
                        clear hoc
                        go_wp2_with fail
                        go_meet
                        exact ⟨rfl, rfl⟩
                      | false =>
                        obtain rfl : oc = cc := by rw [← hoc]; rfl
                        clear hoc
                        go_wp2_with fail
                        go_meet
                        exact ⟨rfl, rfl⟩
                  case rest =>
                    as_aux_lemma =>
                      obtain ⟨rfl, rfl⟩ := hcut
                      rename World => w13
                      have hkr := HKR2.out
                      have r1 := blk_cell hkr 1
                      simp only [List.getElem?_toArray, List.getElem?_cons_zero, List.getElem?_cons_succ] at r1
                      clear hkr
                      go_wp2_with fail
                      go_loopw [199] (fun i wr => ∃ k : Nat, k ≤ l.length ∧ i = .int .i64 k ∧ Hid (Below w13.heap.size w13 wr)) (fun i _ => l.length - (intOf i).toNat)
                      case atStart => exact ⟨0, Nat.zero_le _, rfl, Below.refl _ _⟩
                      case round =>
                        obtain ⟨k, hk, rfl, HBR⟩ := hrel
                        have hl20 : l.length ≤ 20 := HL20.out
                        by_cases hlt : k < l.length
                        · obtain ⟨ar, rfl, harb, harc⟩ := (HRA.out.below HBR.out (Nat.le_refl _)).2 (by omega)
                          obtain ⟨ag, eag, hagb, hagc⟩ := (HRG2.out.below HBR.out (Nat.le_refl _)).2 (by omega)
                          cases eag
                          have q := HML.out.2 k hlt
                          have x0 : wr.cell? (ar.add (k * 2)) = some (.string (l[k]).1) := harc _ _ (fldCells_at l k hlt).1
                          have x1 : wr.cell? ⟨(ar.add (k * 2)).block, (ar.add (k * 2)).off + 1, none⟩ = some (.string (l[k]).2) := by rw [add_next]; exact harc _ _ (fldCells_at l k hlt).2
                          have hba := (Below.refl wr.heap.size wr).alloc (Nat.le_refl _) (.cells #[.string (l[k]).1, .string (l[k]).2] 42)
                          have hs := HBR.out.size
                          have HBA := Lib.hid (bt HBR.out hba)
                          have z0 : (wr.alloc (.cells #[.string (l[k]).1, .string (l[k]).2] 42)).cell? (a.add ((k + 2) * 2)) = some (.string (l[k]).1) := (hba.cell (p := a.add ((k + 2) * 2)) (by rw [add_block]; omega)).trans (hagc _ _ q.1)
                          have z1 : (wr.alloc (.cells #[.string (l[k]).1, .string (l[k]).2] 42)).cell? ⟨(a.add ((k + 2) * 2)).block, (a.add ((k + 2) * 2)).off + 1, none⟩ = some (.string (l[k]).2) := by
                            rw [add_next]
                            exact (hba.cell (p := a.add ((k + 2) * 2 + 1)) (by rw [add_block]; omega)).trans (hagc _ _ q.2)
                          have hkg := (HBA.out.block _ (blk_lt HKG2.out)).trans HKG2.out
                          have v1 := blk_cell hkg 1
                          simp only [List.getElem?_toArray, List.getElem?_cons_zero, List.getElem?_cons_succ] at v1
                          have hk8 := heap_alloc_new wr (.cells #[.string (l[k]).1, .string (l[k]).2] 42)
                          have v3 := blk_cell hk8 0
                          have v4 := blk_cell hk8 1
                          simp only [List.getElem?_toArray, List.getElem?_cons_zero, List.getElem?_cons_succ] at v3 v4
                          have hne := ne_fld (l[k]).1 (l[k]).2
                          have i0 : (0 : Int) ≤ (k : Int) := by omega
                          have i1 : (k : Int) < (l.length : Int) := by omega
                          have i2 : (k : Int) + 2 < (l.length : Int) + 2 := by omega
                          have i3 : (0 : Int) ≤ (k : Int) + 2 := by omega
                          have i4 : ((k : Int) + 2).toNat = k + 2 := by omega
                          have HLT := Lib.hid hlt
                          clear harc hagc q hkg hba hs harb hagb hk8
                          generalize (l[k]).1 = f1 at *
                          generalize (l[k]).2 = f2 at *
                          go_wp2_with fail
                          generalize wr.alloc (.cells #[.string f1, .string f2] 42) = w9 at *
                          go_quiet (fail)
                          go_wp2_with fail
                          go_roundw
                          case rel => exact ⟨k + 1, HLT.out, by go_num, HBA.out.trans ((drewN_below _ _).mono HBA.out.size)⟩
                          case measure => have := HLT.out; simp [intOf]; omega
                        · obtain rfl : k = l.length := by omega
                          have HE := Lib.hid (bt HB12.out HBR.out)
                          clear hk hlt
                          go_wp2_with fail
                          go_ret
                          exact ⟨rfl, HE.out⟩
                · obtain ⟨h1, h2, h3, h4⟩ := HSY.out.ref hz
                  have h1' := h1.symm
                  clear h1
                  subst h1'
                  subst h3
                  have hz1 : (want == 0) = false := by rw [beq_eq_false_iff_ne]; exact hz
                  have e1 : (want == want) = true := by simp
                  have e2 : (sb.toList == sb.toList) = true := by simp
                  have e3 : (cc == cc) = true := by simp
                  have HWD : Hid (∃ wd, (∀ wx, Calls Tryd.prog 16 #[.int .i64 want] wx fun e w' => e = .returned (.string wd) ∧ wx = w') ∧ ∀ wx, (Op.stringOp .add wd ⟨#[10]⟩).run Tryd.prog wx = .ok (.string sb) wx) := by
                    have hwl : (mkB (wordL want)).size ≤ 31 := by rw [mkB_size]; exact word_len want
                    have k1 := add_str (mkB (wordL want)) ⟨#[10]⟩ (by have : (⟨#[10]⟩ : ByteArray).size = 1 := rfl; omega)
                    have he : mkB (wordL want) ++ ⟨#[10]⟩ = plB want := mkB_app (wordL want) [10]
                    rw [he, ← h2] at k1
                    exact ⟨_, fun wx => word_any want wx, k1⟩
                  obtain ⟨wd, hcw, k1⟩ := HWD.out
                  have HQL : Hid (∀ j, Calls Tryd.prog 16 #[.int .i64 want] (w12.drewN j) fun e w'' => e = .returned (.string wd) ∧ ∃ q, w'' = w12.drewN q) := fun j => (hcw (w12.drewN j)).mono fun e w'' ⟨he, hw⟩ => ⟨he, j, hw.symm⟩
                  clear HWD hcw h2
                  have HALL := Lib.hid HSY.out.allow
                  have HBARE := Lib.hid HSY.out.bare
                  clear HSY
                  have hkg := HKG2.out
                  have d4 := blk_cell HKC2.out 4
                  have x0 := blk_cell hkg 0; have x1 := blk_cell hkg 1; have x2 := blk_cell hkg 2; have x3 := blk_cell hkg 3
                  simp only [List.getElem?_toArray, List.getElem?_cons_zero, List.getElem?_cons_succ] at x0 x1 x2 x3 d4
                  clear hkg
                  by_cases hq : want = 405
                  · subst hq
                    obtain ⟨x, hsl⟩ := HALL.out rfl
                    subst hsl
                    have nn : w12.cell? ⟨N, 0, none⟩ = some (.int .i64 0) := by
                      have hk := HKN2.out
                      rw [h4] at hk
                      exact blk_cell hk 0
                    have y1 : w12.cell? ⟨G, 1, none⟩ = some (.slice (some a) 3 on) := x1
                    have HAL : Hid (w12.cell? ⟨a.block, a.off + 4, none⟩ = some (.string allowB)) := by
                      obtain ⟨ag, eag, hagb, hagc⟩ := HRG2.out.2 (by simp)
                      cases eag
                      exact hagc 4 _ (HML.out.2 0 (by simp)).1
                    have y2 := HAL.out
                    have t0 : (allowB.toList == [97, 108, 108, 111, 119]) = true := by rw [eq_list]; exact decide_eq_true rfl
                    generalize allowB = alb at *
                    clear h4 x1 HALL HBARE HAL
                    go_wp2_with fail
                    go_quiet ((first | (go_at_call 16; exact HQL.out _)))
                    go_wp2_with fail
                    go_ret
                    exact ⟨rfl, HB12.out.trans ((drewN_below _ _).mono HB12.out.size)⟩
                  · have hsl := HBARE.out hz hq
                    subst hsl
                    have hq1 : (want == 405) = false := by rw [beq_eq_false_iff_ne]; exact hq
                    have y1 : w12.cell? ⟨G, 1, none⟩ = some (.slice (some a) 2 on) := x1
                    clear x1 HALL HBARE
                    by_cases h5 : want = 500
                    · have nn : w12.cell? ⟨N, 0, none⟩ = some (.int .i64 1) := by
                        have hk := HKN2.out
                        rw [h4, decide_eq_true h5] at hk
                        exact blk_cell hk 0
                      have hq5 : (want == 500) = true := by rw [h5]; rfl
                      clear h4 h5
                      go_wp2_with fail
                      go_quiet ((first | (go_at_call 16; exact HQL.out _)))
                      go_wp2_with fail
                      go_ret
                      exact ⟨rfl, HB12.out.trans ((drewN_below _ _).mono HB12.out.size)⟩
                    · have nn : w12.cell? ⟨N, 0, none⟩ = some (.int .i64 0) := by
                        have hk := HKN2.out
                        rw [h4, decide_eq_false h5] at hk
                        exact blk_cell hk 0
                      have hq5 : (want == 500) = false := by rw [beq_eq_false_iff_ne]; exact h5
                      clear h4 h5
                      go_wp2_with fail
                      go_quiet ((first | (go_at_call 16; exact HQL.out _)))
                      go_wp2_with fail
                      go_ret
                      exact ⟨rfl, HB12.out.trans ((drewN_below _ _).mono HB12.out.size)⟩
end Go.Proofs.YtmncchgifgjhgaaDoor
