/- The walk of ChainMarks, where the answer closes. -/
import Derived.Test.YtmncchgifgjhgaaDoorMarksH
namespace Go.Proofs.YtmncchgifgjhgaaDoor
open Go.RowKit Go.Shelf

set_option maxRecDepth 100000 in
set_option maxHeartbeats 4000000 in
theorem marks_walk_true (c : Cl) (st : Int) (A : Option Addr) (l : List Fld) (n : Nat) (b : ByteArray) (w : World) (hg : GB w) (h : c.at w) (hr : RspIn w st A l n) :
    Calls Tryd.prog 6 #[c.v, .agg #[.int .i64 st, .slice A l.length n, .string b, .bool true]] w fun e w' => e = .returned (.bool true) ∧ Below w.heap.size w w' := by
  have HL := Lib.hid (fun wx (hb : Below w.heap.size w wx) => light_any c wx ⟨(h.row.below hb (Nat.le_refl _)).wide hb.size, (h.rowS.below hb (Nat.le_refl _)).wide hb.size, h.cap, h.fsz, h.alz, h.fsn, h.aln, h.z0, h.z1, h.z2, h.z3, h.icn, h.isq, h.ivs⟩)
  have HH := Lib.hid h
  have HF := Lib.hid (fun wx (hb : Below w.heap.size w wx) => fit_any wx (hg.on hb))
  have HG := Lib.hid hg
  have HR := Lib.hid hr
  have hln := hr.len
  clear h hg hr
  obtain ⟨m, tg, A1, fs, fc, bd, cc, cn, sq, vs, hn, pv, B1, al, ac, fd, tk⟩ := c
  simp only [Cl.v] at *
  have hb1 := (Below.refl w.heap.size w).alloc (Nat.le_refl _) (.cells #[.string m, .string tg, .slice A1 fs.length fc, .string bd, .bool cc, .int .i64 cn, .int .i64 sq, .int .i64 vs, .string hn, pv, .slice B1 al.length ac, .bool fd, .string tk] 30)
  have hb2 := hb1.alloc hb1.size (.cells #[.int .i64 st, .slice A l.length n, .string b, .bool true] 32)
  have hkc : ((w.alloc (.cells #[.string m, .string tg, .slice A1 fs.length fc, .string bd, .bool cc, .int .i64 cn, .int .i64 sq, .int .i64 vs, .string hn, pv, .slice B1 al.length ac, .bool fd, .string tk] 30)).alloc (.cells #[.int .i64 st, .slice A l.length n, .string b, .bool true] 32)).heap[w.heap.size]? = some (.cells #[.string m, .string tg, .slice A1 fs.length fc, .string bd, .bool cc, .int .i64 cn, .int .i64 sq, .int .i64 vs, .string hn, pv, .slice B1 al.length ac, .bool fd, .string tk] 30 (0, 0)) := (Below.heap_alloc _ _ _ (by simp)).trans (heap_alloc_new w _)
  have hkr : ((w.alloc (.cells #[.string m, .string tg, .slice A1 fs.length fc, .string bd, .bool cc, .int .i64 cn, .int .i64 sq, .int .i64 vs, .string hn, pv, .slice B1 al.length ac, .bool fd, .string tk] 30)).alloc (.cells #[.int .i64 st, .slice A l.length n, .string b, .bool true] 32)).heap[w.heap.size + 1]? = some (.cells #[.int .i64 st, .slice A l.length n, .string b, .bool true] 32 (0, 0)) := by
    have := heap_alloc_new (w.alloc (.cells #[.string m, .string tg, .slice A1 fs.length fc, .string bd, .bool cc, .int .i64 cn, .int .i64 sq, .int .i64 vs, .string hn, pv, .slice B1 al.length ac, .bool fd, .string tk] 30)) (.cells #[.int .i64 st, .slice A l.length n, .string b, .bool true] 32)
    simpa using this
  have HC := Lib.hid hkc; have HK := Lib.hid hkr; have HB := Lib.hid hb2
  clear hkc hkr hb1 hb2
  go_enter Tryd.func6, Tryd.ntmps6
  go_wp2_with fail
  generalize ((w.alloc (.cells #[.string m, .string tg, .slice A1 fs.length fc, .string bd, .bool cc, .int .i64 cn, .int .i64 sq, .int .i64 vs, .string hn, pv, .slice B1 al.length ac, .bool fd, .string tk] 30)).alloc (.cells #[.int .i64 st, .slice A l.length n, .string b, .bool true] 32)) = w2 at *
  refine (HF.out w2 HB.out).mono ?_
  rintro e w3 ⟨rfl, hb3⟩
  have HB3 := Lib.hid (bt HB.out hb3)
  have hkq := (hb3.block _ (blk_lt HC.out)).trans HC.out
  have HC3 := Lib.hid hkq
  have HK3 := Lib.hid ((hb3.block _ (blk_lt HK.out)).trans HK.out)
  have c0 := blk_cell hkq 0; have c1 := blk_cell hkq 1; have c2 := blk_cell hkq 2; have c3 := blk_cell hkq 3; have c4 := blk_cell hkq 4; have c5 := blk_cell hkq 5; have c6 := blk_cell hkq 6; have c7 := blk_cell hkq 7; have c8 := blk_cell hkq 8; have c9 := blk_cell hkq 9; have c10 := blk_cell hkq 10; have c11 := blk_cell hkq 11; have c12 := blk_cell hkq 12
  simp only [List.getElem?_toArray, List.getElem?_cons_zero, List.getElem?_cons_succ] at c0 c1 c2 c3 c4 c5 c6 c7 c8 c9 c10 c11 c12
  clear hkq hb3 HC HK HF
  go_wp2_with fail
  refine (HL.out _ HB3.out).mono ?_
  rintro e w4 ⟨⟨lr, rfl, hlr⟩, hb4⟩
  have HB4 := Lib.hid (bt HB3.out hb4)
  have HC4 := Lib.hid ((hb4.block _ (blk_lt HC3.out)).trans HC3.out)
  have HK4 := Lib.hid ((hb4.block _ (blk_lt HK3.out)).trans HK3.out)
  clear c0 c1 c2 c3 c4 c5 c6 c7 c8 c9 c10 c11 c12 HC3 HK3 HL hb4
  have hkr4 := HK4.out
  have r0 := blk_cell hkr4 0; have r1 := blk_cell hkr4 1; have r2 := blk_cell hkr4 2; have r3 := blk_cell hkr4 3
  simp only [List.getElem?_toArray, List.getElem?_cons_zero, List.getElem?_cons_succ] at r0 r1 r2 r3
  clear hkr4
  cases lr with
  | false =>
    clear hlr
    go_wp2_with fail
    go_ret
    exact ⟨rfl, HB4.out⟩
  | true =>
    have HLI := Lib.hid (hlr rfl)
    clear hlr
    by_cases hl20 : (20 : Int) < (l.length : Int)
    · go_wp2_with fail
      go_ret
      exact ⟨rfl, HB4.out⟩
    · have HL20 : Hid (l.length ≤ 20) := by show _ ≤ _; omega
      obtain ⟨i0, hi, hz0, hz1, hz2⟩ := info_parts Tryd.info42
      have HI := Lib.hid (And.intro hi (And.intro hz0 (And.intro hz1 hz2)))
      have HO := Lib.hid (fld_one l)
      have HRR := Lib.hid ((HR.out.row.below HB4.out (Nat.le_refl _)).wide HB4.out.size)
      clear hi hz0 hz1 hz2
      generalize hFC : fldCells l = fcs at *
      have HFC := Lib.hid hFC
      clear hFC
      go_wp2_with (at_builtin; refine wpList_append_nil rfl _ _ 22 rfl w4.heap.size 42 i0 (.agg #[.string ⟨#[]⟩, .string ⟨#[]⟩]) 2 32 Tryd.underlying22 HI.out.1 HI.out.2.1 HI.out.2.2.1 HI.out.2.2.2 rfl (by decide) rfl A l.length n fcs rfl HRR.out HO.out ?hb1 ?hb2 (Nat.le_refl _) ?_)
      case hb1 => have := HL20.out; unfold maxLen; omega
      case hb2 => have := HL20.out; omega
      intro F fcap w5 hrF hb5
      rw [← HFC.out] at hrF
      have HRF := Lib.hid hrF
      have HC5 := Lib.hid ((hb5.block _ (blk_lt HC4.out)).trans HC4.out)
      have HK5 := Lib.hid ((hb5.block _ (blk_lt HK4.out)).trans HK4.out)
      have HB5 := Lib.hid (bt HB4.out hb5)
      clear hb5 hrF r0 r1 r2 r3 HRR HO
      have HLN : Hid ((markL cn sq vs ++ l).length = l.length + 2) := by show _ = _; rw [List.length_append]; show 2 + l.length = _; omega
      have HRDY : Hid (∀ wx, Below w5.heap.size w5 wx → Calls Tryd.prog 26 #[.func (.func 27) #[] #[.pointer (some ⟨w.heap.size + 1, 0, none⟩)]] wx fun e w' => ∃ H, e = .returned (.func (.func 45) #[] #[.pointer (some ⟨H, 0, none⟩)]) ∧
          Hid (∀ wz, Below w'.heap.size w' wz → Calls Tryd.prog 45 #[.agg #[.string m, .string tg, .slice A1 fs.length fc, .string bd, .bool cc, .int .i64 cn, .int .i64 sq, .int .i64 vs, .string hn, pv, .slice B1 al.length ac, .bool fd, .string tk], .pointer (some ⟨H, 0, none⟩)] wz fun e wy => ∃ A' n', e = .returned (.agg #[.int .i64 st, .slice A' (l.length + 2) n', .string b, .bool (true || cc)]) ∧ Rd wy wy.heap.size 2 A' (l.length + 2) (fldCells (markL cn sq vs ++ l)) ∧ Below wz.heap.size wz wy) ∧ Below wx.heap.size wx w') := fun wx hbx => by
        obtain ⟨m', mc', e', _, _, hh⟩ := mk_mark
        cases e'
        refine (hh (.func (.func 27) #[] #[.pointer (some ⟨w.heap.size + 1, 0, none⟩)]) wx ⟨_, _, rfl, enters_of Tryd.func27 (by kernel_rfl) rfl⟩).mono fun e w' ⟨he, hw'⟩ => ?_
        subst hw'
        have hb' := (Below.refl wx.heap.size wx).alloc (Nat.le_refl _) (.cells #[.func (.func 27) #[] #[.pointer (some ⟨w.heap.size + 1, 0, none⟩)]] 36)
        have hk := heap_alloc_new wx (.cells #[.func (.func 27) #[] #[.pointer (some ⟨w.heap.size + 1, 0, none⟩)]] 36)
        generalize wx.alloc (.cells #[.func (.func 27) #[] #[.pointer (some ⟨w.heap.size + 1, 0, none⟩)]] 36) = w' at *
        refine ⟨_, he, ?_, hb'⟩
        show ∀ wz, _
        intro wz hbz
        have hbw := bt hbx hb'
        have hbww := bt HB5.out hbw
        have t0 := marks1_hd (u0 := .string m) (u1 := .string tg) (u2 := .slice A1 fs.length fc) (u3 := .string bd) (u4 := .bool cc) (u5 := .int .i64 cn) (u6 := .int .i64 sq) (u7 := .int .i64 vs) (u8 := .string hn) (u9 := pv) (u10 := .slice B1 al.length ac) (u11 := .bool fd) (u12 := .string tk) (w0 := w') (g := w.heap.size + 1) (n := n) (st := st) (A := A) (l := l) (b := b) (cl := true)
          ((hbw.block _ (blk_lt HK5.out)).trans HK5.out) (Row.old HR.out.row hbww (fun _ q => q.elim)) (by have := HL20.out; omega)
        have t1 := mark_hd_t HH.out.icn HH.out.isq HH.out.ivs (HG.out.on hbww) (fun _ q => q.elim) (by have := HL20.out; omega) t0 (fun _ q => q.elim) (of_any _) (of_any _) (blk_lt hk) (fun q => q) (blk_cell hk 0)
        obtain ⟨_, _, he2, _, hcall⟩ := t1
        cases he2
        refine (hcall wz (Frm.of hbz) trivial).mono fun e wy ⟨⟨A', n', he3, hrow, _, _⟩, hfy, _⟩ => ?_
        have hrd := hrow.rd
        rw [HLN.out] at he3 hrd
        exact ⟨A', n', he3, hrd, hfy.below (Nat.le_refl _) (fun _ q => q.elim)⟩
      have hk5c := HC5.out
      have c0 := blk_cell hk5c 0; have c1 := blk_cell hk5c 1; have c2 := blk_cell hk5c 2; have c3 := blk_cell hk5c 3; have c4 := blk_cell hk5c 4; have c5 := blk_cell hk5c 5; have c6 := blk_cell hk5c 6; have c7 := blk_cell hk5c 7; have c8 := blk_cell hk5c 8; have c9 := blk_cell hk5c 9; have c10 := blk_cell hk5c 10; have c11 := blk_cell hk5c 11; have c12 := blk_cell hk5c 12
      simp only [List.getElem?_toArray, List.getElem?_cons_zero, List.getElem?_cons_succ] at c0 c1 c2 c3 c4 c5 c6 c7 c8 c9 c10 c11 c12
      clear hk5c
      have HCD : Hid (∀ wx, Below w5.heap.size w5 wx → wx.cell? ⟨w.heap.size, 0, none⟩ = some (.string m) ∧ wx.cell? ⟨w.heap.size, 1, none⟩ = some (.string tg) ∧ wx.cell? ⟨w.heap.size, 2, none⟩ = some (.slice A1 fs.length fc) ∧ wx.cell? ⟨w.heap.size, 3, none⟩ = some (.string bd) ∧ wx.cell? ⟨w.heap.size, 4, none⟩ = some (.bool cc) ∧ wx.cell? ⟨w.heap.size, 5, none⟩ = some (.int .i64 cn) ∧ wx.cell? ⟨w.heap.size, 6, none⟩ = some (.int .i64 sq) ∧ wx.cell? ⟨w.heap.size, 7, none⟩ = some (.int .i64 vs) ∧ wx.cell? ⟨w.heap.size, 8, none⟩ = some (.string hn) ∧ wx.cell? ⟨w.heap.size, 9, none⟩ = some (pv) ∧ wx.cell? ⟨w.heap.size, 10, none⟩ = some (.slice B1 al.length ac) ∧ wx.cell? ⟨w.heap.size, 11, none⟩ = some (.bool fd) ∧ wx.cell? ⟨w.heap.size, 12, none⟩ = some (.string tk)) := fun wx hb => by
        have h5 := HC5.out
        have hk := (hb.block _ (blk_lt h5)).trans h5
        exact ⟨blk_cell hk 0, blk_cell hk 1, blk_cell hk 2, blk_cell hk 3, blk_cell hk 4, blk_cell hk 5, blk_cell hk 6, blk_cell hk 7, blk_cell hk 8, blk_cell hk 9, blk_cell hk 10, blk_cell hk 11, blk_cell hk 12⟩
      have HD0 := Lib.hid (Below.refl w5.heap.size w5).drew
      have HD1 := Lib.hid ((Below.refl w5.heap.size w5).drew.alloc (Nat.le_refl _) (.cells #[.int .i64 0, .slice none 0 0, .string ⟨#[]⟩, .bool false] 32))
      have HKZ : Hid ((w5.drew.alloc (.cells #[.int .i64 0, .slice none 0 0, .string ⟨#[]⟩, .bool false] 32)).heap[w5.heap.size]? = some (.cells #[.int .i64 0, .slice none 0 0, .string ⟨#[]⟩, .bool false] 32 (0, 0))) := heap_alloc_new w5.drew _
      clear c0 c1 c2 c3 c4 c5 c6 c7 c8 c9 c10 c11 c12
      go_upto_region 6 with fail
      go_cut [6] from 27 (fun gv wx => ∃ G A' n', gv = .pointer (some ⟨G, 0, none⟩) ∧ Hid (wx.heap[G]? = some (.cells #[.int .i64 st, .slice A' (l.length + 2) n', .string b, .bool (true || cc)] 32 (0, 0))) ∧ Hid (Rd wx wx.heap.size 2 A' (l.length + 2) (fldCells (markL cn sq vs ++ l))) ∧ Hid (Below w5.heap.size w5 wx))
      case first =>
        go_region_held3 (fun W => W.cell? ⟨w.heap.size, 0, none⟩ = some (.string m) ∧ W.cell? ⟨w.heap.size, 1, none⟩ = some (.string tg) ∧ W.cell? ⟨w.heap.size, 2, none⟩ = some (.slice A1 fs.length fc) ∧ W.cell? ⟨w.heap.size, 3, none⟩ = some (.string bd) ∧ W.cell? ⟨w.heap.size, 4, none⟩ = some (.bool cc) ∧ W.cell? ⟨w.heap.size, 5, none⟩ = some (.int .i64 cn) ∧ W.cell? ⟨w.heap.size, 6, none⟩ = some (.int .i64 sq) ∧ W.cell? ⟨w.heap.size, 7, none⟩ = some (.int .i64 vs) ∧ W.cell? ⟨w.heap.size, 8, none⟩ = some (.string hn) ∧ W.cell? ⟨w.heap.size, 9, none⟩ = some (pv) ∧ W.cell? ⟨w.heap.size, 10, none⟩ = some (.slice B1 al.length ac) ∧ W.cell? ⟨w.heap.size, 11, none⟩ = some (.bool fd) ∧ W.cell? ⟨w.heap.size, 12, none⟩ = some (.string tk)) (first | (exact HCD.out _ HD0.out) | (exact HCD.out _ HD1.out) | (exact HCD.out _ hc6) | (exact HCD.out _ (hc6.alloc hc6.size _)) | (exact HCD.out _ hc7) | (exact HCD.out _ (hc7.alloc hc7.size _)) | (exact HCD.out _ (put4_lo hc7 hgz _ _ _ _))) ((first
          | (go_at_call 26; refine (HRDY.out _ HD1.out).mono ?_; rintro e w6 ⟨H, rfl, hrd, hb6⟩
             have hc6 := HD1.out.trans (hb6.mono HD1.out.size)
             have hkz6 := (hb6.block _ (blk_lt HKZ.out)).trans HKZ.out)
          | (go_at_call 26; refine (HRDY.out _ HD0.out).mono ?_; rintro e w6 ⟨H, rfl, hrd, hb6⟩
             have hc6 := HD0.out.trans (hb6.mono HD0.out.size))
          | (go_at_call 45; refine (hrd.out _ ?_).mono ?_
             (first | exact Below.refl _ _ | exact (Below.refl _ _).alloc (Nat.le_refl _) _)
             rintro e w7 ⟨A', n', rfl, hrd7, hb7⟩
             have hc7 : Below w5.heap.size w5 w7 := by first | exact hc6.trans (hb7.mono hc6.size) | exact (hc6.alloc hc6.size _).trans (hb7.mono (hc6.alloc hc6.size _).size)
             (first
               | (have hkz7 := (hb7.block w5.heap.size (blk_lt hkz6)).trans hkz6; have hgz : w5.heap.size ≤ w5.heap.size := Nat.le_refl _; have r0 := blk_cell hkz7 0; have r1 := blk_cell hkz7 1; have r2 := blk_cell hkz7 2; have r3 := blk_cell hkz7 3; have z0 := blk_free hkz7 0; have z1 := blk_free hkz7 1; have z2 := blk_free hkz7 2; have z3 := blk_free hkz7 3; simp only [List.getElem?_toArray, List.getElem?_cons_zero, List.getElem?_cons_succ] at r0 r1 r2 r3)
               | (have hkz7 := (hb7.block w6.heap.size (by simp)).trans (heap_alloc_new w6 (.cells #[.int .i64 0, .slice none 0 0, .string ⟨#[]⟩, .bool false] 32)); have hgz : w5.heap.size ≤ w6.heap.size := hc6.size; have r0 := blk_cell hkz7 0; have r1 := blk_cell hkz7 1; have r2 := blk_cell hkz7 2; have r3 := blk_cell hkz7 3; have z0 := blk_free hkz7 0; have z1 := blk_free hkz7 1; have z2 := blk_free hkz7 2; have z3 := blk_free hkz7 3; simp only [List.getElem?_toArray, List.getElem?_cons_zero, List.getElem?_cons_succ] at r0 r1 r2 r3)
               | skip))))
        all_goals
          have HC7 := Lib.hid hc7
          have HRD7 := Lib.hid hrd7
          clear hc7 hc6 hrd7 hb6 hrd hb7
          go_wp2_with fail
          go_meet
          first
          | exact ⟨_, A', n', rfl, heap_alloc_new w7 _, (HRD7.out.below ((Below.refl _ _).alloc (Nat.le_refl _) _) (Nat.le_refl _)).wide ((Below.refl _ _).alloc (Nat.le_refl _) _).size, HC7.out.alloc HC7.out.size _⟩
          | exact ⟨_, A', n', rfl, put4_blk hkz7 _ _ _ _, rd_put4 HRD7.out HLN.out.symm (by simp [markL]) hkz7 _ _ _ _, put4_lo HC7.out hgz _ _ _ _⟩
      case rest =>
        rename World => wG
        obtain ⟨G, A', n', rfl, hkG, hrG, hbG⟩ := hcut
        have hw0 : Below w.heap.size w wG := bt HB5.out hbG.out
        obtain ⟨a, rfl, hab, hac⟩ := hrG.out.2 (by omega)
        have HGA := Lib.hid (And.intro hab hac)
        have HGB := Lib.hid (HG.out.on hw0)
        have HHD : Hid (∀ wx, Below wG.heap.size wG wx → wx.cell? ⟨w.heap.size, 5, none⟩ = some (.int .i64 cn) ∧ wx.cell? ⟨w.heap.size, 6, none⟩ = some (.int .i64 sq) ∧ wx.cell? ⟨w.heap.size, 7, none⟩ = some (.int .i64 vs) ∧ wx.cell? ⟨G, 1, none⟩ = some (.slice (some a) (l.length + 2) n') ∧
            wx.cell? a = some (.string xidB) ∧ wx.cell? ⟨a.block, a.off + 1, none⟩ = some (.string (idB cn sq)) ∧ wx.cell? ⟨a.block, a.off + 2 + 1, none⟩ = some (.string (mkB (Lib.itoa vs)))) := fun wx hb => by
          have h5 := HC5.out
          have hk := ((bt hbG.out hb).block _ (blk_lt h5)).trans h5
          have hkg := (hb.block _ (blk_lt hkG.out)).trans hkG.out
          have x0 := hac 0 (.string xidB) rfl
          have x1 := hac 1 (.string (idB cn sq)) rfl
          have x3 := hac 3 (.string (mkB (Lib.itoa vs))) rfl
          rw [← add_next a 0] at x1
          exact ⟨blk_cell hk 5, blk_cell hk 6, blk_cell hk 7, blk_cell hkg 1, (hb.cell (p := a) hab).trans x0, (hb.cell (p := ⟨a.block, a.off + 1, none⟩) hab).trans x1, (hb.cell (p := ⟨a.block, a.off + 2 + 1, none⟩) hab).trans x3⟩
        have HAC := Lib.hid (And.intro hab hac)
        clear hab hac
        have l1 : (Lib.itoa cn).length ≤ 21 := Lib.itoa_length_le cn HH.out.icn.1 HH.out.icn.2
        have l2 : (Lib.itoa sq).length ≤ 21 := Lib.itoa_length_le sq HH.out.isq.1 HH.out.isq.2
        have HA := Lib.hid (fun wx => digits_any cn HLI.out.icn HH.out.icn.2 wx)
        have HC2 := Lib.hid (fun wx => digits_any sq HLI.out.isq HH.out.isq.2 wx)
        have HV := Lib.hid (fun wx => digits_any vs HLI.out.ivs HH.out.ivs.2 wx)
        have HID : Hid (idB cn sq = mkB (Lib.itoa cn ++ [45] ++ Lib.itoa sq)) := rfl
        have HML := Lib.hid (fun (k : Nat) (hk : k < l.length) => (⟨(fldCells_at (markL cn sq vs ++ l) (k + 2) (by rw [HLN.out]; omega)).1, (fldCells_at (markL cn sq vs ++ l) (k + 2) (by rw [HLN.out]; omega)).2⟩ : _ ∧ _))
        have HMX : Hid (∀ (k : Nat) (hk : k < l.length), (markL cn sq vs ++ l)[k + 2]'(by rw [HLN.out]; omega) = l[k]) := fun k hk => by
          rw [List.getElem_append_right (by simp [markL])]
          simp [markL]
        have hlenx : (((l.length + 2 : Nat) : Int) == (l.length : Int) + 2) = true := by simp
        have hleny : (((l.length : Int) + 2) == (l.length : Int) + 2) = true := by simp
        have t0 : (xidB.toList == [120, 45, 105, 100]) = true := by rw [eq_list]; exact decide_eq_true rfl
        have hwr : IntKind.i64.wrap ((l.length : Int) + 2) = (l.length : Int) + 2 := by have := HL20.out; rw [IntKind.wrap_i64]; omega
        have hlz : (((l.length : Int) + 2) != ((l.length : Int) + 2)) = false := by simp
        have ib1 : (1 : Int) < (l.length : Int) + 2 := by omega
        have ib0 : (0 : Int) < (l.length : Int) + 2 := by omega
        have ib1x : (1 : Int) < ((l.length + 2 : Nat) : Int) := by omega
        have ib0x : (0 : Int) < ((l.length + 2 : Nat) : Int) := by omega
        generalize hix : idB cn sq = ix at *
        generalize hp1 : Lib.itoa cn = p1 at *
        generalize hp2 : Lib.itoa sq = p2 at *
        have a1 := fun wx => add_str (mkB p1) ⟨#[45]⟩ (by rw [mkB_size]; show p1.length + 1 ≤ _; omega) wx
        have e1 : mkB p1 ++ ⟨#[45]⟩ = mkB (p1 ++ [45]) := mkB_app p1 [45]
        have a2 := fun wx => add_str (mkB (p1 ++ [45])) (mkB p2) (by rw [mkB_size, mkB_size]; simp; omega) wx
        rw [mkB_app, ← HID.out] at a2
        simp only [e1] at a1
        generalize mkB (p1 ++ [45]) = m1 at *
        generalize mkB p1 = m2 at *
        generalize mkB p2 = m3 at *
        generalize mkB (Lib.itoa vs) = m4 at *
        have t1 : (ix.toList == ix.toList) = true := by simp
        have t2 : (m4.toList == m4.toList) = true := by simp
        have HDD := Lib.hid (Below.refl wG.heap.size wG).drew
        clear l1 l2 e1 hix hp1 hp2 HID hw0 hl20
        go_upto_region 7 with fail
        go_cut [68] from 69 (fun v wx => v = .bool false ∧ Hid (Below wG.heap.size wG wx))
        case first =>
          go_region_held3 (fun W => W.cell? ⟨w.heap.size, 5, none⟩ = some (.int .i64 cn) ∧ W.cell? ⟨w.heap.size, 6, none⟩ = some (.int .i64 sq) ∧ W.cell? ⟨w.heap.size, 7, none⟩ = some (.int .i64 vs) ∧ W.cell? ⟨G, 1, none⟩ = some (.slice (some a) (l.length + 2) n') ∧
            W.cell? a = some (.string xidB) ∧ W.cell? ⟨a.block, a.off + 1, none⟩ = some (.string ix) ∧ W.cell? ⟨a.block, a.off + 2 + 1, none⟩ = some (.string m4)) (first | (exact HHD.out _ HDD.out) | (exact HHD.out _ hg3) | (exact HHD.out _ hg4) | (exact HHD.out _ hg5)) ((first
            | (have hgq := hg4; go_at_call 15; refine (HV.out _).mono ?_; rintro e w5' ⟨rfl, hb5⟩
               have hg5 := bt hg4 hb5)
            | (have hgq := hg3; go_at_call 15; refine (HC2.out _).mono ?_; rintro e w4' ⟨rfl, hb4⟩
               have hg4 := bt hg3 hb4)
            | (go_at_call 15; refine (HA.out _).mono ?_; rintro e w3' ⟨rfl, hb3⟩
               have hg3 := bt HDD.out hb3)))
          all_goals
            have HG5 := Lib.hid hg5
            clear hg5 hg4 hg3 hb3 hb4 hb5
            go_wp2_with fail
            go_meet
            exact ⟨rfl, HG5.out⟩
        case rest =>
          obtain ⟨rfl, HBX⟩ := hcut
          have hkg := (HBX.out.block _ (blk_lt hkG.out)).trans hkG.out
          have hkr := ((bt hbG.out HBX.out).block _ (blk_lt HK5.out)).trans HK5.out
          have hkc := ((bt hbG.out HBX.out).block _ (blk_lt HC5.out)).trans HC5.out
          have HKG := Lib.hid hkg
          have HKR := Lib.hid hkr
          have HKC := Lib.hid hkc
          have HRG := Lib.hid ((hrG.out.below HBX.out (Nat.le_refl _)).wide HBX.out.size)
          have HRF2 := Lib.hid ((HRF.out.below (bt hbG.out HBX.out) (Nat.le_refl _)).wide (bt hbG.out HBX.out).size)
          have HRA := Lib.hid ((HR.out.row.below (bt HB5.out (bt hbG.out HBX.out)) (Nat.le_refl _)).wide (bt HB5.out (bt hbG.out HBX.out)).size)
          have HFIN := Lib.hid (bt HB5.out (bt hbG.out HBX.out))
          clear hkg hkr hkc t0 t1 t2 a1 a2 HV HA HC2 HHD HDD hwr hlz hlenx hleny
          go_wp2_with fail
          go_loopw [71] (fun i wr => ∃ k : Nat, k ≤ l.length ∧ i = .int .i64 k ∧ Hid (Below wc.heap.size wc wr)) (fun i _ => l.length - (intOf i).toNat)
          case atStart => exact ⟨0, Nat.zero_le _, rfl, Below.refl _ _⟩
          case round =>
            obtain ⟨k, hk, rfl, HBR⟩ := hrel
            have hl20 : l.length ≤ 20 := HL20.out
            by_cases hlt : k < l.length
            · obtain ⟨f, rfl, hfb, hfc⟩ := (HRF2.out.below HBR.out (Nat.le_refl _)).2 (by omega)
              obtain ⟨ar, rfl, harb, harc⟩ := (HRA.out.below HBR.out (Nat.le_refl _)).2 (by omega)
              obtain ⟨ag, eag, hagb, hagc⟩ := (HRG.out.below HBR.out (Nat.le_refl _)).2 (by omega)
              cases eag
              have q := HML.out k hlt
              rw [HMX.out k hlt] at q
              have x0 : wr.cell? (f.add (k * 2)) = some (.string (l[k]).1) := hfc _ _ (fldCells_at l k hlt).1
              have x1 : wr.cell? ⟨(f.add (k * 2)).block, (f.add (k * 2)).off + 1, none⟩ = some (.string (l[k]).2) := by rw [add_next]; exact hfc _ _ (fldCells_at l k hlt).2
              have hba := (Below.refl wr.heap.size wr).alloc (Nat.le_refl _) (.cells #[.string (l[k]).1, .string (l[k]).2] 42)
              have hs := HBR.out.size
              have HBA := Lib.hid (bt HBR.out hba)
              have y0 : (wr.alloc (.cells #[.string (l[k]).1, .string (l[k]).2] 42)).cell? (ar.add (k * 2)) = some (.string (l[k]).1) := (hba.cell (p := ar.add (k * 2)) (by rw [add_block]; omega)).trans (harc _ _ (fldCells_at l k hlt).1)
              have y1 : (wr.alloc (.cells #[.string (l[k]).1, .string (l[k]).2] 42)).cell? ⟨(ar.add (k * 2)).block, (ar.add (k * 2)).off + 1, none⟩ = some (.string (l[k]).2) := by
                rw [add_next]
                exact (hba.cell (p := ar.add (k * 2 + 1)) (by rw [add_block]; omega)).trans (harc _ _ (fldCells_at l k hlt).2)
              have z0 : (wr.alloc (.cells #[.string (l[k]).1, .string (l[k]).2] 42)).cell? (a.add ((k + 2) * 2)) = some (.string (l[k]).1) := (hba.cell (p := a.add ((k + 2) * 2)) (by rw [add_block]; omega)).trans (hagc _ _ q.1)
              have z1 : (wr.alloc (.cells #[.string (l[k]).1, .string (l[k]).2] 42)).cell? ⟨(a.add ((k + 2) * 2)).block, (a.add ((k + 2) * 2)).off + 1, none⟩ = some (.string (l[k]).2) := by
                rw [add_next]
                exact (hba.cell (p := a.add ((k + 2) * 2 + 1)) (by rw [add_block]; omega)).trans (hagc _ _ q.2)
              have hkg := (HBA.out.block _ (blk_lt HKG.out)).trans HKG.out
              have hkr := (HBA.out.block _ (blk_lt HKR.out)).trans HKR.out
              have v1 := blk_cell hkg 1
              have v2 := blk_cell hkr 1
              simp only [List.getElem?_toArray, List.getElem?_cons_zero, List.getElem?_cons_succ] at v1 v2
              have hk8 := heap_alloc_new wr (.cells #[.string (l[k]).1, .string (l[k]).2] 42)
              have v3 := blk_cell hk8 0
              have v4 := blk_cell hk8 1
              simp only [List.getElem?_toArray, List.getElem?_cons_zero, List.getElem?_cons_succ] at v3 v4
              have hne := ne_fld (l[k]).1 (l[k]).2
              have i0 : (0 : Int) ≤ (k : Int) := by omega
              have i1 : (k : Int) < (l.length : Int) := by omega
              have i2 : (k : Int) + 2 < (l.length : Int) + 2 := by omega
              have i3 : (0 : Int) ≤ (k : Int) + 2 := by omega
              have i4 : ((k : Int) + 2).toNat = k + 2 := by omega
              have HLT := Lib.hid hlt
              clear hfc harc hagc q hkg hkr hba hs hfb harb hagb hk8
              generalize (l[k]).1 = f1 at *
              generalize (l[k]).2 = f2 at *
              go_wp2_with fail
              generalize wr.alloc (.cells #[.string f1, .string f2] 42) = w9 at *
              go_quiet (fail)
              go_wp2_with fail
              go_roundw
              case rel => exact ⟨k + 1, HLT.out, by go_num, HBA.out.trans ((drewN_below _ _).mono HBA.out.size)⟩
              case measure => have := HLT.out; simp [intOf]; omega
            · obtain rfl : k = l.length := by omega
              have hkg := (HBR.out.block _ (blk_lt HKG.out)).trans HKG.out
              have hkr := (HBR.out.block _ (blk_lt HKR.out)).trans HKR.out
              have hkc := (HBR.out.block _ (blk_lt HKC.out)).trans HKC.out
              have r0 := blk_cell hkr 0; have r1 := blk_cell hkr 1; have r2 := blk_cell hkr 2; have r3 := blk_cell hkr 3
              have x0 := blk_cell hkg 0; have x1 := blk_cell hkg 1; have x2 := blk_cell hkg 2; have x3 := blk_cell hkg 3
              have d4 := blk_cell hkc 4
              simp only [List.getElem?_toArray, List.getElem?_cons_zero, List.getElem?_cons_succ] at r0 r1 r2 r3 x0 x1 x2 x3 d4
              have e1 : (st == st) = true := by simp
              have e2 : (b.toList == b.toList) = true := by simp
              have e3 : (cc == cc) = true := by simp
              have HE := Lib.hid (bt HFIN.out HBR.out)
              clear hkg hkr hkc hk hlt
              go_wp2_with fail
              go_ret
              exact ⟨rfl, HE.out⟩


end Go.Proofs.YtmncchgifgjhgaaDoor
