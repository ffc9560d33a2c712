/- The walk of ChainAlone. -/
import Derived.Test.YtmncchgifgjhgaaDoorHl
import Derived.Deep.RegionWith
import Derived.Deep.Cut
import Derived.Deep.CutRange
import Derived.Deep.CutBlock
namespace Go.Proofs.YtmncchgifgjhgaaDoor
open Go.RowKit Go.Shelf

theorem Row.old {P : Nat → Prop} {w w' : World} {A : Option Addr} {l : List Fld} (h : Rd w w.heap.size 2 A l.length (fldCells l)) (hb : Below w.heap.size w w') (hp : ∀ j, P j → w.heap.size ≤ j) : Row P w' A l := fun hn => by
  obtain ⟨a, e, hl, hc⟩ := h.2 (fun e => hn (List.eq_nil_of_length_eq_zero e))
  exact ⟨a, e, Nat.lt_of_lt_of_le hl hb.size, (fun q => by have := hp _ q; omega), fun j u hu => (hb.cell (p := a.add j) (by rw [add_block]; exact hl)).trans (hc j u hu)⟩
theorem RowS.old {P : Nat → Prop} {w w' : World} {A : Option Addr} {l : List ByteArray} (h : Rd w w.heap.size 1 A l.length (l.map .string)) (hb : Below w.heap.size w w') (hp : ∀ j, P j → w.heap.size ≤ j) : RowS P w' A l := fun hn => by
  obtain ⟨a, e, hl, hc⟩ := h.2 (fun e => hn (List.eq_nil_of_length_eq_zero e))
  exact ⟨a, e, Nat.lt_of_lt_of_le hl hb.size, (fun q => by have := hp _ q; omega), fun j u hu => (hb.cell (p := a.add j) (by rw [add_block]; exact hl)).trans (hc j u hu)⟩
theorem Cl.at.ok {c : Cl} {w w' : World} {P : Nat → Prop} (h : c.at w) (hl : c.light) (hb : Below w.heap.size w w') (hp : ∀ j, P j → w.heap.size ≤ j) : c.ok P w' :=
  ⟨Row.old h.row hb hp, RowS.old h.rowS hb hp, h.cap, by have := hl.aln; omega, hl.alz, by have := hl.fsn; omega, by have := hl.z1; omega, h.icn, h.isq, h.ivs⟩
/-- What a law is handed of a response. -/
structure RspIn (w : World) (st : Int) (A : Option Addr) (l : List Fld) (n : Nat) : Prop where
  row : Rd w w.heap.size 2 A l.length (fldCells l)
  len : l.length ≤ 140737488355328

theorem fn_eq' (k : FuncId) (c : Array Value) (w : World) : (binOp .neq 36 (.func (.func k) #[] c) .nilFunc).run Tryd.prog w = .ok (.bool true) w := by
  simp only [binOp]
  simp [Op.equal, Op.maxDepth, fnIn 9999 k c w 36 _ Tryd.underlying36 ⟨_, _, _, rfl⟩]

set_option maxRecDepth 100000 in
set_option maxHeartbeats 4000000 in
theorem alone_walk (c : Cl) (st : Int) (A : Option Addr) (l : List Fld) (n : Nat) (b : ByteArray) (cl : Bool) (w : World) (hg : GB w) (h : c.at w) (hr : RspIn w st A l n) :
    Calls Tryd.prog 8 #[c.v, .agg #[.int .i64 st, .slice A l.length n, .string b, .bool cl]] w fun e w' => e = .returned (.bool true) ∧ Below w.heap.size w w' := by
  have HL := Lib.hid (fun wx (hb : Below w.heap.size w wx) => light_any c wx ⟨(h.row.below hb (Nat.le_refl _)).wide hb.size, (h.rowS.below hb (Nat.le_refl _)).wide hb.size, h.cap, h.fsz, h.alz, h.fsn, h.aln, h.z0, h.z1, h.z2, h.z3, h.icn, h.isq, h.ivs⟩)
  have HH := Lib.hid h
  have HR := Lib.hid hr
  have hln := hr.len
  have HF := Lib.hid (fun wx (hb : Below w.heap.size w wx) => fit_any wx (hg.on hb))
  clear h hr hg
  obtain ⟨m, tg, A1, fs, fc, bd, cc, cn, sq, vs, hn, pv, B1, al, ac, fd, tk⟩ := c
  simp only [Cl.v] at *
  have hb1 := (Below.refl w.heap.size w).alloc (Nat.le_refl _) (.cells #[.string m, .string tg, .slice A1 fs.length fc, .string bd, .bool cc, .int .i64 cn, .int .i64 sq, .int .i64 vs, .string hn, pv, .slice B1 al.length ac, .bool fd, .string tk] 30)
  have hb2 := hb1.alloc hb1.size (.cells #[.int .i64 st, .slice A l.length n, .string b, .bool cl] 32)
  have hkc : ((w.alloc (.cells #[.string m, .string tg, .slice A1 fs.length fc, .string bd, .bool cc, .int .i64 cn, .int .i64 sq, .int .i64 vs, .string hn, pv, .slice B1 al.length ac, .bool fd, .string tk] 30)).alloc (.cells #[.int .i64 st, .slice A l.length n, .string b, .bool cl] 32)).heap[w.heap.size]? = some (.cells #[.string m, .string tg, .slice A1 fs.length fc, .string bd, .bool cc, .int .i64 cn, .int .i64 sq, .int .i64 vs, .string hn, pv, .slice B1 al.length ac, .bool fd, .string tk] 30 (0, 0)) :=
    (Below.heap_alloc _ _ _ (by simp)).trans (heap_alloc_new w _)
  have hkr : ((w.alloc (.cells #[.string m, .string tg, .slice A1 fs.length fc, .string bd, .bool cc, .int .i64 cn, .int .i64 sq, .int .i64 vs, .string hn, pv, .slice B1 al.length ac, .bool fd, .string tk] 30)).alloc (.cells #[.int .i64 st, .slice A l.length n, .string b, .bool cl] 32)).heap[w.heap.size + 1]? = some (.cells #[.int .i64 st, .slice A l.length n, .string b, .bool cl] 32 (0, 0)) := by
    have := heap_alloc_new (w.alloc (.cells #[.string m, .string tg, .slice A1 fs.length fc, .string bd, .bool cc, .int .i64 cn, .int .i64 sq, .int .i64 vs, .string hn, pv, .slice B1 al.length ac, .bool fd, .string tk] 30)) (.cells #[.int .i64 st, .slice A l.length n, .string b, .bool cl] 32)
    simpa using this
  have HC := Lib.hid hkc; have HK := Lib.hid hkr; have HB := Lib.hid hb2
  clear hkc hkr hb1 hb2
  go_enter Tryd.func8, Tryd.ntmps8
  go_wp2_with fail
  generalize (w.alloc (.cells #[.string m, .string tg, .slice A1 fs.length fc, .string bd, .bool cc, .int .i64 cn, .int .i64 sq, .int .i64 vs, .string hn, pv, .slice B1 al.length ac, .bool fd, .string tk] 30)).alloc (.cells #[.int .i64 st, .slice A l.length n, .string b, .bool cl] 32) = w2 at *
  refine (HF.out w2 HB.out).mono ?_
  rintro e w3 ⟨rfl, hb3⟩
  have HB3 := Lib.hid (bt HB.out hb3)
  have hkq := (hb3.block _ (blk_lt HC.out)).trans HC.out
  have HC3 := Lib.hid hkq
  have HK3 := Lib.hid ((hb3.block _ (blk_lt HK.out)).trans HK.out)
  have c0 := blk_cell hkq 0; have c1 := blk_cell hkq 1; have c2 := blk_cell hkq 2; have c3 := blk_cell hkq 3; have c4 := blk_cell hkq 4; have c5 := blk_cell hkq 5; have c6 := blk_cell hkq 6; have c7 := blk_cell hkq 7; have c8 := blk_cell hkq 8; have c9 := blk_cell hkq 9; have c10 := blk_cell hkq 10; have c11 := blk_cell hkq 11; have c12 := blk_cell hkq 12
  simp only [List.getElem?_toArray, List.getElem?_cons_zero, List.getElem?_cons_succ] at c0 c1 c2 c3 c4 c5 c6 c7 c8 c9 c10 c11 c12
  clear hkq hb3 HC HK HF
  go_wp2_with fail
  refine (HL.out _ HB3.out).mono ?_
  rintro e w4 ⟨⟨lr, rfl, hlr⟩, hb4⟩
  have HB4 := Lib.hid (bt HB3.out hb4)
  have HC4 := Lib.hid ((hb4.block _ (blk_lt HC3.out)).trans HC3.out)
  have HK4 := Lib.hid ((hb4.block _ (blk_lt HK3.out)).trans HK3.out)
  have hkr4 := HK4.out
  have r0 := blk_cell hkr4 0; have r1 := blk_cell hkr4 1; have r2 := blk_cell hkr4 2; have r3 := blk_cell hkr4 3
  simp only [List.getElem?_toArray, List.getElem?_cons_zero, List.getElem?_cons_succ] at r0 r1 r2 r3
  clear c0 c1 c2 c3 c4 c5 c6 c7 c8 c9 c10 c11 c12 hkr4 HC3 HK3 HL hb4
  cases lr with
  | false =>
    clear hlr
    go_wp2_with fail
    go_ret
    exact ⟨rfl, HB4.out⟩
  | true =>
    have HLI := Lib.hid (hlr rfl)
    clear hlr
    by_cases hl20 : (20 : Int) < (l.length : Int)
    · go_wp2_with fail
      go_ret
      exact ⟨rfl, HB4.out⟩
    · have HL20 : Hid (l.length ≤ 100) := by show _ ≤ _; omega
      have hk5 := heap_alloc_new w4 (.cells #[.int .i64 0] 3)
      have hb5 := (Below.refl w4.heap.size w4).alloc (Nat.le_refl _) (.cells #[.int .i64 0] 3)
      have HC5 := Lib.hid ((hb5.block _ (blk_lt HC4.out)).trans HC4.out)
      have HK5 := Lib.hid ((hb5.block _ (blk_lt HK4.out)).trans HK4.out)
      have HB5 := Lib.hid (bt HB4.out hb5)
      have hsz5 : (w4.alloc (.cells #[.int .i64 0] 3)).heap.size = w4.heap.size + 1 := by simp
      have HN5 := Lib.hid hk5
      have HW4 : Hid (w.heap.size + 1 < w4.heap.size) := blk_lt HK4.out
      clear hk5 hb5
      obtain ⟨w5, hw5⟩ : ∃ w5, w4.alloc (.cells #[.int .i64 0] 3) = w5 := ⟨_, rfl⟩
      rw [hw5] at HC5 HK5 HB5 hsz5 HN5
      have HSZ5 := Lib.hid hsz5
      have hNN : w4.heap.size = w4.heap.size := rfl
      obtain ⟨N, hN⟩ : ∃ N, w4.heap.size = N := ⟨_, rfl⟩
      rw [hN] at HSZ5 HN5 HW4
      have HATP : Hid (∀ j, atP N j → w.heap.size ≤ j) := fun j q => by unfold atP at q; have := HW4.out; omega
      have HRDY : Hid (∀ wx, Below w5.heap.size w5 wx → Calls Tryd.prog 11 #[.func (.func 29) #[] #[.pointer (some ⟨w.heap.size, 0, none⟩), .pointer (some ⟨N, 0, none⟩), .pointer (some ⟨w.heap.size + 1, 0, none⟩)], .slice none 0 0] wx fun e w' => ∃ H, e = .returned (.func (.func 33) #[] #[.pointer (some ⟨H, 0, none⟩)]) ∧
          Hid (∀ wz, Frm (atP N) w' wz → Num N 0 wz → Calls Tryd.prog 33 #[.agg #[.string m, .string tg, .slice A1 fs.length fc, .string bd, .bool cc, .int .i64 cn, .int .i64 sq, .int .i64 vs, .string hn, pv, .slice B1 al.length ac, .bool fd, .string tk], .pointer (some ⟨H, 0, none⟩)] wz fun e wy => Ends (atP N) 0 (.ans st l b cl) e wy ∧ Frm (atP N) wz wy ∧ Num N 1 wy) ∧ Below wx.heap.size wx w') := fun wx hbx =>
        (all_any12 [] (.func (.func 29) #[] #[.pointer (some ⟨w.heap.size, 0, none⟩), .pointer (some ⟨N, 0, none⟩), .pointer (some ⟨w.heap.size + 1, 0, none⟩)]) ⟨_, _, rfl, enters_of Tryd.func29 (by kernel_rfl) rfl⟩ none 0 wx (by decide) ⟨rfl, fun h => absurd rfl h⟩).mono fun e w' ⟨he, ⟨v, hk, _, hch⟩, hb'⟩ => by
          refine ⟨_, he, ?_, hb'⟩
          show ∀ wz, _
          obtain rfl := hch.end
          have hbw := bt hbx hb'
          have hbww := bt HB5.out hbw
          have hs5 := HSZ5.out
          have hNw : N < w'.heap.size := by have := hbw.size; omega
          have hw4 := HW4.out
          have t0 := alone1 (u0 := .string m) (u2 := .slice A1 fs.length fc) (u3 := .string bd) (u4 := .bool cc) (u6 := .int .i64 sq) (u7 := .int .i64 vs) (u8 := .string hn) (u9 := pv) (u10 := .slice B1 al.length ac) (u11 := .bool fd) (u12 := .string tk) (w0 := w') (gn := N) (g := w.heap.size + 1) (n := n) (st := st) (A := A) (l := l) (b := b) (cl := cl) (gc := w.heap.size) (tg := tg) (cn := cn)
            ((hbw.block _ (blk_lt HC5.out)).trans HC5.out) (by omega) hNw ((hbw.block _ (blk_lt HK5.out)).trans HK5.out) (by omega) (Row.old HR.out.row hbww HATP.out) HL20.out
          have t1 := all1_hd t0 (fun j q => by unfold atP at q; omega) (of_num N 0) (of_num N 1) (blk_lt hk) (fun q => by unfold atP at q; have := hbx.size; omega) (blk_cell hk 0)
          obtain ⟨_, _, he2, _, hcall⟩ := t1
          cases he2
          exact hcall
      have HCF : Hid (∀ wx, Frm (atP N) w5 wx → wx.cell? ⟨w.heap.size, 0, none⟩ = some (.string m) ∧ wx.cell? ⟨w.heap.size, 1, none⟩ = some (.string tg) ∧ wx.cell? ⟨w.heap.size, 2, none⟩ = some (.slice A1 fs.length fc) ∧ wx.cell? ⟨w.heap.size, 3, none⟩ = some (.string bd) ∧ wx.cell? ⟨w.heap.size, 4, none⟩ = some (.bool cc) ∧ wx.cell? ⟨w.heap.size, 5, none⟩ = some (.int .i64 cn) ∧ wx.cell? ⟨w.heap.size, 6, none⟩ = some (.int .i64 sq) ∧ wx.cell? ⟨w.heap.size, 7, none⟩ = some (.int .i64 vs) ∧ wx.cell? ⟨w.heap.size, 8, none⟩ = some (.string hn) ∧ wx.cell? ⟨w.heap.size, 9, none⟩ = some (pv) ∧ wx.cell? ⟨w.heap.size, 10, none⟩ = some (.slice B1 al.length ac) ∧ wx.cell? ⟨w.heap.size, 11, none⟩ = some (.bool fd) ∧ wx.cell? ⟨w.heap.size, 12, none⟩ = some (.string tk)) := fun wx hf => by
        have h5 := HC5.out
        have hk := (hf.block _ (blk_lt h5) (fun q => by unfold atP at q; have := HW4.out; omega)).trans h5
        exact ⟨blk_cell hk 0, blk_cell hk 1, blk_cell hk 2, blk_cell hk 3, blk_cell hk 4, blk_cell hk 5, blk_cell hk 6, blk_cell hk 7, blk_cell hk 8, blk_cell hk 9, blk_cell hk 10, blk_cell hk 11, blk_cell hk 12⟩
      have HD0 := Lib.hid (Below.refl w5.heap.size w5).drew
      have HD1 := Lib.hid ((Below.refl w5.heap.size w5).drew.alloc (Nat.le_refl _) (.cells #[.int .i64 0, .slice none 0 0, .string ⟨#[]⟩, .bool false] 32))
      have HF0 : Hid (Frm (atP N) w5 w5.drew) := Frm.of HD0.out
      have HF1 : Hid (Frm (atP N) w5 (w5.drew.alloc (.cells #[.int .i64 0, .slice none 0 0, .string ⟨#[]⟩, .bool false] 32))) := Frm.of HD1.out
      have HKZ : Hid ((w5.drew.alloc (.cells #[.int .i64 0, .slice none 0 0, .string ⟨#[]⟩, .bool false] 32)).heap[w5.heap.size]? = some (.cells #[.int .i64 0, .slice none 0 0, .string ⟨#[]⟩, .bool false] 32 (0, 0))) := heap_alloc_new w5.drew _
      clear hsz5 hNN
      have HW5 := Lib.hid hw5
      clear hw5
      go_upto_region 6 with fail
      rw [HW5.out]
      clear r0 r1 r2 r3
      go_cut [6] from 22 (fun gv wx => ∃ G A' n', gv = .pointer (some ⟨G, 0, none⟩) ∧ Hid (wx.heap[G]? = some (.cells #[.int .i64 st, .slice A' l.length n', .string b, .bool cl] 32 (0, 0))) ∧ Hid (Num N 1 wx) ∧ Hid (Frm (atP N) w5 wx))
      case first =>
        go_region_held3 (fun W => W.cell? ⟨w.heap.size, 0, none⟩ = some (.string m) ∧ W.cell? ⟨w.heap.size, 1, none⟩ = some (.string tg) ∧ W.cell? ⟨w.heap.size, 2, none⟩ = some (.slice A1 fs.length fc) ∧ W.cell? ⟨w.heap.size, 3, none⟩ = some (.string bd) ∧ W.cell? ⟨w.heap.size, 4, none⟩ = some (.bool cc) ∧ W.cell? ⟨w.heap.size, 5, none⟩ = some (.int .i64 cn) ∧ W.cell? ⟨w.heap.size, 6, none⟩ = some (.int .i64 sq) ∧ W.cell? ⟨w.heap.size, 7, none⟩ = some (.int .i64 vs) ∧ W.cell? ⟨w.heap.size, 8, none⟩ = some (.string hn) ∧ W.cell? ⟨w.heap.size, 9, none⟩ = some (pv) ∧ W.cell? ⟨w.heap.size, 10, none⟩ = some (.slice B1 al.length ac) ∧ W.cell? ⟨w.heap.size, 11, none⟩ = some (.bool fd) ∧ W.cell? ⟨w.heap.size, 12, none⟩ = some (.string tk)) (first | (exact HCF.out _ HF0.out) | (exact HCF.out _ HF1.out) | (exact HCF.out _ hf6) | (exact HCF.out _ (hf6.on ((Below.refl _ _).alloc (Nat.le_refl _) _))) | (exact HCF.out _ hf7) | (exact HCF.out _ (hf7.on ((Below.refl _ _).alloc (Nat.le_refl _) _))) | (exact HCF.out _ (hf7.put4 _ _ _ _ _ hgz))) ((first
          | (go_at_call 11; refine (HRDY.out _ HD1.out).mono ?_; rintro e w6 ⟨H, rfl, hrd, hb6⟩
             have hf6 : Frm (atP N) w5 w6 := HF1.out.on hb6
             have hkz6 := (hb6.block _ (blk_lt HKZ.out)).trans HKZ.out
             have hn6 : Num N 0 w6 := ((HD1.out.trans (hb6.mono HD1.out.size)).block N (by have := HSZ5.out; omega)).trans HN5.out)
          | (go_at_call 11; refine (HRDY.out _ HD0.out).mono ?_; rintro e w6 ⟨H, rfl, hrd, hb6⟩
             have hf6 : Frm (atP N) w5 w6 := HF0.out.on hb6
             have hn6 : Num N 0 w6 := ((HD0.out.trans (hb6.mono HD0.out.size)).block N (by have := HSZ5.out; omega)).trans HN5.out)
          | (go_at_call 33; refine (hrd.out _ ?_ ?_).mono ?_
             (first | exact Frm.refl _ _ | exact Frm.of ((Below.refl _ _).alloc (Nat.le_refl _) _))
             (first | exact hn6 | exact (Below.heap_alloc w6 _ N (blk_lt hn6)).trans hn6)
             rintro e w7 ⟨⟨A', n', rfl, _, _, _⟩, hff, hn7⟩
             have hf7 : Frm (atP N) w5 w7 := by first | exact hf6.trans hff | exact (hf6.on ((Below.refl _ _).alloc (Nat.le_refl _) _)).trans hff
             (first
               | (have hkz7 := (hff.block _ (blk_lt hkz6) (fun q => by unfold atP at q; have := HSZ5.out; omega)).trans hkz6; have hgz : w5.heap.size ≤ w5.heap.size := Nat.le_refl _; have r0 := blk_cell hkz7 0; have r1 := blk_cell hkz7 1; have r2 := blk_cell hkz7 2; have r3 := blk_cell hkz7 3; have z0 := blk_free hkz7 0; have z1 := blk_free hkz7 1; have z2 := blk_free hkz7 2; have z3 := blk_free hkz7 3; simp only [List.getElem?_toArray, List.getElem?_cons_zero, List.getElem?_cons_succ] at r0 r1 r2 r3)
               | (have hkz7 := (hff.block w6.heap.size (by simp) (fun q => by unfold atP at q; have := HSZ5.out; have := hf6.size; omega)).trans (heap_alloc_new w6 (.cells #[.int .i64 0, .slice none 0 0, .string ⟨#[]⟩, .bool false] 32)); have hgz : w5.heap.size ≤ w6.heap.size := hf6.size; have r0 := blk_cell hkz7 0; have r1 := blk_cell hkz7 1; have r2 := blk_cell hkz7 2; have r3 := blk_cell hkz7 3; have z0 := blk_free hkz7 0; have z1 := blk_free hkz7 1; have z2 := blk_free hkz7 2; have z3 := blk_free hkz7 3; simp only [List.getElem?_toArray, List.getElem?_cons_zero, List.getElem?_cons_succ] at r0 r1 r2 r3)
               | skip))))
        all_goals
          have HN7 := Lib.hid hn7
          have HF7 := Lib.hid hf7
          have HF6 := Lib.hid hf6
          clear hn7 hf7 hf6 hb6 hrd hff hn6
          go_wp2_with fail
          go_meet
          first
          | exact ⟨_, A', n', rfl, heap_alloc_new w7 _, (Below.heap_alloc w7 _ N (blk_lt HN7.out)).trans HN7.out, HF7.out.on ((Below.refl _ _).alloc (Nat.le_refl _) _)⟩
          | exact ⟨_, A', n', rfl, put4_blk hkz7 _ _ _ _, (of_num N 1).put4 HN7.out _ _ _ _ _ (fun q => by unfold atP at q; have := HSZ5.out; have := HF6.out.size; omega), HF7.out.put4 _ _ _ _ _ hgz⟩
      case rest =>
        obtain ⟨G, A', n', rfl, hkG, hnG, hfG⟩ := hcut
        have h5 := HK5.out
        have hkr := (hfG.out.block _ (blk_lt h5) (fun q => by unfold atP at q; have := HW4.out; omega)).trans h5
        have r0 := blk_cell hkr 0; have r1 := blk_cell hkr 1; have r2 := blk_cell hkr 2; have r3 := blk_cell hkr 3
        have x0 := blk_cell hkG.out 0; have x1 := blk_cell hkG.out 1; have x2 := blk_cell hkG.out 2; have x3 := blk_cell hkG.out 3
        have y0 := blk_cell hnG.out 0
        simp only [List.getElem?_toArray, List.getElem?_cons_zero, List.getElem?_cons_succ] at r0 r1 r2 r3 x0 x1 x2 x3 y0
        have e1 : (st == st) = true := by simp
        have e2 : (b.toList == b.toList) = true := by simp
        have e3 : (cl == cl) = true := by simp
        have HE : Hid (Below w.heap.size w wc) := HB5.out.trans (hfG.out.below HB5.out.size (fun j q => HATP.out j q))
        clear h5 hkr
        go_wp2_with fail
        go_ret
        exact ⟨rfl, HE.out⟩
end Go.Proofs.YtmncchgifgjhgaaDoor
