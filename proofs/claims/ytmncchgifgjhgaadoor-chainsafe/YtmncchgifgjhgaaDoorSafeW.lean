/- The walk of ChainSafe. -/
import Derived.Test.YtmncchgifgjhgaaDoorSafeH
import Derived.Test.YtmncchgifgjhgaaDoorLw
import Derived.BigQuiet
import Derived.Deep.RegionHeld3
namespace Go.Proofs.YtmncchgifgjhgaaDoor
open Go.RowKit Go.Shelf

set_option maxRecDepth 100000 in
set_option maxHeartbeats 4000000 in
theorem safe_walk0 (c : Cl) (how : Int) (hk : bits .and .i64 how 3 = 0) (w : World) (hg : GB w) (h : c.at w) :
    Calls Tryd.prog 7 #[c.v, .int .i64 how] w fun e w' => e = .returned (.bool true) ∧ Below w.heap.size w w' := by
  have HL := Lib.hid (fun wx (hb : Below w.heap.size w wx) => light_any c wx ⟨(h.row.below hb (Nat.le_refl _)).wide hb.size, (h.rowS.below hb (Nat.le_refl _)).wide hb.size, h.cap, h.fsz, h.alz, h.fsn, h.aln, h.z0, h.z1, h.z2, h.z3, h.icn, h.isq, h.ivs⟩)
  have HH := Lib.hid h
  have HF := Lib.hid (fun wx (hb : Below w.heap.size w wx) => fit_any wx (hg.on hb))
  have HG := Lib.hid hg
  clear h hg
  obtain ⟨m, tg, A1, fs, fc, bd, cc, cn, sq, vs, hn, pv, B1, al, ac, fd, tk⟩ := c
  simp only [Cl.v] at *
  have hb1 := (Below.refl w.heap.size w).alloc (Nat.le_refl _) (.cells #[.string m, .string tg, .slice A1 fs.length fc, .string bd, .bool cc, .int .i64 cn, .int .i64 sq, .int .i64 vs, .string hn, pv, .slice B1 al.length ac, .bool fd, .string tk] 30)
  have hb2 := hb1.alloc hb1.size (.cells #[.int .i64 how] 3)
  have hkc : ((w.alloc (.cells #[.string m, .string tg, .slice A1 fs.length fc, .string bd, .bool cc, .int .i64 cn, .int .i64 sq, .int .i64 vs, .string hn, pv, .slice B1 al.length ac, .bool fd, .string tk] 30)).alloc (.cells #[.int .i64 how] 3)).heap[w.heap.size]? = some (.cells #[.string m, .string tg, .slice A1 fs.length fc, .string bd, .bool cc, .int .i64 cn, .int .i64 sq, .int .i64 vs, .string hn, pv, .slice B1 al.length ac, .bool fd, .string tk] 30 (0, 0)) := (Below.heap_alloc _ _ _ (by simp)).trans (heap_alloc_new w _)
  have hkr : ((w.alloc (.cells #[.string m, .string tg, .slice A1 fs.length fc, .string bd, .bool cc, .int .i64 cn, .int .i64 sq, .int .i64 vs, .string hn, pv, .slice B1 al.length ac, .bool fd, .string tk] 30)).alloc (.cells #[.int .i64 how] 3)).heap[w.heap.size + 1]? = some (.cells #[.int .i64 how] 3 (0, 0)) := by
    have := heap_alloc_new (w.alloc (.cells #[.string m, .string tg, .slice A1 fs.length fc, .string bd, .bool cc, .int .i64 cn, .int .i64 sq, .int .i64 vs, .string hn, pv, .slice B1 al.length ac, .bool fd, .string tk] 30)) (.cells #[.int .i64 how] 3)
    simpa using this
  have HC := Lib.hid hkc; have HK := Lib.hid hkr; have HB := Lib.hid hb2
  clear hkc hkr hb1 hb2
  go_enter Tryd.func7, Tryd.ntmps7
  go_wp2_with fail
  generalize ((w.alloc (.cells #[.string m, .string tg, .slice A1 fs.length fc, .string bd, .bool cc, .int .i64 cn, .int .i64 sq, .int .i64 vs, .string hn, pv, .slice B1 al.length ac, .bool fd, .string tk] 30)).alloc (.cells #[.int .i64 how] 3)) = w2 at *
  refine (HF.out w2 HB.out).mono ?_
  rintro e w3 ⟨rfl, hb3⟩
  have HB3 := Lib.hid (bt HB.out hb3)
  have hkq := (hb3.block _ (blk_lt HC.out)).trans HC.out
  have HC3 := Lib.hid hkq
  have HK3 := Lib.hid ((hb3.block _ (blk_lt HK.out)).trans HK.out)
  have c0 := blk_cell hkq 0; have c1 := blk_cell hkq 1; have c2 := blk_cell hkq 2; have c3 := blk_cell hkq 3; have c4 := blk_cell hkq 4; have c5 := blk_cell hkq 5; have c6 := blk_cell hkq 6; have c7 := blk_cell hkq 7; have c8 := blk_cell hkq 8; have c9 := blk_cell hkq 9; have c10 := blk_cell hkq 10; have c11 := blk_cell hkq 11; have c12 := blk_cell hkq 12
  simp only [List.getElem?_toArray, List.getElem?_cons_zero, List.getElem?_cons_succ] at c0 c1 c2 c3 c4 c5 c6 c7 c8 c9 c10 c11 c12
  clear hkq hb3 HC HK HF
  go_wp2_with fail
  refine (HL.out _ HB3.out).mono ?_
  rintro e w4 ⟨⟨lr, rfl, hlr⟩, hb4⟩
  have HB4 := Lib.hid (bt HB3.out hb4)
  have HC4 := Lib.hid ((hb4.block _ (blk_lt HC3.out)).trans HC3.out)
  have HK4 := Lib.hid ((hb4.block _ (blk_lt HK3.out)).trans HK3.out)
  clear c0 c1 c2 c3 c4 c5 c6 c7 c8 c9 c10 c11 c12 HC3 HK3 HL hb4
  have hk4 := HC4.out
  have c0 := blk_cell hk4 0; have c1 := blk_cell hk4 1; have c2 := blk_cell hk4 2; have c3 := blk_cell hk4 3; have c4 := blk_cell hk4 4; have c5 := blk_cell hk4 5; have c6 := blk_cell hk4 6; have c7 := blk_cell hk4 7; have c8 := blk_cell hk4 8; have c9 := blk_cell hk4 9; have c10 := blk_cell hk4 10; have c11 := blk_cell hk4 11; have c12 := blk_cell hk4 12
  simp only [List.getElem?_toArray, List.getElem?_cons_zero, List.getElem?_cons_succ] at c0 c1 c2 c3 c4 c5 c6 c7 c8 c9 c10 c11 c12
  have hkh := HK4.out
  have q0 := blk_cell hkh 0
  simp only [List.getElem?_toArray, List.getElem?_cons_zero, List.getElem?_cons_succ] at q0
  clear hk4 hkh
  cases lr with
  | false =>
    clear hlr
    go_wp2_with fail
    go_ret
    exact ⟨rfl, HB4.out⟩
  | true =>
    have HLI := Lib.hid (hlr rfl)
    clear hlr
    have hmf : ∀ (fn : Fn) (first cap : Array Value) (w : World), (Instr.makeFunc fn first cap).run Tryd.prog w = .ok (.func fn first cap) w := fun _ _ _ _ => rfl
    have HM : Hid (Calls Tryd.prog 25 #[.func (.func 28) #[] #[.pointer (some ⟨w.heap.size + 1, 0, none⟩), .pointer (some ⟨w.heap.size, 0, none⟩)]] w4 fun e w' => e = .returned (.func (.func 43) #[] #[.pointer (some ⟨w4.heap.size, 0, none⟩)]) ∧ w' = w4.alloc (.cells #[.func (.func 28) #[] #[.pointer (some ⟨w.heap.size + 1, 0, none⟩), .pointer (some ⟨w.heap.size, 0, none⟩)]] 36)) := by
      obtain ⟨m', mc', e', _, _, hh⟩ := mk_safe
      cases e'
      exact hh _ w4 ⟨_, _, rfl, enters_of Tryd.func28 (by kernel_rfl) rfl⟩
    have hb5 := (Below.refl w4.heap.size w4).alloc (Nat.le_refl _) (.cells #[.func (.func 28) #[] #[.pointer (some ⟨w.heap.size + 1, 0, none⟩), .pointer (some ⟨w.heap.size, 0, none⟩)]] 36)
    have hk5 := heap_alloc_new w4 (.cells #[.func (.func 28) #[] #[.pointer (some ⟨w.heap.size + 1, 0, none⟩), .pointer (some ⟨w.heap.size, 0, none⟩)]] 36)
    have hkc5 := (hb5.block _ (blk_lt HC4.out)).trans HC4.out
    have hkh5 := (hb5.block _ (blk_lt HK4.out)).trans HK4.out
    have hgl := blk_lt hk5
    have HB5 := Lib.hid (bt HB4.out hb5)
    have d := safe1_0 (u0 := .string m) (u1 := .string tg) (u2 := .slice A1 fs.length fc) (u3 := .string bd) (u4 := .bool cc) (u5 := .int .i64 cn) (u6 := .int .i64 sq) (u7 := .int .i64 vs) (u8 := .string hn) (u9 := pv) (u10 := .slice B1 al.length ac) (u11 := .bool fd) (u12 := .string tk) hk hkh5 hkc5
    have d2 := safe_hd_ans d (fun _ q => q.elim) (of_any _) (of_any _) hgl (fun q => q) (blk_cell hk5 0)
    obtain ⟨_, _, he, _, hcall⟩ := d2
    cases he
    have HCALL := Lib.hid (hcall _ (Frm.refl _ _) trivial)
    change Hid (Calls Tryd.prog 43 #[.agg #[.string m, .string tg, .slice A1 fs.length fc, .string bd, .bool cc, .int .i64 cn, .int .i64 sq, .int .i64 vs, .string hn, pv, .slice B1 al.length ac, .bool fd, .string tk], .pointer (some ⟨w4.heap.size, 0, none⟩)] _ _) at HCALL
    have HC5 := Lib.hid hkc5
    have HK5 := Lib.hid hkh5
    clear hcall d hb5 hk5 hgl c0 c1 c2 c3 c4 c5 c6 c7 c8 c9 c10 c11 c12 q0
    have c0 := blk_cell hkc5 0; have c1 := blk_cell hkc5 1; have c2 := blk_cell hkc5 2; have c3 := blk_cell hkc5 3; have c4 := blk_cell hkc5 4; have c5 := blk_cell hkc5 5; have c6 := blk_cell hkc5 6; have c7 := blk_cell hkc5 7; have c8 := blk_cell hkc5 8; have c9 := blk_cell hkc5 9; have c10 := blk_cell hkc5 10; have c11 := blk_cell hkc5 11; have c12 := blk_cell hkc5 12
    simp only [List.getElem?_toArray, List.getElem?_cons_zero, List.getElem?_cons_succ] at c0 c1 c2 c3 c4 c5 c6 c7 c8 c9 c10 c11 c12
    clear hkc5 hkh5
    go_wp2_with fail
    refine HM.out.mono ?_
    rintro e w5 ⟨rfl, rfl⟩
    go_wp2_with fail
    generalize w4.alloc (.cells #[.func (.func 28) #[] #[.pointer (some ⟨w.heap.size + 1, 0, none⟩), .pointer (some ⟨w.heap.size, 0, none⟩)]] 36) = w5 at *
    refine HCALL.out.mono ?_
    rintro e w6 ⟨⟨A', n', rfl, _, _, _⟩, hf6, _⟩
    have hb6 : Below w5.heap.size w5 w6 := hf6.below (Nat.le_refl _) (fun _ q => q.elim)
    have hb7 := hb6.alloc hb6.size (.cells #[.int .i64 204, .slice A' 0 n', .string bd, .bool false] 32)
    have hkx := heap_alloc_new w6 (.cells #[.int .i64 204, .slice A' 0 n', .string bd, .bool false] 32)
    have hkc7 := (hb7.block _ (blk_lt HC5.out)).trans HC5.out
    have hkh7 := (hb7.block _ (blk_lt HK5.out)).trans HK5.out
    have HB7 := Lib.hid (bt HB5.out hb7)
    clear c0 c1 c2 c3 c4 c5 c6 c7 c8 c9 c10 c11 c12 hb7 hb6 hf6 HCALL HM
    have c0 := blk_cell hkc7 0; have c1 := blk_cell hkc7 1; have c2 := blk_cell hkc7 2; have c3 := blk_cell hkc7 3; have c4 := blk_cell hkc7 4; have c5 := blk_cell hkc7 5; have c6 := blk_cell hkc7 6; have c7 := blk_cell hkc7 7; have c8 := blk_cell hkc7 8; have c9 := blk_cell hkc7 9; have c10 := blk_cell hkc7 10; have c11 := blk_cell hkc7 11; have c12 := blk_cell hkc7 12
    simp only [List.getElem?_toArray, List.getElem?_cons_zero, List.getElem?_cons_succ] at c0 c1 c2 c3 c4 c5 c6 c7 c8 c9 c10 c11 c12
    have q0 := blk_cell hkh7 0
    have x0 := blk_cell hkx 0; have x1 := blk_cell hkx 1; have x2 := blk_cell hkx 2; have x3 := blk_cell hkx 3
    simp only [List.getElem?_toArray, List.getElem?_cons_zero, List.getElem?_cons_succ] at q0 x0 x1 x2 x3
    clear hkc7 hkh7 hkx
    have hl0 : ([] : List Fld).length = 0 := rfl
    rw [hl0]
    have e2 : (bd.toList == bd.toList) = true := by simp
    go_wp2_with fail
    go_ret
    exact ⟨rfl, HB7.out⟩

set_option maxRecDepth 100000 in
set_option maxHeartbeats 4000000 in
theorem safe_walk1 (c : Cl) (how : Int) (hk : bits .and .i64 how 3 = 1) (w : World) (hg : GB w) (h : c.at w) :
    Calls Tryd.prog 7 #[c.v, .int .i64 how] w fun e w' => e = .returned (.bool true) ∧ Below w.heap.size w w' := by
  have HL := Lib.hid (fun wx (hb : Below w.heap.size w wx) => light_any c wx ⟨(h.row.below hb (Nat.le_refl _)).wide hb.size, (h.rowS.below hb (Nat.le_refl _)).wide hb.size, h.cap, h.fsz, h.alz, h.fsn, h.aln, h.z0, h.z1, h.z2, h.z3, h.icn, h.isq, h.ivs⟩)
  have HH := Lib.hid h
  have HF := Lib.hid (fun wx (hb : Below w.heap.size w wx) => fit_any wx (hg.on hb))
  have HG := Lib.hid hg
  clear h hg
  obtain ⟨m, tg, A1, fs, fc, bd, cc, cn, sq, vs, hn, pv, B1, al, ac, fd, tk⟩ := c
  simp only [Cl.v] at *
  have hb1 := (Below.refl w.heap.size w).alloc (Nat.le_refl _) (.cells #[.string m, .string tg, .slice A1 fs.length fc, .string bd, .bool cc, .int .i64 cn, .int .i64 sq, .int .i64 vs, .string hn, pv, .slice B1 al.length ac, .bool fd, .string tk] 30)
  have hb2 := hb1.alloc hb1.size (.cells #[.int .i64 how] 3)
  have hkc : ((w.alloc (.cells #[.string m, .string tg, .slice A1 fs.length fc, .string bd, .bool cc, .int .i64 cn, .int .i64 sq, .int .i64 vs, .string hn, pv, .slice B1 al.length ac, .bool fd, .string tk] 30)).alloc (.cells #[.int .i64 how] 3)).heap[w.heap.size]? = some (.cells #[.string m, .string tg, .slice A1 fs.length fc, .string bd, .bool cc, .int .i64 cn, .int .i64 sq, .int .i64 vs, .string hn, pv, .slice B1 al.length ac, .bool fd, .string tk] 30 (0, 0)) := (Below.heap_alloc _ _ _ (by simp)).trans (heap_alloc_new w _)
  have hkr : ((w.alloc (.cells #[.string m, .string tg, .slice A1 fs.length fc, .string bd, .bool cc, .int .i64 cn, .int .i64 sq, .int .i64 vs, .string hn, pv, .slice B1 al.length ac, .bool fd, .string tk] 30)).alloc (.cells #[.int .i64 how] 3)).heap[w.heap.size + 1]? = some (.cells #[.int .i64 how] 3 (0, 0)) := by
    have := heap_alloc_new (w.alloc (.cells #[.string m, .string tg, .slice A1 fs.length fc, .string bd, .bool cc, .int .i64 cn, .int .i64 sq, .int .i64 vs, .string hn, pv, .slice B1 al.length ac, .bool fd, .string tk] 30)) (.cells #[.int .i64 how] 3)
    simpa using this
  have HC := Lib.hid hkc; have HK := Lib.hid hkr; have HB := Lib.hid hb2
  clear hkc hkr hb1 hb2
  go_enter Tryd.func7, Tryd.ntmps7
  go_wp2_with fail
  generalize ((w.alloc (.cells #[.string m, .string tg, .slice A1 fs.length fc, .string bd, .bool cc, .int .i64 cn, .int .i64 sq, .int .i64 vs, .string hn, pv, .slice B1 al.length ac, .bool fd, .string tk] 30)).alloc (.cells #[.int .i64 how] 3)) = w2 at *
  refine (HF.out w2 HB.out).mono ?_
  rintro e w3 ⟨rfl, hb3⟩
  have HB3 := Lib.hid (bt HB.out hb3)
  have hkq := (hb3.block _ (blk_lt HC.out)).trans HC.out
  have HC3 := Lib.hid hkq
  have HK3 := Lib.hid ((hb3.block _ (blk_lt HK.out)).trans HK.out)
  have c0 := blk_cell hkq 0; have c1 := blk_cell hkq 1; have c2 := blk_cell hkq 2; have c3 := blk_cell hkq 3; have c4 := blk_cell hkq 4; have c5 := blk_cell hkq 5; have c6 := blk_cell hkq 6; have c7 := blk_cell hkq 7; have c8 := blk_cell hkq 8; have c9 := blk_cell hkq 9; have c10 := blk_cell hkq 10; have c11 := blk_cell hkq 11; have c12 := blk_cell hkq 12
  simp only [List.getElem?_toArray, List.getElem?_cons_zero, List.getElem?_cons_succ] at c0 c1 c2 c3 c4 c5 c6 c7 c8 c9 c10 c11 c12
  clear hkq hb3 HC HK HF
  go_wp2_with fail
  refine (HL.out _ HB3.out).mono ?_
  rintro e w4 ⟨⟨lr, rfl, hlr⟩, hb4⟩
  have HB4 := Lib.hid (bt HB3.out hb4)
  have HC4 := Lib.hid ((hb4.block _ (blk_lt HC3.out)).trans HC3.out)
  have HK4 := Lib.hid ((hb4.block _ (blk_lt HK3.out)).trans HK3.out)
  clear c0 c1 c2 c3 c4 c5 c6 c7 c8 c9 c10 c11 c12 HC3 HK3 HL hb4
  have hk4 := HC4.out
  have c0 := blk_cell hk4 0; have c1 := blk_cell hk4 1; have c2 := blk_cell hk4 2; have c3 := blk_cell hk4 3; have c4 := blk_cell hk4 4; have c5 := blk_cell hk4 5; have c6 := blk_cell hk4 6; have c7 := blk_cell hk4 7; have c8 := blk_cell hk4 8; have c9 := blk_cell hk4 9; have c10 := blk_cell hk4 10; have c11 := blk_cell hk4 11; have c12 := blk_cell hk4 12
  simp only [List.getElem?_toArray, List.getElem?_cons_zero, List.getElem?_cons_succ] at c0 c1 c2 c3 c4 c5 c6 c7 c8 c9 c10 c11 c12
  have hkh := HK4.out
  have q0 := blk_cell hkh 0
  simp only [List.getElem?_toArray, List.getElem?_cons_zero, List.getElem?_cons_succ] at q0
  clear hk4 hkh
  cases lr with
  | false =>
    clear hlr
    go_wp2_with fail
    go_ret
    exact ⟨rfl, HB4.out⟩
  | true =>
    have HLI := Lib.hid (hlr rfl)
    clear hlr
    have hmf : ∀ (fn : Fn) (first cap : Array Value) (w : World), (Instr.makeFunc fn first cap).run Tryd.prog w = .ok (.func fn first cap) w := fun _ _ _ _ => rfl
    have HM : Hid (Calls Tryd.prog 25 #[.func (.func 28) #[] #[.pointer (some ⟨w.heap.size + 1, 0, none⟩), .pointer (some ⟨w.heap.size, 0, none⟩)]] w4 fun e w' => e = .returned (.func (.func 43) #[] #[.pointer (some ⟨w4.heap.size, 0, none⟩)]) ∧ w' = w4.alloc (.cells #[.func (.func 28) #[] #[.pointer (some ⟨w.heap.size + 1, 0, none⟩), .pointer (some ⟨w.heap.size, 0, none⟩)]] 36)) := by
      obtain ⟨m', mc', e', _, _, hh⟩ := mk_safe
      cases e'
      exact hh _ w4 ⟨_, _, rfl, enters_of Tryd.func28 (by kernel_rfl) rfl⟩
    have hb5 := (Below.refl w4.heap.size w4).alloc (Nat.le_refl _) (.cells #[.func (.func 28) #[] #[.pointer (some ⟨w.heap.size + 1, 0, none⟩), .pointer (some ⟨w.heap.size, 0, none⟩)]] 36)
    have hk5 := heap_alloc_new w4 (.cells #[.func (.func 28) #[] #[.pointer (some ⟨w.heap.size + 1, 0, none⟩), .pointer (some ⟨w.heap.size, 0, none⟩)]] 36)
    have hkc5 := (hb5.block _ (blk_lt HC4.out)).trans HC4.out
    have hkh5 := (hb5.block _ (blk_lt HK4.out)).trans HK4.out
    have hgl := blk_lt hk5
    have HB5 := Lib.hid (bt HB4.out hb5)
    have d := safe1_1 (u0 := .string m) (u1 := .string tg) (u2 := .slice A1 fs.length fc) (u3 := .string bd) (u4 := .bool cc) (u5 := .int .i64 cn) (u6 := .int .i64 sq) (u7 := .int .i64 vs) (u8 := .string hn) (u9 := pv) (u10 := .slice B1 al.length ac) (u11 := .bool fd) (u12 := .string tk) hk hkh5 hkc5
    have d2 := safe_hd_gone d (fun _ q => q.elim) (of_any _) (of_any _) hgl (fun q => q) (blk_cell hk5 0)
    obtain ⟨_, _, he, _, hcall⟩ := d2
    cases he
    have HCALL := Lib.hid (hcall _ (Frm.refl _ _) trivial)
    change Hid (Calls Tryd.prog 43 #[.agg #[.string m, .string tg, .slice A1 fs.length fc, .string bd, .bool cc, .int .i64 cn, .int .i64 sq, .int .i64 vs, .string hn, pv, .slice B1 al.length ac, .bool fd, .string tk], .pointer (some ⟨w4.heap.size, 0, none⟩)] _ _) at HCALL
    have HC5 := Lib.hid hkc5
    have HK5 := Lib.hid hkh5
    clear hcall d hb5 hk5 hgl c0 c1 c2 c3 c4 c5 c6 c7 c8 c9 c10 c11 c12 q0
    have c0 := blk_cell hkc5 0; have c1 := blk_cell hkc5 1; have c2 := blk_cell hkc5 2; have c3 := blk_cell hkc5 3; have c4 := blk_cell hkc5 4; have c5 := blk_cell hkc5 5; have c6 := blk_cell hkc5 6; have c7 := blk_cell hkc5 7; have c8 := blk_cell hkc5 8; have c9 := blk_cell hkc5 9; have c10 := blk_cell hkc5 10; have c11 := blk_cell hkc5 11; have c12 := blk_cell hkc5 12
    simp only [List.getElem?_toArray, List.getElem?_cons_zero, List.getElem?_cons_succ] at c0 c1 c2 c3 c4 c5 c6 c7 c8 c9 c10 c11 c12
    clear hkc5 hkh5
    go_wp2_with fail
    refine HM.out.mono ?_
    rintro e w5 ⟨rfl, rfl⟩
    go_wp2_with fail
    generalize w4.alloc (.cells #[.func (.func 28) #[] #[.pointer (some ⟨w.heap.size + 1, 0, none⟩), .pointer (some ⟨w.heap.size, 0, none⟩)]] 36) = w5 at *
    refine HCALL.out.mono ?_
    rintro e w6 ⟨⟨A', n', rfl, _, _, _⟩, hf6, _⟩
    have hb6 : Below w5.heap.size w5 w6 := hf6.below (Nat.le_refl _) (fun _ q => q.elim)
    have hb7 := hb6.alloc hb6.size (.cells #[.int .i64 500, .slice A' 0 n', .string (plB 500), .bool false] 32)
    have hkx := heap_alloc_new w6 (.cells #[.int .i64 500, .slice A' 0 n', .string (plB 500), .bool false] 32)
    have hkc7 := (hb7.block _ (blk_lt HC5.out)).trans HC5.out
    have hkh7 := (hb7.block _ (blk_lt HK5.out)).trans HK5.out
    have HB7 := Lib.hid (bt HB5.out hb7)
    clear c0 c1 c2 c3 c4 c5 c6 c7 c8 c9 c10 c11 c12 hb7 hb6 hf6 HCALL HM
    have c0 := blk_cell hkc7 0; have c1 := blk_cell hkc7 1; have c2 := blk_cell hkc7 2; have c3 := blk_cell hkc7 3; have c4 := blk_cell hkc7 4; have c5 := blk_cell hkc7 5; have c6 := blk_cell hkc7 6; have c7 := blk_cell hkc7 7; have c8 := blk_cell hkc7 8; have c9 := blk_cell hkc7 9; have c10 := blk_cell hkc7 10; have c11 := blk_cell hkc7 11; have c12 := blk_cell hkc7 12
    simp only [List.getElem?_toArray, List.getElem?_cons_zero, List.getElem?_cons_succ] at c0 c1 c2 c3 c4 c5 c6 c7 c8 c9 c10 c11 c12
    have q0 := blk_cell hkh7 0
    have x0 := blk_cell hkx 0; have x1 := blk_cell hkx 1; have x2 := blk_cell hkx 2; have x3 := blk_cell hkx 3
    simp only [List.getElem?_toArray, List.getElem?_cons_zero, List.getElem?_cons_succ] at q0 x0 x1 x2 x3
    clear hkc7 hkh7 hkx
    have hl0 : ([] : List Fld).length = 0 := rfl
    rw [hl0]
    have HW := Lib.hid (fun wx => word_any 500 wx)
    have hwl : (mkB (wordL 500)).size ≤ 31 := by rw [mkB_size]; exact word_len 500
    have k1 := add_str (mkB (wordL 500)) ⟨#[10]⟩ (by have : (⟨#[10]⟩ : ByteArray).size = 1 := rfl; omega)
    have he : mkB (wordL 500) ++ ⟨#[10]⟩ = plB 500 := mkB_app (wordL 500) [10]
    rw [he] at k1
    clear he hwl
    have e2 : ((plB 500).toList == (plB 500).toList) = true := by simp
    generalize plB 500 = pb at *
    generalize mkB (wordL 500) = wb at *
    go_wp2_with fail
    generalize w6.alloc (.cells #[.int .i64 500, .slice A' 0 n', .string pb, .bool false] 32) = w8 at *
    have HQL : Hid (∀ j, Calls Tryd.prog 16 #[.int .i64 500] (w8.drewN j) fun e w'' => e = .returned (.string wb) ∧ ∃ q, w'' = w8.drewN q) := fun j => (HW.out (w8.drewN j)).mono fun e w'' ⟨he, hw⟩ => ⟨he, j, hw.symm⟩
    go_quiet ((first | (go_at_call 16; exact HQL.out _)))
    go_wp2_with fail
    go_ret
    exact ⟨rfl, HB7.out.trans ((drewN_below _ _).mono HB7.out.size)⟩

set_option maxRecDepth 100000 in
set_option maxHeartbeats 4000000 in
theorem safe_walk2 (c : Cl) (how : Int) (hk : bits .and .i64 how 3 = 2) (w : World) (hg : GB w) (h : c.at w) :
    Calls Tryd.prog 7 #[c.v, .int .i64 how] w fun e w' => e = .returned (.bool true) ∧ Below w.heap.size w w' := by
  have HL := Lib.hid (fun wx (hb : Below w.heap.size w wx) => light_any c wx ⟨(h.row.below hb (Nat.le_refl _)).wide hb.size, (h.rowS.below hb (Nat.le_refl _)).wide hb.size, h.cap, h.fsz, h.alz, h.fsn, h.aln, h.z0, h.z1, h.z2, h.z3, h.icn, h.isq, h.ivs⟩)
  have HH := Lib.hid h
  have HF := Lib.hid (fun wx (hb : Below w.heap.size w wx) => fit_any wx (hg.on hb))
  have HG := Lib.hid hg
  clear h hg
  obtain ⟨m, tg, A1, fs, fc, bd, cc, cn, sq, vs, hn, pv, B1, al, ac, fd, tk⟩ := c
  simp only [Cl.v] at *
  have hb1 := (Below.refl w.heap.size w).alloc (Nat.le_refl _) (.cells #[.string m, .string tg, .slice A1 fs.length fc, .string bd, .bool cc, .int .i64 cn, .int .i64 sq, .int .i64 vs, .string hn, pv, .slice B1 al.length ac, .bool fd, .string tk] 30)
  have hb2 := hb1.alloc hb1.size (.cells #[.int .i64 how] 3)
  have hkc : ((w.alloc (.cells #[.string m, .string tg, .slice A1 fs.length fc, .string bd, .bool cc, .int .i64 cn, .int .i64 sq, .int .i64 vs, .string hn, pv, .slice B1 al.length ac, .bool fd, .string tk] 30)).alloc (.cells #[.int .i64 how] 3)).heap[w.heap.size]? = some (.cells #[.string m, .string tg, .slice A1 fs.length fc, .string bd, .bool cc, .int .i64 cn, .int .i64 sq, .int .i64 vs, .string hn, pv, .slice B1 al.length ac, .bool fd, .string tk] 30 (0, 0)) := (Below.heap_alloc _ _ _ (by simp)).trans (heap_alloc_new w _)
  have hkr : ((w.alloc (.cells #[.string m, .string tg, .slice A1 fs.length fc, .string bd, .bool cc, .int .i64 cn, .int .i64 sq, .int .i64 vs, .string hn, pv, .slice B1 al.length ac, .bool fd, .string tk] 30)).alloc (.cells #[.int .i64 how] 3)).heap[w.heap.size + 1]? = some (.cells #[.int .i64 how] 3 (0, 0)) := by
    have := heap_alloc_new (w.alloc (.cells #[.string m, .string tg, .slice A1 fs.length fc, .string bd, .bool cc, .int .i64 cn, .int .i64 sq, .int .i64 vs, .string hn, pv, .slice B1 al.length ac, .bool fd, .string tk] 30)) (.cells #[.int .i64 how] 3)
    simpa using this
  have HC := Lib.hid hkc; have HK := Lib.hid hkr; have HB := Lib.hid hb2
  clear hkc hkr hb1 hb2
  go_enter Tryd.func7, Tryd.ntmps7
  go_wp2_with fail
  generalize ((w.alloc (.cells #[.string m, .string tg, .slice A1 fs.length fc, .string bd, .bool cc, .int .i64 cn, .int .i64 sq, .int .i64 vs, .string hn, pv, .slice B1 al.length ac, .bool fd, .string tk] 30)).alloc (.cells #[.int .i64 how] 3)) = w2 at *
  refine (HF.out w2 HB.out).mono ?_
  rintro e w3 ⟨rfl, hb3⟩
  have HB3 := Lib.hid (bt HB.out hb3)
  have hkq := (hb3.block _ (blk_lt HC.out)).trans HC.out
  have HC3 := Lib.hid hkq
  have HK3 := Lib.hid ((hb3.block _ (blk_lt HK.out)).trans HK.out)
  have c0 := blk_cell hkq 0; have c1 := blk_cell hkq 1; have c2 := blk_cell hkq 2; have c3 := blk_cell hkq 3; have c4 := blk_cell hkq 4; have c5 := blk_cell hkq 5; have c6 := blk_cell hkq 6; have c7 := blk_cell hkq 7; have c8 := blk_cell hkq 8; have c9 := blk_cell hkq 9; have c10 := blk_cell hkq 10; have c11 := blk_cell hkq 11; have c12 := blk_cell hkq 12
  simp only [List.getElem?_toArray, List.getElem?_cons_zero, List.getElem?_cons_succ] at c0 c1 c2 c3 c4 c5 c6 c7 c8 c9 c10 c11 c12
  clear hkq hb3 HC HK HF
  go_wp2_with fail
  refine (HL.out _ HB3.out).mono ?_
  rintro e w4 ⟨⟨lr, rfl, hlr⟩, hb4⟩
  have HB4 := Lib.hid (bt HB3.out hb4)
  have HC4 := Lib.hid ((hb4.block _ (blk_lt HC3.out)).trans HC3.out)
  have HK4 := Lib.hid ((hb4.block _ (blk_lt HK3.out)).trans HK3.out)
  clear c0 c1 c2 c3 c4 c5 c6 c7 c8 c9 c10 c11 c12 HC3 HK3 HL hb4
  have hk4 := HC4.out
  have c0 := blk_cell hk4 0; have c1 := blk_cell hk4 1; have c2 := blk_cell hk4 2; have c3 := blk_cell hk4 3; have c4 := blk_cell hk4 4; have c5 := blk_cell hk4 5; have c6 := blk_cell hk4 6; have c7 := blk_cell hk4 7; have c8 := blk_cell hk4 8; have c9 := blk_cell hk4 9; have c10 := blk_cell hk4 10; have c11 := blk_cell hk4 11; have c12 := blk_cell hk4 12
  simp only [List.getElem?_toArray, List.getElem?_cons_zero, List.getElem?_cons_succ] at c0 c1 c2 c3 c4 c5 c6 c7 c8 c9 c10 c11 c12
  have hkh := HK4.out
  have q0 := blk_cell hkh 0
  simp only [List.getElem?_toArray, List.getElem?_cons_zero, List.getElem?_cons_succ] at q0
  clear hk4 hkh
  cases lr with
  | false =>
    clear hlr
    go_wp2_with fail
    go_ret
    exact ⟨rfl, HB4.out⟩
  | true =>
    have HLI := Lib.hid (hlr rfl)
    clear hlr
    have hmf : ∀ (fn : Fn) (first cap : Array Value) (w : World), (Instr.makeFunc fn first cap).run Tryd.prog w = .ok (.func fn first cap) w := fun _ _ _ _ => rfl
    have HM : Hid (Calls Tryd.prog 25 #[.func (.func 28) #[] #[.pointer (some ⟨w.heap.size + 1, 0, none⟩), .pointer (some ⟨w.heap.size, 0, none⟩)]] w4 fun e w' => e = .returned (.func (.func 43) #[] #[.pointer (some ⟨w4.heap.size, 0, none⟩)]) ∧ w' = w4.alloc (.cells #[.func (.func 28) #[] #[.pointer (some ⟨w.heap.size + 1, 0, none⟩), .pointer (some ⟨w.heap.size, 0, none⟩)]] 36)) := by
      obtain ⟨m', mc', e', _, _, hh⟩ := mk_safe
      cases e'
      exact hh _ w4 ⟨_, _, rfl, enters_of Tryd.func28 (by kernel_rfl) rfl⟩
    have hb5 := (Below.refl w4.heap.size w4).alloc (Nat.le_refl _) (.cells #[.func (.func 28) #[] #[.pointer (some ⟨w.heap.size + 1, 0, none⟩), .pointer (some ⟨w.heap.size, 0, none⟩)]] 36)
    have hk5 := heap_alloc_new w4 (.cells #[.func (.func 28) #[] #[.pointer (some ⟨w.heap.size + 1, 0, none⟩), .pointer (some ⟨w.heap.size, 0, none⟩)]] 36)
    have hkc5 := (hb5.block _ (blk_lt HC4.out)).trans HC4.out
    have hkh5 := (hb5.block _ (blk_lt HK4.out)).trans HK4.out
    have hgl := blk_lt hk5
    have HB5 := Lib.hid (bt HB4.out hb5)
    have d := safe1_2 (u0 := .string m) (u1 := .string tg) (u2 := .slice A1 fs.length fc) (u3 := .string bd) (u4 := .bool cc) (u5 := .int .i64 cn) (u6 := .int .i64 sq) (u7 := .int .i64 vs) (u8 := .string hn) (u9 := pv) (u10 := .slice B1 al.length ac) (u11 := .bool fd) (u12 := .string tk) hk hkh5 hkc5
    have d2 := safe_hd_gone d (fun _ q => q.elim) (of_any _) (of_any _) hgl (fun q => q) (blk_cell hk5 0)
    obtain ⟨_, _, he, _, hcall⟩ := d2
    cases he
    have HCALL := Lib.hid (hcall _ (Frm.refl _ _) trivial)
    change Hid (Calls Tryd.prog 43 #[.agg #[.string m, .string tg, .slice A1 fs.length fc, .string bd, .bool cc, .int .i64 cn, .int .i64 sq, .int .i64 vs, .string hn, pv, .slice B1 al.length ac, .bool fd, .string tk], .pointer (some ⟨w4.heap.size, 0, none⟩)] _ _) at HCALL
    have HC5 := Lib.hid hkc5
    have HK5 := Lib.hid hkh5
    clear hcall d hb5 hk5 hgl c0 c1 c2 c3 c4 c5 c6 c7 c8 c9 c10 c11 c12 q0
    have c0 := blk_cell hkc5 0; have c1 := blk_cell hkc5 1; have c2 := blk_cell hkc5 2; have c3 := blk_cell hkc5 3; have c4 := blk_cell hkc5 4; have c5 := blk_cell hkc5 5; have c6 := blk_cell hkc5 6; have c7 := blk_cell hkc5 7; have c8 := blk_cell hkc5 8; have c9 := blk_cell hkc5 9; have c10 := blk_cell hkc5 10; have c11 := blk_cell hkc5 11; have c12 := blk_cell hkc5 12
    simp only [List.getElem?_toArray, List.getElem?_cons_zero, List.getElem?_cons_succ] at c0 c1 c2 c3 c4 c5 c6 c7 c8 c9 c10 c11 c12
    clear hkc5 hkh5
    go_wp2_with fail
    refine HM.out.mono ?_
    rintro e w5 ⟨rfl, rfl⟩
    go_wp2_with fail
    generalize w4.alloc (.cells #[.func (.func 28) #[] #[.pointer (some ⟨w.heap.size + 1, 0, none⟩), .pointer (some ⟨w.heap.size, 0, none⟩)]] 36) = w5 at *
    refine HCALL.out.mono ?_
    rintro e w6 ⟨⟨A', n', rfl, _, _, _⟩, hf6, _⟩
    have hb6 : Below w5.heap.size w5 w6 := hf6.below (Nat.le_refl _) (fun _ q => q.elim)
    have hb7 := hb6.alloc hb6.size (.cells #[.int .i64 500, .slice A' 0 n', .string (plB 500), .bool false] 32)
    have hkx := heap_alloc_new w6 (.cells #[.int .i64 500, .slice A' 0 n', .string (plB 500), .bool false] 32)
    have hkc7 := (hb7.block _ (blk_lt HC5.out)).trans HC5.out
    have hkh7 := (hb7.block _ (blk_lt HK5.out)).trans HK5.out
    have HB7 := Lib.hid (bt HB5.out hb7)
    clear c0 c1 c2 c3 c4 c5 c6 c7 c8 c9 c10 c11 c12 hb7 hb6 hf6 HCALL HM
    have c0 := blk_cell hkc7 0; have c1 := blk_cell hkc7 1; have c2 := blk_cell hkc7 2; have c3 := blk_cell hkc7 3; have c4 := blk_cell hkc7 4; have c5 := blk_cell hkc7 5; have c6 := blk_cell hkc7 6; have c7 := blk_cell hkc7 7; have c8 := blk_cell hkc7 8; have c9 := blk_cell hkc7 9; have c10 := blk_cell hkc7 10; have c11 := blk_cell hkc7 11; have c12 := blk_cell hkc7 12
    simp only [List.getElem?_toArray, List.getElem?_cons_zero, List.getElem?_cons_succ] at c0 c1 c2 c3 c4 c5 c6 c7 c8 c9 c10 c11 c12
    have q0 := blk_cell hkh7 0
    have x0 := blk_cell hkx 0; have x1 := blk_cell hkx 1; have x2 := blk_cell hkx 2; have x3 := blk_cell hkx 3
    simp only [List.getElem?_toArray, List.getElem?_cons_zero, List.getElem?_cons_succ] at q0 x0 x1 x2 x3
    clear hkc7 hkh7 hkx
    have hl0 : ([] : List Fld).length = 0 := rfl
    rw [hl0]
    have HW := Lib.hid (fun wx => word_any 500 wx)
    have hwl : (mkB (wordL 500)).size ≤ 31 := by rw [mkB_size]; exact word_len 500
    have k1 := add_str (mkB (wordL 500)) ⟨#[10]⟩ (by have : (⟨#[10]⟩ : ByteArray).size = 1 := rfl; omega)
    have he : mkB (wordL 500) ++ ⟨#[10]⟩ = plB 500 := mkB_app (wordL 500) [10]
    rw [he] at k1
    clear he hwl
    have e2 : ((plB 500).toList == (plB 500).toList) = true := by simp
    generalize plB 500 = pb at *
    generalize mkB (wordL 500) = wb at *
    go_wp2_with fail
    generalize w6.alloc (.cells #[.int .i64 500, .slice A' 0 n', .string pb, .bool false] 32) = w8 at *
    have HQL : Hid (∀ j, Calls Tryd.prog 16 #[.int .i64 500] (w8.drewN j) fun e w'' => e = .returned (.string wb) ∧ ∃ q, w'' = w8.drewN q) := fun j => (HW.out (w8.drewN j)).mono fun e w'' ⟨he, hw⟩ => ⟨he, j, hw.symm⟩
    go_quiet ((first | (go_at_call 16; exact HQL.out _)))
    go_wp2_with fail
    go_ret
    exact ⟨rfl, HB7.out.trans ((drewN_below _ _).mono HB7.out.size)⟩

set_option maxRecDepth 100000 in
set_option maxHeartbeats 4000000 in
theorem safe_walk3 (c : Cl) (how : Int) (hk : bits .and .i64 how 3 = 3) (w : World) (hg : GB w) (h : c.at w) :
    Calls Tryd.prog 7 #[c.v, .int .i64 how] w fun e w' => e = .returned (.bool true) ∧ Below w.heap.size w w' := by
  have HL := Lib.hid (fun wx (hb : Below w.heap.size w wx) => light_any c wx ⟨(h.row.below hb (Nat.le_refl _)).wide hb.size, (h.rowS.below hb (Nat.le_refl _)).wide hb.size, h.cap, h.fsz, h.alz, h.fsn, h.aln, h.z0, h.z1, h.z2, h.z3, h.icn, h.isq, h.ivs⟩)
  have HH := Lib.hid h
  have HF := Lib.hid (fun wx (hb : Below w.heap.size w wx) => fit_any wx (hg.on hb))
  have HG := Lib.hid hg
  clear h hg
  obtain ⟨m, tg, A1, fs, fc, bd, cc, cn, sq, vs, hn, pv, B1, al, ac, fd, tk⟩ := c
  simp only [Cl.v] at *
  have hb1 := (Below.refl w.heap.size w).alloc (Nat.le_refl _) (.cells #[.string m, .string tg, .slice A1 fs.length fc, .string bd, .bool cc, .int .i64 cn, .int .i64 sq, .int .i64 vs, .string hn, pv, .slice B1 al.length ac, .bool fd, .string tk] 30)
  have hb2 := hb1.alloc hb1.size (.cells #[.int .i64 how] 3)
  have hkc : ((w.alloc (.cells #[.string m, .string tg, .slice A1 fs.length fc, .string bd, .bool cc, .int .i64 cn, .int .i64 sq, .int .i64 vs, .string hn, pv, .slice B1 al.length ac, .bool fd, .string tk] 30)).alloc (.cells #[.int .i64 how] 3)).heap[w.heap.size]? = some (.cells #[.string m, .string tg, .slice A1 fs.length fc, .string bd, .bool cc, .int .i64 cn, .int .i64 sq, .int .i64 vs, .string hn, pv, .slice B1 al.length ac, .bool fd, .string tk] 30 (0, 0)) := (Below.heap_alloc _ _ _ (by simp)).trans (heap_alloc_new w _)
  have hkr : ((w.alloc (.cells #[.string m, .string tg, .slice A1 fs.length fc, .string bd, .bool cc, .int .i64 cn, .int .i64 sq, .int .i64 vs, .string hn, pv, .slice B1 al.length ac, .bool fd, .string tk] 30)).alloc (.cells #[.int .i64 how] 3)).heap[w.heap.size + 1]? = some (.cells #[.int .i64 how] 3 (0, 0)) := by
    have := heap_alloc_new (w.alloc (.cells #[.string m, .string tg, .slice A1 fs.length fc, .string bd, .bool cc, .int .i64 cn, .int .i64 sq, .int .i64 vs, .string hn, pv, .slice B1 al.length ac, .bool fd, .string tk] 30)) (.cells #[.int .i64 how] 3)
    simpa using this
  have HC := Lib.hid hkc; have HK := Lib.hid hkr; have HB := Lib.hid hb2
  clear hkc hkr hb1 hb2
  go_enter Tryd.func7, Tryd.ntmps7
  go_wp2_with fail
  generalize ((w.alloc (.cells #[.string m, .string tg, .slice A1 fs.length fc, .string bd, .bool cc, .int .i64 cn, .int .i64 sq, .int .i64 vs, .string hn, pv, .slice B1 al.length ac, .bool fd, .string tk] 30)).alloc (.cells #[.int .i64 how] 3)) = w2 at *
  refine (HF.out w2 HB.out).mono ?_
  rintro e w3 ⟨rfl, hb3⟩
  have HB3 := Lib.hid (bt HB.out hb3)
  have hkq := (hb3.block _ (blk_lt HC.out)).trans HC.out
  have HC3 := Lib.hid hkq
  have HK3 := Lib.hid ((hb3.block _ (blk_lt HK.out)).trans HK.out)
  have c0 := blk_cell hkq 0; have c1 := blk_cell hkq 1; have c2 := blk_cell hkq 2; have c3 := blk_cell hkq 3; have c4 := blk_cell hkq 4; have c5 := blk_cell hkq 5; have c6 := blk_cell hkq 6; have c7 := blk_cell hkq 7; have c8 := blk_cell hkq 8; have c9 := blk_cell hkq 9; have c10 := blk_cell hkq 10; have c11 := blk_cell hkq 11; have c12 := blk_cell hkq 12
  simp only [List.getElem?_toArray, List.getElem?_cons_zero, List.getElem?_cons_succ] at c0 c1 c2 c3 c4 c5 c6 c7 c8 c9 c10 c11 c12
  clear hkq hb3 HC HK HF
  go_wp2_with fail
  refine (HL.out _ HB3.out).mono ?_
  rintro e w4 ⟨⟨lr, rfl, hlr⟩, hb4⟩
  have HB4 := Lib.hid (bt HB3.out hb4)
  have HC4 := Lib.hid ((hb4.block _ (blk_lt HC3.out)).trans HC3.out)
  have HK4 := Lib.hid ((hb4.block _ (blk_lt HK3.out)).trans HK3.out)
  clear c0 c1 c2 c3 c4 c5 c6 c7 c8 c9 c10 c11 c12 HC3 HK3 HL hb4
  have hk4 := HC4.out
  have c0 := blk_cell hk4 0; have c1 := blk_cell hk4 1; have c2 := blk_cell hk4 2; have c3 := blk_cell hk4 3; have c4 := blk_cell hk4 4; have c5 := blk_cell hk4 5; have c6 := blk_cell hk4 6; have c7 := blk_cell hk4 7; have c8 := blk_cell hk4 8; have c9 := blk_cell hk4 9; have c10 := blk_cell hk4 10; have c11 := blk_cell hk4 11; have c12 := blk_cell hk4 12
  simp only [List.getElem?_toArray, List.getElem?_cons_zero, List.getElem?_cons_succ] at c0 c1 c2 c3 c4 c5 c6 c7 c8 c9 c10 c11 c12
  have hkh := HK4.out
  have q0 := blk_cell hkh 0
  simp only [List.getElem?_toArray, List.getElem?_cons_zero, List.getElem?_cons_succ] at q0
  clear hk4 hkh
  cases lr with
  | false =>
    clear hlr
    go_wp2_with fail
    go_ret
    exact ⟨rfl, HB4.out⟩
  | true =>
    have HLI := Lib.hid (hlr rfl)
    clear hlr
    have hmf : ∀ (fn : Fn) (first cap : Array Value) (w : World), (Instr.makeFunc fn first cap).run Tryd.prog w = .ok (.func fn first cap) w := fun _ _ _ _ => rfl
    have HM : Hid (Calls Tryd.prog 25 #[.func (.func 28) #[] #[.pointer (some ⟨w.heap.size + 1, 0, none⟩), .pointer (some ⟨w.heap.size, 0, none⟩)]] w4 fun e w' => e = .returned (.func (.func 43) #[] #[.pointer (some ⟨w4.heap.size, 0, none⟩)]) ∧ w' = w4.alloc (.cells #[.func (.func 28) #[] #[.pointer (some ⟨w.heap.size + 1, 0, none⟩), .pointer (some ⟨w.heap.size, 0, none⟩)]] 36)) := by
      obtain ⟨m', mc', e', _, _, hh⟩ := mk_safe
      cases e'
      exact hh _ w4 ⟨_, _, rfl, enters_of Tryd.func28 (by kernel_rfl) rfl⟩
    have hb5 := (Below.refl w4.heap.size w4).alloc (Nat.le_refl _) (.cells #[.func (.func 28) #[] #[.pointer (some ⟨w.heap.size + 1, 0, none⟩), .pointer (some ⟨w.heap.size, 0, none⟩)]] 36)
    have hk5 := heap_alloc_new w4 (.cells #[.func (.func 28) #[] #[.pointer (some ⟨w.heap.size + 1, 0, none⟩), .pointer (some ⟨w.heap.size, 0, none⟩)]] 36)
    have hkc5 := (hb5.block _ (blk_lt HC4.out)).trans HC4.out
    have hkh5 := (hb5.block _ (blk_lt HK4.out)).trans HK4.out
    have hgl := blk_lt hk5
    have HB5 := Lib.hid (bt HB4.out hb5)
    have d := safe1_3 (u0 := .string m) (u1 := .string tg) (u2 := .slice A1 fs.length fc) (u3 := .string bd) (u4 := .bool cc) (u5 := .int .i64 cn) (u6 := .int .i64 sq) (u7 := .int .i64 vs) (u8 := .string hn) (u9 := pv) (u10 := .slice B1 al.length ac) (u11 := .bool fd) (u12 := .string tk) hk hkh5 hkc5
    have d2 := safe_hd_gone d (fun _ q => q.elim) (of_any _) (of_any _) hgl (fun q => q) (blk_cell hk5 0)
    obtain ⟨_, _, he, _, hcall⟩ := d2
    cases he
    have HCALL := Lib.hid (hcall _ (Frm.refl _ _) trivial)
    change Hid (Calls Tryd.prog 43 #[.agg #[.string m, .string tg, .slice A1 fs.length fc, .string bd, .bool cc, .int .i64 cn, .int .i64 sq, .int .i64 vs, .string hn, pv, .slice B1 al.length ac, .bool fd, .string tk], .pointer (some ⟨w4.heap.size, 0, none⟩)] _ _) at HCALL
    have HC5 := Lib.hid hkc5
    have HK5 := Lib.hid hkh5
    clear hcall d hb5 hk5 hgl c0 c1 c2 c3 c4 c5 c6 c7 c8 c9 c10 c11 c12 q0
    have c0 := blk_cell hkc5 0; have c1 := blk_cell hkc5 1; have c2 := blk_cell hkc5 2; have c3 := blk_cell hkc5 3; have c4 := blk_cell hkc5 4; have c5 := blk_cell hkc5 5; have c6 := blk_cell hkc5 6; have c7 := blk_cell hkc5 7; have c8 := blk_cell hkc5 8; have c9 := blk_cell hkc5 9; have c10 := blk_cell hkc5 10; have c11 := blk_cell hkc5 11; have c12 := blk_cell hkc5 12
    simp only [List.getElem?_toArray, List.getElem?_cons_zero, List.getElem?_cons_succ] at c0 c1 c2 c3 c4 c5 c6 c7 c8 c9 c10 c11 c12
    clear hkc5 hkh5
    go_wp2_with fail
    refine HM.out.mono ?_
    rintro e w5 ⟨rfl, rfl⟩
    go_wp2_with fail
    generalize w4.alloc (.cells #[.func (.func 28) #[] #[.pointer (some ⟨w.heap.size + 1, 0, none⟩), .pointer (some ⟨w.heap.size, 0, none⟩)]] 36) = w5 at *
    refine HCALL.out.mono ?_
    rintro e w6 ⟨⟨A', n', rfl, _, _, _⟩, hf6, _⟩
    have hb6 : Below w5.heap.size w5 w6 := hf6.below (Nat.le_refl _) (fun _ q => q.elim)
    have hb7 := hb6.alloc hb6.size (.cells #[.int .i64 500, .slice A' 0 n', .string (plB 500), .bool false] 32)
    have hkx := heap_alloc_new w6 (.cells #[.int .i64 500, .slice A' 0 n', .string (plB 500), .bool false] 32)
    have hkc7 := (hb7.block _ (blk_lt HC5.out)).trans HC5.out
    have hkh7 := (hb7.block _ (blk_lt HK5.out)).trans HK5.out
    have HB7 := Lib.hid (bt HB5.out hb7)
    clear c0 c1 c2 c3 c4 c5 c6 c7 c8 c9 c10 c11 c12 hb7 hb6 hf6 HCALL HM
    have c0 := blk_cell hkc7 0; have c1 := blk_cell hkc7 1; have c2 := blk_cell hkc7 2; have c3 := blk_cell hkc7 3; have c4 := blk_cell hkc7 4; have c5 := blk_cell hkc7 5; have c6 := blk_cell hkc7 6; have c7 := blk_cell hkc7 7; have c8 := blk_cell hkc7 8; have c9 := blk_cell hkc7 9; have c10 := blk_cell hkc7 10; have c11 := blk_cell hkc7 11; have c12 := blk_cell hkc7 12
    simp only [List.getElem?_toArray, List.getElem?_cons_zero, List.getElem?_cons_succ] at c0 c1 c2 c3 c4 c5 c6 c7 c8 c9 c10 c11 c12
    have q0 := blk_cell hkh7 0
    have x0 := blk_cell hkx 0; have x1 := blk_cell hkx 1; have x2 := blk_cell hkx 2; have x3 := blk_cell hkx 3
    simp only [List.getElem?_toArray, List.getElem?_cons_zero, List.getElem?_cons_succ] at q0 x0 x1 x2 x3
    clear hkc7 hkh7 hkx
    have hl0 : ([] : List Fld).length = 0 := rfl
    rw [hl0]
    have HW := Lib.hid (fun wx => word_any 500 wx)
    have hwl : (mkB (wordL 500)).size ≤ 31 := by rw [mkB_size]; exact word_len 500
    have k1 := add_str (mkB (wordL 500)) ⟨#[10]⟩ (by have : (⟨#[10]⟩ : ByteArray).size = 1 := rfl; omega)
    have he : mkB (wordL 500) ++ ⟨#[10]⟩ = plB 500 := mkB_app (wordL 500) [10]
    rw [he] at k1
    clear he hwl
    have e2 : ((plB 500).toList == (plB 500).toList) = true := by simp
    generalize plB 500 = pb at *
    generalize mkB (wordL 500) = wb at *
    go_wp2_with fail
    generalize w6.alloc (.cells #[.int .i64 500, .slice A' 0 n', .string pb, .bool false] 32) = w8 at *
    have HQL : Hid (∀ j, Calls Tryd.prog 16 #[.int .i64 500] (w8.drewN j) fun e w'' => e = .returned (.string wb) ∧ ∃ q, w'' = w8.drewN q) := fun j => (HW.out (w8.drewN j)).mono fun e w'' ⟨he, hw⟩ => ⟨he, j, hw.symm⟩
    go_quiet ((first | (go_at_call 16; exact HQL.out _)))
    go_wp2_with fail
    go_ret
    exact ⟨rfl, HB7.out.trans ((drewN_below _ _).mono HB7.out.size)⟩

end Go.Proofs.YtmncchgifgjhgaaDoor
