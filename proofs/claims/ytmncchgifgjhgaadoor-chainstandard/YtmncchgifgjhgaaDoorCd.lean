/- The contracts of guarded, shows, notAllowed, marks. -/
import Derived.Test.YtmncchgifgjhgaaDoorCc
import Derived.Test.YtmncchgifgjhgaaDoorShelf
import Derived.BigQuiet
namespace Go.Proofs.YtmncchgifgjhgaaDoor
open Go.RowKit Go.Shelf

/-- Are they told by the target's beginning? -/
def admL : Bytes := [47, 97, 100, 109, 105, 110, 47]
def guardedB (tk tg : ByteArray) : Bool := if tk.data.toList = [] then false else preL admL tg.data.toList
def tokB : ByteArray := ⟨#[116, 111, 107, 101, 110]⟩
def showsB (tk : ByteArray) (fs : List Fld) : Bool := decide (valsOf tokB fs = [tk])

set_option maxRecDepth 100000 in
set_option maxHeartbeats 4000000 in
theorem guarded_none {u0 u2 u3 u4 u5 u6 u7 u8 u9 u10 u11 : Value} {tg : ByteArray} (w : World) : Calls Tryd.prog 39 #[.agg #[u0, .string tg, u2, u3, u4, u5, u6, u7, u8, u9, u10, u11, .string ⟨#[]⟩]] w fun e w' => e = .returned (.bool false) ∧ Below w.heap.size w w' := by
  have hb1 := (Below.refl w.heap.size w).alloc (Nat.le_refl _) (.cells #[u0, .string tg, u2, u3, u4, u5, u6, u7, u8, u9, u10, u11, .string ⟨#[]⟩] 30)
  have hkc := heap_alloc_new w (.cells #[u0, .string tg, u2, u3, u4, u5, u6, u7, u8, u9, u10, u11, .string ⟨#[]⟩] 30)
  have c0 := blk_cell hkc 0; have c1 := blk_cell hkc 1; have c2 := blk_cell hkc 2; have c3 := blk_cell hkc 3; have c4 := blk_cell hkc 4; have c5 := blk_cell hkc 5; have c6 := blk_cell hkc 6
  have c7 := blk_cell hkc 7; have c8 := blk_cell hkc 8; have c9 := blk_cell hkc 9; have c10 := blk_cell hkc 10; have c11 := blk_cell hkc 11; have c12 := blk_cell hkc 12
  simp only [List.getElem?_toArray, List.getElem?_cons_zero, List.getElem?_cons_succ] at c0 c1 c2 c3 c4 c5 c6 c7 c8 c9 c10 c11 c12
  have HC := Lib.hid hkc; have HB := Lib.hid hb1
  clear hkc hb1
  generalize hw1 : w.alloc (.cells #[u0, .string tg, u2, u3, u4, u5, u6, u7, u8, u9, u10, u11, .string ⟨#[]⟩] 30) = w1 at *
  go_enter Tryd.func39, Tryd.ntmps39
  go_wp2_with fail
  go_ret
  exact ⟨rfl, HB.out⟩
set_option maxRecDepth 100000 in
set_option maxHeartbeats 4000000 in
theorem guarded_some {u0 u2 u3 u4 u5 u6 u7 u8 u9 u10 u11 : Value} {tg tk : ByteArray} (ht : tk.data.toList ≠ []) (hs : tg.size ≤ 1000000) (w : World) : Calls Tryd.prog 39 #[.agg #[u0, .string tg, u2, u3, u4, u5, u6, u7, u8, u9, u10, u11, .string tk]] w fun e w' => e = .returned (.bool (preL admL tg.data.toList)) ∧ Below w.heap.size w w' := by
  have hb1 := (Below.refl w.heap.size w).alloc (Nat.le_refl _) (.cells #[u0, .string tg, u2, u3, u4, u5, u6, u7, u8, u9, u10, u11, .string tk] 30)
  have hkc := heap_alloc_new w (.cells #[u0, .string tg, u2, u3, u4, u5, u6, u7, u8, u9, u10, u11, .string tk] 30)
  have c0 := blk_cell hkc 0; have c1 := blk_cell hkc 1; have c2 := blk_cell hkc 2; have c3 := blk_cell hkc 3; have c4 := blk_cell hkc 4; have c5 := blk_cell hkc 5; have c6 := blk_cell hkc 6
  have c7 := blk_cell hkc 7; have c8 := blk_cell hkc 8; have c9 := blk_cell hkc 9; have c10 := blk_cell hkc 10; have c11 := blk_cell hkc 11; have c12 := blk_cell hkc 12
  simp only [List.getElem?_toArray, List.getElem?_cons_zero, List.getElem?_cons_succ] at c0 c1 c2 c3 c4 c5 c6 c7 c8 c9 c10 c11 c12
  have HC := Lib.hid hkc; have HB := Lib.hid hb1
  clear hkc hb1
  generalize hw1 : w.alloc (.cells #[u0, .string tg, u2, u3, u4, u5, u6, u7, u8, u9, u10, u11, .string tk] 30) = w1 at *
  have e1 : (tk.toList == []) = false := by rw [eq_list]; simpa using ht
  have HP := Lib.hid (pre_any tg ⟨#[47, 97, 100, 109, 105, 110, 47]⟩ hs (by decide) w1)
  change Hid (Calls Tryd.prog 51 _ _ (fun e w' => e = .returned (.bool (preL admL tg.data.toList)) ∧ w1 = w')) at HP
  generalize preL admL tg.data.toList = r at *
  clear ht
  go_enter Tryd.func39, Tryd.ntmps39
  go_wp2_with fail
  refine HP.out.mono ?_
  rintro e w2 ⟨rfl, rfl⟩
  go_wp2_with fail
  go_ret
  exact ⟨rfl, HB.out⟩

theorem guarded_any {u0 u2 u3 u4 u5 u6 u7 u8 u9 u10 u11 : Value} {tg tk : ByteArray} (hs : tg.size ≤ 1000000) (w : World) : Calls Tryd.prog 39 #[.agg #[u0, .string tg, u2, u3, u4, u5, u6, u7, u8, u9, u10, u11, .string tk]] w fun e w' => e = .returned (.bool (guardedB tk tg)) ∧ Below w.heap.size w w' := by
  unfold guardedB
  by_cases h : tk.data.toList = []
  · rw [if_pos h]
    obtain rfl : tk = ⟨#[]⟩ := bytes_ext h
    exact guarded_none w
  · rw [if_neg h]
    exact guarded_some h hs w

set_option maxRecDepth 100000 in
set_option maxHeartbeats 4000000 in
theorem shows_any {u0 u1 u3 u4 u5 u6 u7 u8 u9 u10 u11 : Value} {A : Option Addr} {n : Nat} {fs : List Fld} {tk : ByteArray} (w : World) (hr : Rd w w.heap.size 2 A fs.length (fldCells fs)) (hn : fs.length ≤ 1000000) : Calls Tryd.prog 40 #[.agg #[u0, u1, .slice A fs.length n, u3, u4, u5, u6, u7, u8, u9, u10, u11, .string tk]] w fun e w' => e = .returned (.bool (showsB tk fs)) ∧ Below w.heap.size w w' := by
  unfold showsB
  have hb1 := (Below.refl w.heap.size w).alloc (Nat.le_refl _) (.cells #[u0, u1, .slice A fs.length n, u3, u4, u5, u6, u7, u8, u9, u10, u11, .string tk] 30)
  have hkc := heap_alloc_new w (.cells #[u0, u1, .slice A fs.length n, u3, u4, u5, u6, u7, u8, u9, u10, u11, .string tk] 30)
  have c0 := blk_cell hkc 0; have c1 := blk_cell hkc 1; have c2 := blk_cell hkc 2; have c3 := blk_cell hkc 3; have c4 := blk_cell hkc 4; have c5 := blk_cell hkc 5; have c6 := blk_cell hkc 6
  have c7 := blk_cell hkc 7; have c8 := blk_cell hkc 8; have c9 := blk_cell hkc 9; have c10 := blk_cell hkc 10; have c11 := blk_cell hkc 11; have c12 := blk_cell hkc 12
  simp only [List.getElem?_toArray, List.getElem?_cons_zero, List.getElem?_cons_succ] at c0 c1 c2 c3 c4 c5 c6 c7 c8 c9 c10 c11 c12
  have HC := Lib.hid hkc; have HB := Lib.hid hb1
  clear hkc hb1
  generalize hw1 : w.alloc (.cells #[u0, u1, .slice A fs.length n, u3, u4, u5, u6, u7, u8, u9, u10, u11, .string tk] 30) = w1 at *
  have HA := Lib.hid (all_any fs tokB A n w1 ((hr.below HB.out (Nat.le_refl _)).wide HB.out.size) (by omega))
  generalize valsOf tokB fs = vs at *
  generalize hvr : decide (vs = [tk]) = r at *
  have HV := Lib.hid hvr
  clear hr hn hvr
  generalize fs.length = fl at *
  unfold tokB at HA
  go_enter Tryd.func40, Tryd.ntmps40
  go_wp2_with fail
  refine HA.out.mono ?_
  rintro e w2 ⟨v, rfl, hown, hb2⟩
  have hk2 := (hb2.block _ (blk_lt HC.out)).trans HC.out
  have d12 := blk_cell hk2 12
  simp only [List.getElem?_toArray, List.getElem?_cons_zero, List.getElem?_cons_succ] at d12
  have HB2 := Lib.hid (bt HB.out hb2)
  clear hb2 hk2 c0 c1 c2 c3 c4 c5 c6 c7 c8 c9 c10 c11 c12
  obtain ⟨B, k, rfl, hrd⟩ := Rd.own hown
  match vs, hown, hrd with
  | [], _, _ =>
    have e0 : ((0 : Int) == 1) = false := rfl
    go_wp2_with fail
    go_quiet (fail)
    go_wp2_with fail
    go_ret
    exact ⟨by rw [← HV.out]; simp, HB2.out.trans ((drewN_below _ _).mono HB2.out.size)⟩
  | [x], _, hrd =>
    obtain ⟨a, rfl, _, hc⟩ := hrd.2 (by simp)
    have x0 : w2.cell? (a.add 0) = some (.string x) := hc 0 _ rfl
    have x1 : w2.cell? a = some (.string x) := x0
    have he := eq_test x tk
    have hd : decide ([x] = [tk]) = decide (x = tk) := by simp
    rw [hd] at HV
    rw [HV.out] at he
    clear hc hrd hd HV
    go_wp2_with fail
    go_quiet (fail)
    go_wp2_with fail
    go_ret
    exact ⟨rfl, HB2.out.trans ((drewN_below _ _).mono HB2.out.size)⟩
  | x :: y :: zs, _, _ =>
    have e0 : (((x :: y :: zs).length : Int) == 1) = false := by simp; omega
    have hd : decide ((x :: y :: zs) = [tk]) = false := by simp
    rw [hd] at HV
    obtain rfl := HV.out
    generalize (x :: y :: zs).length = q at *
    clear hd HV
    go_wp2_with fail
    go_quiet (fail)
    go_wp2_with fail
    go_ret
    exact ⟨rfl, HB2.out.trans ((drewN_below _ _).mono HB2.out.size)⟩
end Go.Proofs.YtmncchgifgjhgaaDoor
