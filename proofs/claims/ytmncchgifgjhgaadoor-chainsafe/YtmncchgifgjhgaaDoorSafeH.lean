/- The handle of ChainSafe. -/
import Derived.Test.YtmncchgifgjhgaaDoorHl
import Derived.Deep.RegionWith
namespace Go.Proofs.YtmncchgifgjhgaaDoor
open Go.RowKit Go.Shelf

theorem i64_and3 (n : Int) : bits .and .i64 n 3 = n % 4 := by
  have h : (BitVec.ofInt 64 3).toNat = 2 ^ 2 - 1 := by decide
  have key : (BitVec.ofInt 64 n &&& BitVec.ofInt 64 3).toNat = (n % ((2 ^ 64 : Nat) : Int)).toNat % 2 ^ 2 := by
    rw [BitVec.toNat_and, BitVec.toNat_ofInt, h, Nat.and_two_pow_sub_one_eq_mod]
  show IntKind.i64.wrap ((BitVec.ofInt 64 n &&& BitVec.ofInt 64 3).toNat : Nat) = n % 4
  rw [key, IntKind.wrap_i64]
  omega

set_option maxRecDepth 100000 in
set_option maxHeartbeats 4000000 in
theorem safe1_0 {u0 u1 u2 u3 u4 u5 u6 u7 u8 u9 u10 u11 u12 : Value} {w0 : World} {gh gc : Nat} {how : Int} {bd : ByteArray} {v0 v1 v2 v4 v5 v6 v7 v8 v9 v10 v11 v12 : Value} (hk : bits .and .i64 how 3 = 0) (hgh : w0.heap[gh]? = some (.cells #[.int .i64 how] 3 (0, 0))) (hgc : w0.heap[gc]? = some (.cells #[v0, v1, v2, .string bd, v4, v5, v6, v7, v8, v9, v10, v11, v12] 30 (0, 0))) :
    Hd noP anyS anyS (.agg #[u0, u1, u2, u3, u4, u5, u6, u7, u8, u9, u10, u11, u12]) (.ans 204 [] bd false) w0 (.func (.func 28) #[] #[.pointer (some ⟨gh, 0, none⟩), .pointer (some ⟨gc, 0, none⟩)]) := by
  refine ⟨28, _, rfl, enters_of Tryd.func28 (by kernel_rfl) rfl, fun w hw hs => ?_⟩
  show Calls Tryd.prog 28 #[.agg #[u0, u1, u2, u3, u4, u5, u6, u7, u8, u9, u10, u11, u12], .pointer (some ⟨gh, 0, none⟩), .pointer (some ⟨gc, 0, none⟩)] w _
  have hp : ∀ j, noP j → j < w0.heap.size := fun _ q => q.elim
  have hb1 := (Below.refl w.heap.size w).alloc (Nat.le_refl _) (.cells #[u0, u1, u2, u3, u4, u5, u6, u7, u8, u9, u10, u11, u12] 30)
  have hb2 := hb1.alloc hb1.size (.cells #[.int .i64 0, .slice none 0 0, .string ⟨#[]⟩, .bool false] 32)
  have hkc : ((w.alloc (.cells #[u0, u1, u2, u3, u4, u5, u6, u7, u8, u9, u10, u11, u12] 30)).alloc (.cells #[.int .i64 0, .slice none 0 0, .string ⟨#[]⟩, .bool false] 32)).heap[w.heap.size]? = some (.cells #[u0, u1, u2, u3, u4, u5, u6, u7, u8, u9, u10, u11, u12] 30 (0, 0)) :=
    (Below.heap_alloc _ _ _ (by simp)).trans (heap_alloc_new w _)
  have hkr : ((w.alloc (.cells #[u0, u1, u2, u3, u4, u5, u6, u7, u8, u9, u10, u11, u12] 30)).alloc (.cells #[.int .i64 0, .slice none 0 0, .string ⟨#[]⟩, .bool false] 32)).heap[w.heap.size + 1]? = some (.cells #[.int .i64 0, .slice none 0 0, .string ⟨#[]⟩, .bool false] 32 (0, 0)) := by
    have := heap_alloc_new (w.alloc (.cells #[u0, u1, u2, u3, u4, u5, u6, u7, u8, u9, u10, u11, u12] 30)) (.cells #[.int .i64 0, .slice none 0 0, .string ⟨#[]⟩, .bool false] 32)
    simpa using this
  have c0 := blk_cell hkc 0; have c1 := blk_cell hkc 1; have c2 := blk_cell hkc 2; have c3 := blk_cell hkc 3; have c4 := blk_cell hkc 4; have c5 := blk_cell hkc 5; have c6 := blk_cell hkc 6
  have c7 := blk_cell hkc 7; have c8 := blk_cell hkc 8; have c9 := blk_cell hkc 9; have c10 := blk_cell hkc 10; have c11 := blk_cell hkc 11; have c12 := blk_cell hkc 12
  simp only [List.getElem?_toArray, List.getElem?_cons_zero, List.getElem?_cons_succ] at c0 c1 c2 c3 c4 c5 c6 c7 c8 c9 c10 c11 c12
  have HC := Lib.hid hkc; have HR := Lib.hid hkr; have HB := Lib.hid hb2
  clear hkc hkr hb1 hb2
  generalize hw2 : (w.alloc (.cells #[u0, u1, u2, u3, u4, u5, u6, u7, u8, u9, u10, u11, u12] 30)).alloc (.cells #[.int .i64 0, .slice none 0 0, .string ⟨#[]⟩, .bool false] 32) = w2 at *
  have hkR := HR.out
  have r0 := blk_cell hkR 0; have r1 := blk_cell hkR 1; have r2 := blk_cell hkR 2; have r3 := blk_cell hkR 3
  have z0 := blk_free hkR 0; have z1 := blk_free hkR 1; have z2 := blk_free hkR 2; have z3 := blk_free hkR 3
  simp only [List.getElem?_toArray, List.getElem?_cons_zero, List.getElem?_cons_succ] at r0 r1 r2 r3
  have hh2 := (HB.out.block gh (Nat.lt_of_lt_of_le (blk_lt hgh) hw.size)).trans ((hw.block gh (blk_lt hgh) (fun q => q)).trans hgh)
  have hc2 := (HB.out.block gc (Nat.lt_of_lt_of_le (blk_lt hgc) hw.size)).trans ((hw.block gc (blk_lt hgc) (fun q => q)).trans hgc)
  have y0 := blk_cell hh2 0
  have y3 := blk_cell hc2 3
  simp only [List.getElem?_toArray, List.getElem?_cons_zero, List.getElem?_cons_succ] at y0 y3
  clear hkR hh2 hc2 hgh hgc
  go_enter Tryd.func28, Tryd.ntmps28
  go_wp2_with fail
  refine put4_ret (W := w2) Tryd.results28 HR.out (.int .i64 204) (.slice none 0 0) (.string bd) (.bool false) rfl rfl ?_
  exact ⟨⟨none, 0, rfl, Row.nil _ _ _, by simp, fun a e => Nat.zero_le _⟩, (Frm.of HB.out).put4 _ _ _ _ _ (by omega), trivial⟩

set_option maxRecDepth 100000 in
set_option maxHeartbeats 4000000 in
theorem safe1_1 {u0 u1 u2 u3 u4 u5 u6 u7 u8 u9 u10 u11 u12 : Value} {w0 : World} {gh gc : Nat} {how : Int} {bd : ByteArray} {v0 v1 v2 v4 v5 v6 v7 v8 v9 v10 v11 v12 : Value} (hk : bits .and .i64 how 3 = 1) (hgh : w0.heap[gh]? = some (.cells #[.int .i64 how] 3 (0, 0))) (hgc : w0.heap[gc]? = some (.cells #[v0, v1, v2, .string bd, v4, v5, v6, v7, v8, v9, v10, v11, v12] 30 (0, 0))) :
    Hd noP anyS anyS (.agg #[u0, u1, u2, u3, u4, u5, u6, u7, u8, u9, u10, u11, u12]) (.gone) w0 (.func (.func 28) #[] #[.pointer (some ⟨gh, 0, none⟩), .pointer (some ⟨gc, 0, none⟩)]) := by
  refine ⟨28, _, rfl, enters_of Tryd.func28 (by kernel_rfl) rfl, fun w hw hs => ?_⟩
  show Calls Tryd.prog 28 #[.agg #[u0, u1, u2, u3, u4, u5, u6, u7, u8, u9, u10, u11, u12], .pointer (some ⟨gh, 0, none⟩), .pointer (some ⟨gc, 0, none⟩)] w _
  have hp : ∀ j, noP j → j < w0.heap.size := fun _ q => q.elim
  have hb1 := (Below.refl w.heap.size w).alloc (Nat.le_refl _) (.cells #[u0, u1, u2, u3, u4, u5, u6, u7, u8, u9, u10, u11, u12] 30)
  have hb2 := hb1.alloc hb1.size (.cells #[.int .i64 0, .slice none 0 0, .string ⟨#[]⟩, .bool false] 32)
  have hkc : ((w.alloc (.cells #[u0, u1, u2, u3, u4, u5, u6, u7, u8, u9, u10, u11, u12] 30)).alloc (.cells #[.int .i64 0, .slice none 0 0, .string ⟨#[]⟩, .bool false] 32)).heap[w.heap.size]? = some (.cells #[u0, u1, u2, u3, u4, u5, u6, u7, u8, u9, u10, u11, u12] 30 (0, 0)) :=
    (Below.heap_alloc _ _ _ (by simp)).trans (heap_alloc_new w _)
  have hkr : ((w.alloc (.cells #[u0, u1, u2, u3, u4, u5, u6, u7, u8, u9, u10, u11, u12] 30)).alloc (.cells #[.int .i64 0, .slice none 0 0, .string ⟨#[]⟩, .bool false] 32)).heap[w.heap.size + 1]? = some (.cells #[.int .i64 0, .slice none 0 0, .string ⟨#[]⟩, .bool false] 32 (0, 0)) := by
    have := heap_alloc_new (w.alloc (.cells #[u0, u1, u2, u3, u4, u5, u6, u7, u8, u9, u10, u11, u12] 30)) (.cells #[.int .i64 0, .slice none 0 0, .string ⟨#[]⟩, .bool false] 32)
    simpa using this
  have c0 := blk_cell hkc 0; have c1 := blk_cell hkc 1; have c2 := blk_cell hkc 2; have c3 := blk_cell hkc 3; have c4 := blk_cell hkc 4; have c5 := blk_cell hkc 5; have c6 := blk_cell hkc 6
  have c7 := blk_cell hkc 7; have c8 := blk_cell hkc 8; have c9 := blk_cell hkc 9; have c10 := blk_cell hkc 10; have c11 := blk_cell hkc 11; have c12 := blk_cell hkc 12
  simp only [List.getElem?_toArray, List.getElem?_cons_zero, List.getElem?_cons_succ] at c0 c1 c2 c3 c4 c5 c6 c7 c8 c9 c10 c11 c12
  have HC := Lib.hid hkc; have HR := Lib.hid hkr; have HB := Lib.hid hb2
  clear hkc hkr hb1 hb2
  generalize hw2 : (w.alloc (.cells #[u0, u1, u2, u3, u4, u5, u6, u7, u8, u9, u10, u11, u12] 30)).alloc (.cells #[.int .i64 0, .slice none 0 0, .string ⟨#[]⟩, .bool false] 32) = w2 at *
  have hkR := HR.out
  have r0 := blk_cell hkR 0; have r1 := blk_cell hkR 1; have r2 := blk_cell hkR 2; have r3 := blk_cell hkR 3
  have z0 := blk_free hkR 0; have z1 := blk_free hkR 1; have z2 := blk_free hkR 2; have z3 := blk_free hkR 3
  simp only [List.getElem?_toArray, List.getElem?_cons_zero, List.getElem?_cons_succ] at r0 r1 r2 r3
  have hh2 := (HB.out.block gh (Nat.lt_of_lt_of_le (blk_lt hgh) hw.size)).trans ((hw.block gh (blk_lt hgh) (fun q => q)).trans hgh)
  have hc2 := (HB.out.block gc (Nat.lt_of_lt_of_le (blk_lt hgc) hw.size)).trans ((hw.block gc (blk_lt hgc) (fun q => q)).trans hgc)
  have y0 := blk_cell hh2 0
  have y3 := blk_cell hc2 3
  simp only [List.getElem?_toArray, List.getElem?_cons_zero, List.getElem?_cons_succ] at y0 y3
  clear hkR hh2 hc2 hgh hgc
  go_enter Tryd.func28, Tryd.ntmps28
  go_wp2_with fail
  first | exact ⟨rfl, ⟨_, _, rfl⟩, Frm.of HB.out, trivial⟩ | exact ⟨rfl, ⟨_, _, rfl⟩, Frm.of (HB.out.trans ⟨rfl, rfl, rfl, Nat.le_refl _, fun _ _ => rfl⟩), trivial⟩

set_option maxRecDepth 100000 in
set_option maxHeartbeats 4000000 in
theorem safe1_2 {u0 u1 u2 u3 u4 u5 u6 u7 u8 u9 u10 u11 u12 : Value} {w0 : World} {gh gc : Nat} {how : Int} {bd : ByteArray} {v0 v1 v2 v4 v5 v6 v7 v8 v9 v10 v11 v12 : Value} (hk : bits .and .i64 how 3 = 2) (hgh : w0.heap[gh]? = some (.cells #[.int .i64 how] 3 (0, 0))) (hgc : w0.heap[gc]? = some (.cells #[v0, v1, v2, .string bd, v4, v5, v6, v7, v8, v9, v10, v11, v12] 30 (0, 0))) :
    Hd noP anyS anyS (.agg #[u0, u1, u2, u3, u4, u5, u6, u7, u8, u9, u10, u11, u12]) (.gone) w0 (.func (.func 28) #[] #[.pointer (some ⟨gh, 0, none⟩), .pointer (some ⟨gc, 0, none⟩)]) := by
  refine ⟨28, _, rfl, enters_of Tryd.func28 (by kernel_rfl) rfl, fun w hw hs => ?_⟩
  show Calls Tryd.prog 28 #[.agg #[u0, u1, u2, u3, u4, u5, u6, u7, u8, u9, u10, u11, u12], .pointer (some ⟨gh, 0, none⟩), .pointer (some ⟨gc, 0, none⟩)] w _
  have hp : ∀ j, noP j → j < w0.heap.size := fun _ q => q.elim
  have hb1 := (Below.refl w.heap.size w).alloc (Nat.le_refl _) (.cells #[u0, u1, u2, u3, u4, u5, u6, u7, u8, u9, u10, u11, u12] 30)
  have hb2 := hb1.alloc hb1.size (.cells #[.int .i64 0, .slice none 0 0, .string ⟨#[]⟩, .bool false] 32)
  have hkc : ((w.alloc (.cells #[u0, u1, u2, u3, u4, u5, u6, u7, u8, u9, u10, u11, u12] 30)).alloc (.cells #[.int .i64 0, .slice none 0 0, .string ⟨#[]⟩, .bool false] 32)).heap[w.heap.size]? = some (.cells #[u0, u1, u2, u3, u4, u5, u6, u7, u8, u9, u10, u11, u12] 30 (0, 0)) :=
    (Below.heap_alloc _ _ _ (by simp)).trans (heap_alloc_new w _)
  have hkr : ((w.alloc (.cells #[u0, u1, u2, u3, u4, u5, u6, u7, u8, u9, u10, u11, u12] 30)).alloc (.cells #[.int .i64 0, .slice none 0 0, .string ⟨#[]⟩, .bool false] 32)).heap[w.heap.size + 1]? = some (.cells #[.int .i64 0, .slice none 0 0, .string ⟨#[]⟩, .bool false] 32 (0, 0)) := by
    have := heap_alloc_new (w.alloc (.cells #[u0, u1, u2, u3, u4, u5, u6, u7, u8, u9, u10, u11, u12] 30)) (.cells #[.int .i64 0, .slice none 0 0, .string ⟨#[]⟩, .bool false] 32)
    simpa using this
  have c0 := blk_cell hkc 0; have c1 := blk_cell hkc 1; have c2 := blk_cell hkc 2; have c3 := blk_cell hkc 3; have c4 := blk_cell hkc 4; have c5 := blk_cell hkc 5; have c6 := blk_cell hkc 6
  have c7 := blk_cell hkc 7; have c8 := blk_cell hkc 8; have c9 := blk_cell hkc 9; have c10 := blk_cell hkc 10; have c11 := blk_cell hkc 11; have c12 := blk_cell hkc 12
  simp only [List.getElem?_toArray, List.getElem?_cons_zero, List.getElem?_cons_succ] at c0 c1 c2 c3 c4 c5 c6 c7 c8 c9 c10 c11 c12
  have HC := Lib.hid hkc; have HR := Lib.hid hkr; have HB := Lib.hid hb2
  clear hkc hkr hb1 hb2
  generalize hw2 : (w.alloc (.cells #[u0, u1, u2, u3, u4, u5, u6, u7, u8, u9, u10, u11, u12] 30)).alloc (.cells #[.int .i64 0, .slice none 0 0, .string ⟨#[]⟩, .bool false] 32) = w2 at *
  have hkR := HR.out
  have r0 := blk_cell hkR 0; have r1 := blk_cell hkR 1; have r2 := blk_cell hkR 2; have r3 := blk_cell hkR 3
  have z0 := blk_free hkR 0; have z1 := blk_free hkR 1; have z2 := blk_free hkR 2; have z3 := blk_free hkR 3
  simp only [List.getElem?_toArray, List.getElem?_cons_zero, List.getElem?_cons_succ] at r0 r1 r2 r3
  have hh2 := (HB.out.block gh (Nat.lt_of_lt_of_le (blk_lt hgh) hw.size)).trans ((hw.block gh (blk_lt hgh) (fun q => q)).trans hgh)
  have hc2 := (HB.out.block gc (Nat.lt_of_lt_of_le (blk_lt hgc) hw.size)).trans ((hw.block gc (blk_lt hgc) (fun q => q)).trans hgc)
  have y0 := blk_cell hh2 0
  have y3 := blk_cell hc2 3
  simp only [List.getElem?_toArray, List.getElem?_cons_zero, List.getElem?_cons_succ] at y0 y3
  clear hkR hh2 hc2 hgh hgc
  go_enter Tryd.func28, Tryd.ntmps28
  go_wp2_with fail
  first | exact ⟨rfl, ⟨_, _, rfl⟩, Frm.of HB.out, trivial⟩ | exact ⟨rfl, ⟨_, _, rfl⟩, Frm.of (HB.out.trans ⟨rfl, rfl, rfl, Nat.le_refl _, fun _ _ => rfl⟩), trivial⟩

set_option maxRecDepth 100000 in
set_option maxHeartbeats 4000000 in
theorem safe1_3 {u0 u1 u2 u3 u4 u5 u6 u7 u8 u9 u10 u11 u12 : Value} {w0 : World} {gh gc : Nat} {how : Int} {bd : ByteArray} {v0 v1 v2 v4 v5 v6 v7 v8 v9 v10 v11 v12 : Value} (hk : bits .and .i64 how 3 = 3) (hgh : w0.heap[gh]? = some (.cells #[.int .i64 how] 3 (0, 0))) (hgc : w0.heap[gc]? = some (.cells #[v0, v1, v2, .string bd, v4, v5, v6, v7, v8, v9, v10, v11, v12] 30 (0, 0))) :
    Hd noP anyS anyS (.agg #[u0, u1, u2, u3, u4, u5, u6, u7, u8, u9, u10, u11, u12]) (.gone) w0 (.func (.func 28) #[] #[.pointer (some ⟨gh, 0, none⟩), .pointer (some ⟨gc, 0, none⟩)]) := by
  refine ⟨28, _, rfl, enters_of Tryd.func28 (by kernel_rfl) rfl, fun w hw hs => ?_⟩
  show Calls Tryd.prog 28 #[.agg #[u0, u1, u2, u3, u4, u5, u6, u7, u8, u9, u10, u11, u12], .pointer (some ⟨gh, 0, none⟩), .pointer (some ⟨gc, 0, none⟩)] w _
  have hp : ∀ j, noP j → j < w0.heap.size := fun _ q => q.elim
  have hb1 := (Below.refl w.heap.size w).alloc (Nat.le_refl _) (.cells #[u0, u1, u2, u3, u4, u5, u6, u7, u8, u9, u10, u11, u12] 30)
  have hb2 := hb1.alloc hb1.size (.cells #[.int .i64 0, .slice none 0 0, .string ⟨#[]⟩, .bool false] 32)
  have hkc : ((w.alloc (.cells #[u0, u1, u2, u3, u4, u5, u6, u7, u8, u9, u10, u11, u12] 30)).alloc (.cells #[.int .i64 0, .slice none 0 0, .string ⟨#[]⟩, .bool false] 32)).heap[w.heap.size]? = some (.cells #[u0, u1, u2, u3, u4, u5, u6, u7, u8, u9, u10, u11, u12] 30 (0, 0)) :=
    (Below.heap_alloc _ _ _ (by simp)).trans (heap_alloc_new w _)
  have hkr : ((w.alloc (.cells #[u0, u1, u2, u3, u4, u5, u6, u7, u8, u9, u10, u11, u12] 30)).alloc (.cells #[.int .i64 0, .slice none 0 0, .string ⟨#[]⟩, .bool false] 32)).heap[w.heap.size + 1]? = some (.cells #[.int .i64 0, .slice none 0 0, .string ⟨#[]⟩, .bool false] 32 (0, 0)) := by
    have := heap_alloc_new (w.alloc (.cells #[u0, u1, u2, u3, u4, u5, u6, u7, u8, u9, u10, u11, u12] 30)) (.cells #[.int .i64 0, .slice none 0 0, .string ⟨#[]⟩, .bool false] 32)
    simpa using this
  have c0 := blk_cell hkc 0; have c1 := blk_cell hkc 1; have c2 := blk_cell hkc 2; have c3 := blk_cell hkc 3; have c4 := blk_cell hkc 4; have c5 := blk_cell hkc 5; have c6 := blk_cell hkc 6
  have c7 := blk_cell hkc 7; have c8 := blk_cell hkc 8; have c9 := blk_cell hkc 9; have c10 := blk_cell hkc 10; have c11 := blk_cell hkc 11; have c12 := blk_cell hkc 12
  simp only [List.getElem?_toArray, List.getElem?_cons_zero, List.getElem?_cons_succ] at c0 c1 c2 c3 c4 c5 c6 c7 c8 c9 c10 c11 c12
  have HC := Lib.hid hkc; have HR := Lib.hid hkr; have HB := Lib.hid hb2
  clear hkc hkr hb1 hb2
  generalize hw2 : (w.alloc (.cells #[u0, u1, u2, u3, u4, u5, u6, u7, u8, u9, u10, u11, u12] 30)).alloc (.cells #[.int .i64 0, .slice none 0 0, .string ⟨#[]⟩, .bool false] 32) = w2 at *
  have hkR := HR.out
  have r0 := blk_cell hkR 0; have r1 := blk_cell hkR 1; have r2 := blk_cell hkR 2; have r3 := blk_cell hkR 3
  have z0 := blk_free hkR 0; have z1 := blk_free hkR 1; have z2 := blk_free hkR 2; have z3 := blk_free hkR 3
  simp only [List.getElem?_toArray, List.getElem?_cons_zero, List.getElem?_cons_succ] at r0 r1 r2 r3
  have hh2 := (HB.out.block gh (Nat.lt_of_lt_of_le (blk_lt hgh) hw.size)).trans ((hw.block gh (blk_lt hgh) (fun q => q)).trans hgh)
  have hc2 := (HB.out.block gc (Nat.lt_of_lt_of_le (blk_lt hgc) hw.size)).trans ((hw.block gc (blk_lt hgc) (fun q => q)).trans hgc)
  have y0 := blk_cell hh2 0
  have y3 := blk_cell hc2 3
  simp only [List.getElem?_toArray, List.getElem?_cons_zero, List.getElem?_cons_succ] at y0 y3
  clear hkR hh2 hc2 hgh hgc
  go_enter Tryd.func28, Tryd.ntmps28
  go_wp2_with fail
  first | exact ⟨rfl, ⟨_, _, rfl⟩, Frm.of HB.out, trivial⟩ | exact ⟨rfl, ⟨_, _, rfl⟩, Frm.of (HB.out.trans ⟨rfl, rfl, rfl, Nat.le_refl _, fun _ _ => rfl⟩), trivial⟩

end Go.Proofs.YtmncchgifgjhgaaDoor
