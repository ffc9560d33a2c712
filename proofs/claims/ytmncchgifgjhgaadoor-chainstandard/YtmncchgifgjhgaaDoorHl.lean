/- The laws' own handles. -/
import Derived.Test.YtmncchgifgjhgaaDoorFi
namespace Go.Proofs.YtmncchgifgjhgaaDoor
open Go.RowKit Go.Shelf

theorem row_set {P : Nat → Prop} {w : World} {A : Option Addr} {l : List Fld} (h : Row P w A l) (g i : Nat) (v : Value) (hg : ∀ a, A = some a → l ≠ [] → a.block ≠ g) : Row P (w.setCell ⟨g, i, none⟩ v) A l := fun hn => by
  obtain ⟨a, e, hl, hp, hc⟩ := h hn
  exact ⟨a, e, by rw [set_size]; exact hl, hp, fun j u hu => (World.cell?_of_block (set_oth _ _ _ _ (by rw [add_block]; exact hg a e hn))).trans (hc j u hu)⟩
theorem row_put4 {P : Nat → Prop} {w : World} {A : Option Addr} {l : List Fld} (h : Row P w A l) (g : Nat) (u0 u1 u2 u3 : Value) (hg : ∀ a, A = some a → l ≠ [] → a.block ≠ g) : Row P (put4 w g u0 u1 u2 u3) A l :=
  row_set (row_set (row_set (row_set h g 0 u0 hg) g 1 u1 hg) g 2 u2 hg) g 3 u3 hg

/-- A number in a block of its own. -/
def Num (g : Nat) (k : Int) : World → Prop := fun w => w.heap[g]? = some (.cells #[.int .i64 k] 3 (0, 0))
def atP (g : Nat) : Nat → Prop := fun j => j = g
theorem of_num (g : Nat) (k : Int) : Of (atP g) (Num g k) := fun w w' h hh => (hh g rfl).trans h
/-- A response in a block. -/
def RspAt (w : World) (g : Nat) (st : Int) (A : Option Addr) (l : List Fld) (n : Nat) (b : ByteArray) (cl : Bool) : Prop := w.heap[g]? = some (.cells #[.int .i64 st, .slice A l.length n, .string b, .bool cl] 32 (0, 0))

set_option maxRecDepth 100000 in
set_option maxHeartbeats 4000000 in
theorem links1_hd {u0 u2 u3 u4 u5 u6 u7 u8 u9 u10 u11 u12 : Value} {tg : ByteArray} (w0 : World) : Hd noP anyS anyS (.agg #[u0, .string tg, u2, u3, u4, u5, u6, u7, u8, u9, u10, u11, u12]) (.ans 222 [] tg false) w0 (.func (.func 20) #[] #[]) := by
  refine ⟨20, #[], rfl, enters_of Tryd.func20 (by kernel_rfl) rfl, fun w hw hs => ?_⟩
  show Calls Tryd.prog 20 #[.agg #[u0, .string tg, u2, u3, u4, u5, u6, u7, u8, u9, u10, u11, u12]] w _
  have hp : ∀ j, noP j → j < w0.heap.size := fun _ q => q.elim
  have hb1 := (Below.refl w.heap.size w).alloc (Nat.le_refl _) (.cells #[u0, .string tg, u2, u3, u4, u5, u6, u7, u8, u9, u10, u11, u12] 30)
  have hb2 := hb1.alloc hb1.size (.cells #[.int .i64 0, .slice none 0 0, .string ⟨#[]⟩, .bool false] 32)
  have hkc : ((w.alloc (.cells #[u0, .string tg, u2, u3, u4, u5, u6, u7, u8, u9, u10, u11, u12] 30)).alloc (.cells #[.int .i64 0, .slice none 0 0, .string ⟨#[]⟩, .bool false] 32)).heap[w.heap.size]? = some (.cells #[u0, .string tg, u2, u3, u4, u5, u6, u7, u8, u9, u10, u11, u12] 30 (0, 0)) :=
    (Below.heap_alloc _ _ _ (by simp)).trans (heap_alloc_new w _)
  have hkr : ((w.alloc (.cells #[u0, .string tg, u2, u3, u4, u5, u6, u7, u8, u9, u10, u11, u12] 30)).alloc (.cells #[.int .i64 0, .slice none 0 0, .string ⟨#[]⟩, .bool false] 32)).heap[w.heap.size + 1]? = some (.cells #[.int .i64 0, .slice none 0 0, .string ⟨#[]⟩, .bool false] 32 (0, 0)) := by
    have := heap_alloc_new (w.alloc (.cells #[u0, .string tg, u2, u3, u4, u5, u6, u7, u8, u9, u10, u11, u12] 30)) (.cells #[.int .i64 0, .slice none 0 0, .string ⟨#[]⟩, .bool false] 32)
    simpa using this
  have c0 := blk_cell hkc 0; have c1 := blk_cell hkc 1; have c2 := blk_cell hkc 2; have c3 := blk_cell hkc 3; have c4 := blk_cell hkc 4; have c5 := blk_cell hkc 5; have c6 := blk_cell hkc 6
  have c7 := blk_cell hkc 7; have c8 := blk_cell hkc 8; have c9 := blk_cell hkc 9; have c10 := blk_cell hkc 10; have c11 := blk_cell hkc 11; have c12 := blk_cell hkc 12
  simp only [List.getElem?_toArray, List.getElem?_cons_zero, List.getElem?_cons_succ] at c0 c1 c2 c3 c4 c5 c6 c7 c8 c9 c10 c11 c12
  have HC := Lib.hid hkc; have HR := Lib.hid hkr; have HB := Lib.hid hb2
  clear hkc hkr hb1 hb2
  generalize hw2 : (w.alloc (.cells #[u0, .string tg, u2, u3, u4, u5, u6, u7, u8, u9, u10, u11, u12] 30)).alloc (.cells #[.int .i64 0, .slice none 0 0, .string ⟨#[]⟩, .bool false] 32) = w2 at *
  have hkR := HR.out
  have r0 := blk_cell hkR 0; have r1 := blk_cell hkR 1; have r2 := blk_cell hkR 2; have r3 := blk_cell hkR 3
  have z0 := blk_free hkR 0; have z1 := blk_free hkR 1; have z2 := blk_free hkR 2; have z3 := blk_free hkR 3
  simp only [List.getElem?_toArray, List.getElem?_cons_zero, List.getElem?_cons_succ] at r0 r1 r2 r3
  clear hkR
  go_enter Tryd.func20, Tryd.ntmps20
  go_wp2_with fail
  refine put4_ret (W := w2) Tryd.results20 HR.out (.int .i64 222) (.slice none 0 0) (.string tg) (.bool false) rfl rfl ?_
  exact ⟨⟨none, 0, rfl, Row.nil _ _ _, by simp, fun a e => Nat.zero_le _⟩, (Frm.of HB.out).put4 _ _ _ _ _ (by omega), trivial⟩

set_option maxRecDepth 100000 in
set_option maxHeartbeats 4000000 in
theorem orders2_hd {u0 u1 u2 u3 u4 u5 u6 u7 u8 u9 u10 u11 u12 : Value} (w0 : World) : Hd noP anyS anyS (.agg #[u0, u1, u2, u3, u4, u5, u6, u7, u8, u9, u10, u11, u12]) (.ans 0 [] ⟨#[120]⟩ false) w0 (.func (.func 19) #[] #[]) := by
  refine ⟨19, #[], rfl, enters_of Tryd.func19 (by kernel_rfl) rfl, fun w hw hs => ?_⟩
  show Calls Tryd.prog 19 #[.agg #[u0, u1, u2, u3, u4, u5, u6, u7, u8, u9, u10, u11, u12]] w _
  have hp : ∀ j, noP j → j < w0.heap.size := fun _ q => q.elim
  have hb1 := (Below.refl w.heap.size w).alloc (Nat.le_refl _) (.cells #[u0, u1, u2, u3, u4, u5, u6, u7, u8, u9, u10, u11, u12] 30)
  have hb2 := hb1.alloc hb1.size (.cells #[.int .i64 0, .slice none 0 0, .string ⟨#[]⟩, .bool false] 32)
  have hkc : ((w.alloc (.cells #[u0, u1, u2, u3, u4, u5, u6, u7, u8, u9, u10, u11, u12] 30)).alloc (.cells #[.int .i64 0, .slice none 0 0, .string ⟨#[]⟩, .bool false] 32)).heap[w.heap.size]? = some (.cells #[u0, u1, u2, u3, u4, u5, u6, u7, u8, u9, u10, u11, u12] 30 (0, 0)) :=
    (Below.heap_alloc _ _ _ (by simp)).trans (heap_alloc_new w _)
  have hkr : ((w.alloc (.cells #[u0, u1, u2, u3, u4, u5, u6, u7, u8, u9, u10, u11, u12] 30)).alloc (.cells #[.int .i64 0, .slice none 0 0, .string ⟨#[]⟩, .bool false] 32)).heap[w.heap.size + 1]? = some (.cells #[.int .i64 0, .slice none 0 0, .string ⟨#[]⟩, .bool false] 32 (0, 0)) := by
    have := heap_alloc_new (w.alloc (.cells #[u0, u1, u2, u3, u4, u5, u6, u7, u8, u9, u10, u11, u12] 30)) (.cells #[.int .i64 0, .slice none 0 0, .string ⟨#[]⟩, .bool false] 32)
    simpa using this
  have c0 := blk_cell hkc 0; have c1 := blk_cell hkc 1; have c2 := blk_cell hkc 2; have c3 := blk_cell hkc 3; have c4 := blk_cell hkc 4; have c5 := blk_cell hkc 5; have c6 := blk_cell hkc 6
  have c7 := blk_cell hkc 7; have c8 := blk_cell hkc 8; have c9 := blk_cell hkc 9; have c10 := blk_cell hkc 10; have c11 := blk_cell hkc 11; have c12 := blk_cell hkc 12
  simp only [List.getElem?_toArray, List.getElem?_cons_zero, List.getElem?_cons_succ] at c0 c1 c2 c3 c4 c5 c6 c7 c8 c9 c10 c11 c12
  have HC := Lib.hid hkc; have HR := Lib.hid hkr; have HB := Lib.hid hb2
  clear hkc hkr hb1 hb2
  generalize hw2 : (w.alloc (.cells #[u0, u1, u2, u3, u4, u5, u6, u7, u8, u9, u10, u11, u12] 30)).alloc (.cells #[.int .i64 0, .slice none 0 0, .string ⟨#[]⟩, .bool false] 32) = w2 at *
  have hkR := HR.out
  have r0 := blk_cell hkR 0; have r1 := blk_cell hkR 1; have r2 := blk_cell hkR 2; have r3 := blk_cell hkR 3
  have z0 := blk_free hkR 0; have z1 := blk_free hkR 1; have z2 := blk_free hkR 2; have z3 := blk_free hkR 3
  simp only [List.getElem?_toArray, List.getElem?_cons_zero, List.getElem?_cons_succ] at r0 r1 r2 r3
  clear hkR
  go_enter Tryd.func19, Tryd.ntmps19
  go_wp2_with fail
  refine put4_ret (W := w2) Tryd.results19 HR.out (.int .i64 0) (.slice none 0 0) (.string ⟨#[120]⟩) (.bool false) rfl rfl ?_
  exact ⟨⟨none, 0, rfl, Row.nil _ _ _, by simp, fun a e => Nat.zero_le _⟩, (Frm.of HB.out).put4 _ _ _ _ _ (by omega), trivial⟩

set_option maxRecDepth 100000 in
set_option maxHeartbeats 4000000 in
theorem marks1_hd {u0 u1 u2 u3 u4 u5 u6 u7 u8 u9 u10 u11 u12 : Value} {w0 : World} {g n : Nat} {st : Int} {A : Option Addr} {l : List Fld} {b : ByteArray} {cl : Bool} (hr : RspAt w0 g st A l n b cl) (hrow : Row noP w0 A l) (hl : l.length ≤ 100) :
    Hd noP anyS anyS (.agg #[u0, u1, u2, u3, u4, u5, u6, u7, u8, u9, u10, u11, u12]) (.ans st l b cl) w0 (.func (.func 27) #[] #[.pointer (some ⟨g, 0, none⟩)]) := by
  refine ⟨27, _, rfl, enters_of Tryd.func27 (by kernel_rfl) rfl, fun w hw hs => ?_⟩
  show Calls Tryd.prog 27 #[.agg #[u0, u1, u2, u3, u4, u5, u6, u7, u8, u9, u10, u11, u12], .pointer (some ⟨g, 0, none⟩)] w _
  have hp : ∀ j, noP j → j < w0.heap.size := fun _ q => q.elim
  have hb1 := (Below.refl w.heap.size w).alloc (Nat.le_refl _) (.cells #[u0, u1, u2, u3, u4, u5, u6, u7, u8, u9, u10, u11, u12] 30)
  have hb2 := hb1.alloc hb1.size (.cells #[.int .i64 0, .slice none 0 0, .string ⟨#[]⟩, .bool false] 32)
  have hkc : ((w.alloc (.cells #[u0, u1, u2, u3, u4, u5, u6, u7, u8, u9, u10, u11, u12] 30)).alloc (.cells #[.int .i64 0, .slice none 0 0, .string ⟨#[]⟩, .bool false] 32)).heap[w.heap.size]? = some (.cells #[u0, u1, u2, u3, u4, u5, u6, u7, u8, u9, u10, u11, u12] 30 (0, 0)) :=
    (Below.heap_alloc _ _ _ (by simp)).trans (heap_alloc_new w _)
  have hkr : ((w.alloc (.cells #[u0, u1, u2, u3, u4, u5, u6, u7, u8, u9, u10, u11, u12] 30)).alloc (.cells #[.int .i64 0, .slice none 0 0, .string ⟨#[]⟩, .bool false] 32)).heap[w.heap.size + 1]? = some (.cells #[.int .i64 0, .slice none 0 0, .string ⟨#[]⟩, .bool false] 32 (0, 0)) := by
    have := heap_alloc_new (w.alloc (.cells #[u0, u1, u2, u3, u4, u5, u6, u7, u8, u9, u10, u11, u12] 30)) (.cells #[.int .i64 0, .slice none 0 0, .string ⟨#[]⟩, .bool false] 32)
    simpa using this
  have c0 := blk_cell hkc 0; have c1 := blk_cell hkc 1; have c2 := blk_cell hkc 2; have c3 := blk_cell hkc 3; have c4 := blk_cell hkc 4; have c5 := blk_cell hkc 5; have c6 := blk_cell hkc 6
  have c7 := blk_cell hkc 7; have c8 := blk_cell hkc 8; have c9 := blk_cell hkc 9; have c10 := blk_cell hkc 10; have c11 := blk_cell hkc 11; have c12 := blk_cell hkc 12
  simp only [List.getElem?_toArray, List.getElem?_cons_zero, List.getElem?_cons_succ] at c0 c1 c2 c3 c4 c5 c6 c7 c8 c9 c10 c11 c12
  have HC := Lib.hid hkc; have HR := Lib.hid hkr; have HB := Lib.hid hb2
  clear hkc hkr hb1 hb2
  generalize hw2 : (w.alloc (.cells #[u0, u1, u2, u3, u4, u5, u6, u7, u8, u9, u10, u11, u12] 30)).alloc (.cells #[.int .i64 0, .slice none 0 0, .string ⟨#[]⟩, .bool false] 32) = w2 at *
  have hkR := HR.out
  have r0 := blk_cell hkR 0; have r1 := blk_cell hkR 1; have r2 := blk_cell hkR 2; have r3 := blk_cell hkR 3
  have z0 := blk_free hkR 0; have z1 := blk_free hkR 1; have z2 := blk_free hkR 2; have z3 := blk_free hkR 3
  simp only [List.getElem?_toArray, List.getElem?_cons_zero, List.getElem?_cons_succ] at r0 r1 r2 r3
  have hkg : w2.heap[g]? = some (.cells #[.int .i64 st, .slice A l.length n, .string b, .bool cl] 32 (0, 0)) := (HB.out.block g (Nat.lt_of_lt_of_le (blk_lt hr) hw.size)).trans ((hw.block g (blk_lt hr) (fun q => q)).trans hr)
  have v0 := blk_cell hkg 0; have v1 := blk_cell hkg 1; have v2 := blk_cell hkg 2; have v3 := blk_cell hkg 3
  simp only [List.getElem?_toArray, List.getElem?_cons_zero, List.getElem?_cons_succ] at v0 v1 v2 v3
  have HW := Lib.hid (hrow.frm (hw.on HB.out))
  have HL := Lib.hid hl
  have hrl : ∀ a, A = some a → l ≠ [] → a.block < w.heap.size := fun a e hne => by
    obtain ⟨a', e', h1, _⟩ := hrow hne
    rw [e] at e'; cases e'
    exact Nat.lt_of_lt_of_le h1 hw.size
  have HRL := Lib.hid hrl
  clear hkR hkg hr hrow hl hrl
  generalize hN : l.length = m' at *
  go_enter Tryd.func27, Tryd.ntmps27
  go_wp2_with fail
  subst hN
  refine put4_ret (W := w2) Tryd.results27 HR.out (.int .i64 st) (.slice A l.length n) (.string b) (.bool cl) rfl rfl ?_
  exact ⟨⟨A, n, rfl, row_put4 HW.out _ _ _ _ _ (fun a e hne => by have := HRL.out a e hne; omega), HL.out, fun a e => Nat.zero_le _⟩, (Frm.of HB.out).put4 _ _ _ _ _ (by omega), trivial⟩

set_option maxRecDepth 100000 in
set_option maxHeartbeats 4000000 in
theorem alone1 {u0 u2 u3 u4 u6 u7 u8 u9 u10 u11 u12 : Value} {w0 : World} {gn g n : Nat} {st : Int} {A : Option Addr} {l : List Fld} {b : ByteArray} {cl : Bool} {gc : Nat} {tg : ByteArray} {cn : Int} (hgc : w0.heap[gc]? = some (.cells #[u0, .string tg, u2, u3, u4, .int .i64 cn, u6, u7, u8, u9, u10, u11, u12] 30 (0, 0))) (hcn : gc ≠ gn) (hgn : gn < w0.heap.size) (hr : RspAt w0 g st A l n b cl) (hgr : g ≠ gn) (hrow : Row (atP gn) w0 A l) (hl : l.length ≤ 100) :
    Hd (atP gn) (Num gn 0) (Num gn 1) (.agg #[u0, .string tg, u2, u3, u4, .int .i64 cn, u6, u7, u8, u9, u10, u11, u12]) (.ans st l b cl) w0 (.func (.func 29) #[] #[.pointer (some ⟨gc, 0, none⟩), .pointer (some ⟨gn, 0, none⟩), .pointer (some ⟨g, 0, none⟩)]) := by
  refine ⟨29, _, rfl, enters_of Tryd.func29 (by kernel_rfl) rfl, fun w hw hs => ?_⟩
  show Calls Tryd.prog 29 #[.agg #[u0, .string tg, u2, u3, u4, .int .i64 cn, u6, u7, u8, u9, u10, u11, u12], .pointer (some ⟨gc, 0, none⟩), .pointer (some ⟨gn, 0, none⟩), .pointer (some ⟨g, 0, none⟩)] w _
  have hp : ∀ j, (atP gn) j → j < w0.heap.size := fun j q => by unfold atP at q; omega
  have hb1 := (Below.refl w.heap.size w).alloc (Nat.le_refl _) (.cells #[u0, .string tg, u2, u3, u4, .int .i64 cn, u6, u7, u8, u9, u10, u11, u12] 30)
  have hb2 := hb1.alloc hb1.size (.cells #[.int .i64 0, .slice none 0 0, .string ⟨#[]⟩, .bool false] 32)
  have hkc : ((w.alloc (.cells #[u0, .string tg, u2, u3, u4, .int .i64 cn, u6, u7, u8, u9, u10, u11, u12] 30)).alloc (.cells #[.int .i64 0, .slice none 0 0, .string ⟨#[]⟩, .bool false] 32)).heap[w.heap.size]? = some (.cells #[u0, .string tg, u2, u3, u4, .int .i64 cn, u6, u7, u8, u9, u10, u11, u12] 30 (0, 0)) :=
    (Below.heap_alloc _ _ _ (by simp)).trans (heap_alloc_new w _)
  have hkr : ((w.alloc (.cells #[u0, .string tg, u2, u3, u4, .int .i64 cn, u6, u7, u8, u9, u10, u11, u12] 30)).alloc (.cells #[.int .i64 0, .slice none 0 0, .string ⟨#[]⟩, .bool false] 32)).heap[w.heap.size + 1]? = some (.cells #[.int .i64 0, .slice none 0 0, .string ⟨#[]⟩, .bool false] 32 (0, 0)) := by
    have := heap_alloc_new (w.alloc (.cells #[u0, .string tg, u2, u3, u4, .int .i64 cn, u6, u7, u8, u9, u10, u11, u12] 30)) (.cells #[.int .i64 0, .slice none 0 0, .string ⟨#[]⟩, .bool false] 32)
    simpa using this
  have c0 := blk_cell hkc 0; have c1 := blk_cell hkc 1; have c2 := blk_cell hkc 2; have c3 := blk_cell hkc 3; have c4 := blk_cell hkc 4; have c5 := blk_cell hkc 5; have c6 := blk_cell hkc 6
  have c7 := blk_cell hkc 7; have c8 := blk_cell hkc 8; have c9 := blk_cell hkc 9; have c10 := blk_cell hkc 10; have c11 := blk_cell hkc 11; have c12 := blk_cell hkc 12
  simp only [List.getElem?_toArray, List.getElem?_cons_zero, List.getElem?_cons_succ] at c0 c1 c2 c3 c4 c5 c6 c7 c8 c9 c10 c11 c12
  have HC := Lib.hid hkc; have HR := Lib.hid hkr; have HB := Lib.hid hb2
  clear hkc hkr hb1 hb2
  generalize hw2 : (w.alloc (.cells #[u0, .string tg, u2, u3, u4, .int .i64 cn, u6, u7, u8, u9, u10, u11, u12] 30)).alloc (.cells #[.int .i64 0, .slice none 0 0, .string ⟨#[]⟩, .bool false] 32) = w2 at *
  have hkR := HR.out
  have r0 := blk_cell hkR 0; have r1 := blk_cell hkR 1; have r2 := blk_cell hkR 2; have r3 := blk_cell hkR 3
  have z0 := blk_free hkR 0; have z1 := blk_free hkR 1; have z2 := blk_free hkR 2; have z3 := blk_free hkR 3
  simp only [List.getElem?_toArray, List.getElem?_cons_zero, List.getElem?_cons_succ] at r0 r1 r2 r3
  have hgc2 := (HB.out.block gc (Nat.lt_of_lt_of_le (blk_lt hgc) hw.size)).trans ((hw.block gc (blk_lt hgc) hcn).trans hgc)
  have gv1 := blk_cell hgc2 1
  have gv5 := blk_cell hgc2 5
  simp only [List.getElem?_toArray, List.getElem?_cons_zero, List.getElem?_cons_succ] at gv1 gv5
  have hte : (tg.toList == tg.toList) = true := by simp
  clear hgc hgc2
  have hkg : w2.heap[g]? = some (.cells #[.int .i64 st, .slice A l.length n, .string b, .bool cl] 32 (0, 0)) := (HB.out.block g (Nat.lt_of_lt_of_le (blk_lt hr) hw.size)).trans ((hw.block g (blk_lt hr) hgr).trans hr)
  have v0 := blk_cell hkg 0; have v1 := blk_cell hkg 1; have v2 := blk_cell hkg 2; have v3 := blk_cell hkg 3
  simp only [List.getElem?_toArray, List.getElem?_cons_zero, List.getElem?_cons_succ] at v0 v1 v2 v3
  have hsn : w2.heap[gn]? = some (.cells #[.int .i64 0] 3 (0, 0)) := (HB.out.block gn (Nat.lt_of_lt_of_le hgn hw.size)).trans hs
  have y0 := blk_cell hsn 0
  have y1 := blk_free hsn 0
  simp only [List.getElem?_toArray, List.getElem?_cons_zero] at y0
  have hgnw : gn < w.heap.size := Nat.lt_of_lt_of_le hgn hw.size
  have hne1 : w.heap.size + 1 ≠ gn := by omega
  have HS := Lib.hid hsn
  have HW := Lib.hid (hrow.frm (hw.on HB.out))
  have HL := Lib.hid hl
  have hrl : ∀ a, A = some a → l ≠ [] → a.block < w.heap.size ∧ a.block ≠ gn := fun a e hne => by
    obtain ⟨a', e', h1, h2, _⟩ := hrow hne
    rw [e] at e'; cases e'
    exact ⟨Nat.lt_of_lt_of_le h1 hw.size, h2⟩
  have HRL := Lib.hid hrl
  clear hkR hkg hr hrow hl hrl hsn hs
  generalize hN : l.length = m' at *
  go_enter Tryd.func29, Tryd.ntmps29
  go_wp2_with fail
  subst hN
  refine put4_ret (W := w2.setCell ⟨gn, 0, none⟩ (.int .i64 1)) Tryd.results29 ((set_oth _ _ _ _ hne1).trans HR.out) (.int .i64 st) (.slice A l.length n) (.string b) (.bool cl) rfl rfl ?_
  exact ⟨⟨A, n, rfl, row_put4 (row_set HW.out _ _ _ fun a e hne => (HRL.out a e hne).2) _ _ _ _ _ (fun a e hne => by have := (HRL.out a e hne).1; omega), HL.out, fun a e => Nat.zero_le _⟩, ((Frm.of (P := atP gn) HB.out).set gn 0 _ (.inr rfl)).put4 (w.heap.size + 1) _ _ _ _ (by omega), (of_num gn 1).put4 (set_same 0 HS.out) _ _ _ _ _ hne1⟩

set_option maxRecDepth 100000 in
set_option maxHeartbeats 4000000 in
theorem std1_ans {u0 u1 u2 u3 u4 u5 u6 u7 u8 u9 u10 u11 u12 : Value} {w0 : World} {gn g n : Nat} {st : Int} {A : Option Addr} {l : List Fld} {b : ByteArray} {cl : Bool} {gg : Nat} (hgv : w0.heap[gg]? = some (.cells #[.bool false] 4 (0, 0))) (hgg : gg ≠ gn) (hgn : gn < w0.heap.size) (hr : RspAt w0 g st A l n b cl) (hgr : g ≠ gn) (hrow : Row (atP gn) w0 A l) (hl : l.length ≤ 100) :
    Hd (atP gn) (Num gn 0) (Num gn 1) (.agg #[u0, u1, u2, u3, u4, u5, u6, u7, u8, u9, u10, u11, u12]) (.ans st l b cl) w0 (.func (.func 12) #[] #[.pointer (some ⟨gn, 0, none⟩), .pointer (some ⟨gg, 0, none⟩), .pointer (some ⟨g, 0, none⟩)]) := by
  refine ⟨12, _, rfl, enters_of Tryd.func12 (by kernel_rfl) rfl, fun w hw hs => ?_⟩
  show Calls Tryd.prog 12 #[.agg #[u0, u1, u2, u3, u4, u5, u6, u7, u8, u9, u10, u11, u12], .pointer (some ⟨gn, 0, none⟩), .pointer (some ⟨gg, 0, none⟩), .pointer (some ⟨g, 0, none⟩)] w _
  have hp : ∀ j, (atP gn) j → j < w0.heap.size := fun j q => by unfold atP at q; omega
  have hb1 := (Below.refl w.heap.size w).alloc (Nat.le_refl _) (.cells #[u0, u1, u2, u3, u4, u5, u6, u7, u8, u9, u10, u11, u12] 30)
  have hb2 := hb1.alloc hb1.size (.cells #[.int .i64 0, .slice none 0 0, .string ⟨#[]⟩, .bool false] 32)
  have hkc : ((w.alloc (.cells #[u0, u1, u2, u3, u4, u5, u6, u7, u8, u9, u10, u11, u12] 30)).alloc (.cells #[.int .i64 0, .slice none 0 0, .string ⟨#[]⟩, .bool false] 32)).heap[w.heap.size]? = some (.cells #[u0, u1, u2, u3, u4, u5, u6, u7, u8, u9, u10, u11, u12] 30 (0, 0)) :=
    (Below.heap_alloc _ _ _ (by simp)).trans (heap_alloc_new w _)
  have hkr : ((w.alloc (.cells #[u0, u1, u2, u3, u4, u5, u6, u7, u8, u9, u10, u11, u12] 30)).alloc (.cells #[.int .i64 0, .slice none 0 0, .string ⟨#[]⟩, .bool false] 32)).heap[w.heap.size + 1]? = some (.cells #[.int .i64 0, .slice none 0 0, .string ⟨#[]⟩, .bool false] 32 (0, 0)) := by
    have := heap_alloc_new (w.alloc (.cells #[u0, u1, u2, u3, u4, u5, u6, u7, u8, u9, u10, u11, u12] 30)) (.cells #[.int .i64 0, .slice none 0 0, .string ⟨#[]⟩, .bool false] 32)
    simpa using this
  have c0 := blk_cell hkc 0; have c1 := blk_cell hkc 1; have c2 := blk_cell hkc 2; have c3 := blk_cell hkc 3; have c4 := blk_cell hkc 4; have c5 := blk_cell hkc 5; have c6 := blk_cell hkc 6
  have c7 := blk_cell hkc 7; have c8 := blk_cell hkc 8; have c9 := blk_cell hkc 9; have c10 := blk_cell hkc 10; have c11 := blk_cell hkc 11; have c12 := blk_cell hkc 12
  simp only [List.getElem?_toArray, List.getElem?_cons_zero, List.getElem?_cons_succ] at c0 c1 c2 c3 c4 c5 c6 c7 c8 c9 c10 c11 c12
  have HC := Lib.hid hkc; have HR := Lib.hid hkr; have HB := Lib.hid hb2
  clear hkc hkr hb1 hb2
  generalize hw2 : (w.alloc (.cells #[u0, u1, u2, u3, u4, u5, u6, u7, u8, u9, u10, u11, u12] 30)).alloc (.cells #[.int .i64 0, .slice none 0 0, .string ⟨#[]⟩, .bool false] 32) = w2 at *
  have hkR := HR.out
  have r0 := blk_cell hkR 0; have r1 := blk_cell hkR 1; have r2 := blk_cell hkR 2; have r3 := blk_cell hkR 3
  have z0 := blk_free hkR 0; have z1 := blk_free hkR 1; have z2 := blk_free hkR 2; have z3 := blk_free hkR 3
  simp only [List.getElem?_toArray, List.getElem?_cons_zero, List.getElem?_cons_succ] at r0 r1 r2 r3
  have hgv2 := (HB.out.block gg (Nat.lt_of_lt_of_le (blk_lt hgv) hw.size)).trans ((hw.block gg (blk_lt hgv) hgg).trans hgv)
  have gv := blk_cell hgv2 0
  simp only [List.getElem?_toArray, List.getElem?_cons_zero] at gv
  clear hgv hgv2
  have hkg : w2.heap[g]? = some (.cells #[.int .i64 st, .slice A l.length n, .string b, .bool cl] 32 (0, 0)) := (HB.out.block g (Nat.lt_of_lt_of_le (blk_lt hr) hw.size)).trans ((hw.block g (blk_lt hr) hgr).trans hr)
  have v0 := blk_cell hkg 0; have v1 := blk_cell hkg 1; have v2 := blk_cell hkg 2; have v3 := blk_cell hkg 3
  simp only [List.getElem?_toArray, List.getElem?_cons_zero, List.getElem?_cons_succ] at v0 v1 v2 v3
  have hsn : w2.heap[gn]? = some (.cells #[.int .i64 0] 3 (0, 0)) := (HB.out.block gn (Nat.lt_of_lt_of_le hgn hw.size)).trans hs
  have y0 := blk_cell hsn 0
  have y1 := blk_free hsn 0
  simp only [List.getElem?_toArray, List.getElem?_cons_zero] at y0
  have hgnw : gn < w.heap.size := Nat.lt_of_lt_of_le hgn hw.size
  have hne1 : w.heap.size + 1 ≠ gn := by omega
  have HS := Lib.hid hsn
  have HW := Lib.hid (hrow.frm (hw.on HB.out))
  have HL := Lib.hid hl
  have hrl : ∀ a, A = some a → l ≠ [] → a.block < w.heap.size ∧ a.block ≠ gn := fun a e hne => by
    obtain ⟨a', e', h1, h2, _⟩ := hrow hne
    rw [e] at e'; cases e'
    exact ⟨Nat.lt_of_lt_of_le h1 hw.size, h2⟩
  have HRL := Lib.hid hrl
  clear hkR hkg hr hrow hl hrl hsn hs
  generalize hN : l.length = m' at *
  go_enter Tryd.func12, Tryd.ntmps12
  go_wp2_with fail
  subst hN
  refine put4_ret (W := w2.setCell ⟨gn, 0, none⟩ (.int .i64 1)) Tryd.results12 ((set_oth _ _ _ _ hne1).trans HR.out) (.int .i64 st) (.slice A l.length n) (.string b) (.bool cl) rfl rfl ?_
  exact ⟨⟨A, n, rfl, row_put4 (row_set HW.out _ _ _ fun a e hne => (HRL.out a e hne).2) _ _ _ _ _ (fun a e hne => by have := (HRL.out a e hne).1; omega), HL.out, fun a e => Nat.zero_le _⟩, ((Frm.of (P := atP gn) HB.out).set gn 0 _ (.inr rfl)).put4 (w.heap.size + 1) _ _ _ _ (by omega), (of_num gn 1).put4 (set_same 0 HS.out) _ _ _ _ _ hne1⟩

set_option maxRecDepth 100000 in
set_option maxHeartbeats 4000000 in
theorem std1_gone {u0 u1 u2 u3 u4 u5 u6 u7 u8 u9 u10 u11 u12 : Value} {w0 : World} {gn g n : Nat} {st : Int} {A : Option Addr} {l : List Fld} {b : ByteArray} {cl : Bool} {gg : Nat} (hgv : w0.heap[gg]? = some (.cells #[.bool true] 4 (0, 0))) (hgg : gg ≠ gn) (hgn : gn < w0.heap.size) (hr : RspAt w0 g st A l n b cl) (hgr : g ≠ gn) (hrow : Row (atP gn) w0 A l) (hl : l.length ≤ 100) :
    Hd (atP gn) (Num gn 0) (Num gn 1) (.agg #[u0, u1, u2, u3, u4, u5, u6, u7, u8, u9, u10, u11, u12]) (.gone) w0 (.func (.func 12) #[] #[.pointer (some ⟨gn, 0, none⟩), .pointer (some ⟨gg, 0, none⟩), .pointer (some ⟨g, 0, none⟩)]) := by
  refine ⟨12, _, rfl, enters_of Tryd.func12 (by kernel_rfl) rfl, fun w hw hs => ?_⟩
  show Calls Tryd.prog 12 #[.agg #[u0, u1, u2, u3, u4, u5, u6, u7, u8, u9, u10, u11, u12], .pointer (some ⟨gn, 0, none⟩), .pointer (some ⟨gg, 0, none⟩), .pointer (some ⟨g, 0, none⟩)] w _
  have hp : ∀ j, (atP gn) j → j < w0.heap.size := fun j q => by unfold atP at q; omega
  have hb1 := (Below.refl w.heap.size w).alloc (Nat.le_refl _) (.cells #[u0, u1, u2, u3, u4, u5, u6, u7, u8, u9, u10, u11, u12] 30)
  have hb2 := hb1.alloc hb1.size (.cells #[.int .i64 0, .slice none 0 0, .string ⟨#[]⟩, .bool false] 32)
  have hkc : ((w.alloc (.cells #[u0, u1, u2, u3, u4, u5, u6, u7, u8, u9, u10, u11, u12] 30)).alloc (.cells #[.int .i64 0, .slice none 0 0, .string ⟨#[]⟩, .bool false] 32)).heap[w.heap.size]? = some (.cells #[u0, u1, u2, u3, u4, u5, u6, u7, u8, u9, u10, u11, u12] 30 (0, 0)) :=
    (Below.heap_alloc _ _ _ (by simp)).trans (heap_alloc_new w _)
  have hkr : ((w.alloc (.cells #[u0, u1, u2, u3, u4, u5, u6, u7, u8, u9, u10, u11, u12] 30)).alloc (.cells #[.int .i64 0, .slice none 0 0, .string ⟨#[]⟩, .bool false] 32)).heap[w.heap.size + 1]? = some (.cells #[.int .i64 0, .slice none 0 0, .string ⟨#[]⟩, .bool false] 32 (0, 0)) := by
    have := heap_alloc_new (w.alloc (.cells #[u0, u1, u2, u3, u4, u5, u6, u7, u8, u9, u10, u11, u12] 30)) (.cells #[.int .i64 0, .slice none 0 0, .string ⟨#[]⟩, .bool false] 32)
    simpa using this
  have c0 := blk_cell hkc 0; have c1 := blk_cell hkc 1; have c2 := blk_cell hkc 2; have c3 := blk_cell hkc 3; have c4 := blk_cell hkc 4; have c5 := blk_cell hkc 5; have c6 := blk_cell hkc 6
  have c7 := blk_cell hkc 7; have c8 := blk_cell hkc 8; have c9 := blk_cell hkc 9; have c10 := blk_cell hkc 10; have c11 := blk_cell hkc 11; have c12 := blk_cell hkc 12
  simp only [List.getElem?_toArray, List.getElem?_cons_zero, List.getElem?_cons_succ] at c0 c1 c2 c3 c4 c5 c6 c7 c8 c9 c10 c11 c12
  have HC := Lib.hid hkc; have HR := Lib.hid hkr; have HB := Lib.hid hb2
  clear hkc hkr hb1 hb2
  generalize hw2 : (w.alloc (.cells #[u0, u1, u2, u3, u4, u5, u6, u7, u8, u9, u10, u11, u12] 30)).alloc (.cells #[.int .i64 0, .slice none 0 0, .string ⟨#[]⟩, .bool false] 32) = w2 at *
  have hkR := HR.out
  have r0 := blk_cell hkR 0; have r1 := blk_cell hkR 1; have r2 := blk_cell hkR 2; have r3 := blk_cell hkR 3
  have z0 := blk_free hkR 0; have z1 := blk_free hkR 1; have z2 := blk_free hkR 2; have z3 := blk_free hkR 3
  simp only [List.getElem?_toArray, List.getElem?_cons_zero, List.getElem?_cons_succ] at r0 r1 r2 r3
  have hgv2 := (HB.out.block gg (Nat.lt_of_lt_of_le (blk_lt hgv) hw.size)).trans ((hw.block gg (blk_lt hgv) hgg).trans hgv)
  have gv := blk_cell hgv2 0
  simp only [List.getElem?_toArray, List.getElem?_cons_zero] at gv
  clear hgv hgv2
  have hkg : w2.heap[g]? = some (.cells #[.int .i64 st, .slice A l.length n, .string b, .bool cl] 32 (0, 0)) := (HB.out.block g (Nat.lt_of_lt_of_le (blk_lt hr) hw.size)).trans ((hw.block g (blk_lt hr) hgr).trans hr)
  have v0 := blk_cell hkg 0; have v1 := blk_cell hkg 1; have v2 := blk_cell hkg 2; have v3 := blk_cell hkg 3
  simp only [List.getElem?_toArray, List.getElem?_cons_zero, List.getElem?_cons_succ] at v0 v1 v2 v3
  have hsn : w2.heap[gn]? = some (.cells #[.int .i64 0] 3 (0, 0)) := (HB.out.block gn (Nat.lt_of_lt_of_le hgn hw.size)).trans hs
  have y0 := blk_cell hsn 0
  have y1 := blk_free hsn 0
  simp only [List.getElem?_toArray, List.getElem?_cons_zero] at y0
  have hgnw : gn < w.heap.size := Nat.lt_of_lt_of_le hgn hw.size
  have hne1 : w.heap.size + 1 ≠ gn := by omega
  have HS := Lib.hid hsn
  have HW := Lib.hid (hrow.frm (hw.on HB.out))
  have HL := Lib.hid hl
  have hrl : ∀ a, A = some a → l ≠ [] → a.block < w.heap.size ∧ a.block ≠ gn := fun a e hne => by
    obtain ⟨a', e', h1, h2, _⟩ := hrow hne
    rw [e] at e'; cases e'
    exact ⟨Nat.lt_of_lt_of_le h1 hw.size, h2⟩
  have HRL := Lib.hid hrl
  clear hkR hkg hr hrow hl hrl hsn hs
  generalize hN : l.length = m' at *
  go_enter Tryd.func12, Tryd.ntmps12
  go_wp2_with fail
  exact ⟨rfl, ⟨_, _, rfl⟩, (Frm.of (P := atP gn) HB.out).set gn 0 _ (.inr rfl), set_same 0 HS.out⟩

end Go.Proofs.YtmncchgifgjhgaaDoor
