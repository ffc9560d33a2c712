/- The closures of the links: Known, Small, Guard, Routed, and the chain's own. -/
import Derived.Test.YtmncchgifgjhgaaDoorCg
namespace Go.Proofs.YtmncchgifgjhgaaDoor
open Go.RowKit Go.Shelf

theorem row_new {P : Nat → Prop} {w : World} {g : Nat} {a b : ByteArray} (h : w.heap[g]? = some (.cells #[.string a, .string b] 42 (0, 0))) (hp : ¬ P g) : Row P w (some ⟨g, 0, none⟩) [(a, b)] := fun _ =>
  ⟨_, rfl, blk_lt h, hp, fun j u hu => by
    rw [add_zero_own]
    show w.cell? ⟨g, j, none⟩ = _
    rw [blk_cell h j]
    simpa [fldCells] using hu⟩
def getB : ByteArray := ⟨#[71, 69, 84]⟩
def putB : ByteArray := ⟨#[80, 85, 84]⟩
def postB : ByteArray := ⟨#[80, 79, 83, 84]⟩
def delB : ByteArray := ⟨#[68, 69, 76, 69, 84, 69]⟩

set_option maxRecDepth 100000 in
set_option maxHeartbeats 4000000 in
theorem all1_hd {P : Nat → Prop} {S0 S1 : World → Prop} {o : Out} {w0 : World} {hv : Value} {g : Nat} {u0 u1 u2 u3 u4 u5 u6 u7 u8 u9 u10 u11 u12 : Value}
    (h : Hd P S0 S1 (.agg #[u0, u1, u2, u3, u4, u5, u6, u7, u8, u9, u10, u11, u12]) o w0 hv) (hp : ∀ j, P j → j < w0.heap.size) (h0 : Of P S0) (h1 : Of P S1) (hg : g < w0.heap.size) (hgp : ¬ P g) (hbx : w0.cell? ⟨g, 0, none⟩ = some hv) :
    Hd P S0 S1 (.agg #[u0, u1, u2, u3, u4, u5, u6, u7, u8, u9, u10, u11, u12]) (o) w0 (.func (.func 33) #[] #[.pointer (some ⟨g, 0, none⟩)]) := by
  refine ⟨33, _, rfl, enters_of Tryd.func33 (by kernel_rfl) rfl, fun w hw hs => ?_⟩
  show Calls Tryd.prog 33 #[.agg #[u0, u1, u2, u3, u4, u5, u6, u7, u8, u9, u10, u11, u12], .pointer (some ⟨g, 0, none⟩)] w _
  have hb1 := (Below.refl w.heap.size w).alloc (Nat.le_refl _) (.cells #[u0, u1, u2, u3, u4, u5, u6, u7, u8, u9, u10, u11, u12] 30)
  have hb2 := hb1.alloc hb1.size (.cells #[.int .i64 0, .slice none 0 0, .string ⟨#[]⟩, .bool false] 32)
  have hkc : ((w.alloc (.cells #[u0, u1, u2, u3, u4, u5, u6, u7, u8, u9, u10, u11, u12] 30)).alloc (.cells #[.int .i64 0, .slice none 0 0, .string ⟨#[]⟩, .bool false] 32)).heap[w.heap.size]? = some (.cells #[u0, u1, u2, u3, u4, u5, u6, u7, u8, u9, u10, u11, u12] 30 (0, 0)) :=
    (Below.heap_alloc _ _ _ (by simp)).trans (heap_alloc_new w _)
  have hkr : ((w.alloc (.cells #[u0, u1, u2, u3, u4, u5, u6, u7, u8, u9, u10, u11, u12] 30)).alloc (.cells #[.int .i64 0, .slice none 0 0, .string ⟨#[]⟩, .bool false] 32)).heap[w.heap.size + 1]? = some (.cells #[.int .i64 0, .slice none 0 0, .string ⟨#[]⟩, .bool false] 32 (0, 0)) := by
    have := heap_alloc_new (w.alloc (.cells #[u0, u1, u2, u3, u4, u5, u6, u7, u8, u9, u10, u11, u12] 30)) (.cells #[.int .i64 0, .slice none 0 0, .string ⟨#[]⟩, .bool false] 32)
    simpa using this
  have c0 := blk_cell hkc 0; have c1 := blk_cell hkc 1; have c2 := blk_cell hkc 2; have c3 := blk_cell hkc 3; have c4 := blk_cell hkc 4; have c5 := blk_cell hkc 5; have c6 := blk_cell hkc 6
  have c7 := blk_cell hkc 7; have c8 := blk_cell hkc 8; have c9 := blk_cell hkc 9; have c10 := blk_cell hkc 10; have c11 := blk_cell hkc 11; have c12 := blk_cell hkc 12
  simp only [List.getElem?_toArray, List.getElem?_cons_zero, List.getElem?_cons_succ] at c0 c1 c2 c3 c4 c5 c6 c7 c8 c9 c10 c11 c12
  have HC := Lib.hid hkc; have HR := Lib.hid hkr; have HB := Lib.hid hb2
  have hnp := hp
  have hn3 : ¬ P (w.heap.size + 1) := fun q => by have := hp _ q; have := hw.size; omega
  have hx : (((w.alloc (.cells #[u0, u1, u2, u3, u4, u5, u6, u7, u8, u9, u10, u11, u12] 30)).alloc (.cells #[.int .i64 0, .slice none 0 0, .string ⟨#[]⟩, .bool false] 32)).cell? ⟨g, 0, none⟩) = some hv := (hb2.cell (p := ⟨g, 0, none⟩) (Nat.lt_of_lt_of_le hg hw.size)).trans ((World.cell?_of_block (hw.block g hg hgp)).trans hbx)
  clear hkc hkr hb1 hb2
  generalize hw2 : (w.alloc (.cells #[u0, u1, u2, u3, u4, u5, u6, u7, u8, u9, u10, u11, u12] 30)).alloc (.cells #[.int .i64 0, .slice none 0 0, .string ⟨#[]⟩, .bool false] 32) = w2 at *
  have HK := Lib.hid (ask_any h hp h0 h1 w2 (hw.on HB.out) (h0.on hs HB.out fun j hj => Nat.lt_of_lt_of_le (hp j hj) hw.size))
  clear h hbx hs
  go_enter Tryd.func33, Tryd.ntmps33
  go_wp2_with fail
  refine HK.out.mono ?_
  rintro e w3 ⟨he, hf3, hs3⟩
  have hk3 := (hf3.block _ (blk_lt HR.out) hn3).trans HR.out
  have HX := Lib.hid (And.intro hf3 (And.intro hs3 hk3))
  clear hf3 hs3 c0 c1 c2 c3 c4 c5 c6 c7 c8 c9 c10 c11 c12 HK hx
  cases o with
  | gone =>
    obtain ⟨u, pv, rfl⟩ := he
    go_wp2_with fail
    exact ⟨rfl, ⟨u, pv, rfl⟩, (Frm.of HB.out).trans HX.out.1, HX.out.2.1⟩
  | ans st l b cl =>
    obtain ⟨A, n, rfl, hrow, hl, hge⟩ := he
    have HW := Lib.hid (And.intro hrow (And.intro hl hge))
    have r0 := blk_cell hk3 0; have r1 := blk_cell hk3 1; have r2 := blk_cell hk3 2; have r3 := blk_cell hk3 3
    have z0 := blk_free hk3 0; have z1 := blk_free hk3 1; have z2 := blk_free hk3 2; have z3 := blk_free hk3 3
    simp only [List.getElem?_toArray, List.getElem?_cons_zero, List.getElem?_cons_succ] at r0 r1 r2 r3
    clear hk3 hrow hl hge
    generalize hN : l.length = m' at *
    go_wp2_with fail
    subst hN
    refine put4_ret (W := w3) Tryd.results33 HX.out.2.2 (.int .i64 st) (.slice A l.length n) (.string b) (.bool cl) rfl rfl ?_
    have hlt := blk_lt HR.out
    refine ⟨⟨A, n, rfl, HW.out.1.put4 _ _ _ _ _ (fun a e => by have := HW.out.2.2 a e; omega), HW.out.2.1, fun a e => Nat.zero_le _⟩, ((Frm.of HB.out).trans HX.out.1).put4 _ _ _ _ _ (by omega), h1.put4 HX.out.2.1 _ _ _ _ _ hn3⟩

set_option maxRecDepth 100000 in
set_option maxHeartbeats 4000000 in
theorem known_get {P : Nat → Prop} {S0 S1 : World → Prop} {o : Out} {w0 : World} {hv : Value} {g : Nat} {u1 u2 u3 u4 u5 u6 u7 u8 u9 u10 u11 u12 : Value}
    (h : Hd P S0 S1 (.agg #[.string ⟨#[71, 69, 84]⟩, u1, u2, u3, u4, u5, u6, u7, u8, u9, u10, u11, u12]) o w0 hv) (hp : ∀ j, P j → j < w0.heap.size) (h0 : Of P S0) (h1 : Of P S1) (hg : g < w0.heap.size) (hgp : ¬ P g) (hbx : w0.cell? ⟨g, 0, none⟩ = some hv) :
    Hd P S0 S1 (.agg #[.string ⟨#[71, 69, 84]⟩, u1, u2, u3, u4, u5, u6, u7, u8, u9, u10, u11, u12]) (o) w0 (.func (.func 35) #[] #[.pointer (some ⟨g, 0, none⟩)]) := by
  refine ⟨35, _, rfl, enters_of Tryd.func35 (by kernel_rfl) rfl, fun w hw hs => ?_⟩
  show Calls Tryd.prog 35 #[.agg #[.string ⟨#[71, 69, 84]⟩, u1, u2, u3, u4, u5, u6, u7, u8, u9, u10, u11, u12], .pointer (some ⟨g, 0, none⟩)] w _
  have hb1 := (Below.refl w.heap.size w).alloc (Nat.le_refl _) (.cells #[.string ⟨#[71, 69, 84]⟩, u1, u2, u3, u4, u5, u6, u7, u8, u9, u10, u11, u12] 30)
  have hb2 := hb1.alloc hb1.size (.cells #[.int .i64 0, .slice none 0 0, .string ⟨#[]⟩, .bool false] 32)
  have hkc : ((w.alloc (.cells #[.string ⟨#[71, 69, 84]⟩, u1, u2, u3, u4, u5, u6, u7, u8, u9, u10, u11, u12] 30)).alloc (.cells #[.int .i64 0, .slice none 0 0, .string ⟨#[]⟩, .bool false] 32)).heap[w.heap.size]? = some (.cells #[.string ⟨#[71, 69, 84]⟩, u1, u2, u3, u4, u5, u6, u7, u8, u9, u10, u11, u12] 30 (0, 0)) :=
    (Below.heap_alloc _ _ _ (by simp)).trans (heap_alloc_new w _)
  have hkr : ((w.alloc (.cells #[.string ⟨#[71, 69, 84]⟩, u1, u2, u3, u4, u5, u6, u7, u8, u9, u10, u11, u12] 30)).alloc (.cells #[.int .i64 0, .slice none 0 0, .string ⟨#[]⟩, .bool false] 32)).heap[w.heap.size + 1]? = some (.cells #[.int .i64 0, .slice none 0 0, .string ⟨#[]⟩, .bool false] 32 (0, 0)) := by
    have := heap_alloc_new (w.alloc (.cells #[.string ⟨#[71, 69, 84]⟩, u1, u2, u3, u4, u5, u6, u7, u8, u9, u10, u11, u12] 30)) (.cells #[.int .i64 0, .slice none 0 0, .string ⟨#[]⟩, .bool false] 32)
    simpa using this
  have c0 := blk_cell hkc 0; have c1 := blk_cell hkc 1; have c2 := blk_cell hkc 2; have c3 := blk_cell hkc 3; have c4 := blk_cell hkc 4; have c5 := blk_cell hkc 5; have c6 := blk_cell hkc 6
  have c7 := blk_cell hkc 7; have c8 := blk_cell hkc 8; have c9 := blk_cell hkc 9; have c10 := blk_cell hkc 10; have c11 := blk_cell hkc 11; have c12 := blk_cell hkc 12
  simp only [List.getElem?_toArray, List.getElem?_cons_zero, List.getElem?_cons_succ] at c0 c1 c2 c3 c4 c5 c6 c7 c8 c9 c10 c11 c12
  have HC := Lib.hid hkc; have HR := Lib.hid hkr; have HB := Lib.hid hb2
  have hnp := hp
  have hn3 : ¬ P (w.heap.size + 1) := fun q => by have := hp _ q; have := hw.size; omega
  have hx : (((w.alloc (.cells #[.string ⟨#[71, 69, 84]⟩, u1, u2, u3, u4, u5, u6, u7, u8, u9, u10, u11, u12] 30)).alloc (.cells #[.int .i64 0, .slice none 0 0, .string ⟨#[]⟩, .bool false] 32)).cell? ⟨g, 0, none⟩) = some hv := (hb2.cell (p := ⟨g, 0, none⟩) (Nat.lt_of_lt_of_le hg hw.size)).trans ((World.cell?_of_block (hw.block g hg hgp)).trans hbx)
  clear hkc hkr hb1 hb2
  generalize hw2 : (w.alloc (.cells #[.string ⟨#[71, 69, 84]⟩, u1, u2, u3, u4, u5, u6, u7, u8, u9, u10, u11, u12] 30)).alloc (.cells #[.int .i64 0, .slice none 0 0, .string ⟨#[]⟩, .bool false] 32) = w2 at *
  have HK := Lib.hid (ask_any h hp h0 h1 w2 (hw.on HB.out) (h0.on hs HB.out fun j hj => Nat.lt_of_lt_of_le (hp j hj) hw.size))
  clear h hbx hs
  go_enter Tryd.func35, Tryd.ntmps35
  go_wp2_with fail
  refine HK.out.mono ?_
  rintro e w3 ⟨he, hf3, hs3⟩
  have hk3 := (hf3.block _ (blk_lt HR.out) hn3).trans HR.out
  have HX := Lib.hid (And.intro hf3 (And.intro hs3 hk3))
  clear hf3 hs3 c0 c1 c2 c3 c4 c5 c6 c7 c8 c9 c10 c11 c12 HK hx
  cases o with
  | gone =>
    obtain ⟨u, pv, rfl⟩ := he
    go_wp2_with fail
    exact ⟨rfl, ⟨u, pv, rfl⟩, (Frm.of HB.out).trans HX.out.1, HX.out.2.1⟩
  | ans st l b cl =>
    obtain ⟨A, n, rfl, hrow, hl, hge⟩ := he
    have HW := Lib.hid (And.intro hrow (And.intro hl hge))
    have r0 := blk_cell hk3 0; have r1 := blk_cell hk3 1; have r2 := blk_cell hk3 2; have r3 := blk_cell hk3 3
    have z0 := blk_free hk3 0; have z1 := blk_free hk3 1; have z2 := blk_free hk3 2; have z3 := blk_free hk3 3
    simp only [List.getElem?_toArray, List.getElem?_cons_zero, List.getElem?_cons_succ] at r0 r1 r2 r3
    clear hk3 hrow hl hge
    generalize hN : l.length = m' at *
    go_wp2_with fail
    subst hN
    refine put4_ret (W := w3) Tryd.results35 HX.out.2.2 (.int .i64 st) (.slice A l.length n) (.string b) (.bool cl) rfl rfl ?_
    have hlt := blk_lt HR.out
    refine ⟨⟨A, n, rfl, HW.out.1.put4 _ _ _ _ _ (fun a e => by have := HW.out.2.2 a e; omega), HW.out.2.1, fun a e => Nat.zero_le _⟩, ((Frm.of HB.out).trans HX.out.1).put4 _ _ _ _ _ (by omega), h1.put4 HX.out.2.1 _ _ _ _ _ hn3⟩

set_option maxRecDepth 100000 in
set_option maxHeartbeats 4000000 in
theorem known_put {P : Nat → Prop} {S0 S1 : World → Prop} {o : Out} {w0 : World} {hv : Value} {g : Nat} {u1 u2 u3 u4 u5 u6 u7 u8 u9 u10 u11 u12 : Value}
    (h : Hd P S0 S1 (.agg #[.string ⟨#[80, 85, 84]⟩, u1, u2, u3, u4, u5, u6, u7, u8, u9, u10, u11, u12]) o w0 hv) (hp : ∀ j, P j → j < w0.heap.size) (h0 : Of P S0) (h1 : Of P S1) (hg : g < w0.heap.size) (hgp : ¬ P g) (hbx : w0.cell? ⟨g, 0, none⟩ = some hv) :
    Hd P S0 S1 (.agg #[.string ⟨#[80, 85, 84]⟩, u1, u2, u3, u4, u5, u6, u7, u8, u9, u10, u11, u12]) (o) w0 (.func (.func 35) #[] #[.pointer (some ⟨g, 0, none⟩)]) := by
  refine ⟨35, _, rfl, enters_of Tryd.func35 (by kernel_rfl) rfl, fun w hw hs => ?_⟩
  show Calls Tryd.prog 35 #[.agg #[.string ⟨#[80, 85, 84]⟩, u1, u2, u3, u4, u5, u6, u7, u8, u9, u10, u11, u12], .pointer (some ⟨g, 0, none⟩)] w _
  have hb1 := (Below.refl w.heap.size w).alloc (Nat.le_refl _) (.cells #[.string ⟨#[80, 85, 84]⟩, u1, u2, u3, u4, u5, u6, u7, u8, u9, u10, u11, u12] 30)
  have hb2 := hb1.alloc hb1.size (.cells #[.int .i64 0, .slice none 0 0, .string ⟨#[]⟩, .bool false] 32)
  have hkc : ((w.alloc (.cells #[.string ⟨#[80, 85, 84]⟩, u1, u2, u3, u4, u5, u6, u7, u8, u9, u10, u11, u12] 30)).alloc (.cells #[.int .i64 0, .slice none 0 0, .string ⟨#[]⟩, .bool false] 32)).heap[w.heap.size]? = some (.cells #[.string ⟨#[80, 85, 84]⟩, u1, u2, u3, u4, u5, u6, u7, u8, u9, u10, u11, u12] 30 (0, 0)) :=
    (Below.heap_alloc _ _ _ (by simp)).trans (heap_alloc_new w _)
  have hkr : ((w.alloc (.cells #[.string ⟨#[80, 85, 84]⟩, u1, u2, u3, u4, u5, u6, u7, u8, u9, u10, u11, u12] 30)).alloc (.cells #[.int .i64 0, .slice none 0 0, .string ⟨#[]⟩, .bool false] 32)).heap[w.heap.size + 1]? = some (.cells #[.int .i64 0, .slice none 0 0, .string ⟨#[]⟩, .bool false] 32 (0, 0)) := by
    have := heap_alloc_new (w.alloc (.cells #[.string ⟨#[80, 85, 84]⟩, u1, u2, u3, u4, u5, u6, u7, u8, u9, u10, u11, u12] 30)) (.cells #[.int .i64 0, .slice none 0 0, .string ⟨#[]⟩, .bool false] 32)
    simpa using this
  have c0 := blk_cell hkc 0; have c1 := blk_cell hkc 1; have c2 := blk_cell hkc 2; have c3 := blk_cell hkc 3; have c4 := blk_cell hkc 4; have c5 := blk_cell hkc 5; have c6 := blk_cell hkc 6
  have c7 := blk_cell hkc 7; have c8 := blk_cell hkc 8; have c9 := blk_cell hkc 9; have c10 := blk_cell hkc 10; have c11 := blk_cell hkc 11; have c12 := blk_cell hkc 12
  simp only [List.getElem?_toArray, List.getElem?_cons_zero, List.getElem?_cons_succ] at c0 c1 c2 c3 c4 c5 c6 c7 c8 c9 c10 c11 c12
  have HC := Lib.hid hkc; have HR := Lib.hid hkr; have HB := Lib.hid hb2
  have hnp := hp
  have hn3 : ¬ P (w.heap.size + 1) := fun q => by have := hp _ q; have := hw.size; omega
  have hx : (((w.alloc (.cells #[.string ⟨#[80, 85, 84]⟩, u1, u2, u3, u4, u5, u6, u7, u8, u9, u10, u11, u12] 30)).alloc (.cells #[.int .i64 0, .slice none 0 0, .string ⟨#[]⟩, .bool false] 32)).cell? ⟨g, 0, none⟩) = some hv := (hb2.cell (p := ⟨g, 0, none⟩) (Nat.lt_of_lt_of_le hg hw.size)).trans ((World.cell?_of_block (hw.block g hg hgp)).trans hbx)
  clear hkc hkr hb1 hb2
  generalize hw2 : (w.alloc (.cells #[.string ⟨#[80, 85, 84]⟩, u1, u2, u3, u4, u5, u6, u7, u8, u9, u10, u11, u12] 30)).alloc (.cells #[.int .i64 0, .slice none 0 0, .string ⟨#[]⟩, .bool false] 32) = w2 at *
  have HK := Lib.hid (ask_any h hp h0 h1 w2 (hw.on HB.out) (h0.on hs HB.out fun j hj => Nat.lt_of_lt_of_le (hp j hj) hw.size))
  clear h hbx hs
  go_enter Tryd.func35, Tryd.ntmps35
  go_wp2_with fail
  refine HK.out.mono ?_
  rintro e w3 ⟨he, hf3, hs3⟩
  have hk3 := (hf3.block _ (blk_lt HR.out) hn3).trans HR.out
  have HX := Lib.hid (And.intro hf3 (And.intro hs3 hk3))
  clear hf3 hs3 c0 c1 c2 c3 c4 c5 c6 c7 c8 c9 c10 c11 c12 HK hx
  cases o with
  | gone =>
    obtain ⟨u, pv, rfl⟩ := he
    go_wp2_with fail
    exact ⟨rfl, ⟨u, pv, rfl⟩, (Frm.of HB.out).trans HX.out.1, HX.out.2.1⟩
  | ans st l b cl =>
    obtain ⟨A, n, rfl, hrow, hl, hge⟩ := he
    have HW := Lib.hid (And.intro hrow (And.intro hl hge))
    have r0 := blk_cell hk3 0; have r1 := blk_cell hk3 1; have r2 := blk_cell hk3 2; have r3 := blk_cell hk3 3
    have z0 := blk_free hk3 0; have z1 := blk_free hk3 1; have z2 := blk_free hk3 2; have z3 := blk_free hk3 3
    simp only [List.getElem?_toArray, List.getElem?_cons_zero, List.getElem?_cons_succ] at r0 r1 r2 r3
    clear hk3 hrow hl hge
    generalize hN : l.length = m' at *
    go_wp2_with fail
    subst hN
    refine put4_ret (W := w3) Tryd.results35 HX.out.2.2 (.int .i64 st) (.slice A l.length n) (.string b) (.bool cl) rfl rfl ?_
    have hlt := blk_lt HR.out
    refine ⟨⟨A, n, rfl, HW.out.1.put4 _ _ _ _ _ (fun a e => by have := HW.out.2.2 a e; omega), HW.out.2.1, fun a e => Nat.zero_le _⟩, ((Frm.of HB.out).trans HX.out.1).put4 _ _ _ _ _ (by omega), h1.put4 HX.out.2.1 _ _ _ _ _ hn3⟩

set_option maxRecDepth 100000 in
set_option maxHeartbeats 4000000 in
theorem known_post {P : Nat → Prop} {S0 S1 : World → Prop} {o : Out} {w0 : World} {hv : Value} {g : Nat} {u1 u2 u3 u4 u5 u6 u7 u8 u9 u10 u11 u12 : Value}
    (h : Hd P S0 S1 (.agg #[.string ⟨#[80, 79, 83, 84]⟩, u1, u2, u3, u4, u5, u6, u7, u8, u9, u10, u11, u12]) o w0 hv) (hp : ∀ j, P j → j < w0.heap.size) (h0 : Of P S0) (h1 : Of P S1) (hg : g < w0.heap.size) (hgp : ¬ P g) (hbx : w0.cell? ⟨g, 0, none⟩ = some hv) :
    Hd P S0 S1 (.agg #[.string ⟨#[80, 79, 83, 84]⟩, u1, u2, u3, u4, u5, u6, u7, u8, u9, u10, u11, u12]) (o) w0 (.func (.func 35) #[] #[.pointer (some ⟨g, 0, none⟩)]) := by
  refine ⟨35, _, rfl, enters_of Tryd.func35 (by kernel_rfl) rfl, fun w hw hs => ?_⟩
  show Calls Tryd.prog 35 #[.agg #[.string ⟨#[80, 79, 83, 84]⟩, u1, u2, u3, u4, u5, u6, u7, u8, u9, u10, u11, u12], .pointer (some ⟨g, 0, none⟩)] w _
  have hb1 := (Below.refl w.heap.size w).alloc (Nat.le_refl _) (.cells #[.string ⟨#[80, 79, 83, 84]⟩, u1, u2, u3, u4, u5, u6, u7, u8, u9, u10, u11, u12] 30)
  have hb2 := hb1.alloc hb1.size (.cells #[.int .i64 0, .slice none 0 0, .string ⟨#[]⟩, .bool false] 32)
  have hkc : ((w.alloc (.cells #[.string ⟨#[80, 79, 83, 84]⟩, u1, u2, u3, u4, u5, u6, u7, u8, u9, u10, u11, u12] 30)).alloc (.cells #[.int .i64 0, .slice none 0 0, .string ⟨#[]⟩, .bool false] 32)).heap[w.heap.size]? = some (.cells #[.string ⟨#[80, 79, 83, 84]⟩, u1, u2, u3, u4, u5, u6, u7, u8, u9, u10, u11, u12] 30 (0, 0)) :=
    (Below.heap_alloc _ _ _ (by simp)).trans (heap_alloc_new w _)
  have hkr : ((w.alloc (.cells #[.string ⟨#[80, 79, 83, 84]⟩, u1, u2, u3, u4, u5, u6, u7, u8, u9, u10, u11, u12] 30)).alloc (.cells #[.int .i64 0, .slice none 0 0, .string ⟨#[]⟩, .bool false] 32)).heap[w.heap.size + 1]? = some (.cells #[.int .i64 0, .slice none 0 0, .string ⟨#[]⟩, .bool false] 32 (0, 0)) := by
    have := heap_alloc_new (w.alloc (.cells #[.string ⟨#[80, 79, 83, 84]⟩, u1, u2, u3, u4, u5, u6, u7, u8, u9, u10, u11, u12] 30)) (.cells #[.int .i64 0, .slice none 0 0, .string ⟨#[]⟩, .bool false] 32)
    simpa using this
  have c0 := blk_cell hkc 0; have c1 := blk_cell hkc 1; have c2 := blk_cell hkc 2; have c3 := blk_cell hkc 3; have c4 := blk_cell hkc 4; have c5 := blk_cell hkc 5; have c6 := blk_cell hkc 6
  have c7 := blk_cell hkc 7; have c8 := blk_cell hkc 8; have c9 := blk_cell hkc 9; have c10 := blk_cell hkc 10; have c11 := blk_cell hkc 11; have c12 := blk_cell hkc 12
  simp only [List.getElem?_toArray, List.getElem?_cons_zero, List.getElem?_cons_succ] at c0 c1 c2 c3 c4 c5 c6 c7 c8 c9 c10 c11 c12
  have HC := Lib.hid hkc; have HR := Lib.hid hkr; have HB := Lib.hid hb2
  have hnp := hp
  have hn3 : ¬ P (w.heap.size + 1) := fun q => by have := hp _ q; have := hw.size; omega
  have hx : (((w.alloc (.cells #[.string ⟨#[80, 79, 83, 84]⟩, u1, u2, u3, u4, u5, u6, u7, u8, u9, u10, u11, u12] 30)).alloc (.cells #[.int .i64 0, .slice none 0 0, .string ⟨#[]⟩, .bool false] 32)).cell? ⟨g, 0, none⟩) = some hv := (hb2.cell (p := ⟨g, 0, none⟩) (Nat.lt_of_lt_of_le hg hw.size)).trans ((World.cell?_of_block (hw.block g hg hgp)).trans hbx)
  clear hkc hkr hb1 hb2
  generalize hw2 : (w.alloc (.cells #[.string ⟨#[80, 79, 83, 84]⟩, u1, u2, u3, u4, u5, u6, u7, u8, u9, u10, u11, u12] 30)).alloc (.cells #[.int .i64 0, .slice none 0 0, .string ⟨#[]⟩, .bool false] 32) = w2 at *
  have HK := Lib.hid (ask_any h hp h0 h1 w2 (hw.on HB.out) (h0.on hs HB.out fun j hj => Nat.lt_of_lt_of_le (hp j hj) hw.size))
  clear h hbx hs
  go_enter Tryd.func35, Tryd.ntmps35
  go_wp2_with fail
  refine HK.out.mono ?_
  rintro e w3 ⟨he, hf3, hs3⟩
  have hk3 := (hf3.block _ (blk_lt HR.out) hn3).trans HR.out
  have HX := Lib.hid (And.intro hf3 (And.intro hs3 hk3))
  clear hf3 hs3 c0 c1 c2 c3 c4 c5 c6 c7 c8 c9 c10 c11 c12 HK hx
  cases o with
  | gone =>
    obtain ⟨u, pv, rfl⟩ := he
    go_wp2_with fail
    exact ⟨rfl, ⟨u, pv, rfl⟩, (Frm.of HB.out).trans HX.out.1, HX.out.2.1⟩
  | ans st l b cl =>
    obtain ⟨A, n, rfl, hrow, hl, hge⟩ := he
    have HW := Lib.hid (And.intro hrow (And.intro hl hge))
    have r0 := blk_cell hk3 0; have r1 := blk_cell hk3 1; have r2 := blk_cell hk3 2; have r3 := blk_cell hk3 3
    have z0 := blk_free hk3 0; have z1 := blk_free hk3 1; have z2 := blk_free hk3 2; have z3 := blk_free hk3 3
    simp only [List.getElem?_toArray, List.getElem?_cons_zero, List.getElem?_cons_succ] at r0 r1 r2 r3
    clear hk3 hrow hl hge
    generalize hN : l.length = m' at *
    go_wp2_with fail
    subst hN
    refine put4_ret (W := w3) Tryd.results35 HX.out.2.2 (.int .i64 st) (.slice A l.length n) (.string b) (.bool cl) rfl rfl ?_
    have hlt := blk_lt HR.out
    refine ⟨⟨A, n, rfl, HW.out.1.put4 _ _ _ _ _ (fun a e => by have := HW.out.2.2 a e; omega), HW.out.2.1, fun a e => Nat.zero_le _⟩, ((Frm.of HB.out).trans HX.out.1).put4 _ _ _ _ _ (by omega), h1.put4 HX.out.2.1 _ _ _ _ _ hn3⟩

set_option maxRecDepth 100000 in
set_option maxHeartbeats 4000000 in
theorem known_del {P : Nat → Prop} {S0 S1 : World → Prop} {o : Out} {w0 : World} {hv : Value} {g : Nat} {u1 u2 u3 u4 u5 u6 u7 u8 u9 u10 u11 u12 : Value}
    (h : Hd P S0 S1 (.agg #[.string ⟨#[68, 69, 76, 69, 84, 69]⟩, u1, u2, u3, u4, u5, u6, u7, u8, u9, u10, u11, u12]) o w0 hv) (hp : ∀ j, P j → j < w0.heap.size) (h0 : Of P S0) (h1 : Of P S1) (hg : g < w0.heap.size) (hgp : ¬ P g) (hbx : w0.cell? ⟨g, 0, none⟩ = some hv) :
    Hd P S0 S1 (.agg #[.string ⟨#[68, 69, 76, 69, 84, 69]⟩, u1, u2, u3, u4, u5, u6, u7, u8, u9, u10, u11, u12]) (o) w0 (.func (.func 35) #[] #[.pointer (some ⟨g, 0, none⟩)]) := by
  refine ⟨35, _, rfl, enters_of Tryd.func35 (by kernel_rfl) rfl, fun w hw hs => ?_⟩
  show Calls Tryd.prog 35 #[.agg #[.string ⟨#[68, 69, 76, 69, 84, 69]⟩, u1, u2, u3, u4, u5, u6, u7, u8, u9, u10, u11, u12], .pointer (some ⟨g, 0, none⟩)] w _
  have hb1 := (Below.refl w.heap.size w).alloc (Nat.le_refl _) (.cells #[.string ⟨#[68, 69, 76, 69, 84, 69]⟩, u1, u2, u3, u4, u5, u6, u7, u8, u9, u10, u11, u12] 30)
  have hb2 := hb1.alloc hb1.size (.cells #[.int .i64 0, .slice none 0 0, .string ⟨#[]⟩, .bool false] 32)
  have hkc : ((w.alloc (.cells #[.string ⟨#[68, 69, 76, 69, 84, 69]⟩, u1, u2, u3, u4, u5, u6, u7, u8, u9, u10, u11, u12] 30)).alloc (.cells #[.int .i64 0, .slice none 0 0, .string ⟨#[]⟩, .bool false] 32)).heap[w.heap.size]? = some (.cells #[.string ⟨#[68, 69, 76, 69, 84, 69]⟩, u1, u2, u3, u4, u5, u6, u7, u8, u9, u10, u11, u12] 30 (0, 0)) :=
    (Below.heap_alloc _ _ _ (by simp)).trans (heap_alloc_new w _)
  have hkr : ((w.alloc (.cells #[.string ⟨#[68, 69, 76, 69, 84, 69]⟩, u1, u2, u3, u4, u5, u6, u7, u8, u9, u10, u11, u12] 30)).alloc (.cells #[.int .i64 0, .slice none 0 0, .string ⟨#[]⟩, .bool false] 32)).heap[w.heap.size + 1]? = some (.cells #[.int .i64 0, .slice none 0 0, .string ⟨#[]⟩, .bool false] 32 (0, 0)) := by
    have := heap_alloc_new (w.alloc (.cells #[.string ⟨#[68, 69, 76, 69, 84, 69]⟩, u1, u2, u3, u4, u5, u6, u7, u8, u9, u10, u11, u12] 30)) (.cells #[.int .i64 0, .slice none 0 0, .string ⟨#[]⟩, .bool false] 32)
    simpa using this
  have c0 := blk_cell hkc 0; have c1 := blk_cell hkc 1; have c2 := blk_cell hkc 2; have c3 := blk_cell hkc 3; have c4 := blk_cell hkc 4; have c5 := blk_cell hkc 5; have c6 := blk_cell hkc 6
  have c7 := blk_cell hkc 7; have c8 := blk_cell hkc 8; have c9 := blk_cell hkc 9; have c10 := blk_cell hkc 10; have c11 := blk_cell hkc 11; have c12 := blk_cell hkc 12
  simp only [List.getElem?_toArray, List.getElem?_cons_zero, List.getElem?_cons_succ] at c0 c1 c2 c3 c4 c5 c6 c7 c8 c9 c10 c11 c12
  have HC := Lib.hid hkc; have HR := Lib.hid hkr; have HB := Lib.hid hb2
  have hnp := hp
  have hn3 : ¬ P (w.heap.size + 1) := fun q => by have := hp _ q; have := hw.size; omega
  have hx : (((w.alloc (.cells #[.string ⟨#[68, 69, 76, 69, 84, 69]⟩, u1, u2, u3, u4, u5, u6, u7, u8, u9, u10, u11, u12] 30)).alloc (.cells #[.int .i64 0, .slice none 0 0, .string ⟨#[]⟩, .bool false] 32)).cell? ⟨g, 0, none⟩) = some hv := (hb2.cell (p := ⟨g, 0, none⟩) (Nat.lt_of_lt_of_le hg hw.size)).trans ((World.cell?_of_block (hw.block g hg hgp)).trans hbx)
  clear hkc hkr hb1 hb2
  generalize hw2 : (w.alloc (.cells #[.string ⟨#[68, 69, 76, 69, 84, 69]⟩, u1, u2, u3, u4, u5, u6, u7, u8, u9, u10, u11, u12] 30)).alloc (.cells #[.int .i64 0, .slice none 0 0, .string ⟨#[]⟩, .bool false] 32) = w2 at *
  have HK := Lib.hid (ask_any h hp h0 h1 w2 (hw.on HB.out) (h0.on hs HB.out fun j hj => Nat.lt_of_lt_of_le (hp j hj) hw.size))
  clear h hbx hs
  go_enter Tryd.func35, Tryd.ntmps35
  go_wp2_with fail
  refine HK.out.mono ?_
  rintro e w3 ⟨he, hf3, hs3⟩
  have hk3 := (hf3.block _ (blk_lt HR.out) hn3).trans HR.out
  have HX := Lib.hid (And.intro hf3 (And.intro hs3 hk3))
  clear hf3 hs3 c0 c1 c2 c3 c4 c5 c6 c7 c8 c9 c10 c11 c12 HK hx
  cases o with
  | gone =>
    obtain ⟨u, pv, rfl⟩ := he
    go_wp2_with fail
    exact ⟨rfl, ⟨u, pv, rfl⟩, (Frm.of HB.out).trans HX.out.1, HX.out.2.1⟩
  | ans st l b cl =>
    obtain ⟨A, n, rfl, hrow, hl, hge⟩ := he
    have HW := Lib.hid (And.intro hrow (And.intro hl hge))
    have r0 := blk_cell hk3 0; have r1 := blk_cell hk3 1; have r2 := blk_cell hk3 2; have r3 := blk_cell hk3 3
    have z0 := blk_free hk3 0; have z1 := blk_free hk3 1; have z2 := blk_free hk3 2; have z3 := blk_free hk3 3
    simp only [List.getElem?_toArray, List.getElem?_cons_zero, List.getElem?_cons_succ] at r0 r1 r2 r3
    clear hk3 hrow hl hge
    generalize hN : l.length = m' at *
    go_wp2_with fail
    subst hN
    refine put4_ret (W := w3) Tryd.results35 HX.out.2.2 (.int .i64 st) (.slice A l.length n) (.string b) (.bool cl) rfl rfl ?_
    have hlt := blk_lt HR.out
    refine ⟨⟨A, n, rfl, HW.out.1.put4 _ _ _ _ _ (fun a e => by have := HW.out.2.2 a e; omega), HW.out.2.1, fun a e => Nat.zero_le _⟩, ((Frm.of HB.out).trans HX.out.1).put4 _ _ _ _ _ (by omega), h1.put4 HX.out.2.1 _ _ _ _ _ hn3⟩

set_option maxRecDepth 100000 in
set_option maxHeartbeats 4000000 in
theorem known_no {P : Nat → Prop} {S0 : World → Prop} {w0 : World} {hv : Value} {g : Nat} {u1 u2 u3 u4 u5 u6 u7 u8 u9 u10 u11 u12 : Value} {m : ByteArray} (n1 : m.data.toList ≠ [71, 69, 84]) (n2 : m.data.toList ≠ [80, 85, 84]) (n3 : m.data.toList ≠ [80, 79, 83, 84]) (n4 : m.data.toList ≠ [68, 69, 76, 69, 84, 69])
    (hp : ∀ j, P j → j < w0.heap.size) (h0 : Of P S0) (hg : g < w0.heap.size) (hgp : ¬ P g) (hbx : w0.cell? ⟨g, 0, none⟩ = some hv) :
    Hd P S0 S0 (.agg #[.string m, u1, u2, u3, u4, u5, u6, u7, u8, u9, u10, u11, u12]) (.ans 501 [] (plB 501) false) w0 (.func (.func 35) #[] #[.pointer (some ⟨g, 0, none⟩)]) := by
  refine ⟨35, _, rfl, enters_of Tryd.func35 (by kernel_rfl) rfl, fun w hw hs => ?_⟩
  show Calls Tryd.prog 35 #[.agg #[.string m, u1, u2, u3, u4, u5, u6, u7, u8, u9, u10, u11, u12], .pointer (some ⟨g, 0, none⟩)] w _
  have hb1 := (Below.refl w.heap.size w).alloc (Nat.le_refl _) (.cells #[.string m, u1, u2, u3, u4, u5, u6, u7, u8, u9, u10, u11, u12] 30)
  have hb2 := hb1.alloc hb1.size (.cells #[.int .i64 0, .slice none 0 0, .string ⟨#[]⟩, .bool false] 32)
  have hkc : ((w.alloc (.cells #[.string m, u1, u2, u3, u4, u5, u6, u7, u8, u9, u10, u11, u12] 30)).alloc (.cells #[.int .i64 0, .slice none 0 0, .string ⟨#[]⟩, .bool false] 32)).heap[w.heap.size]? = some (.cells #[.string m, u1, u2, u3, u4, u5, u6, u7, u8, u9, u10, u11, u12] 30 (0, 0)) :=
    (Below.heap_alloc _ _ _ (by simp)).trans (heap_alloc_new w _)
  have hkr : ((w.alloc (.cells #[.string m, u1, u2, u3, u4, u5, u6, u7, u8, u9, u10, u11, u12] 30)).alloc (.cells #[.int .i64 0, .slice none 0 0, .string ⟨#[]⟩, .bool false] 32)).heap[w.heap.size + 1]? = some (.cells #[.int .i64 0, .slice none 0 0, .string ⟨#[]⟩, .bool false] 32 (0, 0)) := by
    have := heap_alloc_new (w.alloc (.cells #[.string m, u1, u2, u3, u4, u5, u6, u7, u8, u9, u10, u11, u12] 30)) (.cells #[.int .i64 0, .slice none 0 0, .string ⟨#[]⟩, .bool false] 32)
    simpa using this
  have c0 := blk_cell hkc 0; have c1 := blk_cell hkc 1; have c2 := blk_cell hkc 2; have c3 := blk_cell hkc 3; have c4 := blk_cell hkc 4; have c5 := blk_cell hkc 5; have c6 := blk_cell hkc 6
  have c7 := blk_cell hkc 7; have c8 := blk_cell hkc 8; have c9 := blk_cell hkc 9; have c10 := blk_cell hkc 10; have c11 := blk_cell hkc 11; have c12 := blk_cell hkc 12
  simp only [List.getElem?_toArray, List.getElem?_cons_zero, List.getElem?_cons_succ] at c0 c1 c2 c3 c4 c5 c6 c7 c8 c9 c10 c11 c12
  have HC := Lib.hid hkc; have HR := Lib.hid hkr; have HB := Lib.hid hb2
  have hnp := hp
  have hn3 : ¬ P (w.heap.size + 1) := fun q => by have := hp _ q; have := hw.size; omega
  have hx : (((w.alloc (.cells #[.string m, u1, u2, u3, u4, u5, u6, u7, u8, u9, u10, u11, u12] 30)).alloc (.cells #[.int .i64 0, .slice none 0 0, .string ⟨#[]⟩, .bool false] 32)).cell? ⟨g, 0, none⟩) = some hv := (hb2.cell (p := ⟨g, 0, none⟩) (Nat.lt_of_lt_of_le hg hw.size)).trans ((World.cell?_of_block (hw.block g hg hgp)).trans hbx)
  clear hkc hkr hb1 hb2
  generalize hw2 : (w.alloc (.cells #[.string m, u1, u2, u3, u4, u5, u6, u7, u8, u9, u10, u11, u12] 30)).alloc (.cells #[.int .i64 0, .slice none 0 0, .string ⟨#[]⟩, .bool false] 32) = w2 at *
  have HP := Lib.hid (fun wx => plain_any 501 wx)
  have e1 : (m.toList == [71, 69, 84]) = false := by rw [eq_list]; simpa using n1
  have e2 : (m.toList == [80, 85, 84]) = false := by rw [eq_list]; simpa using n2
  have e3 : (m.toList == [80, 79, 83, 84]) = false := by rw [eq_list]; simpa using n3
  have e4 : (m.toList == [68, 69, 76, 69, 84, 69]) = false := by rw [eq_list]; simpa using n4
  clear n1 n2 n3 n4
  have hS2 := h0.on hs HB.out fun j hj => Nat.lt_of_lt_of_le (hp j hj) hw.size
  have HS2 := Lib.hid hS2
  clear hbx hs hS2
  generalize plB 501 = pb at *
  go_enter Tryd.func35, Tryd.ntmps35
  go_wp2_with fail
  refine (HP.out _).mono ?_
  rintro e w3 ⟨rfl, hb3⟩
  have hk3 := (hb3.block _ (blk_lt HR.out)).trans HR.out
  have HX := Lib.hid (And.intro hb3 hk3)
  have r0 := blk_cell hk3 0; have r1 := blk_cell hk3 1; have r2 := blk_cell hk3 2; have r3 := blk_cell hk3 3
  have z0 := blk_free hk3 0; have z1 := blk_free hk3 1; have z2 := blk_free hk3 2; have z3 := blk_free hk3 3
  simp only [List.getElem?_toArray, List.getElem?_cons_zero, List.getElem?_cons_succ] at r0 r1 r2 r3
  clear hb3 hk3 c0 c1 c2 c3 c4 c5 c6 c7 c8 c9 c10 c11 c12 hx
  go_wp2_with fail
  have hlt := blk_lt HR.out
  have hw0 := hw.size
  refine put4_ret (W := w3) Tryd.results35 HX.out.2 (.int .i64 501) (.slice none 0 0) (.string pb) (.bool false) rfl rfl ?_
  refine ⟨⟨none, 0, rfl, Row.nil _ _ _, by simp, fun a e => Nat.zero_le _⟩, ((Frm.of HB.out).on HX.out.1).put4 _ _ _ _ _ (by omega), h0.put4 (h0.on HS2.out HX.out.1 fun j hj => by have := hp _ hj; omega) _ _ _ _ _ hn3⟩

set_option maxRecDepth 100000 in
set_option maxHeartbeats 4000000 in
theorem small_empty {P : Nat → Prop} {S0 S1 : World → Prop} {o : Out} {w0 : World} {hv : Value} {g : Nat} {u0 u1 u2 u4 u5 u6 u7 u8 u9 u10 u11 u12 : Value}
    (h : Hd P S0 S1 (.agg #[u0, u1, u2, .string ⟨#[]⟩, u4, u5, u6, u7, u8, u9, u10, u11, u12]) o w0 hv) (hp : ∀ j, P j → j < w0.heap.size) (h0 : Of P S0) (h1 : Of P S1) (hg : g < w0.heap.size) (hgp : ¬ P g) (hbx : w0.cell? ⟨g, 0, none⟩ = some hv) :
    Hd P S0 S1 (.agg #[u0, u1, u2, .string ⟨#[]⟩, u4, u5, u6, u7, u8, u9, u10, u11, u12]) (o) w0 (.func (.func 37) #[] #[.pointer (some ⟨g, 0, none⟩)]) := by
  refine ⟨37, _, rfl, enters_of Tryd.func37 (by kernel_rfl) rfl, fun w hw hs => ?_⟩
  show Calls Tryd.prog 37 #[.agg #[u0, u1, u2, .string ⟨#[]⟩, u4, u5, u6, u7, u8, u9, u10, u11, u12], .pointer (some ⟨g, 0, none⟩)] w _
  have hb1 := (Below.refl w.heap.size w).alloc (Nat.le_refl _) (.cells #[u0, u1, u2, .string ⟨#[]⟩, u4, u5, u6, u7, u8, u9, u10, u11, u12] 30)
  have hb2 := hb1.alloc hb1.size (.cells #[.int .i64 0, .slice none 0 0, .string ⟨#[]⟩, .bool false] 32)
  have hkc : ((w.alloc (.cells #[u0, u1, u2, .string ⟨#[]⟩, u4, u5, u6, u7, u8, u9, u10, u11, u12] 30)).alloc (.cells #[.int .i64 0, .slice none 0 0, .string ⟨#[]⟩, .bool false] 32)).heap[w.heap.size]? = some (.cells #[u0, u1, u2, .string ⟨#[]⟩, u4, u5, u6, u7, u8, u9, u10, u11, u12] 30 (0, 0)) :=
    (Below.heap_alloc _ _ _ (by simp)).trans (heap_alloc_new w _)
  have hkr : ((w.alloc (.cells #[u0, u1, u2, .string ⟨#[]⟩, u4, u5, u6, u7, u8, u9, u10, u11, u12] 30)).alloc (.cells #[.int .i64 0, .slice none 0 0, .string ⟨#[]⟩, .bool false] 32)).heap[w.heap.size + 1]? = some (.cells #[.int .i64 0, .slice none 0 0, .string ⟨#[]⟩, .bool false] 32 (0, 0)) := by
    have := heap_alloc_new (w.alloc (.cells #[u0, u1, u2, .string ⟨#[]⟩, u4, u5, u6, u7, u8, u9, u10, u11, u12] 30)) (.cells #[.int .i64 0, .slice none 0 0, .string ⟨#[]⟩, .bool false] 32)
    simpa using this
  have c0 := blk_cell hkc 0; have c1 := blk_cell hkc 1; have c2 := blk_cell hkc 2; have c3 := blk_cell hkc 3; have c4 := blk_cell hkc 4; have c5 := blk_cell hkc 5; have c6 := blk_cell hkc 6
  have c7 := blk_cell hkc 7; have c8 := blk_cell hkc 8; have c9 := blk_cell hkc 9; have c10 := blk_cell hkc 10; have c11 := blk_cell hkc 11; have c12 := blk_cell hkc 12
  simp only [List.getElem?_toArray, List.getElem?_cons_zero, List.getElem?_cons_succ] at c0 c1 c2 c3 c4 c5 c6 c7 c8 c9 c10 c11 c12
  have HC := Lib.hid hkc; have HR := Lib.hid hkr; have HB := Lib.hid hb2
  have hnp := hp
  have hn3 : ¬ P (w.heap.size + 1) := fun q => by have := hp _ q; have := hw.size; omega
  have hx : (((w.alloc (.cells #[u0, u1, u2, .string ⟨#[]⟩, u4, u5, u6, u7, u8, u9, u10, u11, u12] 30)).alloc (.cells #[.int .i64 0, .slice none 0 0, .string ⟨#[]⟩, .bool false] 32)).cell? ⟨g, 0, none⟩) = some hv := (hb2.cell (p := ⟨g, 0, none⟩) (Nat.lt_of_lt_of_le hg hw.size)).trans ((World.cell?_of_block (hw.block g hg hgp)).trans hbx)
  clear hkc hkr hb1 hb2
  generalize hw2 : (w.alloc (.cells #[u0, u1, u2, .string ⟨#[]⟩, u4, u5, u6, u7, u8, u9, u10, u11, u12] 30)).alloc (.cells #[.int .i64 0, .slice none 0 0, .string ⟨#[]⟩, .bool false] 32) = w2 at *
  have HK := Lib.hid (ask_any h hp h0 h1 w2 (hw.on HB.out) (h0.on hs HB.out fun j hj => Nat.lt_of_lt_of_le (hp j hj) hw.size))
  clear h hbx hs
  go_enter Tryd.func37, Tryd.ntmps37
  go_wp2_with fail
  refine HK.out.mono ?_
  rintro e w3 ⟨he, hf3, hs3⟩
  have hk3 := (hf3.block _ (blk_lt HR.out) hn3).trans HR.out
  have HX := Lib.hid (And.intro hf3 (And.intro hs3 hk3))
  clear hf3 hs3 c0 c1 c2 c3 c4 c5 c6 c7 c8 c9 c10 c11 c12 HK hx
  cases o with
  | gone =>
    obtain ⟨u, pv, rfl⟩ := he
    go_wp2_with fail
    exact ⟨rfl, ⟨u, pv, rfl⟩, (Frm.of HB.out).trans HX.out.1, HX.out.2.1⟩
  | ans st l b cl =>
    obtain ⟨A, n, rfl, hrow, hl, hge⟩ := he
    have HW := Lib.hid (And.intro hrow (And.intro hl hge))
    have r0 := blk_cell hk3 0; have r1 := blk_cell hk3 1; have r2 := blk_cell hk3 2; have r3 := blk_cell hk3 3
    have z0 := blk_free hk3 0; have z1 := blk_free hk3 1; have z2 := blk_free hk3 2; have z3 := blk_free hk3 3
    simp only [List.getElem?_toArray, List.getElem?_cons_zero, List.getElem?_cons_succ] at r0 r1 r2 r3
    clear hk3 hrow hl hge
    generalize hN : l.length = m' at *
    go_wp2_with fail
    subst hN
    refine put4_ret (W := w3) Tryd.results37 HX.out.2.2 (.int .i64 st) (.slice A l.length n) (.string b) (.bool cl) rfl rfl ?_
    have hlt := blk_lt HR.out
    refine ⟨⟨A, n, rfl, HW.out.1.put4 _ _ _ _ _ (fun a e => by have := HW.out.2.2 a e; omega), HW.out.2.1, fun a e => Nat.zero_le _⟩, ((Frm.of HB.out).trans HX.out.1).put4 _ _ _ _ _ (by omega), h1.put4 HX.out.2.1 _ _ _ _ _ hn3⟩

set_option maxRecDepth 100000 in
set_option maxHeartbeats 4000000 in
theorem small_get {P : Nat → Prop} {S0 : World → Prop} {w0 : World} {hv : Value} {g : Nat} {u1 u2 u4 u5 u6 u7 u8 u9 u10 u11 u12 : Value} {bd : ByteArray} (nb : bd.data.toList ≠ [])
    (hp : ∀ j, P j → j < w0.heap.size) (h0 : Of P S0) (hg : g < w0.heap.size) (hgp : ¬ P g) (hbx : w0.cell? ⟨g, 0, none⟩ = some hv) :
    Hd P S0 S0 (.agg #[.string ⟨#[71, 69, 84]⟩, u1, u2, .string bd, u4, u5, u6, u7, u8, u9, u10, u11, u12]) (.ans 400 [] (plB 400) false) w0 (.func (.func 37) #[] #[.pointer (some ⟨g, 0, none⟩)]) := by
  refine ⟨37, _, rfl, enters_of Tryd.func37 (by kernel_rfl) rfl, fun w hw hs => ?_⟩
  show Calls Tryd.prog 37 #[.agg #[.string ⟨#[71, 69, 84]⟩, u1, u2, .string bd, u4, u5, u6, u7, u8, u9, u10, u11, u12], .pointer (some ⟨g, 0, none⟩)] w _
  have hb1 := (Below.refl w.heap.size w).alloc (Nat.le_refl _) (.cells #[.string ⟨#[71, 69, 84]⟩, u1, u2, .string bd, u4, u5, u6, u7, u8, u9, u10, u11, u12] 30)
  have hb2 := hb1.alloc hb1.size (.cells #[.int .i64 0, .slice none 0 0, .string ⟨#[]⟩, .bool false] 32)
  have hkc : ((w.alloc (.cells #[.string ⟨#[71, 69, 84]⟩, u1, u2, .string bd, u4, u5, u6, u7, u8, u9, u10, u11, u12] 30)).alloc (.cells #[.int .i64 0, .slice none 0 0, .string ⟨#[]⟩, .bool false] 32)).heap[w.heap.size]? = some (.cells #[.string ⟨#[71, 69, 84]⟩, u1, u2, .string bd, u4, u5, u6, u7, u8, u9, u10, u11, u12] 30 (0, 0)) :=
    (Below.heap_alloc _ _ _ (by simp)).trans (heap_alloc_new w _)
  have hkr : ((w.alloc (.cells #[.string ⟨#[71, 69, 84]⟩, u1, u2, .string bd, u4, u5, u6, u7, u8, u9, u10, u11, u12] 30)).alloc (.cells #[.int .i64 0, .slice none 0 0, .string ⟨#[]⟩, .bool false] 32)).heap[w.heap.size + 1]? = some (.cells #[.int .i64 0, .slice none 0 0, .string ⟨#[]⟩, .bool false] 32 (0, 0)) := by
    have := heap_alloc_new (w.alloc (.cells #[.string ⟨#[71, 69, 84]⟩, u1, u2, .string bd, u4, u5, u6, u7, u8, u9, u10, u11, u12] 30)) (.cells #[.int .i64 0, .slice none 0 0, .string ⟨#[]⟩, .bool false] 32)
    simpa using this
  have c0 := blk_cell hkc 0; have c1 := blk_cell hkc 1; have c2 := blk_cell hkc 2; have c3 := blk_cell hkc 3; have c4 := blk_cell hkc 4; have c5 := blk_cell hkc 5; have c6 := blk_cell hkc 6
  have c7 := blk_cell hkc 7; have c8 := blk_cell hkc 8; have c9 := blk_cell hkc 9; have c10 := blk_cell hkc 10; have c11 := blk_cell hkc 11; have c12 := blk_cell hkc 12
  simp only [List.getElem?_toArray, List.getElem?_cons_zero, List.getElem?_cons_succ] at c0 c1 c2 c3 c4 c5 c6 c7 c8 c9 c10 c11 c12
  have HC := Lib.hid hkc; have HR := Lib.hid hkr; have HB := Lib.hid hb2
  have hnp := hp
  have hn3 : ¬ P (w.heap.size + 1) := fun q => by have := hp _ q; have := hw.size; omega
  have hx : (((w.alloc (.cells #[.string ⟨#[71, 69, 84]⟩, u1, u2, .string bd, u4, u5, u6, u7, u8, u9, u10, u11, u12] 30)).alloc (.cells #[.int .i64 0, .slice none 0 0, .string ⟨#[]⟩, .bool false] 32)).cell? ⟨g, 0, none⟩) = some hv := (hb2.cell (p := ⟨g, 0, none⟩) (Nat.lt_of_lt_of_le hg hw.size)).trans ((World.cell?_of_block (hw.block g hg hgp)).trans hbx)
  clear hkc hkr hb1 hb2
  generalize hw2 : (w.alloc (.cells #[.string ⟨#[71, 69, 84]⟩, u1, u2, .string bd, u4, u5, u6, u7, u8, u9, u10, u11, u12] 30)).alloc (.cells #[.int .i64 0, .slice none 0 0, .string ⟨#[]⟩, .bool false] 32) = w2 at *
  have HP := Lib.hid (fun wx => plain_any 400 wx)
  have e0 : (bd.toList == []) = false := by rw [eq_list]; simpa using nb
  clear nb
  have hS2 := h0.on hs HB.out fun j hj => Nat.lt_of_lt_of_le (hp j hj) hw.size
  have HS2 := Lib.hid hS2
  clear hbx hs hS2
  generalize plB 400 = pb at *
  go_enter Tryd.func37, Tryd.ntmps37
  go_wp2_with fail
  refine (HP.out _).mono ?_
  rintro e w3 ⟨rfl, hb3⟩
  have hk3 := (hb3.block _ (blk_lt HR.out)).trans HR.out
  have HX := Lib.hid (And.intro hb3 hk3)
  have r0 := blk_cell hk3 0; have r1 := blk_cell hk3 1; have r2 := blk_cell hk3 2; have r3 := blk_cell hk3 3
  have z0 := blk_free hk3 0; have z1 := blk_free hk3 1; have z2 := blk_free hk3 2; have z3 := blk_free hk3 3
  simp only [List.getElem?_toArray, List.getElem?_cons_zero, List.getElem?_cons_succ] at r0 r1 r2 r3
  clear hb3 hk3 c0 c1 c2 c3 c4 c5 c6 c7 c8 c9 c10 c11 c12 hx
  go_wp2_with fail
  have hlt := blk_lt HR.out
  have hw0 := hw.size
  refine put4_ret (W := w3) Tryd.results37 HX.out.2 (.int .i64 400) (.slice none 0 0) (.string pb) (.bool false) rfl rfl ?_
  refine ⟨⟨none, 0, rfl, Row.nil _ _ _, by simp, fun a e => Nat.zero_le _⟩, ((Frm.of HB.out).on HX.out.1).put4 _ _ _ _ _ (by omega), h0.put4 (h0.on HS2.out HX.out.1 fun j hj => by have := hp _ hj; omega) _ _ _ _ _ hn3⟩

set_option maxRecDepth 100000 in
set_option maxHeartbeats 4000000 in
theorem small_del {P : Nat → Prop} {S0 : World → Prop} {w0 : World} {hv : Value} {g : Nat} {u1 u2 u4 u5 u6 u7 u8 u9 u10 u11 u12 : Value} {bd : ByteArray} (nb : bd.data.toList ≠ [])
    (hp : ∀ j, P j → j < w0.heap.size) (h0 : Of P S0) (hg : g < w0.heap.size) (hgp : ¬ P g) (hbx : w0.cell? ⟨g, 0, none⟩ = some hv) :
    Hd P S0 S0 (.agg #[.string ⟨#[68, 69, 76, 69, 84, 69]⟩, u1, u2, .string bd, u4, u5, u6, u7, u8, u9, u10, u11, u12]) (.ans 400 [] (plB 400) false) w0 (.func (.func 37) #[] #[.pointer (some ⟨g, 0, none⟩)]) := by
  refine ⟨37, _, rfl, enters_of Tryd.func37 (by kernel_rfl) rfl, fun w hw hs => ?_⟩
  show Calls Tryd.prog 37 #[.agg #[.string ⟨#[68, 69, 76, 69, 84, 69]⟩, u1, u2, .string bd, u4, u5, u6, u7, u8, u9, u10, u11, u12], .pointer (some ⟨g, 0, none⟩)] w _
  have hb1 := (Below.refl w.heap.size w).alloc (Nat.le_refl _) (.cells #[.string ⟨#[68, 69, 76, 69, 84, 69]⟩, u1, u2, .string bd, u4, u5, u6, u7, u8, u9, u10, u11, u12] 30)
  have hb2 := hb1.alloc hb1.size (.cells #[.int .i64 0, .slice none 0 0, .string ⟨#[]⟩, .bool false] 32)
  have hkc : ((w.alloc (.cells #[.string ⟨#[68, 69, 76, 69, 84, 69]⟩, u1, u2, .string bd, u4, u5, u6, u7, u8, u9, u10, u11, u12] 30)).alloc (.cells #[.int .i64 0, .slice none 0 0, .string ⟨#[]⟩, .bool false] 32)).heap[w.heap.size]? = some (.cells #[.string ⟨#[68, 69, 76, 69, 84, 69]⟩, u1, u2, .string bd, u4, u5, u6, u7, u8, u9, u10, u11, u12] 30 (0, 0)) :=
    (Below.heap_alloc _ _ _ (by simp)).trans (heap_alloc_new w _)
  have hkr : ((w.alloc (.cells #[.string ⟨#[68, 69, 76, 69, 84, 69]⟩, u1, u2, .string bd, u4, u5, u6, u7, u8, u9, u10, u11, u12] 30)).alloc (.cells #[.int .i64 0, .slice none 0 0, .string ⟨#[]⟩, .bool false] 32)).heap[w.heap.size + 1]? = some (.cells #[.int .i64 0, .slice none 0 0, .string ⟨#[]⟩, .bool false] 32 (0, 0)) := by
    have := heap_alloc_new (w.alloc (.cells #[.string ⟨#[68, 69, 76, 69, 84, 69]⟩, u1, u2, .string bd, u4, u5, u6, u7, u8, u9, u10, u11, u12] 30)) (.cells #[.int .i64 0, .slice none 0 0, .string ⟨#[]⟩, .bool false] 32)
    simpa using this
  have c0 := blk_cell hkc 0; have c1 := blk_cell hkc 1; have c2 := blk_cell hkc 2; have c3 := blk_cell hkc 3; have c4 := blk_cell hkc 4; have c5 := blk_cell hkc 5; have c6 := blk_cell hkc 6
  have c7 := blk_cell hkc 7; have c8 := blk_cell hkc 8; have c9 := blk_cell hkc 9; have c10 := blk_cell hkc 10; have c11 := blk_cell hkc 11; have c12 := blk_cell hkc 12
  simp only [List.getElem?_toArray, List.getElem?_cons_zero, List.getElem?_cons_succ] at c0 c1 c2 c3 c4 c5 c6 c7 c8 c9 c10 c11 c12
  have HC := Lib.hid hkc; have HR := Lib.hid hkr; have HB := Lib.hid hb2
  have hnp := hp
  have hn3 : ¬ P (w.heap.size + 1) := fun q => by have := hp _ q; have := hw.size; omega
  have hx : (((w.alloc (.cells #[.string ⟨#[68, 69, 76, 69, 84, 69]⟩, u1, u2, .string bd, u4, u5, u6, u7, u8, u9, u10, u11, u12] 30)).alloc (.cells #[.int .i64 0, .slice none 0 0, .string ⟨#[]⟩, .bool false] 32)).cell? ⟨g, 0, none⟩) = some hv := (hb2.cell (p := ⟨g, 0, none⟩) (Nat.lt_of_lt_of_le hg hw.size)).trans ((World.cell?_of_block (hw.block g hg hgp)).trans hbx)
  clear hkc hkr hb1 hb2
  generalize hw2 : (w.alloc (.cells #[.string ⟨#[68, 69, 76, 69, 84, 69]⟩, u1, u2, .string bd, u4, u5, u6, u7, u8, u9, u10, u11, u12] 30)).alloc (.cells #[.int .i64 0, .slice none 0 0, .string ⟨#[]⟩, .bool false] 32) = w2 at *
  have HP := Lib.hid (fun wx => plain_any 400 wx)
  have e0 : (bd.toList == []) = false := by rw [eq_list]; simpa using nb
  clear nb
  have hS2 := h0.on hs HB.out fun j hj => Nat.lt_of_lt_of_le (hp j hj) hw.size
  have HS2 := Lib.hid hS2
  clear hbx hs hS2
  generalize plB 400 = pb at *
  go_enter Tryd.func37, Tryd.ntmps37
  go_wp2_with fail
  refine (HP.out _).mono ?_
  rintro e w3 ⟨rfl, hb3⟩
  have hk3 := (hb3.block _ (blk_lt HR.out)).trans HR.out
  have HX := Lib.hid (And.intro hb3 hk3)
  have r0 := blk_cell hk3 0; have r1 := blk_cell hk3 1; have r2 := blk_cell hk3 2; have r3 := blk_cell hk3 3
  have z0 := blk_free hk3 0; have z1 := blk_free hk3 1; have z2 := blk_free hk3 2; have z3 := blk_free hk3 3
  simp only [List.getElem?_toArray, List.getElem?_cons_zero, List.getElem?_cons_succ] at r0 r1 r2 r3
  clear hb3 hk3 c0 c1 c2 c3 c4 c5 c6 c7 c8 c9 c10 c11 c12 hx
  go_wp2_with fail
  have hlt := blk_lt HR.out
  have hw0 := hw.size
  refine put4_ret (W := w3) Tryd.results37 HX.out.2 (.int .i64 400) (.slice none 0 0) (.string pb) (.bool false) rfl rfl ?_
  refine ⟨⟨none, 0, rfl, Row.nil _ _ _, by simp, fun a e => Nat.zero_le _⟩, ((Frm.of HB.out).on HX.out.1).put4 _ _ _ _ _ (by omega), h0.put4 (h0.on HS2.out HX.out.1 fun j hj => by have := hp _ hj; omega) _ _ _ _ _ hn3⟩

set_option maxRecDepth 100000 in
set_option maxHeartbeats 4000000 in
theorem small_other {P : Nat → Prop} {S0 S1 : World → Prop} {o : Out} {w0 : World} {hv : Value} {g : Nat} {u1 u2 u4 u5 u6 u7 u8 u9 u10 u11 u12 : Value} {m bd : ByteArray} (nb : bd.data.toList ≠ []) (n1 : m.data.toList ≠ [71, 69, 84]) (n4 : m.data.toList ≠ [68, 69, 76, 69, 84, 69])
    (h : Hd P S0 S1 (.agg #[.string m, u1, u2, .string bd, u4, u5, u6, u7, u8, u9, u10, u11, u12]) o w0 hv) (hp : ∀ j, P j → j < w0.heap.size) (h0 : Of P S0) (h1 : Of P S1) (hg : g < w0.heap.size) (hgp : ¬ P g) (hbx : w0.cell? ⟨g, 0, none⟩ = some hv) :
    Hd P S0 S1 (.agg #[.string m, u1, u2, .string bd, u4, u5, u6, u7, u8, u9, u10, u11, u12]) (o) w0 (.func (.func 37) #[] #[.pointer (some ⟨g, 0, none⟩)]) := by
  refine ⟨37, _, rfl, enters_of Tryd.func37 (by kernel_rfl) rfl, fun w hw hs => ?_⟩
  show Calls Tryd.prog 37 #[.agg #[.string m, u1, u2, .string bd, u4, u5, u6, u7, u8, u9, u10, u11, u12], .pointer (some ⟨g, 0, none⟩)] w _
  have hb1 := (Below.refl w.heap.size w).alloc (Nat.le_refl _) (.cells #[.string m, u1, u2, .string bd, u4, u5, u6, u7, u8, u9, u10, u11, u12] 30)
  have hb2 := hb1.alloc hb1.size (.cells #[.int .i64 0, .slice none 0 0, .string ⟨#[]⟩, .bool false] 32)
  have hkc : ((w.alloc (.cells #[.string m, u1, u2, .string bd, u4, u5, u6, u7, u8, u9, u10, u11, u12] 30)).alloc (.cells #[.int .i64 0, .slice none 0 0, .string ⟨#[]⟩, .bool false] 32)).heap[w.heap.size]? = some (.cells #[.string m, u1, u2, .string bd, u4, u5, u6, u7, u8, u9, u10, u11, u12] 30 (0, 0)) :=
    (Below.heap_alloc _ _ _ (by simp)).trans (heap_alloc_new w _)
  have hkr : ((w.alloc (.cells #[.string m, u1, u2, .string bd, u4, u5, u6, u7, u8, u9, u10, u11, u12] 30)).alloc (.cells #[.int .i64 0, .slice none 0 0, .string ⟨#[]⟩, .bool false] 32)).heap[w.heap.size + 1]? = some (.cells #[.int .i64 0, .slice none 0 0, .string ⟨#[]⟩, .bool false] 32 (0, 0)) := by
    have := heap_alloc_new (w.alloc (.cells #[.string m, u1, u2, .string bd, u4, u5, u6, u7, u8, u9, u10, u11, u12] 30)) (.cells #[.int .i64 0, .slice none 0 0, .string ⟨#[]⟩, .bool false] 32)
    simpa using this
  have c0 := blk_cell hkc 0; have c1 := blk_cell hkc 1; have c2 := blk_cell hkc 2; have c3 := blk_cell hkc 3; have c4 := blk_cell hkc 4; have c5 := blk_cell hkc 5; have c6 := blk_cell hkc 6
  have c7 := blk_cell hkc 7; have c8 := blk_cell hkc 8; have c9 := blk_cell hkc 9; have c10 := blk_cell hkc 10; have c11 := blk_cell hkc 11; have c12 := blk_cell hkc 12
  simp only [List.getElem?_toArray, List.getElem?_cons_zero, List.getElem?_cons_succ] at c0 c1 c2 c3 c4 c5 c6 c7 c8 c9 c10 c11 c12
  have HC := Lib.hid hkc; have HR := Lib.hid hkr; have HB := Lib.hid hb2
  have hnp := hp
  have hn3 : ¬ P (w.heap.size + 1) := fun q => by have := hp _ q; have := hw.size; omega
  have hx : (((w.alloc (.cells #[.string m, u1, u2, .string bd, u4, u5, u6, u7, u8, u9, u10, u11, u12] 30)).alloc (.cells #[.int .i64 0, .slice none 0 0, .string ⟨#[]⟩, .bool false] 32)).cell? ⟨g, 0, none⟩) = some hv := (hb2.cell (p := ⟨g, 0, none⟩) (Nat.lt_of_lt_of_le hg hw.size)).trans ((World.cell?_of_block (hw.block g hg hgp)).trans hbx)
  clear hkc hkr hb1 hb2
  generalize hw2 : (w.alloc (.cells #[.string m, u1, u2, .string bd, u4, u5, u6, u7, u8, u9, u10, u11, u12] 30)).alloc (.cells #[.int .i64 0, .slice none 0 0, .string ⟨#[]⟩, .bool false] 32) = w2 at *
  have HK := Lib.hid (ask_any h hp h0 h1 w2 (hw.on HB.out) (h0.on hs HB.out fun j hj => Nat.lt_of_lt_of_le (hp j hj) hw.size))
  have e0 : (bd.toList == []) = false := by rw [eq_list]; simpa using nb
  have e1 : (m.toList == [71, 69, 84]) = false := by rw [eq_list]; simpa using n1
  have e4 : (m.toList == [68, 69, 76, 69, 84, 69]) = false := by rw [eq_list]; simpa using n4
  clear nb n1 n4
  clear h hbx hs
  go_enter Tryd.func37, Tryd.ntmps37
  go_wp2_with fail
  refine HK.out.mono ?_
  rintro e w3 ⟨he, hf3, hs3⟩
  have hk3 := (hf3.block _ (blk_lt HR.out) hn3).trans HR.out
  have HX := Lib.hid (And.intro hf3 (And.intro hs3 hk3))
  clear hf3 hs3 c0 c1 c2 c3 c4 c5 c6 c7 c8 c9 c10 c11 c12 HK hx
  cases o with
  | gone =>
    obtain ⟨u, pv, rfl⟩ := he
    go_wp2_with fail
    exact ⟨rfl, ⟨u, pv, rfl⟩, (Frm.of HB.out).trans HX.out.1, HX.out.2.1⟩
  | ans st l b cl =>
    obtain ⟨A, n, rfl, hrow, hl, hge⟩ := he
    have HW := Lib.hid (And.intro hrow (And.intro hl hge))
    have r0 := blk_cell hk3 0; have r1 := blk_cell hk3 1; have r2 := blk_cell hk3 2; have r3 := blk_cell hk3 3
    have z0 := blk_free hk3 0; have z1 := blk_free hk3 1; have z2 := blk_free hk3 2; have z3 := blk_free hk3 3
    simp only [List.getElem?_toArray, List.getElem?_cons_zero, List.getElem?_cons_succ] at r0 r1 r2 r3
    clear hk3 hrow hl hge
    generalize hN : l.length = m' at *
    go_wp2_with fail
    subst hN
    refine put4_ret (W := w3) Tryd.results37 HX.out.2.2 (.int .i64 st) (.slice A l.length n) (.string b) (.bool cl) rfl rfl ?_
    have hlt := blk_lt HR.out
    refine ⟨⟨A, n, rfl, HW.out.1.put4 _ _ _ _ _ (fun a e => by have := HW.out.2.2 a e; omega), HW.out.2.1, fun a e => Nat.zero_le _⟩, ((Frm.of HB.out).trans HX.out.1).put4 _ _ _ _ _ (by omega), h1.put4 HX.out.2.1 _ _ _ _ _ hn3⟩

set_option maxRecDepth 100000 in
set_option maxHeartbeats 4000000 in
theorem routed_found {P : Nat → Prop} {S0 S1 : World → Prop} {o : Out} {w0 : World} {hv : Value} {g : Nat} {u0 u1 u2 u3 u4 u5 u6 u7 u8 u9 u10 u12 : Value}
    (h : Hd P S0 S1 (.agg #[u0, u1, u2, u3, u4, u5, u6, u7, u8, u9, u10, .bool true, u12]) o w0 hv) (hp : ∀ j, P j → j < w0.heap.size) (h0 : Of P S0) (h1 : Of P S1) (hg : g < w0.heap.size) (hgp : ¬ P g) (hbx : w0.cell? ⟨g, 0, none⟩ = some hv) :
    Hd P S0 S1 (.agg #[u0, u1, u2, u3, u4, u5, u6, u7, u8, u9, u10, .bool true, u12]) (o) w0 (.func (.func 41) #[] #[.pointer (some ⟨g, 0, none⟩)]) := by
  refine ⟨41, _, rfl, enters_of Tryd.func41 (by kernel_rfl) rfl, fun w hw hs => ?_⟩
  show Calls Tryd.prog 41 #[.agg #[u0, u1, u2, u3, u4, u5, u6, u7, u8, u9, u10, .bool true, u12], .pointer (some ⟨g, 0, none⟩)] w _
  have hb1 := (Below.refl w.heap.size w).alloc (Nat.le_refl _) (.cells #[u0, u1, u2, u3, u4, u5, u6, u7, u8, u9, u10, .bool true, u12] 30)
  have hb2 := hb1.alloc hb1.size (.cells #[.int .i64 0, .slice none 0 0, .string ⟨#[]⟩, .bool false] 32)
  have hkc : ((w.alloc (.cells #[u0, u1, u2, u3, u4, u5, u6, u7, u8, u9, u10, .bool true, u12] 30)).alloc (.cells #[.int .i64 0, .slice none 0 0, .string ⟨#[]⟩, .bool false] 32)).heap[w.heap.size]? = some (.cells #[u0, u1, u2, u3, u4, u5, u6, u7, u8, u9, u10, .bool true, u12] 30 (0, 0)) :=
    (Below.heap_alloc _ _ _ (by simp)).trans (heap_alloc_new w _)
  have hkr : ((w.alloc (.cells #[u0, u1, u2, u3, u4, u5, u6, u7, u8, u9, u10, .bool true, u12] 30)).alloc (.cells #[.int .i64 0, .slice none 0 0, .string ⟨#[]⟩, .bool false] 32)).heap[w.heap.size + 1]? = some (.cells #[.int .i64 0, .slice none 0 0, .string ⟨#[]⟩, .bool false] 32 (0, 0)) := by
    have := heap_alloc_new (w.alloc (.cells #[u0, u1, u2, u3, u4, u5, u6, u7, u8, u9, u10, .bool true, u12] 30)) (.cells #[.int .i64 0, .slice none 0 0, .string ⟨#[]⟩, .bool false] 32)
    simpa using this
  have c0 := blk_cell hkc 0; have c1 := blk_cell hkc 1; have c2 := blk_cell hkc 2; have c3 := blk_cell hkc 3; have c4 := blk_cell hkc 4; have c5 := blk_cell hkc 5; have c6 := blk_cell hkc 6
  have c7 := blk_cell hkc 7; have c8 := blk_cell hkc 8; have c9 := blk_cell hkc 9; have c10 := blk_cell hkc 10; have c11 := blk_cell hkc 11; have c12 := blk_cell hkc 12
  simp only [List.getElem?_toArray, List.getElem?_cons_zero, List.getElem?_cons_succ] at c0 c1 c2 c3 c4 c5 c6 c7 c8 c9 c10 c11 c12
  have HC := Lib.hid hkc; have HR := Lib.hid hkr; have HB := Lib.hid hb2
  have hnp := hp
  have hn3 : ¬ P (w.heap.size + 1) := fun q => by have := hp _ q; have := hw.size; omega
  have hx : (((w.alloc (.cells #[u0, u1, u2, u3, u4, u5, u6, u7, u8, u9, u10, .bool true, u12] 30)).alloc (.cells #[.int .i64 0, .slice none 0 0, .string ⟨#[]⟩, .bool false] 32)).cell? ⟨g, 0, none⟩) = some hv := (hb2.cell (p := ⟨g, 0, none⟩) (Nat.lt_of_lt_of_le hg hw.size)).trans ((World.cell?_of_block (hw.block g hg hgp)).trans hbx)
  clear hkc hkr hb1 hb2
  generalize hw2 : (w.alloc (.cells #[u0, u1, u2, u3, u4, u5, u6, u7, u8, u9, u10, .bool true, u12] 30)).alloc (.cells #[.int .i64 0, .slice none 0 0, .string ⟨#[]⟩, .bool false] 32) = w2 at *
  have HK := Lib.hid (ask_any h hp h0 h1 w2 (hw.on HB.out) (h0.on hs HB.out fun j hj => Nat.lt_of_lt_of_le (hp j hj) hw.size))
  clear h hbx hs
  go_enter Tryd.func41, Tryd.ntmps41
  go_wp2_with fail
  refine HK.out.mono ?_
  rintro e w3 ⟨he, hf3, hs3⟩
  have hk3 := (hf3.block _ (blk_lt HR.out) hn3).trans HR.out
  have HX := Lib.hid (And.intro hf3 (And.intro hs3 hk3))
  clear hf3 hs3 c0 c1 c2 c3 c4 c5 c6 c7 c8 c9 c10 c11 c12 HK hx
  cases o with
  | gone =>
    obtain ⟨u, pv, rfl⟩ := he
    go_wp2_with fail
    exact ⟨rfl, ⟨u, pv, rfl⟩, (Frm.of HB.out).trans HX.out.1, HX.out.2.1⟩
  | ans st l b cl =>
    obtain ⟨A, n, rfl, hrow, hl, hge⟩ := he
    have HW := Lib.hid (And.intro hrow (And.intro hl hge))
    have r0 := blk_cell hk3 0; have r1 := blk_cell hk3 1; have r2 := blk_cell hk3 2; have r3 := blk_cell hk3 3
    have z0 := blk_free hk3 0; have z1 := blk_free hk3 1; have z2 := blk_free hk3 2; have z3 := blk_free hk3 3
    simp only [List.getElem?_toArray, List.getElem?_cons_zero, List.getElem?_cons_succ] at r0 r1 r2 r3
    clear hk3 hrow hl hge
    generalize hN : l.length = m' at *
    go_wp2_with fail
    subst hN
    refine put4_ret (W := w3) Tryd.results41 HX.out.2.2 (.int .i64 st) (.slice A l.length n) (.string b) (.bool cl) rfl rfl ?_
    have hlt := blk_lt HR.out
    refine ⟨⟨A, n, rfl, HW.out.1.put4 _ _ _ _ _ (fun a e => by have := HW.out.2.2 a e; omega), HW.out.2.1, fun a e => Nat.zero_le _⟩, ((Frm.of HB.out).trans HX.out.1).put4 _ _ _ _ _ (by omega), h1.put4 HX.out.2.1 _ _ _ _ _ hn3⟩

set_option maxRecDepth 100000 in
set_option maxHeartbeats 4000000 in
theorem routed_none {P : Nat → Prop} {S0 : World → Prop} {w0 : World} {hv : Value} {g : Nat} {u0 u1 u2 u3 u4 u5 u6 u7 u8 u9 u12 : Value} {A : Option Addr} {n : Nat}
    (hp : ∀ j, P j → j < w0.heap.size) (h0 : Of P S0) (hg : g < w0.heap.size) (hgp : ¬ P g) (hbx : w0.cell? ⟨g, 0, none⟩ = some hv) :
    Hd P S0 S0 (.agg #[u0, u1, u2, u3, u4, u5, u6, u7, u8, u9, .slice A 0 n, .bool false, u12]) (.ans 404 [] (plB 404) false) w0 (.func (.func 41) #[] #[.pointer (some ⟨g, 0, none⟩)]) := by
  refine ⟨41, _, rfl, enters_of Tryd.func41 (by kernel_rfl) rfl, fun w hw hs => ?_⟩
  show Calls Tryd.prog 41 #[.agg #[u0, u1, u2, u3, u4, u5, u6, u7, u8, u9, .slice A 0 n, .bool false, u12], .pointer (some ⟨g, 0, none⟩)] w _
  have hb1 := (Below.refl w.heap.size w).alloc (Nat.le_refl _) (.cells #[u0, u1, u2, u3, u4, u5, u6, u7, u8, u9, .slice A 0 n, .bool false, u12] 30)
  have hb2 := hb1.alloc hb1.size (.cells #[.int .i64 0, .slice none 0 0, .string ⟨#[]⟩, .bool false] 32)
  have hkc : ((w.alloc (.cells #[u0, u1, u2, u3, u4, u5, u6, u7, u8, u9, .slice A 0 n, .bool false, u12] 30)).alloc (.cells #[.int .i64 0, .slice none 0 0, .string ⟨#[]⟩, .bool false] 32)).heap[w.heap.size]? = some (.cells #[u0, u1, u2, u3, u4, u5, u6, u7, u8, u9, .slice A 0 n, .bool false, u12] 30 (0, 0)) :=
    (Below.heap_alloc _ _ _ (by simp)).trans (heap_alloc_new w _)
  have hkr : ((w.alloc (.cells #[u0, u1, u2, u3, u4, u5, u6, u7, u8, u9, .slice A 0 n, .bool false, u12] 30)).alloc (.cells #[.int .i64 0, .slice none 0 0, .string ⟨#[]⟩, .bool false] 32)).heap[w.heap.size + 1]? = some (.cells #[.int .i64 0, .slice none 0 0, .string ⟨#[]⟩, .bool false] 32 (0, 0)) := by
    have := heap_alloc_new (w.alloc (.cells #[u0, u1, u2, u3, u4, u5, u6, u7, u8, u9, .slice A 0 n, .bool false, u12] 30)) (.cells #[.int .i64 0, .slice none 0 0, .string ⟨#[]⟩, .bool false] 32)
    simpa using this
  have c0 := blk_cell hkc 0; have c1 := blk_cell hkc 1; have c2 := blk_cell hkc 2; have c3 := blk_cell hkc 3; have c4 := blk_cell hkc 4; have c5 := blk_cell hkc 5; have c6 := blk_cell hkc 6
  have c7 := blk_cell hkc 7; have c8 := blk_cell hkc 8; have c9 := blk_cell hkc 9; have c10 := blk_cell hkc 10; have c11 := blk_cell hkc 11; have c12 := blk_cell hkc 12
  simp only [List.getElem?_toArray, List.getElem?_cons_zero, List.getElem?_cons_succ] at c0 c1 c2 c3 c4 c5 c6 c7 c8 c9 c10 c11 c12
  have HC := Lib.hid hkc; have HR := Lib.hid hkr; have HB := Lib.hid hb2
  have hnp := hp
  have hn3 : ¬ P (w.heap.size + 1) := fun q => by have := hp _ q; have := hw.size; omega
  have hx : (((w.alloc (.cells #[u0, u1, u2, u3, u4, u5, u6, u7, u8, u9, .slice A 0 n, .bool false, u12] 30)).alloc (.cells #[.int .i64 0, .slice none 0 0, .string ⟨#[]⟩, .bool false] 32)).cell? ⟨g, 0, none⟩) = some hv := (hb2.cell (p := ⟨g, 0, none⟩) (Nat.lt_of_lt_of_le hg hw.size)).trans ((World.cell?_of_block (hw.block g hg hgp)).trans hbx)
  clear hkc hkr hb1 hb2
  generalize hw2 : (w.alloc (.cells #[u0, u1, u2, u3, u4, u5, u6, u7, u8, u9, .slice A 0 n, .bool false, u12] 30)).alloc (.cells #[.int .i64 0, .slice none 0 0, .string ⟨#[]⟩, .bool false] 32) = w2 at *
  have HP := Lib.hid (fun wx => plain_any 404 wx)
  have hS2 := h0.on hs HB.out fun j hj => Nat.lt_of_lt_of_le (hp j hj) hw.size
  have HS2 := Lib.hid hS2
  clear hbx hs hS2
  generalize plB 404 = pb at *
  go_enter Tryd.func41, Tryd.ntmps41
  go_wp2_with fail
  refine (HP.out _).mono ?_
  rintro e w3 ⟨rfl, hb3⟩
  have hk3 := (hb3.block _ (blk_lt HR.out)).trans HR.out
  have HX := Lib.hid (And.intro hb3 hk3)
  have r0 := blk_cell hk3 0; have r1 := blk_cell hk3 1; have r2 := blk_cell hk3 2; have r3 := blk_cell hk3 3
  have z0 := blk_free hk3 0; have z1 := blk_free hk3 1; have z2 := blk_free hk3 2; have z3 := blk_free hk3 3
  simp only [List.getElem?_toArray, List.getElem?_cons_zero, List.getElem?_cons_succ] at r0 r1 r2 r3
  clear hb3 hk3 c0 c1 c2 c3 c4 c5 c6 c7 c8 c9 c10 c11 c12 hx
  go_wp2_with fail
  have hlt := blk_lt HR.out
  have hw0 := hw.size
  refine put4_ret (W := w3) Tryd.results41 HX.out.2 (.int .i64 404) (.slice none 0 0) (.string pb) (.bool false) rfl rfl ?_
  refine ⟨⟨none, 0, rfl, Row.nil _ _ _, by simp, fun a e => Nat.zero_le _⟩, ((Frm.of HB.out).on HX.out.1).put4 _ _ _ _ _ (by omega), h0.put4 (h0.on HS2.out HX.out.1 fun j hj => by have := hp _ hj; omega) _ _ _ _ _ hn3⟩

set_option maxRecDepth 100000 in
set_option maxHeartbeats 4000000 in
theorem routed_some {P : Nat → Prop} {S0 : World → Prop} {w0 : World} {hv : Value} {g : Nat} {u0 u1 u2 u3 u4 u5 u6 u7 u8 u9 u12 : Value} {A : Option Addr} {n : Nat} {al : List ByteArray} (hal : al ≠ []) (hrs : RowS P w0 A al) (hcn : al.length ≤ n) (hln : al.length ≤ 100) (hlx : ∀ x ∈ al, x.size ≤ 3000)
    (hp : ∀ j, P j → j < w0.heap.size) (h0 : Of P S0) (hg : g < w0.heap.size) (hgp : ¬ P g) (hbx : w0.cell? ⟨g, 0, none⟩ = some hv) :
    Hd P S0 S0 (.agg #[u0, u1, u2, u3, u4, u5, u6, u7, u8, u9, .slice A al.length n, .bool false, u12]) (.ans 405 [(allowB, joinB al)] (plB 405) false) w0 (.func (.func 41) #[] #[.pointer (some ⟨g, 0, none⟩)]) := by
  refine ⟨41, _, rfl, enters_of Tryd.func41 (by kernel_rfl) rfl, fun w hw hs => ?_⟩
  show Calls Tryd.prog 41 #[.agg #[u0, u1, u2, u3, u4, u5, u6, u7, u8, u9, .slice A al.length n, .bool false, u12], .pointer (some ⟨g, 0, none⟩)] w _
  have hb1 := (Below.refl w.heap.size w).alloc (Nat.le_refl _) (.cells #[u0, u1, u2, u3, u4, u5, u6, u7, u8, u9, .slice A al.length n, .bool false, u12] 30)
  have hb2 := hb1.alloc hb1.size (.cells #[.int .i64 0, .slice none 0 0, .string ⟨#[]⟩, .bool false] 32)
  have hkc : ((w.alloc (.cells #[u0, u1, u2, u3, u4, u5, u6, u7, u8, u9, .slice A al.length n, .bool false, u12] 30)).alloc (.cells #[.int .i64 0, .slice none 0 0, .string ⟨#[]⟩, .bool false] 32)).heap[w.heap.size]? = some (.cells #[u0, u1, u2, u3, u4, u5, u6, u7, u8, u9, .slice A al.length n, .bool false, u12] 30 (0, 0)) :=
    (Below.heap_alloc _ _ _ (by simp)).trans (heap_alloc_new w _)
  have hkr : ((w.alloc (.cells #[u0, u1, u2, u3, u4, u5, u6, u7, u8, u9, .slice A al.length n, .bool false, u12] 30)).alloc (.cells #[.int .i64 0, .slice none 0 0, .string ⟨#[]⟩, .bool false] 32)).heap[w.heap.size + 1]? = some (.cells #[.int .i64 0, .slice none 0 0, .string ⟨#[]⟩, .bool false] 32 (0, 0)) := by
    have := heap_alloc_new (w.alloc (.cells #[u0, u1, u2, u3, u4, u5, u6, u7, u8, u9, .slice A al.length n, .bool false, u12] 30)) (.cells #[.int .i64 0, .slice none 0 0, .string ⟨#[]⟩, .bool false] 32)
    simpa using this
  have c0 := blk_cell hkc 0; have c1 := blk_cell hkc 1; have c2 := blk_cell hkc 2; have c3 := blk_cell hkc 3; have c4 := blk_cell hkc 4; have c5 := blk_cell hkc 5; have c6 := blk_cell hkc 6
  have c7 := blk_cell hkc 7; have c8 := blk_cell hkc 8; have c9 := blk_cell hkc 9; have c10 := blk_cell hkc 10; have c11 := blk_cell hkc 11; have c12 := blk_cell hkc 12
  simp only [List.getElem?_toArray, List.getElem?_cons_zero, List.getElem?_cons_succ] at c0 c1 c2 c3 c4 c5 c6 c7 c8 c9 c10 c11 c12
  have HC := Lib.hid hkc; have HR := Lib.hid hkr; have HB := Lib.hid hb2
  have hnp := hp
  have hn3 : ¬ P (w.heap.size + 1) := fun q => by have := hp _ q; have := hw.size; omega
  have hx : (((w.alloc (.cells #[u0, u1, u2, u3, u4, u5, u6, u7, u8, u9, .slice A al.length n, .bool false, u12] 30)).alloc (.cells #[.int .i64 0, .slice none 0 0, .string ⟨#[]⟩, .bool false] 32)).cell? ⟨g, 0, none⟩) = some hv := (hb2.cell (p := ⟨g, 0, none⟩) (Nat.lt_of_lt_of_le hg hw.size)).trans ((World.cell?_of_block (hw.block g hg hgp)).trans hbx)
  clear hkc hkr hb1 hb2
  generalize hw2 : (w.alloc (.cells #[u0, u1, u2, u3, u4, u5, u6, u7, u8, u9, .slice A al.length n, .bool false, u12] 30)).alloc (.cells #[.int .i64 0, .slice none 0 0, .string ⟨#[]⟩, .bool false] 32) = w2 at *
  have HP := Lib.hid (notAllowed_any al A n w2 (hrs.frm (hw.on HB.out)).rd hcn hln hlx)
  have hpos : al.length ≠ 0 := fun e => hal (List.eq_nil_of_length_eq_zero e)
  have HS2 := Lib.hid (h0.on hs HB.out fun j hj => Nat.lt_of_lt_of_le (hp j hj) hw.size)
  clear hbx hs hrs hcn hln hlx
  have i1 : (0 : Int) < (al.length : Int) := by omega
  have i2 : decide ((0 : Int) < (al.length : Int)) = true := by simpa using i1
  clear hpos
  generalize al.length = q at *
  go_enter Tryd.func41, Tryd.ntmps41
  go_wp2_with fail
  refine HP.out.mono ?_
  rintro e w3 ⟨g3, rfl, hg3, hrow, hb3⟩
  have hk3 := (hb3.block _ (blk_lt HR.out)).trans HR.out
  have HX := Lib.hid (And.intro hb3 (And.intro hk3 (And.intro hg3 hrow)))
  have r0 := blk_cell hk3 0; have r1 := blk_cell hk3 1; have r2 := blk_cell hk3 2; have r3 := blk_cell hk3 3
  have z0 := blk_free hk3 0; have z1 := blk_free hk3 1; have z2 := blk_free hk3 2; have z3 := blk_free hk3 3
  simp only [List.getElem?_toArray, List.getElem?_cons_zero, List.getElem?_cons_succ] at r0 r1 r2 r3
  clear hb3 hk3 hg3 hrow c0 c1 c2 c3 c4 c5 c6 c7 c8 c9 c10 c11 c12 hx
  go_wp2_with fail
  obtain ⟨hb3, hk3, hg3, hrow⟩ := HX.out
  have hlt := blk_lt HR.out
  have hw0 := hw.size
  have hb2s := HB.out.size
  refine put4_ret (W := w3) Tryd.results41 hk3 (.int .i64 405) (.slice (some ⟨g3, 0, none⟩) 1 1) (.string (plB 405)) (.bool false) rfl rfl ?_
  refine ⟨⟨some ⟨g3, 0, none⟩, 1, rfl, Row.put4 (row_new hrow (fun q => by have := hp _ q; omega)) _ _ _ _ _ (fun a e => by cases e; show g3 ≠ w.heap.size + 1; omega), by simp, fun a e => Nat.zero_le _⟩, ((Frm.of HB.out).on hb3).put4 _ _ _ _ _ (by omega), h0.put4 (h0.on HS2.out hb3 fun j hj => by have := hp _ hj; omega) _ _ _ _ _ hn3⟩

set_option maxRecDepth 100000 in
set_option maxHeartbeats 4000000 in
theorem guard_free {P : Nat → Prop} {S0 S1 : World → Prop} {o : Out} {w0 : World} {hv : Value} {g : Nat} {u0 u3 u4 u5 u6 u7 u8 u9 u10 u11 : Value} {A : Option Addr} {n : Nat} {fs : List Fld} {tg tk : ByteArray} (hgu : guardedB tk tg = false)  (hrs : Row P w0 A fs) (hfn : fs.length ≤ 1000000) (htg : tg.size ≤ 1000000)
    (h : Hd P S0 S1 (.agg #[u0, .string tg, .slice A fs.length n, u3, u4, u5, u6, u7, u8, u9, u10, u11, .string tk]) o w0 hv) (hp : ∀ j, P j → j < w0.heap.size) (h0 : Of P S0) (h1 : Of P S1) (hg : g < w0.heap.size) (hgp : ¬ P g) (hbx : w0.cell? ⟨g, 0, none⟩ = some hv) :
    Hd P S0 S1 (.agg #[u0, .string tg, .slice A fs.length n, u3, u4, u5, u6, u7, u8, u9, u10, u11, .string tk]) (o) w0 (.func (.func 38) #[] #[.pointer (some ⟨g, 0, none⟩)]) := by
  refine ⟨38, _, rfl, enters_of Tryd.func38 (by kernel_rfl) rfl, fun w hw hs => ?_⟩
  show Calls Tryd.prog 38 #[.agg #[u0, .string tg, .slice A fs.length n, u3, u4, u5, u6, u7, u8, u9, u10, u11, .string tk], .pointer (some ⟨g, 0, none⟩)] w _
  have hb1 := (Below.refl w.heap.size w).alloc (Nat.le_refl _) (.cells #[u0, .string tg, .slice A fs.length n, u3, u4, u5, u6, u7, u8, u9, u10, u11, .string tk] 30)
  have hb2 := hb1.alloc hb1.size (.cells #[.int .i64 0, .slice none 0 0, .string ⟨#[]⟩, .bool false] 32)
  have hkc : ((w.alloc (.cells #[u0, .string tg, .slice A fs.length n, u3, u4, u5, u6, u7, u8, u9, u10, u11, .string tk] 30)).alloc (.cells #[.int .i64 0, .slice none 0 0, .string ⟨#[]⟩, .bool false] 32)).heap[w.heap.size]? = some (.cells #[u0, .string tg, .slice A fs.length n, u3, u4, u5, u6, u7, u8, u9, u10, u11, .string tk] 30 (0, 0)) :=
    (Below.heap_alloc _ _ _ (by simp)).trans (heap_alloc_new w _)
  have hkr : ((w.alloc (.cells #[u0, .string tg, .slice A fs.length n, u3, u4, u5, u6, u7, u8, u9, u10, u11, .string tk] 30)).alloc (.cells #[.int .i64 0, .slice none 0 0, .string ⟨#[]⟩, .bool false] 32)).heap[w.heap.size + 1]? = some (.cells #[.int .i64 0, .slice none 0 0, .string ⟨#[]⟩, .bool false] 32 (0, 0)) := by
    have := heap_alloc_new (w.alloc (.cells #[u0, .string tg, .slice A fs.length n, u3, u4, u5, u6, u7, u8, u9, u10, u11, .string tk] 30)) (.cells #[.int .i64 0, .slice none 0 0, .string ⟨#[]⟩, .bool false] 32)
    simpa using this
  have c0 := blk_cell hkc 0; have c1 := blk_cell hkc 1; have c2 := blk_cell hkc 2; have c3 := blk_cell hkc 3; have c4 := blk_cell hkc 4; have c5 := blk_cell hkc 5; have c6 := blk_cell hkc 6
  have c7 := blk_cell hkc 7; have c8 := blk_cell hkc 8; have c9 := blk_cell hkc 9; have c10 := blk_cell hkc 10; have c11 := blk_cell hkc 11; have c12 := blk_cell hkc 12
  simp only [List.getElem?_toArray, List.getElem?_cons_zero, List.getElem?_cons_succ] at c0 c1 c2 c3 c4 c5 c6 c7 c8 c9 c10 c11 c12
  have HC := Lib.hid hkc; have HR := Lib.hid hkr; have HB := Lib.hid hb2
  have hnp := hp
  have hn3 : ¬ P (w.heap.size + 1) := fun q => by have := hp _ q; have := hw.size; omega
  have hx : (((w.alloc (.cells #[u0, .string tg, .slice A fs.length n, u3, u4, u5, u6, u7, u8, u9, u10, u11, .string tk] 30)).alloc (.cells #[.int .i64 0, .slice none 0 0, .string ⟨#[]⟩, .bool false] 32)).cell? ⟨g, 0, none⟩) = some hv := (hb2.cell (p := ⟨g, 0, none⟩) (Nat.lt_of_lt_of_le hg hw.size)).trans ((World.cell?_of_block (hw.block g hg hgp)).trans hbx)
  clear hkc hkr hb1 hb2
  generalize hw2 : (w.alloc (.cells #[u0, .string tg, .slice A fs.length n, u3, u4, u5, u6, u7, u8, u9, u10, u11, .string tk] 30)).alloc (.cells #[.int .i64 0, .slice none 0 0, .string ⟨#[]⟩, .bool false] 32) = w2 at *
  have HK := Lib.hid (fun wx (hb : Below w2.heap.size w2 wx) => ask_any h hp h0 h1 wx ((hw.on HB.out).on hb) (h0.on hs (HB.out.trans (hb.mono HB.out.size)) fun j hj => Nat.lt_of_lt_of_le (hp j hj) hw.size))
  have HG : Hid (g < w2.heap.size) := Nat.lt_of_lt_of_le hg (Nat.le_trans hw.size HB.out.size)
  have HXX := Lib.hid hx
  have HU := Lib.hid (guarded_any (tk := tk) (u0 := u0) (u2 := .slice A fs.length n) (u3 := u3) (u4 := u4) (u5 := u5) (u6 := u6) (u7 := u7) (u8 := u8) (u9 := u9) (u10 := u10) (u11 := u11) htg w2)
  rw [hgu] at HU
  clear h hbx hs hgu hrs hfn htg
  generalize fs.length = q at *
  go_enter Tryd.func38, Tryd.ntmps38
  go_wp2_with fail
  refine HU.out.mono ?_
  rintro e wa ⟨rfl, hba⟩
  clear c0 c1 c2 c3 c4 c5 c6 c7 c8 c9 c10 c11 c12 hx
  have HBA := Lib.hid hba
  have hkq := (HBA.out.block _ (blk_lt HC.out)).trans HC.out
  have hxq := (HBA.out.cell (p := ⟨g, 0, none⟩) HG.out).trans HXX.out
  have c0 := blk_cell hkq 0; have c1 := blk_cell hkq 1; have c2 := blk_cell hkq 2; have c3 := blk_cell hkq 3; have c4 := blk_cell hkq 4; have c5 := blk_cell hkq 5; have c6 := blk_cell hkq 6; have c7 := blk_cell hkq 7; have c8 := blk_cell hkq 8; have c9 := blk_cell hkq 9; have c10 := blk_cell hkq 10; have c11 := blk_cell hkq 11; have c12 := blk_cell hkq 12
  simp only [List.getElem?_toArray, List.getElem?_cons_zero, List.getElem?_cons_succ] at c0 c1 c2 c3 c4 c5 c6 c7 c8 c9 c10 c11 c12
  clear hba hkq
  have HSZ : Hid (w2.heap.size ≤ wa.heap.size) := HBA.out.size
  have HRQ := Lib.hid ((HBA.out.block _ (blk_lt HR.out)).trans HR.out)
  have HBW := Lib.hid (bt HB.out HBA.out)
  go_wp2_with fail
  refine (HK.out _ HBA.out).mono ?_
  clear c0 c1 c2 c3 c4 c5 c6 c7 c8 c9 c10 c11 c12 hxq HK
  rintro e w3 ⟨he, hf3, hs3⟩
  have hk3 := (hf3.block _ (Nat.lt_of_lt_of_le (blk_lt HR.out) HSZ.out) hn3).trans HRQ.out
  have HX := Lib.hid (And.intro hf3 (And.intro hs3 hk3))
  clear hf3 hs3
  cases o with
  | gone =>
    obtain ⟨u, pv, rfl⟩ := he
    go_wp2_with fail
    exact ⟨rfl, ⟨u, pv, rfl⟩, (Frm.of HBW.out).trans HX.out.1, HX.out.2.1⟩
  | ans st l b cl =>
    obtain ⟨A, n, rfl, hrow, hl, hge⟩ := he
    have HW := Lib.hid (And.intro hrow (And.intro hl hge))
    have r0 := blk_cell hk3 0; have r1 := blk_cell hk3 1; have r2 := blk_cell hk3 2; have r3 := blk_cell hk3 3
    have z0 := blk_free hk3 0; have z1 := blk_free hk3 1; have z2 := blk_free hk3 2; have z3 := blk_free hk3 3
    simp only [List.getElem?_toArray, List.getElem?_cons_zero, List.getElem?_cons_succ] at r0 r1 r2 r3
    clear hk3 hrow hl hge
    generalize hN : l.length = m' at *
    go_wp2_with fail
    subst hN
    have hlt := blk_lt HR.out
    have hsz := HSZ.out
    refine put4_ret (W := w3) Tryd.results38 HX.out.2.2 (.int .i64 st) (.slice A l.length n) (.string b) (.bool cl) rfl rfl ?_
    refine ⟨⟨A, n, rfl, HW.out.1.put4 _ _ _ _ _ (fun a e => by have := HW.out.2.2 a e; omega), HW.out.2.1, fun a e => Nat.zero_le _⟩, ((Frm.of HBW.out).trans HX.out.1).put4 _ _ _ _ _ (by omega), h1.put4 HX.out.2.1 _ _ _ _ _ hn3⟩

set_option maxRecDepth 100000 in
set_option maxHeartbeats 4000000 in
theorem guard_shown {P : Nat → Prop} {S0 S1 : World → Prop} {o : Out} {w0 : World} {hv : Value} {g : Nat} {u0 u3 u4 u5 u6 u7 u8 u9 u10 u11 : Value} {A : Option Addr} {n : Nat} {fs : List Fld} {tg tk : ByteArray} (hgu : guardedB tk tg = true) (hsh : showsB tk fs = true) (hrs : Row P w0 A fs) (hfn : fs.length ≤ 1000000) (htg : tg.size ≤ 1000000)
    (h : Hd P S0 S1 (.agg #[u0, .string tg, .slice A fs.length n, u3, u4, u5, u6, u7, u8, u9, u10, u11, .string tk]) o w0 hv) (hp : ∀ j, P j → j < w0.heap.size) (h0 : Of P S0) (h1 : Of P S1) (hg : g < w0.heap.size) (hgp : ¬ P g) (hbx : w0.cell? ⟨g, 0, none⟩ = some hv) :
    Hd P S0 S1 (.agg #[u0, .string tg, .slice A fs.length n, u3, u4, u5, u6, u7, u8, u9, u10, u11, .string tk]) (o) w0 (.func (.func 38) #[] #[.pointer (some ⟨g, 0, none⟩)]) := by
  refine ⟨38, _, rfl, enters_of Tryd.func38 (by kernel_rfl) rfl, fun w hw hs => ?_⟩
  show Calls Tryd.prog 38 #[.agg #[u0, .string tg, .slice A fs.length n, u3, u4, u5, u6, u7, u8, u9, u10, u11, .string tk], .pointer (some ⟨g, 0, none⟩)] w _
  have hb1 := (Below.refl w.heap.size w).alloc (Nat.le_refl _) (.cells #[u0, .string tg, .slice A fs.length n, u3, u4, u5, u6, u7, u8, u9, u10, u11, .string tk] 30)
  have hb2 := hb1.alloc hb1.size (.cells #[.int .i64 0, .slice none 0 0, .string ⟨#[]⟩, .bool false] 32)
  have hkc : ((w.alloc (.cells #[u0, .string tg, .slice A fs.length n, u3, u4, u5, u6, u7, u8, u9, u10, u11, .string tk] 30)).alloc (.cells #[.int .i64 0, .slice none 0 0, .string ⟨#[]⟩, .bool false] 32)).heap[w.heap.size]? = some (.cells #[u0, .string tg, .slice A fs.length n, u3, u4, u5, u6, u7, u8, u9, u10, u11, .string tk] 30 (0, 0)) :=
    (Below.heap_alloc _ _ _ (by simp)).trans (heap_alloc_new w _)
  have hkr : ((w.alloc (.cells #[u0, .string tg, .slice A fs.length n, u3, u4, u5, u6, u7, u8, u9, u10, u11, .string tk] 30)).alloc (.cells #[.int .i64 0, .slice none 0 0, .string ⟨#[]⟩, .bool false] 32)).heap[w.heap.size + 1]? = some (.cells #[.int .i64 0, .slice none 0 0, .string ⟨#[]⟩, .bool false] 32 (0, 0)) := by
    have := heap_alloc_new (w.alloc (.cells #[u0, .string tg, .slice A fs.length n, u3, u4, u5, u6, u7, u8, u9, u10, u11, .string tk] 30)) (.cells #[.int .i64 0, .slice none 0 0, .string ⟨#[]⟩, .bool false] 32)
    simpa using this
  have c0 := blk_cell hkc 0; have c1 := blk_cell hkc 1; have c2 := blk_cell hkc 2; have c3 := blk_cell hkc 3; have c4 := blk_cell hkc 4; have c5 := blk_cell hkc 5; have c6 := blk_cell hkc 6
  have c7 := blk_cell hkc 7; have c8 := blk_cell hkc 8; have c9 := blk_cell hkc 9; have c10 := blk_cell hkc 10; have c11 := blk_cell hkc 11; have c12 := blk_cell hkc 12
  simp only [List.getElem?_toArray, List.getElem?_cons_zero, List.getElem?_cons_succ] at c0 c1 c2 c3 c4 c5 c6 c7 c8 c9 c10 c11 c12
  have HC := Lib.hid hkc; have HR := Lib.hid hkr; have HB := Lib.hid hb2
  have hnp := hp
  have hn3 : ¬ P (w.heap.size + 1) := fun q => by have := hp _ q; have := hw.size; omega
  have hx : (((w.alloc (.cells #[u0, .string tg, .slice A fs.length n, u3, u4, u5, u6, u7, u8, u9, u10, u11, .string tk] 30)).alloc (.cells #[.int .i64 0, .slice none 0 0, .string ⟨#[]⟩, .bool false] 32)).cell? ⟨g, 0, none⟩) = some hv := (hb2.cell (p := ⟨g, 0, none⟩) (Nat.lt_of_lt_of_le hg hw.size)).trans ((World.cell?_of_block (hw.block g hg hgp)).trans hbx)
  clear hkc hkr hb1 hb2
  generalize hw2 : (w.alloc (.cells #[u0, .string tg, .slice A fs.length n, u3, u4, u5, u6, u7, u8, u9, u10, u11, .string tk] 30)).alloc (.cells #[.int .i64 0, .slice none 0 0, .string ⟨#[]⟩, .bool false] 32) = w2 at *
  have HK := Lib.hid (fun wx (hb : Below w2.heap.size w2 wx) => ask_any h hp h0 h1 wx ((hw.on HB.out).on hb) (h0.on hs (HB.out.trans (hb.mono HB.out.size)) fun j hj => Nat.lt_of_lt_of_le (hp j hj) hw.size))
  have HG : Hid (g < w2.heap.size) := Nat.lt_of_lt_of_le hg (Nat.le_trans hw.size HB.out.size)
  have HXX := Lib.hid hx
  have HU := Lib.hid (guarded_any (tk := tk) (u0 := u0) (u2 := .slice A fs.length n) (u3 := u3) (u4 := u4) (u5 := u5) (u6 := u6) (u7 := u7) (u8 := u8) (u9 := u9) (u10 := u10) (u11 := u11) htg w2)
  rw [hgu] at HU
  have HV := Lib.hid (fun wx (hb : Below w2.heap.size w2 wx) => shows_any (tk := tk) (n := n) (u0 := u0) (u1 := .string tg) (u3 := u3) (u4 := u4) (u5 := u5) (u6 := u6) (u7 := u7) (u8 := u8) (u9 := u9) (u10 := u10) (u11 := u11) wx (hrs.frm ((hw.on HB.out).on hb)).rd hfn)
  simp only [hsh] at HV
  clear h hbx hs hgu hsh hrs hfn htg
  generalize fs.length = q at *
  go_enter Tryd.func38, Tryd.ntmps38
  go_wp2_with fail
  refine HU.out.mono ?_
  rintro e wa ⟨rfl, hba⟩
  clear c0 c1 c2 c3 c4 c5 c6 c7 c8 c9 c10 c11 c12 hx
  have HBA := Lib.hid hba
  have hkq := (HBA.out.block _ (blk_lt HC.out)).trans HC.out
  have hxq := (HBA.out.cell (p := ⟨g, 0, none⟩) HG.out).trans HXX.out
  have c0 := blk_cell hkq 0; have c1 := blk_cell hkq 1; have c2 := blk_cell hkq 2; have c3 := blk_cell hkq 3; have c4 := blk_cell hkq 4; have c5 := blk_cell hkq 5; have c6 := blk_cell hkq 6; have c7 := blk_cell hkq 7; have c8 := blk_cell hkq 8; have c9 := blk_cell hkq 9; have c10 := blk_cell hkq 10; have c11 := blk_cell hkq 11; have c12 := blk_cell hkq 12
  simp only [List.getElem?_toArray, List.getElem?_cons_zero, List.getElem?_cons_succ] at c0 c1 c2 c3 c4 c5 c6 c7 c8 c9 c10 c11 c12
  clear hba hkq
  go_wp2_with fail
  refine (HV.out _ HBA.out).mono ?_
  rintro e wb ⟨rfl, hbb⟩
  clear c0 c1 c2 c3 c4 c5 c6 c7 c8 c9 c10 c11 c12 hxq
  have HBB := Lib.hid (bt HBA.out hbb)
  have hkq := (HBB.out.block _ (blk_lt HC.out)).trans HC.out
  have hxq := (HBB.out.cell (p := ⟨g, 0, none⟩) HG.out).trans HXX.out
  have c0 := blk_cell hkq 0; have c1 := blk_cell hkq 1; have c2 := blk_cell hkq 2; have c3 := blk_cell hkq 3; have c4 := blk_cell hkq 4; have c5 := blk_cell hkq 5; have c6 := blk_cell hkq 6; have c7 := blk_cell hkq 7; have c8 := blk_cell hkq 8; have c9 := blk_cell hkq 9; have c10 := blk_cell hkq 10; have c11 := blk_cell hkq 11; have c12 := blk_cell hkq 12
  simp only [List.getElem?_toArray, List.getElem?_cons_zero, List.getElem?_cons_succ] at c0 c1 c2 c3 c4 c5 c6 c7 c8 c9 c10 c11 c12
  clear hbb hkq
  have HSZ : Hid (w2.heap.size ≤ wb.heap.size) := HBB.out.size
  have HRQ := Lib.hid ((HBB.out.block _ (blk_lt HR.out)).trans HR.out)
  have HBW := Lib.hid (bt HB.out HBB.out)
  go_wp2_with fail
  refine (HK.out _ HBB.out).mono ?_
  clear c0 c1 c2 c3 c4 c5 c6 c7 c8 c9 c10 c11 c12 hxq HK
  rintro e w3 ⟨he, hf3, hs3⟩
  have hk3 := (hf3.block _ (Nat.lt_of_lt_of_le (blk_lt HR.out) HSZ.out) hn3).trans HRQ.out
  have HX := Lib.hid (And.intro hf3 (And.intro hs3 hk3))
  clear hf3 hs3
  cases o with
  | gone =>
    obtain ⟨u, pv, rfl⟩ := he
    go_wp2_with fail
    exact ⟨rfl, ⟨u, pv, rfl⟩, (Frm.of HBW.out).trans HX.out.1, HX.out.2.1⟩
  | ans st l b cl =>
    obtain ⟨A, n, rfl, hrow, hl, hge⟩ := he
    have HW := Lib.hid (And.intro hrow (And.intro hl hge))
    have r0 := blk_cell hk3 0; have r1 := blk_cell hk3 1; have r2 := blk_cell hk3 2; have r3 := blk_cell hk3 3
    have z0 := blk_free hk3 0; have z1 := blk_free hk3 1; have z2 := blk_free hk3 2; have z3 := blk_free hk3 3
    simp only [List.getElem?_toArray, List.getElem?_cons_zero, List.getElem?_cons_succ] at r0 r1 r2 r3
    clear hk3 hrow hl hge
    generalize hN : l.length = m' at *
    go_wp2_with fail
    subst hN
    have hlt := blk_lt HR.out
    have hsz := HSZ.out
    refine put4_ret (W := w3) Tryd.results38 HX.out.2.2 (.int .i64 st) (.slice A l.length n) (.string b) (.bool cl) rfl rfl ?_
    refine ⟨⟨A, n, rfl, HW.out.1.put4 _ _ _ _ _ (fun a e => by have := HW.out.2.2 a e; omega), HW.out.2.1, fun a e => Nat.zero_le _⟩, ((Frm.of HBW.out).trans HX.out.1).put4 _ _ _ _ _ (by omega), h1.put4 HX.out.2.1 _ _ _ _ _ hn3⟩

set_option maxRecDepth 100000 in
set_option maxHeartbeats 4000000 in
theorem guard_no {P : Nat → Prop} {S0 : World → Prop} {w0 : World} {hv : Value} {g : Nat} {u0 u3 u4 u5 u6 u7 u8 u9 u10 u11 : Value} {A : Option Addr} {n : Nat} {fs : List Fld} {tg tk : ByteArray} (hgu : guardedB tk tg = true) (hsh : showsB tk fs = false) (hrs : Row P w0 A fs) (hfn : fs.length ≤ 1000000) (htg : tg.size ≤ 1000000)
    (hp : ∀ j, P j → j < w0.heap.size) (h0 : Of P S0) (hg : g < w0.heap.size) (hgp : ¬ P g) (hbx : w0.cell? ⟨g, 0, none⟩ = some hv) :
    Hd P S0 S0 (.agg #[u0, .string tg, .slice A fs.length n, u3, u4, u5, u6, u7, u8, u9, u10, u11, .string tk]) (.ans 401 [] (plB 401) false) w0 (.func (.func 38) #[] #[.pointer (some ⟨g, 0, none⟩)]) := by
  refine ⟨38, _, rfl, enters_of Tryd.func38 (by kernel_rfl) rfl, fun w hw hs => ?_⟩
  show Calls Tryd.prog 38 #[.agg #[u0, .string tg, .slice A fs.length n, u3, u4, u5, u6, u7, u8, u9, u10, u11, .string tk], .pointer (some ⟨g, 0, none⟩)] w _
  have hb1 := (Below.refl w.heap.size w).alloc (Nat.le_refl _) (.cells #[u0, .string tg, .slice A fs.length n, u3, u4, u5, u6, u7, u8, u9, u10, u11, .string tk] 30)
  have hb2 := hb1.alloc hb1.size (.cells #[.int .i64 0, .slice none 0 0, .string ⟨#[]⟩, .bool false] 32)
  have hkc : ((w.alloc (.cells #[u0, .string tg, .slice A fs.length n, u3, u4, u5, u6, u7, u8, u9, u10, u11, .string tk] 30)).alloc (.cells #[.int .i64 0, .slice none 0 0, .string ⟨#[]⟩, .bool false] 32)).heap[w.heap.size]? = some (.cells #[u0, .string tg, .slice A fs.length n, u3, u4, u5, u6, u7, u8, u9, u10, u11, .string tk] 30 (0, 0)) :=
    (Below.heap_alloc _ _ _ (by simp)).trans (heap_alloc_new w _)
  have hkr : ((w.alloc (.cells #[u0, .string tg, .slice A fs.length n, u3, u4, u5, u6, u7, u8, u9, u10, u11, .string tk] 30)).alloc (.cells #[.int .i64 0, .slice none 0 0, .string ⟨#[]⟩, .bool false] 32)).heap[w.heap.size + 1]? = some (.cells #[.int .i64 0, .slice none 0 0, .string ⟨#[]⟩, .bool false] 32 (0, 0)) := by
    have := heap_alloc_new (w.alloc (.cells #[u0, .string tg, .slice A fs.length n, u3, u4, u5, u6, u7, u8, u9, u10, u11, .string tk] 30)) (.cells #[.int .i64 0, .slice none 0 0, .string ⟨#[]⟩, .bool false] 32)
    simpa using this
  have c0 := blk_cell hkc 0; have c1 := blk_cell hkc 1; have c2 := blk_cell hkc 2; have c3 := blk_cell hkc 3; have c4 := blk_cell hkc 4; have c5 := blk_cell hkc 5; have c6 := blk_cell hkc 6
  have c7 := blk_cell hkc 7; have c8 := blk_cell hkc 8; have c9 := blk_cell hkc 9; have c10 := blk_cell hkc 10; have c11 := blk_cell hkc 11; have c12 := blk_cell hkc 12
  simp only [List.getElem?_toArray, List.getElem?_cons_zero, List.getElem?_cons_succ] at c0 c1 c2 c3 c4 c5 c6 c7 c8 c9 c10 c11 c12
  have HC := Lib.hid hkc; have HR := Lib.hid hkr; have HB := Lib.hid hb2
  have hnp := hp
  have hn3 : ¬ P (w.heap.size + 1) := fun q => by have := hp _ q; have := hw.size; omega
  have hx : (((w.alloc (.cells #[u0, .string tg, .slice A fs.length n, u3, u4, u5, u6, u7, u8, u9, u10, u11, .string tk] 30)).alloc (.cells #[.int .i64 0, .slice none 0 0, .string ⟨#[]⟩, .bool false] 32)).cell? ⟨g, 0, none⟩) = some hv := (hb2.cell (p := ⟨g, 0, none⟩) (Nat.lt_of_lt_of_le hg hw.size)).trans ((World.cell?_of_block (hw.block g hg hgp)).trans hbx)
  clear hkc hkr hb1 hb2
  generalize hw2 : (w.alloc (.cells #[u0, .string tg, .slice A fs.length n, u3, u4, u5, u6, u7, u8, u9, u10, u11, .string tk] 30)).alloc (.cells #[.int .i64 0, .slice none 0 0, .string ⟨#[]⟩, .bool false] 32) = w2 at *
  have HG : Hid (g < w2.heap.size) := Nat.lt_of_lt_of_le hg (Nat.le_trans hw.size HB.out.size)
  have HXX := Lib.hid hx
  have HU := Lib.hid (guarded_any (tk := tk) (u0 := u0) (u2 := .slice A fs.length n) (u3 := u3) (u4 := u4) (u5 := u5) (u6 := u6) (u7 := u7) (u8 := u8) (u9 := u9) (u10 := u10) (u11 := u11) htg w2)
  rw [hgu] at HU
  have HV := Lib.hid (fun wx (hb : Below w2.heap.size w2 wx) => shows_any (tk := tk) (n := n) (u0 := u0) (u1 := .string tg) (u3 := u3) (u4 := u4) (u5 := u5) (u6 := u6) (u7 := u7) (u8 := u8) (u9 := u9) (u10 := u10) (u11 := u11) wx (hrs.frm ((hw.on HB.out).on hb)).rd hfn)
  simp only [hsh] at HV
  have HS2 := Lib.hid (h0.on hs HB.out fun j hj => Nat.lt_of_lt_of_le (hp j hj) hw.size)
  have HP := Lib.hid (fun wx => plain_any 401 wx)
  clear hbx hs hgu hsh hrs hfn htg
  generalize fs.length = q at *
  generalize plB 401 = pb at *
  go_enter Tryd.func38, Tryd.ntmps38
  go_wp2_with fail
  refine HU.out.mono ?_
  rintro e wa ⟨rfl, hba⟩
  clear c0 c1 c2 c3 c4 c5 c6 c7 c8 c9 c10 c11 c12 hx
  have HBA := Lib.hid hba
  have hkq := (HBA.out.block _ (blk_lt HC.out)).trans HC.out
  have hxq := (HBA.out.cell (p := ⟨g, 0, none⟩) HG.out).trans HXX.out
  have c0 := blk_cell hkq 0; have c1 := blk_cell hkq 1; have c2 := blk_cell hkq 2; have c3 := blk_cell hkq 3; have c4 := blk_cell hkq 4; have c5 := blk_cell hkq 5; have c6 := blk_cell hkq 6; have c7 := blk_cell hkq 7; have c8 := blk_cell hkq 8; have c9 := blk_cell hkq 9; have c10 := blk_cell hkq 10; have c11 := blk_cell hkq 11; have c12 := blk_cell hkq 12
  simp only [List.getElem?_toArray, List.getElem?_cons_zero, List.getElem?_cons_succ] at c0 c1 c2 c3 c4 c5 c6 c7 c8 c9 c10 c11 c12
  clear hba hkq
  go_wp2_with fail
  refine (HV.out _ HBA.out).mono ?_
  rintro e wb ⟨rfl, hbb⟩
  clear c0 c1 c2 c3 c4 c5 c6 c7 c8 c9 c10 c11 c12 hxq
  have HBB := Lib.hid (bt HBA.out hbb)
  clear hbb
  go_wp2_with fail
  refine (HP.out _).mono ?_
  rintro e w3 ⟨rfl, hb3⟩
  have hbz := bt HBB.out hb3
  have hk3 := (hbz.block _ (blk_lt HR.out)).trans HR.out
  have HX := Lib.hid (And.intro hbz hk3)
  have r0 := blk_cell hk3 0; have r1 := blk_cell hk3 1; have r2 := blk_cell hk3 2; have r3 := blk_cell hk3 3
  have z0 := blk_free hk3 0; have z1 := blk_free hk3 1; have z2 := blk_free hk3 2; have z3 := blk_free hk3 3
  simp only [List.getElem?_toArray, List.getElem?_cons_zero, List.getElem?_cons_succ] at r0 r1 r2 r3
  clear hb3 hk3 hbz
  go_wp2_with fail
  have hlt := blk_lt HR.out
  have hw0 := hw.size
  refine put4_ret (W := w3) Tryd.results38 HX.out.2 (.int .i64 401) (.slice none 0 0) (.string pb) (.bool false) rfl rfl ?_
  refine ⟨⟨none, 0, rfl, Row.nil _ _ _, by simp, fun a e => Nat.zero_le _⟩, ((Frm.of HB.out).on HX.out.1).put4 _ _ _ _ _ (by omega), h0.put4 (h0.on HS2.out HX.out.1 fun j hj => by have := hp _ hj; omega) _ _ _ _ _ hn3⟩

end Go.Proofs.YtmncchgifgjhgaaDoor
