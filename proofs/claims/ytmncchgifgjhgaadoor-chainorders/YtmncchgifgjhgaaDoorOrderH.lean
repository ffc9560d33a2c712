/- The links that ChainOrders makes: the closure, and a chain of them. -/
import Derived.Test.YtmncchgifgjhgaaDoorHl
import Derived.Deep.RegionHeld3
import Derived.Deep.RegionWith
import Derived.Deep.Cut
import Derived.Deep.CutRange
import Derived.Deep.CutBlock
namespace Go.Proofs.YtmncchgifgjhgaaDoor
open Go.RowKit Go.Shelf

theorem i64_and15 (n : Int) : bits .and .i64 n 15 = n % 16 := by
  have h : (BitVec.ofInt 64 15).toNat = 2 ^ 4 - 1 := by decide
  have key : (BitVec.ofInt 64 n &&& BitVec.ofInt 64 15).toNat = (n % ((2 ^ 64 : Nat) : Int)).toNat % 2 ^ 4 := by
    rw [BitVec.toNat_and, BitVec.toNat_ofInt, h, Nat.and_two_pow_sub_one_eq_mod]
  show IntKind.i64.wrap ((BitVec.ofInt 64 n &&& BitVec.ofInt 64 15).toNat : Nat) = n % 16
  rw [key, IntKind.wrap_i64]
  omega

def ordB (i : Int) (b : ByteArray) : ByteArray := mkB (Lib.itoa i) ++ ⟨#[40]⟩ ++ b ++ ⟨#[41]⟩
theorem ordB_size (i : Int) (b : ByteArray) (h0 : 0 ≤ i) (h1 : i < 16) : (ordB i b).size ≤ b.size + 23 := by
  have l1 : (Lib.itoa i).length ≤ 21 := Lib.itoa_length_le i (by omega) (by omega)
  unfold ordB
  rw [app_size, app_size, app_size, mkB_size]
  show (Lib.itoa i).length + 1 + b.size + 1 ≤ _
  omega

set_option maxRecDepth 100000 in
set_option maxHeartbeats 4000000 in
theorem order_hd {P : Nat → Prop} {S0 S1 : World → Prop} {w0 : World} {hv : Value} {g : Nat} {u0 u1 u2 u3 u4 u5 u6 u7 u8 u9 u10 u11 u12 : Value} {i st : Int} {b : ByteArray} {cl : Bool} {gi : Nat} (hi0 : 0 ≤ i) (hi1 : i < 16) (hbz : b.size ≤ 1000) (hgi : w0.heap[gi]? = some (.cells #[.int .i64 i] 3 (0, 0))) (hgip : ¬ P gi)
    (h : Hd P S0 S1 (.agg #[u0, u1, u2, u3, u4, u5, u6, u7, u8, u9, u10, u11, u12]) (.ans st [] b cl) w0 hv) (hp : ∀ j, P j → j < w0.heap.size) (h0 : Of P S0) (h1 : Of P S1) (hg : g < w0.heap.size) (hgp : ¬ P g) (hbx : w0.cell? ⟨g, 0, none⟩ = some hv) :
    Hd P S0 S1 (.agg #[u0, u1, u2, u3, u4, u5, u6, u7, u8, u9, u10, u11, u12]) (.ans st [] (ordB i b) cl) w0 (.func (.func 18) #[] #[.pointer (some ⟨g, 0, none⟩), .pointer (some ⟨gi, 0, none⟩)]) := by
  refine ⟨18, _, rfl, enters_of Tryd.func18 (by kernel_rfl) rfl, fun w hw hs => ?_⟩
  show Calls Tryd.prog 18 #[.agg #[u0, u1, u2, u3, u4, u5, u6, u7, u8, u9, u10, u11, u12], .pointer (some ⟨g, 0, none⟩), .pointer (some ⟨gi, 0, none⟩)] w _
  have hb1 := (Below.refl w.heap.size w).alloc (Nat.le_refl _) (.cells #[u0, u1, u2, u3, u4, u5, u6, u7, u8, u9, u10, u11, u12] 30)
  have hb2 := hb1.alloc hb1.size (.cells #[.int .i64 0, .slice none 0 0, .string ⟨#[]⟩, .bool false] 32)
  have hkc : ((w.alloc (.cells #[u0, u1, u2, u3, u4, u5, u6, u7, u8, u9, u10, u11, u12] 30)).alloc (.cells #[.int .i64 0, .slice none 0 0, .string ⟨#[]⟩, .bool false] 32)).heap[w.heap.size]? = some (.cells #[u0, u1, u2, u3, u4, u5, u6, u7, u8, u9, u10, u11, u12] 30 (0, 0)) :=
    (Below.heap_alloc _ _ _ (by simp)).trans (heap_alloc_new w _)
  have hkr : ((w.alloc (.cells #[u0, u1, u2, u3, u4, u5, u6, u7, u8, u9, u10, u11, u12] 30)).alloc (.cells #[.int .i64 0, .slice none 0 0, .string ⟨#[]⟩, .bool false] 32)).heap[w.heap.size + 1]? = some (.cells #[.int .i64 0, .slice none 0 0, .string ⟨#[]⟩, .bool false] 32 (0, 0)) := by
    have := heap_alloc_new (w.alloc (.cells #[u0, u1, u2, u3, u4, u5, u6, u7, u8, u9, u10, u11, u12] 30)) (.cells #[.int .i64 0, .slice none 0 0, .string ⟨#[]⟩, .bool false] 32)
    simpa using this
  have c0 := blk_cell hkc 0; have c1 := blk_cell hkc 1; have c2 := blk_cell hkc 2; have c3 := blk_cell hkc 3; have c4 := blk_cell hkc 4; have c5 := blk_cell hkc 5; have c6 := blk_cell hkc 6
  have c7 := blk_cell hkc 7; have c8 := blk_cell hkc 8; have c9 := blk_cell hkc 9; have c10 := blk_cell hkc 10; have c11 := blk_cell hkc 11; have c12 := blk_cell hkc 12
  simp only [List.getElem?_toArray, List.getElem?_cons_zero, List.getElem?_cons_succ] at c0 c1 c2 c3 c4 c5 c6 c7 c8 c9 c10 c11 c12
  have HC := Lib.hid hkc; have HR := Lib.hid hkr; have HB := Lib.hid hb2
  have hnp := hp
  have hn3 : ¬ P (w.heap.size + 1) := fun q => by have := hp _ q; have := hw.size; omega
  have hx : (((w.alloc (.cells #[u0, u1, u2, u3, u4, u5, u6, u7, u8, u9, u10, u11, u12] 30)).alloc (.cells #[.int .i64 0, .slice none 0 0, .string ⟨#[]⟩, .bool false] 32)).cell? ⟨g, 0, none⟩) = some hv := (hb2.cell (p := ⟨g, 0, none⟩) (Nat.lt_of_lt_of_le hg hw.size)).trans ((World.cell?_of_block (hw.block g hg hgp)).trans hbx)
  clear hkc hkr hb1 hb2
  generalize hw2 : (w.alloc (.cells #[u0, u1, u2, u3, u4, u5, u6, u7, u8, u9, u10, u11, u12] 30)).alloc (.cells #[.int .i64 0, .slice none 0 0, .string ⟨#[]⟩, .bool false] 32) = w2 at *
  obtain ⟨k, caps, rfl, hen, hk⟩ := h
  have HK := Lib.hid (hk w2 (hw.on HB.out) (h0.on hs HB.out fun j hj => Nat.lt_of_lt_of_le (hp j hj) hw.size))
  have hen' := hen (#[.agg #[u0, u1, u2, u3, u4, u5, u6, u7, u8, u9, u10, u11, u12]] ++ caps)
  clear hk hen
  have hgi2 : w2.heap[gi]? = some (.cells #[.int .i64 i] 3 (0, 0)) := (HB.out.block gi (Nat.lt_of_lt_of_le (blk_lt hgi) hw.size)).trans ((hw.block gi (blk_lt hgi) hgip).trans hgi)
  have HGI := Lib.hid hgi2
  have l1 : (Lib.itoa i).length ≤ 21 := Lib.itoa_length_le i (by omega) (by omega)
  have HDG := Lib.hid (fun wx => digits_any i (by omega) (by omega) wx)
  have HOB : Hid (ordB i b = mkB (Lib.itoa i) ++ ⟨#[40]⟩ ++ b ++ ⟨#[41]⟩) := rfl
  generalize ordB i b = ob at *
  generalize hp1 : Lib.itoa i = p1 at *
  have a1 := fun wx => add_str (mkB p1) ⟨#[40]⟩ (by rw [mkB_size]; show p1.length + 1 ≤ _; omega) wx
  have e1 : (mkB p1 ++ ⟨#[40]⟩).size = p1.length + 1 := by rw [app_size, mkB_size]; rfl
  have a2 := fun wx => add_str (mkB p1 ++ ⟨#[40]⟩) b (by rw [e1]; omega) wx
  have a3 := fun wx => add_str (mkB p1 ++ ⟨#[40]⟩ ++ b) ⟨#[41]⟩ (by rw [app_size, e1]; show p1.length + 1 + b.size + 1 ≤ _; omega) wx
  rw [← HOB.out] at a3
  clear e1
  generalize mkB p1 ++ ⟨#[40]⟩ ++ b = m3 at *
  generalize mkB p1 ++ ⟨#[40]⟩ = m2 at *
  generalize mkB p1 = m1 at *
  have HI := Lib.hid (And.intro hi0 hi1)
  clear hbx hs hgi hgi2 hi0 hi1 hbz l1 hp1 HOB
  go_enter Tryd.func18, Tryd.ntmps18
  go_wp2_with fail
  go_at_fn k
  refine HK.out.mono ?_
  rintro e w3 ⟨⟨A, n, he, -⟩, hf3, hs3⟩
  replace he : e = .returned (.agg #[.int .i64 st, .slice A 0 n, .string b, .bool cl]) := he
  subst he
  clear c0 c1 c2 c3 c4 c5 c6 c7 c8 c9 c10 c11 c12 HK hx
  have hw1 : w.heap.size < w2.heap.size := Nat.lt_of_succ_lt (blk_lt HR.out)
  have hb4 := (Below.refl w3.heap.size w3).alloc (Nat.le_refl _) (.cells #[.int .i64 st, .slice A 0 n, .string b, .bool cl] 32)
  have hk4 := heap_alloc_new w3 (.cells #[.int .i64 st, .slice A 0 n, .string b, .bool cl] 32)
  have hkr := (hb4.block _ (Nat.lt_of_lt_of_le (blk_lt HR.out) hf3.size)).trans ((hf3.block _ (blk_lt HR.out) hn3).trans HR.out)
  have hki := (hb4.block _ (Nat.lt_of_lt_of_le (blk_lt HGI.out) hf3.size)).trans ((hf3.block _ (blk_lt HGI.out) hgip).trans HGI.out)
  have hf4 := ((Frm.of HB.out).trans hf3).on hb4
  have hs4 := h1.on hs3 hb4 fun j hj => by have := hp _ hj; have := hf4.size; have := hw.size; have := hf3.size; omega
  have hg4 := blk_lt hk4
  have h34 : w.heap.size + 1 < w3.heap.size := Nat.lt_of_lt_of_le (blk_lt HR.out) hf3.size
  have HQ := Lib.hid (And.intro hki (And.intro hkr (And.intro hk4 (And.intro hf4 hs4))))
  have HN := Lib.hid (And.intro h34 hg4)
  have i0 := blk_cell hki 0
  have x0 := blk_cell hk4 0; have x1 := blk_cell hk4 1; have x2 := blk_cell hk4 2; have x3 := blk_cell hk4 3
  simp only [List.getElem?_toArray, List.getElem?_cons_zero, List.getElem?_cons_succ] at x0 x1 x2 x3 i0
  clear hki hkr hk4 hf4 hs4 hb4 hf3 hs3 hw1 h34 hg4 
  go_upto_region 2 with fail
  generalize hw4 : w3.alloc (.cells #[.int .i64 st, .slice A 0 n, .string b, .bool cl] 32) = w4 at *
  have HD := Lib.hid (Below.refl w4.heap.size w4).drew
  have HXC : Hid (∀ wx, Below w4.heap.size w4 wx → wx.cell? ⟨gi, 0, none⟩ = some (.int .i64 i) ∧ wx.cell? ⟨w3.heap.size, 2, none⟩ = some (.string b)) := fun wx hb =>
    ⟨blk_cell ((hb.block _ (blk_lt HQ.out.1)).trans HQ.out.1) 0, blk_cell ((hb.block _ (blk_lt HQ.out.2.2.1)).trans HQ.out.2.2.1) 2⟩
  have HXF : Hid (∀ wx, Below w4.heap.size w4 wx → wx.frozen? ⟨w3.heap.size, 2, none⟩ = false) := fun wx hb =>
    blk_free ((hb.block _ (blk_lt HQ.out.2.2.1)).trans HQ.out.2.2.1) 2
  have iX := (HXC.out _ HD.out).1
  have yX := (HXC.out _ HD.out).2
  go_region_law ((first
    | (go_simp; go_at_call 15; refine (HDG.out _).mono ?_; rintro e w5 ⟨rfl, hb5⟩
       have hb5' := HD.out.trans (hb5.mono HD.out.size)
       have y2 := (HXC.out _ hb5').2
       have y3 := HXF.out _ hb5')))
  all_goals
    obtain ⟨hki, hkr, hk4, hf4, hs4⟩ := HQ.out
    have k5 := (hb5'.block _ (blk_lt hk4)).trans hk4
    have k5r := (hb5'.block _ (blk_lt hkr)).trans hkr
    have hne2 : w.heap.size + 1 ≠ w3.heap.size := by have := HN.out.1; omega
    have k7 := set_same (v := .string ob) 2 k5
    have k7r := (set_oth w5 ⟨w3.heap.size, 2, none⟩ (.string ob) _ hne2).trans k5r
    have hnp6 : ∀ j, w.heap.size ≤ j → ¬ P j := fun j hj q => by have := hp _ q; have := hw.size; omega
    have h34 := HN.out.1
    have h44 := blk_lt hk4
    have hf7 := (hf4.on hb5').set w3.heap.size 2 (.string ob) (.inl (by omega))
    have hs7 := h1.set (h1.on hs4 hb5' fun j hj => by have := hp _ hj; have := hw.size; omega) w3.heap.size 2 (.string ob) (hnp6 _ (by omega))
    generalize w5.setCell ⟨w3.heap.size, 2, none⟩ (.string ob) = w7 at *
    replace k7 : w7.heap[w3.heap.size]? = some (.cells #[.int .i64 st, .slice A 0 n, .string ob, .bool cl] 32 (0, 0)) := k7
    have HF := Lib.hid (And.intro hf7 (And.intro hs7 k7r))
    have v0 := blk_cell k7 0; have v1 := blk_cell k7 1; have v2 := blk_cell k7 2; have v3 := blk_cell k7 3
    have r0 := blk_cell k7r 0; have r1 := blk_cell k7r 1; have r2 := blk_cell k7r 2; have r3 := blk_cell k7r 3
    have z0 := blk_free k7r 0; have z1 := blk_free k7r 1; have z2 := blk_free k7r 2; have z3 := blk_free k7r 3
    simp only [List.getElem?_toArray, List.getElem?_cons_zero, List.getElem?_cons_succ] at v0 v1 v2 v3 r0 r1 r2 r3
    clear iX yX hki hkr hk4 hf4 hs4 k5 k5r k7 k7r hf7 hs7 h34 h44 y2 y3 x0 x1 x2 x3 i0 hne2 hb5 hb5'
    go_wp2_with fail
    refine put4_ret (W := w7) Tryd.results18 HF.out.2.2 (.int .i64 st) (.slice A 0 n) (.string ob) (.bool cl) rfl rfl ?_
    have := blk_lt HR.out
    exact ⟨⟨A, n, rfl, Row.nil _ _ _, by simp, fun a e => Nat.zero_le _⟩, HF.out.1.put4 _ _ _ _ _ (by omega), h1.put4 HF.out.2.1 _ _ _ _ _ hn3⟩
end Go.Proofs.YtmncchgifgjhgaaDoor
