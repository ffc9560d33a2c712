/- The contracts of notAllowed, marks. -/
import Derived.Test.YtmncchgifgjhgaaDoorCd
namespace Go.Proofs.YtmncchgifgjhgaaDoor
open Go.RowKit Go.Shelf

theorem x156 : Builder.Extra Tryd.prog Tryd.lays156_ren where
  sizeBuilder := by kernel_rfl
  liesBuilder := by kernel_rfl
  t5 := Tryd.underlying5
  a5 := Tryd.isAgg5
  z5 := Tryd.sizeOf5
  v5 := Tryd.zeroValue5
  infoByte := by kernel_rfl
  cellsByte := by kernel_rfl
  sizeByte := by kernel_rfl
  neB5 := by decide

/-- The methods that are, with a comma and a blank between. -/
def joinB (al : List ByteArray) : ByteArray := mkB (Lib.join (al.map (·.data.toList)) [44, 32])
theorem tail_len (l : List Bytes) (m : Nat) (h : ∀ x ∈ l, x.length ≤ m) : (Lib.joinTail [44, 32] l).length ≤ l.length * (m + 2) := by
  induction l with
  | nil => simp [Lib.joinTail]
  | cons x r ih =>
    have h1 := h x (by simp)
    have h2 := ih fun y hy => h y (by simp [hy])
    have e : (Lib.joinTail [44, 32] (x :: r)).length = 2 + x.length + (Lib.joinTail [44, 32] r).length := by simp [Lib.joinTail]; omega
    rw [e, List.length_cons, Nat.succ_mul]
    omega
theorem join_len (al : List ByteArray) (hn : al.length ≤ 100) (hs : ∀ x ∈ al, x.size ≤ 3000) : (Lib.join (al.map (·.data.toList)) [44, 32]).length ≤ 400000 := by
  cases al with
  | nil => simp [Lib.join]
  | cons x r =>
    rw [List.map_cons, Lib.join_cons, List.length_append]
    have h1 := hs x (by simp)
    have h2 := tail_len (r.map (·.data.toList)) 3000 (fun y hy => by
      obtain ⟨z, hz, rfl⟩ := List.mem_map.1 hy
      have := hs z (by simp [hz])
      simpa using this)
    have h3 : x.data.toList.length = x.size := data_len x
    rw [List.length_map] at h2
    have h4 : r.length * 3002 ≤ 100 * 3002 := Nat.mul_le_mul_right _ (by simp at hn; omega)
    omega

theorem join_any (al : List ByteArray) (A : Option Addr) (c : Nat) (w : World) (hr : Rd w w.heap.size 1 A al.length (al.map .string)) (hc : al.length ≤ c) (hn : al.length ≤ 100) (hs : ∀ x ∈ al, x.size ≤ 3000) :
    Calls Tryd.prog 52 #[.slice A al.length c, .string ⟨#[44, 32]⟩] w fun e w' => e = .returned (.string (joinB al)) ∧ Below w.heap.size w w' := by
  by_cases h0 : al.length = 0
  · obtain rfl : al = [] := List.eq_nil_of_length_eq_zero h0
    exact (Any.strings_Join_none Tryd.lays156 x156 A c ⟨#[44, 32]⟩ w).mono fun e w' ⟨he, hw⟩ => ⟨he, hw ▸ Below.refl _ _⟩
  · obtain ⟨a, rfl, hb, hcl⟩ := hr.2 h0
    have hsp : a.spot = none := by
      have h1 := hcl 0 (.string al[0]) (by rw [List.getElem?_map, List.getElem?_eq_getElem (by omega)]; rfl)
      rw [show a.add 0 = a from rfl] at h1
      unfold World.cell? at h1
      split at h1
      · split at h1
        · cases h1
        · rename_i h2; simpa using h2
      · cases h1
    obtain ⟨g, o, sp⟩ := a
    obtain rfl : sp = none := hsp
    have hl := join_len al hn hs
    exact Any.strings_Join Tryd.lays156 x156 g o c al ⟨#[44, 32]⟩ w (fun j x hx => by
      have h1 := hcl j (.string x) (by rw [List.getElem?_map, hx]; rfl)
      have h2 : (⟨g, o, none⟩ : Addr).add j = ⟨g, o + j, none⟩ := by
        unfold Addr.add
        split
        · rename_i hj; rw [hj]; rfl
        · rfl
      rw [h2] at h1
      exact h1) hb (by omega) hc (by show (Lib.join _ [44, 32]).length ≤ _; omega)

def allowB : ByteArray := ⟨#[97, 108, 108, 111, 119]⟩
set_option maxRecDepth 100000 in
set_option maxHeartbeats 4000000 in
theorem notAllowed_any (al : List ByteArray) (A : Option Addr) (c : Nat) (w : World) (hr : Rd w w.heap.size 1 A al.length (al.map .string)) (hc : al.length ≤ c) (hn : al.length ≤ 100) (hs : ∀ x ∈ al, x.size ≤ 3000) :
    Calls Tryd.prog 42 #[.slice A al.length c] w fun e w' => ∃ g, e = .returned (.agg #[.int .i64 405, .slice (some ⟨g, 0, none⟩) 1 1, .string (plB 405), .bool false]) ∧ w.heap.size ≤ g ∧ w'.heap[g]? = some (.cells #[.string allowB, .string (joinB al)] 42 (0, 0)) ∧ Below w.heap.size w w' := by
  have hb1 := (Below.refl w.heap.size w).alloc (Nat.le_refl _) (.cells #[.int .i64 0, .slice none 0 0, .string ⟨#[]⟩, .bool false] 32)
  have hk1 := heap_alloc_new w (.cells #[.int .i64 0, .slice none 0 0, .string ⟨#[]⟩, .bool false] 32)
  have HK1 := Lib.hid hk1; have HB1 := Lib.hid hb1
  clear hk1 hb1
  generalize hw1 : w.alloc (.cells #[.int .i64 0, .slice none 0 0, .string ⟨#[]⟩, .bool false] 32) = w1 at *
  have HP := Lib.hid (plain_any 405 w1)
  have HR := Lib.hid hr
  have HJ := Lib.hid (fun wx (hb : Below w1.heap.size w1 wx) => join_any al A c wx (((hr.below HB1.out (Nat.le_refl _)).wide HB1.out.size).below hb (Nat.le_refl _) |>.wide hb.size) hc hn hs)
  clear hr hc hn hs
  generalize plB 405 = pb at *
  generalize joinB al = jb at *
  generalize al.length = na at *
  go_enter Tryd.func42, Tryd.ntmps42
  go_wp2_with fail
  refine HP.out.mono ?_
  rintro e w2 ⟨rfl, hb2⟩
  have hb3 := hb2.alloc hb2.size (.cells #[.int .i64 405, .slice none 0 0, .string pb, .bool false] 32)
  have hk3 := heap_alloc_new w2 (.cells #[.int .i64 405, .slice none 0 0, .string pb, .bool false] 32)
  have HK3 := Lib.hid hk3; have HB3 := Lib.hid hb3
  have HS2 := Lib.hid hb2.size
  clear hk3 hb3 hb2
  go_wp2_with fail
  generalize hw3 : w2.alloc (.cells #[.int .i64 405, .slice none 0 0, .string pb, .bool false] 32) = w3 at *
  refine (HJ.out w3 HB3.out).mono ?_
  rintro e w4 ⟨rfl, hb4⟩
  have HB4 := Lib.hid hb4
  have hk5 := (hb4.block _ (blk_lt HK3.out)).trans HK3.out
  have hr5 := ((HB3.out.trans (hb4.mono HB3.out.size)).block _ (blk_lt HK1.out)).trans HK1.out
  clear hb4
  have hlt := blk_lt hk5
  have hb6 := (Below.refl w4.heap.size w4).alloc (Nat.le_refl _) (.cells #[.string allowB, .string jb] 42)
  have hk6 := heap_alloc_new w4 (.cells #[.string allowB, .string jb] 42)
  have hk7 := (hb6.block _ (blk_lt hk5)).trans hk5
  have hr7 := (hb6.block _ (blk_lt hr5)).trans hr5
  have c0 := blk_cell hk7 0; have c1 := blk_cell hk7 1; have c2 := blk_cell hk7 2; have c3 := blk_cell hk7 3
  have f0 := blk_free hk7 0; have f1 := blk_free hk7 1; have f2 := blk_free hk7 2; have f3 := blk_free hk7 3
  have r0 := blk_cell hr7 0; have r1 := blk_cell hr7 1; have r2 := blk_cell hr7 2; have r3 := blk_cell hr7 3
  have z0 := blk_free hr7 0; have z1 := blk_free hr7 1; have z2 := blk_free hr7 2; have z3 := blk_free hr7 3
  simp only [List.getElem?_toArray, List.getElem?_cons_zero, List.getElem?_cons_succ] at c0 c1 c2 c3 r0 r1 r2 r3
  have hg1 := blk_lt HK1.out
  have hne : w.heap.size ≠ w2.heap.size := by have := HS2.out; omega
  have HX := Lib.hid (And.intro hb6 (And.intro hk6 (And.intro hk7 hr7)))
  have HL := Lib.hid (And.intro hlt hg1)
  clear hb6 hk6 hk7 hr7 hk5 hr5 hlt hg1
  generalize hab : allowB = ab at *
  unfold allowB at hab
  go_wp2_with fail
  subst hab
  obtain ⟨hb6, hk6, hk7, hr7⟩ := HX.out
  generalize w4.alloc (.cells #[.string ⟨#[97, 108, 108, 111, 119]⟩, .string jb] 42) = w6 at *
  refine put4_ret (W := w6.setCell ⟨w2.heap.size, 1, none⟩ (.slice (some ⟨w4.heap.size, 0, none⟩) 1 1)) Tryd.results42 ((set_oth _ _ _ _ hne).trans hr7) (.int .i64 405) (.slice (some ⟨w4.heap.size, 0, none⟩) 1 1) (.string pb) (.bool false) rfl rfl ?_
  have s1 := HL.out.1
  have s2 := HL.out.2
  have s3 := HS2.out
  have s4 := HB1.out.size
  have s5 := HB4.out.size
  refine ⟨_, rfl, by omega, (put4_far (by omega) _ _ _ _).trans ((set_oth _ _ _ _ (by show w4.heap.size ≠ w2.heap.size; omega)).trans hk6), put4_below ?_ (Nat.le_refl _) _ _ _ _⟩
  exact ((((bt HB1.out HB3.out)).trans (HB4.out.mono (by have := HB3.out.size; omega))).trans (hb6.mono (by have := HB3.out.size; omega))).setCell (p := ⟨w2.heap.size, 1, none⟩) (by have := blk_lt HK1.out; show w.heap.size ≤ w2.heap.size; omega) _


/-- Whose an answer is, and by which version. -/
def xidB : ByteArray := ⟨#[120, 45, 105, 100]⟩
def xveB : ByteArray := ⟨#[120, 45, 118, 101, 114, 115, 105, 111, 110]⟩
def idB (cn sq : Int) : ByteArray := mkB (Lib.itoa cn ++ [45] ++ Lib.itoa sq)
def markL (cn sq vs : Int) : List Fld := [(xidB, idB cn sq), (xveB, mkB (Lib.itoa vs))]
def I64 (n : Int) : Prop := -9223372036854775808 ≤ n ∧ n ≤ 9223372036854775807

set_option maxRecDepth 100000 in
set_option maxHeartbeats 4000000 in
theorem marks_any {u0 u1 u2 u3 u4 u8 u9 u10 u11 u12 : Value} {cn sq vs : Int} (hc : I64 cn) (hs : I64 sq) (hv : I64 vs) (w : World) (hgb : GB w) :
    Calls Tryd.prog 46 #[.agg #[u0, u1, u2, u3, u4, .int .i64 cn, .int .i64 sq, .int .i64 vs, u8, u9, u10, u11, u12]] w fun e w' => ∃ g, e = .returned (.slice (some ⟨g, 0, none⟩) 2 2) ∧ w'.ownsRow w.heap.size 42 2 (.slice (some ⟨g, 0, none⟩) 2 2) 2 (fldCells (markL cn sq vs)) ∧ Below w.heap.size w w' := by
  have hb1 := (Below.refl w.heap.size w).alloc (Nat.le_refl _) (.cells #[u0, u1, u2, u3, u4, .int .i64 cn, .int .i64 sq, .int .i64 vs, u8, u9, u10, u11, u12] 30)
  have hkc := heap_alloc_new w (.cells #[u0, u1, u2, u3, u4, .int .i64 cn, .int .i64 sq, .int .i64 vs, u8, u9, u10, u11, u12] 30)
  have c0 := blk_cell hkc 0; have c1 := blk_cell hkc 1; have c2 := blk_cell hkc 2; have c3 := blk_cell hkc 3; have c4 := blk_cell hkc 4; have c5 := blk_cell hkc 5; have c6 := blk_cell hkc 6
  have c7 := blk_cell hkc 7; have c8 := blk_cell hkc 8; have c9 := blk_cell hkc 9; have c10 := blk_cell hkc 10; have c11 := blk_cell hkc 11; have c12 := blk_cell hkc 12
  simp only [List.getElem?_toArray, List.getElem?_cons_zero, List.getElem?_cons_succ] at c0 c1 c2 c3 c4 c5 c6 c7 c8 c9 c10 c11 c12
  have HC := Lib.hid hkc; have HB := Lib.hid hb1
  clear hkc hb1
  generalize hw1 : w.alloc (.cells #[u0, u1, u2, u3, u4, .int .i64 cn, .int .i64 sq, .int .i64 vs, u8, u9, u10, u11, u12] 30) = w1 at *
  have HG := Lib.hid (fun wx (hb : Below w1.heap.size w1 wx) => (hgb.on HB.out).on hb)
  have l1 : (Lib.itoa cn).length ≤ 21 := Lib.itoa_length_le cn hc.1 hc.2
  have l2 : (Lib.itoa sq).length ≤ 21 := Lib.itoa_length_le sq hs.1 hs.2
  have HA := Lib.hid (fun wx (hb : Below w1.heap.size w1 wx) => itoa_any cn hc.1 hc.2 wx (HG.out wx hb))
  have HC2 := Lib.hid (fun wx (hb : Below w1.heap.size w1 wx) => itoa_any sq hs.1 hs.2 wx (HG.out wx hb))
  have HV := Lib.hid (fun wx (hb : Below w1.heap.size w1 wx) => itoa_any vs hv.1 hv.2 wx (HG.out wx hb))
  have HCD : Hid (∀ wx, Below w1.heap.size w1 wx → wx.cell? ⟨w.heap.size, 5, none⟩ = some (.int .i64 cn) ∧ wx.cell? ⟨w.heap.size, 6, none⟩ = some (.int .i64 sq) ∧ wx.cell? ⟨w.heap.size, 7, none⟩ = some (.int .i64 vs)) := fun wx hb => ⟨(hb.cell (p := ⟨w.heap.size, 5, none⟩) (blk_lt HC.out)).trans c5, (hb.cell (p := ⟨w.heap.size, 6, none⟩) (blk_lt HC.out)).trans c6, (hb.cell (p := ⟨w.heap.size, 7, none⟩) (blk_lt HC.out)).trans c7⟩
  have HD := Lib.hid (Below.refl w1.heap.size w1).drew
  have HML : Hid (fldCells (markL cn sq vs) = [.string xidB, .string (idB cn sq), .string xveB, .string (mkB (Lib.itoa vs))]) := rfl
  rw [HML.out]
  have HID : Hid (idB cn sq = mkB (Lib.itoa cn ++ [45] ++ Lib.itoa sq)) := rfl
  generalize idB cn sq = ix at *
  generalize Lib.itoa cn = p1 at *
  generalize Lib.itoa sq = p2 at *
  have a1 := fun wx => add_str (mkB p1) ⟨#[45]⟩ (by rw [mkB_size]; show p1.length + 1 ≤ _; omega) wx
  have e1 : mkB p1 ++ ⟨#[45]⟩ = mkB (p1 ++ [45]) := mkB_app p1 [45]
  have a2 := fun wx => add_str (mkB (p1 ++ [45])) (mkB p2) (by rw [mkB_size, mkB_size]; simp; omega) wx
  rw [mkB_app, ← HID.out] at a2
  simp only [e1] at a1
  generalize mkB (p1 ++ [45]) = m1 at *
  generalize mkB p1 = m2 at *
  generalize mkB p2 = m3 at *
  generalize mkB (Lib.itoa vs) = m4 at *
  generalize hxi : xidB = xi at *
  generalize hxe : xveB = xe at *
  unfold xidB at hxi
  unfold xveB at hxe
  clear c0 c1 c2 c3 c4 c8 c9 c10 c11 c12 hc hs hv hgb l1 l2 e1 HID HG HML
  go_enter Tryd.func46, Tryd.ntmps46
  go_wp2_with fail
  go_region_held3 (fun W => W.cell? ⟨w.heap.size, 5, none⟩ = some (.int .i64 cn) ∧ W.cell? ⟨w.heap.size, 6, none⟩ = some (.int .i64 sq)) (first | (exact ⟨(HCD.out _ HD.out).1, (HCD.out _ HD.out).2.1⟩) | (exact ⟨(HCD.out _ hc3).1, (HCD.out _ hc3).2.1⟩) | (exact ⟨(HCD.out _ hc4).1, (HCD.out _ hc4).2.1⟩)) ((first
    | (go_at_call 53; refine (HC2.out _ hc3).mono ?_; rintro e w4 ⟨rfl, hb4⟩
       have hc4 := bt hc3 hb4)
    | (go_at_call 53; refine (HA.out _ HD.out).mono ?_; rintro e w3 ⟨rfl, hb3⟩
       have hc3 := bt HD.out hb3)))
  all_goals
    have d7 := (HCD.out _ hc4).2.2
    have HV2 := Lib.hid (HV.out _ hc4)
    have HE := Lib.hid (bt HB.out hc4)
    clear hc4 hb4 hc3 hb3 c5 c6 c7
    go_wp2_with fail
    refine HV2.out.mono ?_
    rintro e w5 ⟨rfl, hb5⟩
    have HE5 := Lib.hid (bt HE.out hb5)
    have HE6 := Lib.hid ((Below.refl w5.heap.size w5).alloc (Nat.le_refl _) (.cells #[.string xi, .string ix, .string xe, .string m4] 42))
    have HK6 := Lib.hid (own_of_block (heap_alloc_new w5 (.cells #[.string xi, .string ix, .string xe, .string m4] 42)) HE5.out.size (n := 2) (k := 2) rfl (by decide))
    clear hb5
    go_wp2_with fail
    go_ret
    refine ⟨_, rfl, ?_, bt HE5.out HE6.out⟩
    have h := HK6.out
    subst hxi hxe
    exact h
end Go.Proofs.YtmncchgifgjhgaaDoor
