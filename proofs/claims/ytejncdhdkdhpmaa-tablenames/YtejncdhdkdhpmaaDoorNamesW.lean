/- The walk of TableNames. -/
import Derived.Test.YtejncdhdkdhpmaaDoorTbFit
import Derived.Test.YtejncdhdkdhpmaaDoorTbLines
namespace Go.Proofs.YtejncdhdkdhpmaaDoor
open Go.RowKit Pl

def gPat (k : UInt8) (a : List UInt8) : List UInt8 := [47, 112, 47, k] ++ a

theorem tok_free {a : List UInt8} (h : tokB a = true) : (47 : UInt8) ∉ a := by
  intro hm
  simp only [tokB, Bool.and_eq_true] at h
  have := (List.all_eq_true.1 h.2) _ hm
  revert this; decide
theorem words_g (k : UInt8) (hk : k ≠ 47) (a : List UInt8) (h : tokB a = true) : wordsB 47 ([112, 47, k] ++ a) = [[112], k :: a] := by
  have e : ([112, 47, k] ++ a : List UInt8) = [112] ++ 47 :: (k :: a) := rfl
  rw [e, words_app 47 [112] _ (by decide), words_one 47 (k :: a) (by simp; exact ⟨fun e => hk e.symm, tok_free h⟩)]
theorem segs_g (k : UInt8) (hk : k ≠ 47) (a : List UInt8) (h : tokB a = true) : segsL (gPat k a) = some [[112], k :: a] := by
  have e : gPat k a = 47 :: ([112, 47, k] ++ a) := rfl
  rw [e, segsL, if_pos rfl, if_neg (by simp), words_g k hk a h]
  rfl
theorem pat_param (a : List UInt8) (h : tokB a = true) : patL (gPat 58 a) = some [[112], 58 :: a] := by
  rw [patL, segs_g 58 (by decide) a h]
  have : fitsFrom [[112], 58 :: a] 0 [[112], 58 :: a] = true := by
    have e : (tokB [112] && !([112] : List UInt8).contains 37) = true := by decide
    simp [fitsFrom, fitL, kindL, namedL, h]
    simpa using e
  simp only [this, if_true]
theorem pat_rest (a : List UInt8) (h : tokB a = true) : patL (gPat 42 a) = some [[112], 42 :: a] := by
  rw [patL, segs_g 42 (by decide) a h]
  have : fitsFrom [[112], 42 :: a] 0 [[112], 42 :: a] = true := by
    have e : (tokB [112] && !([112] : List UInt8).contains 37) = true := by decide
    simp [fitsFrom, fitL, kindL, namedL, h]
    simpa using e
  simp only [this, if_true]

def gGet : List UInt8 := [71, 69, 84]
def gPut : List UInt8 := [80, 85, 84]
def rX (a : List UInt8) : Rt := ⟨gGet, gPat 58 a, [103, 101, 116]⟩
def rY (m b : List UInt8) : Rt := ⟨m, gPat 58 b, [112, 117, 116]⟩
def rZ (b : List UInt8) : Rt := ⟨gGet, gPat 42 b, [112, 117, 116]⟩
theorem right_x {a : List UInt8} (h : tokB a = true) : rightL (rX a) = true := by
  have e1 : tokB gGet = true := by decide
  have e2 : handL [103, 101, 116] = true := by decide
  simp [rightL, rX, pat_param a h, e1, e2]
theorem right_y {b : List UInt8} (h : tokB b = true) (m : List UInt8) (hm : tokB m = true) : rightL (rY m b) = true := by
  have e2 : handL [112, 117, 116] = true := by decide
  simp [rightL, rY, pat_param b h, hm, e2]
theorem right_z {b : List UInt8} (h : tokB b = true) : rightL (rZ b) = true := by
  have e1 : tokB gGet = true := by decide
  have e2 : handL [112, 117, 116] = true := by decide
  simp [rightL, rZ, pat_rest b h, e1, e2]
theorem place_x {a : List UInt8} (h : tokB a = true) : placeL (rX a) = (gGet, [47, 112, 47, 58]) := by
  simp [placeL, rX, pat_param a h, shapeL, shapeC, kindL]
theorem place_y {b : List UInt8} (h : tokB b = true) (m : List UInt8) : placeL (rY m b) = (m, [47, 112, 47, 58]) := by
  simp [placeL, rY, pat_param b h, shapeL, shapeC, kindL]
theorem place_z {b : List UInt8} (h : tokB b = true) : placeL (rZ b) = (gGet, [47, 112, 47, 42]) := by
  simp [placeL, rZ, pat_rest b h, shapeL, shapeC, kindL]
theorem check_two (r s : Rt) (hr : rightL r = true) (hs : rightL s = true) : checkL [r, s] = if placeL r = placeL s then 3 else 0 := by
  have e : clashL [r, s] = decide (placeL r = placeL s) := by
    rw [clash_nodup, Bool.eq_iff_iff]
    simp
  rw [checkL, e]
  simp [hr, hs]
theorem check_xy {a b : List UInt8} (ha : tokB a = true) (hb : tokB b = true) : checkL [rX a, rY gGet b] = 3 := by
  rw [check_two _ _ (right_x ha) (right_y hb _ (by decide)), place_x ha, place_y hb, if_pos rfl]
theorem check_xo {a b : List UInt8} (ha : tokB a = true) (hb : tokB b = true) : checkL [rX a, rY gPut b] = 0 := by
  rw [check_two _ _ (right_x ha) (right_y hb _ (by decide)), place_x ha, place_y hb, if_neg (by decide)]
theorem check_xz {a b : List UInt8} (ha : tokB a = true) (hb : tokB b = true) : checkL [rX a, rZ b] = 0 := by
  rw [check_two _ _ (right_x ha) (right_z hb), place_x ha, place_z hb, if_neg (by decide)]
theorem check_x {a : List UInt8} (ha : tokB a = true) : checkL [rX a] = 0 := by
  have : clashL [rX a] = false := by rw [clash_nodup]; simp
  simp [checkL, this, right_x ha]
theorem check_nil : checkL [] = 0 := rfl

theorem rd_new (w : World) (cs : Array Value) (t : TypeId) (l : List Rt) (g : Nat) (hg : g = w.heap.size) (h : cs.toList = rtCells l) : Rd (w.alloc (.cells cs t)) (w.alloc (.cells cs t)).heap.size 3 (some ⟨g, 0, none⟩) l.length (rtCells l) := by
  subst hg
  refine ⟨rt_len l, fun _ => ⟨_, rfl, by simp, fun j u hu => ?_⟩⟩
  rw [add_zero_own, new_cell, ← Array.getElem?_toList, h]
  exact hu

/-- Three cells of a block. -/
def C3 (w : World) (g : Nat) (a b c : Value) : Prop := w.cell? ⟨g, 0, none⟩ = some a ∧ w.cell? ⟨g, 1, none⟩ = some b ∧ w.cell? ⟨g, 2, none⟩ = some c
theorem C3.lt {w : World} {g : Nat} {a b c : Value} (h : C3 w g a b c) : g < w.heap.size := World.block_lt_of_cell? _ _ h.1
theorem C3.below {w w' : World} {g : Nat} {a b c : Value} (h : C3 w g a b c) (hb : Below w.heap.size w w') : C3 w' g a b c :=
  ⟨(hb.cell (p := ⟨g, 0, none⟩) h.lt).trans h.1, (hb.cell (p := ⟨g, 1, none⟩) h.lt).trans h.2.1, (hb.cell (p := ⟨g, 2, none⟩) h.lt).trans h.2.2⟩
theorem C3.alloc {w : World} {g : Nat} {a b c : Value} (h : C3 w g a b c) (o : Obj) : C3 (w.alloc o) g a b c := h.below ((Below.refl _ _).alloc (Nat.le_refl _) _)
theorem C3.new (w : World) (a b c : Value) (t : TypeId) : C3 (w.alloc (.cells #[a, b, c] t)) w.heap.size a b c := ⟨new_cell w _ t 0, new_cell w _ t 1, new_cell w _ t 2⟩

theorem eq_g (k : UInt8) (s : ByteArray) : (⟨#[47, 112, 47, k]⟩ ++ s : ByteArray) = mkB (gPat k s.data.toList) := bytes_ext (by rw [app_data, mkB_data]; rfl)

set_option maxRecDepth 100000 in
set_option maxHeartbeats 8000000 in
theorem names_skip (a b : ByteArray) (o : Bool) (w : World) (hw : HB w) (ha : a.size ≤ 140737488355328) (hb : b.size ≤ 140737488355328) (h : ¬ (a.size + b.size ≤ 60 ∧ tokB a.data.toList = true ∧ tokB b.data.toList = true)) :
    Calls Tryd.prog 7 #[.string a, .string b, .bool o] w fun e w' => e = .returned (.bool true) ∧ Below w.heap.size w w' := by
  have HF := Lib.hid (fit_any w hw)
  have HTA := Lib.hid (fun w => tok_any a w)
  have HTB := Lib.hid (fun w => tok_any b w)
  clear hw
  by_cases h1 : a.size + b.size ≤ 60
  · cases h2 : tokB a.data.toList with
    | false =>
      rw [h2] at HTA
      clear h h2
      go_enter Tryd.func7, Tryd.ntmps7
      go_wp2_with fail
      refine HF.out.mono ?_
      rintro e w1 ⟨rfl, hb1⟩
      go_wp2_with fail
      refine (HTA.out _).mono ?_
      rintro e w2 ⟨rfl, hb2⟩
      go_wp2_with fail
      go_ret
      exact ⟨rfl, bt hb1 hb2⟩
    | true =>
      rw [h2] at HTA
      have h3 : tokB b.data.toList = false := by
        cases h3 : tokB b.data.toList with
        | true => exact absurd ⟨h1, h2, h3⟩ h
        | false => rfl
      rw [h3] at HTB
      clear h h2 h3
      go_enter Tryd.func7, Tryd.ntmps7
      go_wp2_with fail
      refine HF.out.mono ?_
      rintro e w1 ⟨rfl, hb1⟩
      go_wp2_with fail
      refine (HTA.out _).mono ?_
      rintro e w2 ⟨rfl, hb2⟩
      go_wp2_with fail
      refine (HTB.out _).mono ?_
      rintro e w3 ⟨rfl, hb3⟩
      go_wp2_with fail
      go_ret
      exact ⟨rfl, bt (bt hb1 hb2) hb3⟩
  · clear h
    go_enter Tryd.func7, Tryd.ntmps7
    go_wp2_with fail
    refine HF.out.mono ?_
    rintro e w1 ⟨rfl, hb1⟩
    go_wp2_with fail
    go_ret
    exact ⟨rfl, hb1⟩

set_option maxRecDepth 100000 in
set_option maxHeartbeats 8000000 in
theorem names_e (a b : ByteArray) (w : World) (hw : HB w) (h1 : a.size + b.size ≤ 60) (h2 : tokB a.data.toList = true) (h3 : tokB b.data.toList = true) :
    Calls Tryd.prog 7 #[.string a, .string b, .bool false] w fun e w' => e = .returned (.bool true) ∧ Below w.heap.size w w' := by
  have HF := Lib.hid (fit_any w hw)
  have HW := Lib.hid hw
  have HTA := Lib.hid (fun w => tok_any a w)
  have HTB := Lib.hid (fun w => tok_any b w)
  rw [h2] at HTA
  rw [h3] at HTB
  have s1 : (⟨#[47, 112, 47, 58]⟩ : ByteArray).size = 4 := rfl
  have s2 : (⟨#[47, 112, 47, 42]⟩ : ByteArray).size = 4 := rfl
  have k1 := add_str ⟨#[47, 112, 47, 58]⟩ a (by omega)
  have k2 := add_str ⟨#[47, 112, 47, 58]⟩ b (by omega)
  have k3 := add_str ⟨#[47, 112, 47, 42]⟩ b (by omega)
  have HXY : Hid (rtCells [rX a.data.toList, rY gGet b.data.toList] = [.string ⟨#[71, 69, 84]⟩, .string (⟨#[47, 112, 47, 58]⟩ ++ a), .string ⟨#[103, 101, 116]⟩, .string ⟨#[71, 69, 84]⟩, .string (⟨#[47, 112, 47, 58]⟩ ++ b), .string ⟨#[112, 117, 116]⟩]) := by show _ = _; rw [eq_g, eq_g]; rfl
  have HXZ : Hid (rtCells [rX a.data.toList, rZ b.data.toList] = [.string ⟨#[71, 69, 84]⟩, .string (⟨#[47, 112, 47, 58]⟩ ++ a), .string ⟨#[103, 101, 116]⟩, .string ⟨#[71, 69, 84]⟩, .string (⟨#[47, 112, 47, 42]⟩ ++ b), .string ⟨#[112, 117, 116]⟩]) := by show _ = _; rw [eq_g, eq_g]; rfl
  have HX : Hid (rtCells [rX a.data.toList] = [.string ⟨#[71, 69, 84]⟩, .string (⟨#[47, 112, 47, 58]⟩ ++ a), .string ⟨#[103, 101, 116]⟩]) := by show _ = _; rw [eq_g]; rfl
  have HRX : Hid (∀ w, HB w → Calls Tryd.prog 18 #[.agg #[.string ⟨#[71, 69, 84]⟩, .string (⟨#[47, 112, 47, 58]⟩ ++ a), .string ⟨#[103, 101, 116]⟩]] w fun e w' => e = .returned (.bool true) ∧ Below w.heap.size w w') := fun w hw => by
    have := right_any ⟨#[71, 69, 84]⟩ (⟨#[47, 112, 47, 58]⟩ ++ a) ⟨#[103, 101, 116]⟩ w hw (by rw [app_size]; omega)
    have e : rt ⟨#[71, 69, 84]⟩ (⟨#[47, 112, 47, 58]⟩ ++ a) ⟨#[103, 101, 116]⟩ = rX a.data.toList := by rw [eq_g, rt, mkB_data]; rfl
    rw [e, right_x h2] at this
    exact this
  have hla : a.data.toList.length ≤ 60 := by rw [data_len]; omega
  have hlb : b.data.toList.length ≤ 60 := by rw [data_len]; omega
  have HPL : Hid (∀ r, r = rX a.data.toList ∨ r = rY gGet b.data.toList ∨ r = rZ b.data.toList → r.p.length ≤ 10000) := fun r hr => by
    rcases hr with rfl | rfl | rfl
    all_goals
      simp only [rX, rY, rZ, gPat, List.length_append, List.length_cons, List.length_nil]
      omega
  have HCXY := Lib.hid (check_xy h2 h3)
  have HCXZ := Lib.hid (check_xz h2 h3)
  have HCX := Lib.hid (check_x h2)
  generalize (⟨#[47, 112, 47, 58]⟩ ++ a : ByteArray) = xa at *
  generalize (⟨#[47, 112, 47, 58]⟩ ++ b : ByteArray) = xb at *
  generalize (⟨#[47, 112, 47, 42]⟩ ++ b : ByteArray) = zb at *
  clear h2 h3 hla hlb hw s1 s2
  go_enter Tryd.func7, Tryd.ntmps7
  go_wp2_with fail
  refine HF.out.mono ?_
  rintro e w1 ⟨rfl, hb1⟩
  go_wp2_with fail
  refine (HTA.out _).mono ?_
  rintro e w2 ⟨rfl, hb2⟩
  go_wp2_with fail
  refine (HTB.out _).mono ?_
  rintro e w3 ⟨rfl, hb3⟩
  have HB3 := Lib.hid (bt (bt hb1 hb2) hb3)
  have HW3 := Lib.hid (HW.out.below HB3.out)
  clear hb1 hb2 hb3
  go_wp2_with fail
  obtain ⟨W4, hW4⟩ : ∃ W, W = ((w3.alloc (.cells #[.string ⟨#[71, 69, 84]⟩, .string xa, .string ⟨#[103, 101, 116]⟩] 31)).alloc (.cells #[.string ⟨#[71, 69, 84]⟩, .string xb, .string ⟨#[112, 117, 116]⟩] 31)).alloc (.cells #[.string ⟨#[71, 69, 84]⟩, .string zb, .string ⟨#[112, 117, 116]⟩] 31) := ⟨_, rfl⟩
  have CX : C3 W4 w3.heap.size (.string ⟨#[71, 69, 84]⟩) (.string xa) (.string ⟨#[103, 101, 116]⟩) := by rw [hW4]; exact ((C3.new w3 _ _ _ 31).alloc _).alloc _
  have CZ : C3 W4 (w3.heap.size + 1 + 1) (.string ⟨#[71, 69, 84]⟩) (.string zb) (.string ⟨#[112, 117, 116]⟩) := by
    have := C3.new ((w3.alloc (.cells #[.string ⟨#[71, 69, 84]⟩, .string xa, .string ⟨#[103, 101, 116]⟩] 31)).alloc (.cells #[.string ⟨#[71, 69, 84]⟩, .string xb, .string ⟨#[112, 117, 116]⟩] 31)) (.string ⟨#[71, 69, 84]⟩) (.string zb) (.string ⟨#[112, 117, 116]⟩) 31
    rw [hW4]
    have e : ((w3.alloc (.cells #[.string ⟨#[71, 69, 84]⟩, .string xa, .string ⟨#[103, 101, 116]⟩] 31)).alloc (.cells #[.string ⟨#[71, 69, 84]⟩, .string xb, .string ⟨#[112, 117, 116]⟩] 31)).heap.size = w3.heap.size + 1 + 1 := by simp
    rw [e] at this
    exact this
  have hz4 : w3.heap.size + 1 + 1 + 1 = W4.heap.size := by rw [hW4]; simp
  have HB4 : Hid (Below w.heap.size w W4) := by rw [hW4]; exact ((HB3.out.alloc HB3.out.size _).alloc (by have := HB3.out.size; simp; omega) _).alloc (by have := HB3.out.size; simp; omega) _
  have HZ4 := Lib.hid hz4
  have HCX4 := Lib.hid CX; have HCZ4 := Lib.hid CZ
  rw [← hW4]
  clear hW4 CX CZ hz4
  have HA4 := Lib.hid ((Below.refl W4.heap.size W4).alloc (Nat.le_refl _) (.cells #[.string ⟨#[71, 69, 84]⟩, .string xa, .string ⟨#[103, 101, 116]⟩, .string ⟨#[71, 69, 84]⟩, .string xb, .string ⟨#[112, 117, 116]⟩] 31))
  have HW4 := Lib.hid (HW.out.below HB4.out)
  have HK1 := Lib.hid (check_any [rX a.data.toList, rY gGet b.data.toList] (some ⟨w3.heap.size + 1 + 1 + 1, 0, none⟩) 2 (W4.alloc (.cells #[.string ⟨#[71, 69, 84]⟩, .string xa, .string ⟨#[103, 101, 116]⟩, .string ⟨#[71, 69, 84]⟩, .string xb, .string ⟨#[112, 117, 116]⟩] 31)) (rd_new W4 _ 31 _ _ HZ4.out HXY.out.symm) (HW4.out.below HA4.out) (by simp) (fun r hr => HPL.out r (by simp at hr; rcases hr with e | e; exact .inl e; exact .inr (.inl e))))
  rw [HCXY.out] at HK1
  refine HK1.out.mono ?_
  rintro e w5 ⟨rfl, hb5⟩
  have HB5 : Hid (Below W4.heap.size W4 w5) := HA4.out.trans (hb5.mono (by simp))
  clear hb5
  obtain ⟨x0, x1, x2⟩ := HCX4.out.below HB5.out
  obtain ⟨z0, z1, z2⟩ := HCZ4.out.below HB5.out
  go_wp2_with fail
  clear x0 x1 x2 z0 z1 z2
  have HA5 := Lib.hid ((Below.refl w5.heap.size w5).alloc (Nat.le_refl _) (.cells #[.string ⟨#[71, 69, 84]⟩, .string xa, .string ⟨#[103, 101, 116]⟩, .string ⟨#[71, 69, 84]⟩, .string zb, .string ⟨#[112, 117, 116]⟩] 31))
  have HW5 := Lib.hid (HW4.out.below HB5.out)
  have HK2 := Lib.hid (check_any [rX a.data.toList, rZ b.data.toList] (some ⟨w5.heap.size, 0, none⟩) 2 (w5.alloc (.cells #[.string ⟨#[71, 69, 84]⟩, .string xa, .string ⟨#[103, 101, 116]⟩, .string ⟨#[71, 69, 84]⟩, .string zb, .string ⟨#[112, 117, 116]⟩] 31)) (rd_new w5 _ 31 _ _ rfl HXZ.out.symm) (HW5.out.below HA5.out) (by simp) (fun r hr => HPL.out r (by simp at hr; rcases hr with e | e; exact .inl e; exact .inr (.inr e))))
  rw [HCXZ.out] at HK2
  refine HK2.out.mono ?_
  rintro e w6 ⟨rfl, hb6⟩
  have HB6 : Hid (Below W4.heap.size W4 w6) := bt HB5.out (HA5.out.trans (hb6.mono (by simp)))
  clear hb6
  obtain ⟨x0, x1, x2⟩ := HCX4.out.below HB6.out
  go_wp2_with fail
  clear x0 x1 x2
  have HA6 := Lib.hid ((Below.refl w6.heap.size w6).alloc (Nat.le_refl _) (.cells #[.string ⟨#[71, 69, 84]⟩, .string xa, .string ⟨#[103, 101, 116]⟩] 31))
  have HW6 := Lib.hid (HW4.out.below HB6.out)
  have HK3 := Lib.hid (check_any [rX a.data.toList] (some ⟨w6.heap.size, 0, none⟩) 1 (w6.alloc (.cells #[.string ⟨#[71, 69, 84]⟩, .string xa, .string ⟨#[103, 101, 116]⟩] 31)) (rd_new w6 _ 31 _ _ rfl HX.out.symm) (HW6.out.below HA6.out) (by simp) (fun r hr => HPL.out r (by simp at hr; exact .inl hr)))
  rw [HCX.out] at HK3
  refine HK3.out.mono ?_
  rintro e w7 ⟨rfl, hb7⟩
  have HB7 : Hid (Below W4.heap.size W4 w7) := bt HB6.out (HA6.out.trans (hb7.mono (by simp)))
  have HW7 := Lib.hid (HW4.out.below HB7.out)
  clear hb7
  go_wp2_with fail
  have HK4 := Lib.hid (check_any [] none 0 w7 ⟨rfl, fun h => absurd rfl h⟩ HW7.out (by simp) (fun r hr => nomatch hr))
  rw [check_nil] at HK4
  refine HK4.out.mono ?_
  rintro e w8 ⟨rfl, hb8⟩
  have HB8 : Hid (Below W4.heap.size W4 w8) := bt HB7.out hb8
  clear hb8
  obtain ⟨x0, x1, x2⟩ := HCX4.out.below HB8.out
  go_wp2_with fail
  refine (HRX.out _ (HW4.out.below HB8.out)).mono ?_
  rintro e w9 ⟨rfl, hb9⟩
  go_wp2_with fail
  go_ret
  exact ⟨rfl, bt HB4.out (bt HB8.out hb9)⟩

set_option maxRecDepth 100000 in
set_option maxHeartbeats 8000000 in
theorem names_o (a b : ByteArray) (w : World) (hw : HB w) (h1 : a.size + b.size ≤ 60) (h2 : tokB a.data.toList = true) (h3 : tokB b.data.toList = true) :
    Calls Tryd.prog 7 #[.string a, .string b, .bool true] w fun e w' => e = .returned (.bool true) ∧ Below w.heap.size w w' := by
  have HF := Lib.hid (fit_any w hw)
  have HW := Lib.hid hw
  have HTA := Lib.hid (fun w => tok_any a w)
  have HTB := Lib.hid (fun w => tok_any b w)
  rw [h2] at HTA
  rw [h3] at HTB
  have s1 : (⟨#[47, 112, 47, 58]⟩ : ByteArray).size = 4 := rfl
  have s2 : (⟨#[47, 112, 47, 42]⟩ : ByteArray).size = 4 := rfl
  have k1 := add_str ⟨#[47, 112, 47, 58]⟩ a (by omega)
  have k2 := add_str ⟨#[47, 112, 47, 58]⟩ b (by omega)
  have k3 := add_str ⟨#[47, 112, 47, 42]⟩ b (by omega)
  have HXY : Hid (rtCells [rX a.data.toList, rY gPut b.data.toList] = [.string ⟨#[71, 69, 84]⟩, .string (⟨#[47, 112, 47, 58]⟩ ++ a), .string ⟨#[103, 101, 116]⟩, .string ⟨#[80, 85, 84]⟩, .string (⟨#[47, 112, 47, 58]⟩ ++ b), .string ⟨#[112, 117, 116]⟩]) := by show _ = _; rw [eq_g, eq_g]; rfl
  have HXZ : Hid (rtCells [rX a.data.toList, rZ b.data.toList] = [.string ⟨#[71, 69, 84]⟩, .string (⟨#[47, 112, 47, 58]⟩ ++ a), .string ⟨#[103, 101, 116]⟩, .string ⟨#[71, 69, 84]⟩, .string (⟨#[47, 112, 47, 42]⟩ ++ b), .string ⟨#[112, 117, 116]⟩]) := by show _ = _; rw [eq_g, eq_g]; rfl
  have HX : Hid (rtCells [rX a.data.toList] = [.string ⟨#[71, 69, 84]⟩, .string (⟨#[47, 112, 47, 58]⟩ ++ a), .string ⟨#[103, 101, 116]⟩]) := by show _ = _; rw [eq_g]; rfl
  have HRX : Hid (∀ w, HB w → Calls Tryd.prog 18 #[.agg #[.string ⟨#[71, 69, 84]⟩, .string (⟨#[47, 112, 47, 58]⟩ ++ a), .string ⟨#[103, 101, 116]⟩]] w fun e w' => e = .returned (.bool true) ∧ Below w.heap.size w w') := fun w hw => by
    have := right_any ⟨#[71, 69, 84]⟩ (⟨#[47, 112, 47, 58]⟩ ++ a) ⟨#[103, 101, 116]⟩ w hw (by rw [app_size]; omega)
    have e : rt ⟨#[71, 69, 84]⟩ (⟨#[47, 112, 47, 58]⟩ ++ a) ⟨#[103, 101, 116]⟩ = rX a.data.toList := by rw [eq_g, rt, mkB_data]; rfl
    rw [e, right_x h2] at this
    exact this
  have hla : a.data.toList.length ≤ 60 := by rw [data_len]; omega
  have hlb : b.data.toList.length ≤ 60 := by rw [data_len]; omega
  have HPL : Hid (∀ r, r = rX a.data.toList ∨ r = rY gPut b.data.toList ∨ r = rZ b.data.toList → r.p.length ≤ 10000) := fun r hr => by
    rcases hr with rfl | rfl | rfl
    all_goals
      simp only [rX, rY, rZ, gPat, List.length_append, List.length_cons, List.length_nil]
      omega
  have HCXY := Lib.hid (check_xo h2 h3)
  have HCXZ := Lib.hid (check_xz h2 h3)
  have HCX := Lib.hid (check_x h2)
  generalize (⟨#[47, 112, 47, 58]⟩ ++ a : ByteArray) = xa at *
  generalize (⟨#[47, 112, 47, 58]⟩ ++ b : ByteArray) = xb at *
  generalize (⟨#[47, 112, 47, 42]⟩ ++ b : ByteArray) = zb at *
  clear h2 h3 hla hlb hw s1 s2
  go_enter Tryd.func7, Tryd.ntmps7
  go_wp2_with fail
  refine HF.out.mono ?_
  rintro e w1 ⟨rfl, hb1⟩
  go_wp2_with fail
  refine (HTA.out _).mono ?_
  rintro e w2 ⟨rfl, hb2⟩
  go_wp2_with fail
  refine (HTB.out _).mono ?_
  rintro e w3 ⟨rfl, hb3⟩
  have HB3 := Lib.hid (bt (bt hb1 hb2) hb3)
  have HW3 := Lib.hid (HW.out.below HB3.out)
  clear hb1 hb2 hb3
  go_wp2_with fail
  obtain ⟨W4, hW4⟩ : ∃ W, W = ((w3.alloc (.cells #[.string ⟨#[71, 69, 84]⟩, .string xa, .string ⟨#[103, 101, 116]⟩] 31)).alloc (.cells #[.string ⟨#[80, 85, 84]⟩, .string xb, .string ⟨#[112, 117, 116]⟩] 31)).alloc (.cells #[.string ⟨#[71, 69, 84]⟩, .string zb, .string ⟨#[112, 117, 116]⟩] 31) := ⟨_, rfl⟩
  have CX : C3 W4 w3.heap.size (.string ⟨#[71, 69, 84]⟩) (.string xa) (.string ⟨#[103, 101, 116]⟩) := by rw [hW4]; exact ((C3.new w3 _ _ _ 31).alloc _).alloc _
  have CZ : C3 W4 (w3.heap.size + 1 + 1) (.string ⟨#[71, 69, 84]⟩) (.string zb) (.string ⟨#[112, 117, 116]⟩) := by
    have := C3.new ((w3.alloc (.cells #[.string ⟨#[71, 69, 84]⟩, .string xa, .string ⟨#[103, 101, 116]⟩] 31)).alloc (.cells #[.string ⟨#[80, 85, 84]⟩, .string xb, .string ⟨#[112, 117, 116]⟩] 31)) (.string ⟨#[71, 69, 84]⟩) (.string zb) (.string ⟨#[112, 117, 116]⟩) 31
    rw [hW4]
    have e : ((w3.alloc (.cells #[.string ⟨#[71, 69, 84]⟩, .string xa, .string ⟨#[103, 101, 116]⟩] 31)).alloc (.cells #[.string ⟨#[80, 85, 84]⟩, .string xb, .string ⟨#[112, 117, 116]⟩] 31)).heap.size = w3.heap.size + 1 + 1 := by simp
    rw [e] at this
    exact this
  have hz4 : w3.heap.size + 1 + 1 + 1 = W4.heap.size := by rw [hW4]; simp
  have HB4 : Hid (Below w.heap.size w W4) := by rw [hW4]; exact ((HB3.out.alloc HB3.out.size _).alloc (by have := HB3.out.size; simp; omega) _).alloc (by have := HB3.out.size; simp; omega) _
  have HZ4 := Lib.hid hz4
  have HCX4 := Lib.hid CX; have HCZ4 := Lib.hid CZ
  rw [← hW4]
  clear hW4 CX CZ hz4
  have HA4 := Lib.hid ((Below.refl W4.heap.size W4).alloc (Nat.le_refl _) (.cells #[.string ⟨#[71, 69, 84]⟩, .string xa, .string ⟨#[103, 101, 116]⟩, .string ⟨#[80, 85, 84]⟩, .string xb, .string ⟨#[112, 117, 116]⟩] 31))
  have HW4 := Lib.hid (HW.out.below HB4.out)
  have HK1 := Lib.hid (check_any [rX a.data.toList, rY gPut b.data.toList] (some ⟨w3.heap.size + 1 + 1 + 1, 0, none⟩) 2 (W4.alloc (.cells #[.string ⟨#[71, 69, 84]⟩, .string xa, .string ⟨#[103, 101, 116]⟩, .string ⟨#[80, 85, 84]⟩, .string xb, .string ⟨#[112, 117, 116]⟩] 31)) (rd_new W4 _ 31 _ _ HZ4.out HXY.out.symm) (HW4.out.below HA4.out) (by simp) (fun r hr => HPL.out r (by simp at hr; rcases hr with e | e; exact .inl e; exact .inr (.inl e))))
  rw [HCXY.out] at HK1
  refine HK1.out.mono ?_
  rintro e w5 ⟨rfl, hb5⟩
  have HB5 : Hid (Below W4.heap.size W4 w5) := HA4.out.trans (hb5.mono (by simp))
  clear hb5
  obtain ⟨x0, x1, x2⟩ := HCX4.out.below HB5.out
  obtain ⟨z0, z1, z2⟩ := HCZ4.out.below HB5.out
  go_wp2_with fail
  clear x0 x1 x2 z0 z1 z2
  have HA5 := Lib.hid ((Below.refl w5.heap.size w5).alloc (Nat.le_refl _) (.cells #[.string ⟨#[71, 69, 84]⟩, .string xa, .string ⟨#[103, 101, 116]⟩, .string ⟨#[71, 69, 84]⟩, .string zb, .string ⟨#[112, 117, 116]⟩] 31))
  have HW5 := Lib.hid (HW4.out.below HB5.out)
  have HK2 := Lib.hid (check_any [rX a.data.toList, rZ b.data.toList] (some ⟨w5.heap.size, 0, none⟩) 2 (w5.alloc (.cells #[.string ⟨#[71, 69, 84]⟩, .string xa, .string ⟨#[103, 101, 116]⟩, .string ⟨#[71, 69, 84]⟩, .string zb, .string ⟨#[112, 117, 116]⟩] 31)) (rd_new w5 _ 31 _ _ rfl HXZ.out.symm) (HW5.out.below HA5.out) (by simp) (fun r hr => HPL.out r (by simp at hr; rcases hr with e | e; exact .inl e; exact .inr (.inr e))))
  rw [HCXZ.out] at HK2
  refine HK2.out.mono ?_
  rintro e w6 ⟨rfl, hb6⟩
  have HB6 : Hid (Below W4.heap.size W4 w6) := bt HB5.out (HA5.out.trans (hb6.mono (by simp)))
  clear hb6
  obtain ⟨x0, x1, x2⟩ := HCX4.out.below HB6.out
  go_wp2_with fail
  clear x0 x1 x2
  have HA6 := Lib.hid ((Below.refl w6.heap.size w6).alloc (Nat.le_refl _) (.cells #[.string ⟨#[71, 69, 84]⟩, .string xa, .string ⟨#[103, 101, 116]⟩] 31))
  have HW6 := Lib.hid (HW4.out.below HB6.out)
  have HK3 := Lib.hid (check_any [rX a.data.toList] (some ⟨w6.heap.size, 0, none⟩) 1 (w6.alloc (.cells #[.string ⟨#[71, 69, 84]⟩, .string xa, .string ⟨#[103, 101, 116]⟩] 31)) (rd_new w6 _ 31 _ _ rfl HX.out.symm) (HW6.out.below HA6.out) (by simp) (fun r hr => HPL.out r (by simp at hr; exact .inl hr)))
  rw [HCX.out] at HK3
  refine HK3.out.mono ?_
  rintro e w7 ⟨rfl, hb7⟩
  have HB7 : Hid (Below W4.heap.size W4 w7) := bt HB6.out (HA6.out.trans (hb7.mono (by simp)))
  have HW7 := Lib.hid (HW4.out.below HB7.out)
  clear hb7
  go_wp2_with fail
  have HK4 := Lib.hid (check_any [] none 0 w7 ⟨rfl, fun h => absurd rfl h⟩ HW7.out (by simp) (fun r hr => nomatch hr))
  rw [check_nil] at HK4
  refine HK4.out.mono ?_
  rintro e w8 ⟨rfl, hb8⟩
  have HB8 : Hid (Below W4.heap.size W4 w8) := bt HB7.out hb8
  clear hb8
  obtain ⟨x0, x1, x2⟩ := HCX4.out.below HB8.out
  go_wp2_with fail
  refine (HRX.out _ (HW4.out.below HB8.out)).mono ?_
  rintro e w9 ⟨rfl, hb9⟩
  go_wp2_with fail
  go_ret
  exact ⟨rfl, bt HB4.out (bt HB8.out hb9)⟩

theorem names_row (a b : ByteArray) (o : Bool) (w : World) (ha : a.size ≤ 140737488355328) (hb : b.size ≤ 140737488355328) (hw : HB w) : Calls Tryd.prog 7 #[.string a, .string b, .bool o] w fun e w' => e = .returned (.bool true) ∧ Below w.heap.size w w' := by
  by_cases h : a.size + b.size ≤ 60 ∧ tokB a.data.toList = true ∧ tokB b.data.toList = true
  · cases o with
    | true => exact names_o a b w hw h.1 h.2.1 h.2.2
    | false => exact names_e a b w hw h.1 h.2.1 h.2.2
  · exact names_skip a b o w hw ha hb h

end Go.Proofs.YtejncdhdkdhpmaaDoor
