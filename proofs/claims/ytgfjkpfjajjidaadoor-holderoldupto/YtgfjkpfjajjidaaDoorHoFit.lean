/- The contract of the laws' fit of holders. -/
import Derived.Test.YtgfjkpfjajjidaaDoorHoSwap
namespace Go.Proofs.YtgfjkpfjajjidaaDoor
open Go.RowKit Pl

theorem parse_nil : parseL [] = ([], 0) := by decide +kernel
theorem field_v (u0 u2 : Value) (k : Int) (W : World) : (Instr.field 49 (.agg #[u0, .int .i64 k, u2]) 1).run Tryd.prog W = .ok (.int .i64 k) W := by kernel_rfl
theorem field_t (v : Option Addr) (u1 u2 : Value) (W : World) : (Instr.field 49 (.agg #[.pointer v, u1, u2]) 0).run Tryd.prog W = .ok (.pointer v) W := by kernel_rfl
theorem swap_nil (G : Nat) (v A : Option Addr) (n c : Nat) (l : List Rt) (w : World) (h : HoAt w G v A n c l 1) (hw : HB w) :
    Calls Tryd.prog 16 #[.pointer (some ⟨G, 0, none⟩), .string ⟨#[]⟩] w fun e w' => ∃ v' A' n' c', e = .returned (.tuple #[.int .i64 2, .int .i64 0]) ∧ HoAt w' G v' A' n' c' [] 2 ∧ Swp G w w' := by
  have hp : parseL (ByteArray.mk #[]).data.toList = ([], 0) := parse_nil
  have h1 := swap_any G v A n c 1 l ⟨#[]⟩ w h hw (by decide) (by decide)
  rw [swapN, swapL, swapV, hp] at h1
  exact h1
theorem some_nil (w : World) (hw : HB w) : Calls Tryd.prog 25 #[.slice none 0 0] w fun e w' => ∃ A c, e = .returned (.slice A 0 c) ∧ Below w.heap.size w w' :=
  (some_any [] none 0 w ⟨rfl, fun h => absurd rfl h⟩ hw (by decide) (fun r hr => by cases hr)).mono fun e w' ⟨v, he, ho, hb⟩ => by
    obtain ⟨A, c, e2, _⟩ := Rd.own ho
    exact ⟨A, c, by rw [he, e2]; rfl, hb⟩

set_option maxRecDepth 100000 in
set_option maxHeartbeats 8000000 in
theorem fith_any (w : World) (hw : HB w) : Calls Tryd.prog 11 #[] w fun e w' => e = .returned (.bool true) ∧ Below w.heap.size w w' := by
  have HW := Lib.hid hw
  have HFR := Lib.hid (first_rows w)
  have HNW : Hid (∀ w1, Below w.heap.size w w1 → Rd w1 w1.heap.size 3 (some ⟨w.heap.size, 0, none⟩) 8 (rtCells firstR) → Calls Tryd.prog 12 #[.slice (some ⟨w.heap.size, 0, none⟩) 8 8] w1 fun e w' => ∃ G v A' c', e = .returned (.pointer (some ⟨G, 0, none⟩)) ∧ HoAt w' G v A' 8 c' firstR 1 ∧ w1.heap.size ≤ G ∧ Below w1.heap.size w1 w') := fun w1 hb hr => by
    have := new_any firstR (some ⟨w.heap.size, 0, none⟩) 8 w1 hr (hw.below hb) (by decide) first_short
    rw [first_new] at this
    exact this
  have HLD : Hid (∀ G v A c wx, HoAt wx G v A 8 c firstR 1 → Calls Tryd.prog 15 #[.pointer (some ⟨G, 0, none⟩)] wx fun e w' => ∃ v' A' c', e = .returned (.agg #[.pointer v', .int .i64 1, .slice A' 8 c']) ∧ SnAt w' G v' A' 8 c' firstR ∧ Below wx.heap.size wx w') := fun G v A c wx h => load_any G v A 8 c firstR 1 wx h first_law
  have HLE : Hid (∀ G v A n c wx, HoAt wx G v A n c [] 2 → Calls Tryd.prog 15 #[.pointer (some ⟨G, 0, none⟩)] wx fun e w' => ∃ v' A' c', e = .returned (.agg #[.pointer v', .int .i64 2, .slice A' n c']) ∧ SnAt w' G v' A' n c' [] ∧ Below wx.heap.size wx w') := fun G v A n c wx h => load_any G v A n c [] 2 wx h law_nil
  have HLN : Hid (∀ wx v G A n c, SnAt wx G v A n c firstR → Calls Tryd.prog 17 #[.pointer v] wx fun e w' => e = .returned (.int .i64 8) ∧ wx = w') := fun wx v G A n c h => len_any wx.heap.size v firstR wx h.tr
  have HLZ : Hid (∀ wx v G A n c, SnAt wx G v A n c [] → Calls Tryd.prog 17 #[.pointer v] wx fun e w' => e = .returned (.int .i64 0) ∧ wx = w') := fun wx v G A n c h => len_any wx.heap.size v [] wx h.tr
  have HSM := Lib.hid (fun wx (h : Below w.heap.size w wx) => some_nil wx (hw.below h))
  have hfv := field_v
  have hft := field_t
  clear hw
  generalize firstR = FR at *
  go_enter Tryd.func11, Tryd.ntmps11
  go_wp2_with fail
  refine HFR.out.mono ?_
  rintro e w1 ⟨rfl, hr1, hb1⟩
  have HB1 := Lib.hid hb1
  have HN1 := Lib.hid (HNW.out w1 hb1 hr1)
  clear hb1 hr1
  go_wp2_with fail
  refine HN1.out.mono ?_
  rintro e w2 ⟨G, v, A, c, rfl, hh, hG, hb2⟩
  have HB2 := Lib.hid (bt HB1.out hb2)
  have HH2 := Lib.hid hh
  have HG : Hid (w.heap.size ≤ G) := Nat.le_trans HB1.out.size hG
  have HL2 := Lib.hid (HLD.out G v A c w2 hh)
  clear hh hG hb2
  go_wp2_with fail
  refine HL2.out.mono ?_
  rintro e w3 ⟨v3, A3, c3, rfl, hs3, hb3⟩
  have hA := (Below.refl w3.heap.size w3).alloc (Nat.le_refl _) (.cells #[.pointer v3, .int .i64 1, .slice A3 8 c3] 49)
  have HB4 := Lib.hid (bt HB2.out (bt hb3 hA))
  have HH4 := Lib.hid (HH2.out.on (bt hb3 hA))
  have HS4 := Lib.hid (hs3.on hA)
  have x0 := new_cell4 w3 #[.pointer v3, .int .i64 1, .slice A3 8 c3] 49 0
  have x1 := new_cell4 w3 #[.pointer v3, .int .i64 1, .slice A3 8 c3] 49 1
  simp only [List.getElem?_toArray, List.getElem?_cons_succ, List.getElem?_cons_zero] at x0 x1
  have X0 := Lib.hid x0
  have X1 := Lib.hid x1
  have HG3 : Hid (G < w3.heap.size) := Nat.lt_of_lt_of_le HH2.out.bk.lt hb3.size
  have HG4 : Hid (w3.heap.size < (w3.alloc (.cells #[.pointer v3, .int .i64 1, .slice A3 8 c3] 49)).heap.size) := by show _ < _; simp
  have HSW := Lib.hid (swap_nil G v A 8 c FR _ HH4.out (HW.out.below HB4.out))
  clear hs3 hb3 hA x0 x1
  go_wp2_with fail
  generalize w3.alloc (.cells #[.pointer v3, .int .i64 1, .slice A3 8 c3] 49) = w4 at *
  refine HSW.out.mono ?_
  rintro e w5 ⟨v5, A5, n5, c5, rfl, hh5, hs5⟩
  have HH5 := Lib.hid hh5
  have HS5 := Lib.hid (HS4.out.swp HH4.out.bk hs5)
  have X05 := Lib.hid ((hs5.cell (p := ⟨w3.heap.size, 0, none⟩) HG4.out (Nat.ne_of_gt HG3.out)).trans X0.out)
  have X15 := Lib.hid ((hs5.cell (p := ⟨w3.heap.size, 1, none⟩) HG4.out (Nat.ne_of_gt HG3.out)).trans X1.out)
  have HB5 := Lib.hid (HB4.out.trans (hs5.below HB4.out.size HG.out))
  have HL5 := Lib.hid (HLE.out G v5 A5 n5 c5 w5 hh5)
  have HG5 : Hid (w3.heap.size < w5.heap.size) := Nat.lt_of_lt_of_le HG4.out hs5.size
  clear hh5 hs5
  go_wp2_with fail
  refine HL5.out.mono ?_
  rintro e w6 ⟨v6, A6, c6, rfl, hs6, hb6⟩
  have HL6 := Lib.hid (HLE.out G v5 A5 n5 c5 w6 (HH5.out.on hb6))
  have HB6 := Lib.hid hb6
  clear hs6 hb6
  go_wp2_with fail
  refine HL6.out.mono ?_
  rintro e w7 ⟨v7, A7, c7, rfl, hs7, hb7⟩
  have HB7 := Lib.hid (bt HB6.out hb7)
  have HN7 := Lib.hid (HLZ.out w7 v7 G A7 n5 c7 hs7)
  clear hs7 hb7
  have y0 := (HB7.out.cell (p := ⟨w3.heap.size, 0, none⟩) HG5.out).trans X05.out
  have y1 := (HB7.out.cell (p := ⟨w3.heap.size, 1, none⟩) HG5.out).trans X15.out
  have HN8 := Lib.hid (HLN.out w7 v3 G A3 8 c3 (HS5.out.on HB7.out))
  have HM7 := Lib.hid (HSM.out w7 (bt HB5.out HB7.out))
  go_wp2_with fail
  refine HN7.out.mono ?_
  rintro e w8 ⟨rfl, rfl⟩
  go_wp2_with fail
  refine HN8.out.mono ?_
  rintro e w8 ⟨rfl, rfl⟩
  go_wp2_with fail
  refine HM7.out.mono ?_
  rintro e w9 ⟨A9, c9, rfl, hb9⟩
  have HB9 := Lib.hid (bt (bt HB5.out HB7.out) hb9)
  clear hb9
  go_wp2_with fail
  go_ret
  exact ⟨rfl, HB9.out⟩
end Go.Proofs.YtgfjkpfjajjidaaDoor
