/- The law AnswerBack, walked. -/
import Derived.Test.YtkbigfjaaiobfaaDoorAnsRk
import Derived.Deep.RegionWith
import Derived.Deep.RegionHeld3
namespace Go.Proofs.YtkbigfjaaiobfaaDoor
open Go.RowKit Pl Go.Shelf

set_option maxRecDepth 100000 in
set_option maxHeartbeats 4000000 in
theorem back_walk (a : Rsp) (A : Option Addr) (c : Nat) (b : Rsp) (B : Option Addr) (d : Nat) (more : ByteArray) (w : World) (ha : Rd w w.heap.size 2 A a.fs.length (fldCells a.fs)) (hza : ∀ f ∈ a.fs, f.1.size ≤ 140737488355328 ∧ f.2.size ≤ 140737488355328)
    (hb : Rd w w.heap.size 2 B b.fs.length (fldCells b.fs)) (hzb : ∀ f ∈ b.fs, f.1.size ≤ 140737488355328 ∧ f.2.size ≤ 140737488355328) (_hm : more.size ≤ 9223372036854775807) (hg : GV w) :
    Calls Tryd.prog 3 #[.agg #[.int .i64 a.st, .slice A a.fs.length c, .string a.body, .bool a.cl], .agg #[.int .i64 b.st, .slice B b.fs.length d, .string b.body, .bool b.cl], .string more] w fun e w' => e = .returned (.bool true) ∧ Below w.heap.size w w' := by
  obtain ⟨sa, fa, ba, ca, ra, KA0, e1, e2, e3, e4⟩ := rk_of a
  obtain ⟨sb, fb, bb, cb, rb, KB0, e5, e6, e7, e8⟩ := rk_of b
  rw [e1, e2, e3, e4, e5, e6, e7, e8]
  have KA := Lib.hid KA0; have KB := Lib.hid KB0
  clear e1 e2 e3 e4 e5 e6 e7 e8 KA0 KB0
  have HBa := Lib.hid ((Below.refl w.heap.size w).alloc (Nat.le_refl _) (.cells #[.int .i64 sa, .slice A fa c, .string ba, .bool ca] 24))
  have HXa := Lib.hid ((new_rk KA.out c ha).on ((Below.refl _ _).alloc (Nat.le_refl _) (.cells #[.int .i64 sb, .slice B fb d, .string bb, .bool cb] 24)))
  have HXb : Hid (RB ((w.alloc (.cells #[.int .i64 sa, .slice A fa c, .string ba, .bool ca] 24)).alloc (.cells #[.int .i64 sb, .slice B fb d, .string bb, .bool cb] 24)) (w.heap.size + 1) b B d) := by
    have := new_rk KB.out d (w := w.alloc (.cells #[.int .i64 sa, .slice A fa c, .string ba, .bool ca] 24)) (A := B) ((hb.below HBa.out (Nat.le_refl _)).wide (by simp))
    exact Lib.hid (by simpa using this)
  have HB0 : Hid (Below w.heap.size w ((w.alloc (.cells #[.int .i64 sa, .slice A fa c, .string ba, .bool ca] 24)).alloc (.cells #[.int .i64 sb, .slice B fb d, .string bb, .bool cb] 24))) := HBa.out.alloc (by simp) _
  have HG := Lib.hid hg
  have HFIT := Lib.hid (fit_any _ (hg.on HB0.out).toGB)
  have HZA := Lib.hid hza; have HZB := Lib.hid hzb
  clear ha hb hg HBa hza hzb
  obtain ⟨p0, p1, p2, p3⟩ := HXa.out.cs KA.out
  cases ra with
  | false =>
    go_enter Tryd.func3, Tryd.ntmps3
    go_wp2_with fail
    generalize (w.alloc (.cells #[.int .i64 sa, .slice A fa c, .string ba, .bool ca] 24)).alloc (.cells #[.int .i64 sb, .slice B fb d, .string bb, .bool cb] 24) = W0 at *
    refine HFIT.out.mono ?_
    rintro e w1 ⟨rfl, hb1⟩
    have HX1 := Lib.hid (HXa.out.on hb1)
    have HB1 := Lib.hid (bt HB0.out hb1)
    clear hb1 p0 p1 p2 p3
    obtain ⟨p0, p1, p2, p3⟩ := HX1.out.cs KA.out
    go_wp2_with fail
    refine (right_rk KA.out HX1.out HZA.out).mono ?_
    rintro e w2 ⟨rfl, hb2⟩
    go_wp2_with fail
    go_ret
    exact ⟨rfl, bt HB1.out hb2⟩
  | true =>
    cases rb with
    | false =>
      go_enter Tryd.func3, Tryd.ntmps3
      go_wp2_with fail
      generalize (w.alloc (.cells #[.int .i64 sa, .slice A fa c, .string ba, .bool ca] 24)).alloc (.cells #[.int .i64 sb, .slice B fb d, .string bb, .bool cb] 24) = W0 at *
      refine HFIT.out.mono ?_
      rintro e w1 ⟨rfl, hb1⟩
      have HX1 := Lib.hid (HXa.out.on hb1)
      have HY1 := Lib.hid (HXb.out.on hb1)
      have HB1 := Lib.hid (bt HB0.out hb1)
      clear hb1 p0 p1 p2 p3
      obtain ⟨p0, p1, p2, p3⟩ := HX1.out.cs KA.out
      go_wp2_with fail
      refine (right_rk KA.out HX1.out HZA.out).mono ?_
      rintro e w2 ⟨rfl, hb2⟩
      have HY2 := Lib.hid (HY1.out.on hb2)
      have HB2 := Lib.hid (bt HB1.out hb2)
      clear hb2 p0 p1 p2 p3
      obtain ⟨p0, p1, p2, p3⟩ := HY2.out.cs KB.out
      go_wp2_with fail
      refine (right_rk KB.out HY2.out HZB.out).mono ?_
      rintro e w3 ⟨rfl, hb3⟩
      go_wp2_with fail
      go_ret
      exact ⟨rfl, bt HB2.out hb3⟩
    | true =>
      by_cases hm5 : more.size ≤ 500
      · have hm2 : ¬ ((500 : Int) < (more.size : Int)) := by omega
        have la := len_rk KA.out
        have lb := len_rk KB.out
        have HDA := Lib.hid (fun (w : World) hg => dec_rk KA.out (encL b ++ more.data.toList) (mkB (encL a) ++ mkB (encL b) ++ more) (by rw [app_data, app_data, mkB_data, mkB_data, List.append_assoc]) (by rw [app_size, app_size]; omega) (w := w) hg)
        have HDB := Lib.hid (fun (w : World) hg => dec_rk KB.out more.data.toList (mkB (encL b ++ more.data.toList)) (mkB_data _) (by rw [mkB_size, List.length_append, data_len, ← mkB_size]; omega) (w := w) hg)
        rw [mkB_of] at HDB
        have HEA := Lib.hid (fun (w : World) (g : Nat) (h : RB w g a A c) (hg : GB w) => enc_rk KA.out h hg)
        have HEB := Lib.hid (fun (w : World) (g : Nat) (h : RB w g b B d) (hg : GB w) => enc_rk KB.out h hg)
        have k1 := add_str (mkB (encL a)) (mkB (encL b)) (by omega)
        have k2 := add_str (mkB (encL a) ++ mkB (encL b)) more (by rw [app_size]; omega)
        generalize mkB (encL a) ++ mkB (encL b) ++ more = S2 at *
        generalize mkB (encL a) ++ mkB (encL b) = S1 at *
        generalize mkB (encL b ++ more.data.toList) = S3 at *
        generalize mkB (encL a) = EA at *
        generalize mkB (encL b) = EB at *
        have hmq : (more.toList == more.toList) = true := by simp
        go_enter Tryd.func3, Tryd.ntmps3
        go_wp2_with fail
        generalize (w.alloc (.cells #[.int .i64 sa, .slice A fa c, .string ba, .bool ca] 24)).alloc (.cells #[.int .i64 sb, .slice B fb d, .string bb, .bool cb] 24) = W0 at *
        refine HFIT.out.mono ?_
        rintro e w1 ⟨rfl, hb1⟩
        have HX1 := Lib.hid (HXa.out.on hb1)
        have HY1 := Lib.hid (HXb.out.on hb1)
        have HB1 := Lib.hid (bt HB0.out hb1)
        clear hb1 p0 p1 p2 p3
        obtain ⟨p0, p1, p2, p3⟩ := HX1.out.cs KA.out
        go_wp2_with fail
        refine (right_rk KA.out HX1.out HZA.out).mono ?_
        rintro e w2 ⟨rfl, hb2⟩
        have HX2 := Lib.hid (HX1.out.on hb2)
        have HY2 := Lib.hid (HY1.out.on hb2)
        have HB2 := Lib.hid (bt HB1.out hb2)
        clear hb2 p0 p1 p2 p3
        obtain ⟨p0, p1, p2, p3⟩ := HY2.out.cs KB.out
        go_wp2_with fail
        refine (right_rk KB.out HY2.out HZB.out).mono ?_
        rintro e w3 ⟨rfl, hb3⟩
        have HX3 := Lib.hid (HX2.out.on hb3)
        have HY3 := Lib.hid (HY2.out.on hb3)
        have HB3 := Lib.hid (bt HB2.out hb3)
        clear hb3 p0 p1 p2 p3
        have HXX : Hid (∀ W, Below w3.heap.size w3.drew W → RB W w.heap.size a A c) := fun W h => HX3.out.drew.on h
        have HYY : Hid (∀ W, Below w3.heap.size w3.drew W → RB W (w.heap.size + 1) b B d) := fun W h => HY3.out.drew.on h
        have HGG : Hid (∀ W, Below w3.heap.size w3.drew W → GB W) := fun W h => ((HG.out.on HB3.out).on ((Below.refl _ w3).drew.trans h)).toGB
        have HCA := Lib.hid (fun W (h : Below w3.heap.size w3.drew W) => HEA.out W _ (HXX.out W h) (HGG.out W h))
        have HCB := Lib.hid (fun W (h : Below w3.heap.size w3.drew W) => HEB.out W _ (HYY.out W h) (HGG.out W h))
        have HK : Hid (∀ W, Below w3.heap.size w3.drew W → (W.cell? ⟨w.heap.size, 0, none⟩ = some (.int .i64 sa) ∧ W.cell? ⟨w.heap.size, 1, none⟩ = some (.slice A fa c) ∧ W.cell? ⟨w.heap.size, 2, none⟩ = some (.string ba) ∧ W.cell? ⟨w.heap.size, 3, none⟩ = some (.bool ca)) ∧ W.cell? ⟨w.heap.size + 1, 0, none⟩ = some (.int .i64 sb) ∧ W.cell? ⟨w.heap.size + 1, 1, none⟩ = some (.slice B fb d) ∧ W.cell? ⟨w.heap.size + 1, 2, none⟩ = some (.string bb) ∧ W.cell? ⟨w.heap.size + 1, 3, none⟩ = some (.bool cb)) := fun W h => ⟨(HXX.out W h).cs KA.out, (HYY.out W h).cs KB.out⟩
        have hb0 : Below w3.heap.size w3.drew w3.drew := Below.refl _ _
        go_wp2_with fail
        go_region_held3 (fun W => (W.cell? ⟨w.heap.size, 0, none⟩ = some (.int .i64 sa) ∧ W.cell? ⟨w.heap.size, 1, none⟩ = some (.slice A fa c) ∧ W.cell? ⟨w.heap.size, 2, none⟩ = some (.string ba) ∧ W.cell? ⟨w.heap.size, 3, none⟩ = some (.bool ca)) ∧ W.cell? ⟨w.heap.size + 1, 0, none⟩ = some (.int .i64 sb) ∧ W.cell? ⟨w.heap.size + 1, 1, none⟩ = some (.slice B fb d) ∧ W.cell? ⟨w.heap.size + 1, 2, none⟩ = some (.string bb) ∧ W.cell? ⟨w.heap.size + 1, 3, none⟩ = some (.bool cb))
          ((refine HK.out _ ?_; first | (exact hb6) | (exact hb5a) | (exact hb5b) | (exact hb0)))
          ((first
            | (go_at_call_of 11 (Value.agg #[.int .i64 sa, .slice A fa c, .string ba, .bool ca]); refine (HCA.out _ hb5b).mono ?_; rintro e w6 ⟨rfl, hb6'⟩; have hb6 := hb5b.trans (hb6'.mono hb5b.size))
            | (go_at_call_of 11 (Value.agg #[.int .i64 sa, .slice A fa c, .string ba, .bool ca]); refine (HCA.out _ hb0).mono ?_; rintro e w5 ⟨rfl, hb5a⟩)
            | (go_at_call_of 11 (Value.agg #[.int .i64 sb, .slice B fb d, .string bb, .bool cb]); refine (HCB.out _ hb5a).mono ?_; rintro e w6 ⟨rfl, hb6'⟩; have hb6 := hb5a.trans (hb6'.mono hb5a.size))
            | (go_at_call_of 11 (Value.agg #[.int .i64 sb, .slice B fb d, .string bb, .bool cb]); refine (HCB.out _ hb0).mono ?_; rintro e w5 ⟨rfl, hb5b⟩)))
        all_goals
          have HX6 := Lib.hid (HXX.out _ hb6)
          have HY6 := Lib.hid (HYY.out _ hb6)
          have HB6 : Hid (Below w.heap.size w w6) := HB3.out.drew.trans (hb6.mono HB3.out.size)
          clear hb6
          go_wp2_with fail
          refine (HDA.out w6 (HG.out.on HB6.out)).mono ?_
          rintro e w7 ⟨A7, c7, rfl, hx7, hb7⟩
          have HAL7 := Lib.hid ((Below.refl _ w7).alloc (Nat.le_refl _) (.cells #[.int .i64 sa, .slice A7 fa c7, .string ba, .bool ca] 24))
          have HP7 := Lib.hid hx7
          have HX7 := Lib.hid ((HX6.out.on hb7).on HAL7.out)
          have HY7 := Lib.hid ((HY6.out.on hb7).on HAL7.out)
          have HB7 := Lib.hid (bt (bt HB6.out hb7) HAL7.out)
          clear hb7 hx7
          go_wp2_with fail
          generalize w7.heap.size = G7 at *
          generalize w7.alloc (.cells #[.int .i64 sa, .slice A7 fa c7, .string ba, .bool ca] 24) = W7 at *
          refine (HDB.out W7 (HG.out.on HB7.out)).mono ?_
          rintro e w8 ⟨A8, c8, rfl, hx8, hb8⟩
          have HAL8 := Lib.hid ((Below.refl _ w8).alloc (Nat.le_refl _) (.cells #[.int .i64 sb, .slice A8 fb c8, .string bb, .bool cb] 24))
          have HQ8 := Lib.hid hx8
          have HP8 := Lib.hid ((HP7.out.on hb8).on HAL8.out)
          have HX8 := Lib.hid ((HX7.out.on hb8).on HAL8.out)
          have HY8 := Lib.hid ((HY7.out.on hb8).on HAL8.out)
          have HB8 := Lib.hid (bt (bt HB7.out hb8) HAL8.out)
          clear hb8 hx8
          obtain ⟨p0, p1, p2, p3⟩ := HX8.out.cs KA.out
          obtain ⟨q0, q1, q2, q3⟩ := HP8.out.cs KA.out
          go_wp2_with fail
          generalize w8.heap.size = G8 at *
          generalize w8.alloc (.cells #[.int .i64 sb, .slice A8 fb c8, .string bb, .bool cb] 24) = W8 at *
          refine (same_rk KA.out HP8.out HX8.out).mono ?_
          rintro e w9 ⟨rfl, hb9⟩
          have HQ9 := Lib.hid (HQ8.out.on hb9)
          have HY9 := Lib.hid (HY8.out.on hb9)
          have HB9 := Lib.hid (bt HB8.out hb9)
          clear hb9 p0 p1 p2 p3 q0 q1 q2 q3
          obtain ⟨p0, p1, p2, p3⟩ := HY9.out.cs KB.out
          obtain ⟨q0, q1, q2, q3⟩ := HQ9.out.cs KB.out
          go_wp2_with fail
          refine (same_rk KB.out HQ9.out HY9.out).mono ?_
          rintro e w10 ⟨rfl, hb10⟩
          go_wp2_with fail
          go_ret
          exact ⟨rfl, bt HB9.out hb10⟩
      · have hm2 : (500 : Int) < (more.size : Int) := by omega
        go_enter Tryd.func3, Tryd.ntmps3
        go_wp2_with fail
        generalize (w.alloc (.cells #[.int .i64 sa, .slice A fa c, .string ba, .bool ca] 24)).alloc (.cells #[.int .i64 sb, .slice B fb d, .string bb, .bool cb] 24) = W0 at *
        refine HFIT.out.mono ?_
        rintro e w1 ⟨rfl, hb1⟩
        have HX1 := Lib.hid (HXa.out.on hb1)
        have HY1 := Lib.hid (HXb.out.on hb1)
        have HB1 := Lib.hid (bt HB0.out hb1)
        clear hb1 p0 p1 p2 p3
        obtain ⟨p0, p1, p2, p3⟩ := HX1.out.cs KA.out
        go_wp2_with fail
        refine (right_rk KA.out HX1.out HZA.out).mono ?_
        rintro e w2 ⟨rfl, hb2⟩
        have HY2 := Lib.hid (HY1.out.on hb2)
        have HB2 := Lib.hid (bt HB1.out hb2)
        clear hb2 p0 p1 p2 p3
        obtain ⟨p0, p1, p2, p3⟩ := HY2.out.cs KB.out
        go_wp2_with fail
        refine (right_rk KB.out HY2.out HZB.out).mono ?_
        rintro e w3 ⟨rfl, hb3⟩
        go_wp2_with fail
        go_ret
        exact ⟨rfl, bt HB2.out hb3⟩

end Go.Proofs.YtkbigfjaaiobfaaDoor
