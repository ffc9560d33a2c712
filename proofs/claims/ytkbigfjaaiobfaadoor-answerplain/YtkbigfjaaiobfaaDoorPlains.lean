/- The law AnswerPlain, walked. -/
import Derived.Test.YtkbigfjaaiobfaaDoorAnsUse
namespace Go.Proofs.YtkbigfjaaiobfaaDoor
open Go.RowKit Pl Go.Shelf

set_option maxRecDepth 100000 in
set_option maxHeartbeats 4000000 in
theorem plain_walk (n : Int) (closes : Bool) (more : ByteArray) (w : World) (_h : (Lit.int .i64 n).wf = true) (hms : more.size ≤ 9223372036854775807) (hg : GV w) :
    Calls Tryd.prog 8 #[.int .i64 n, .bool closes, .string more] w fun e w' => e = .returned (.bool true) ∧ Below w.heap.size w w' := by
  have HFIT := Lib.hid (fit_any w hg.toGB)
  have HG := Lib.hid hg
  clear hg
  by_cases hm : more.size ≤ 200
  · have hm2 : ¬ ((200 : Int) < (more.size : Int)) := by omega
    obtain ⟨m, hmd⟩ : ∃ m : Nat, n % 65536 = (m : Int) := ⟨(n % 65536).toNat, by omega⟩
    have hand : bits .and .i64 n 65535 = (m : Int) := by rw [i64_and65535, hmd]
    obtain ⟨k, hk⟩ : ∃ k : Nat, (m : Int).tmod 900 = (k : Int) := ⟨m % 900, by rw [Int.tmod_eq_emod_of_nonneg (by omega)]; omega⟩
    have hk2 : k < 900 := by rw [Int.tmod_eq_emod_of_nonneg (by omega)] at hk; omega
    clear hmd
    obtain ⟨N, hN⟩ : ∃ N : Int, 100 + (k : Int) = N := ⟨_, rfl⟩
    have hN0 : 100 ≤ N := by omega
    have hN1 : N ≤ 999 := by omega
    have HP := Lib.hid (fun w => plain_any N closes w)
    have HOK := Lib.hid (plain_ok N closes hN0 hN1)
    have hpl := plain_len N closes hN0 hN1
    have HE := Lib.hid (fun (w : World) (hg : GB w) => enc_any (plainR N closes) none 0 w (by show -9223372036854775808 ≤ N; omega) (by show N ≤ _; omega) (rd_nil w _) (by omega) hg)
    have hes := mkB_size (encL (plainR N closes))
    have k1 := add_str (mkB (encL (plainR N closes))) more (by omega)
    have HD := Lib.hid (fun w hg => dec_back (plainR N closes) HOK.out more.data.toList (mkB (encL (plainR N closes)) ++ more) (by rw [app_data, mkB_data]) (by rw [app_size]; omega) w hg)
    have HNEW := Lib.hid (fun (w : World) (A : Option Addr) (c : Nat) h => RB.new (w := w) (r := plainR N closes) (A := A) c h)
    have HSM := Lib.hid (fun (w : World) (A1 A2 : Option Addr) (c1 c2 : Nat) h1 h2 => same_any (plainR N closes) A1 A2 c1 c2 w (by show 0 ≤ _; omega) h1 h2)
    have HRD := Lib.hid (fun (w : World) => rd_nil w w.heap.size)
    simp only [mkB_of] at HD
    generalize mkB (encL (plainR N closes)) ++ more = S at *
    generalize mkB (encL (plainR N closes)) = E0 at *
    have hst : (plainR N closes).st = N := rfl
    have hcl : (plainR N closes).cl = closes := rfl
    have hfs : (plainR N closes).fs.length = 0 := rfl
    have hfc : fldCells (plainR N closes).fs = fldCells [] := rfl
    have hbd : (plainR N closes).body = mkB (wordL N ++ [10]) := rfl
    rw [← hbd] at HP
    simp only [hst, hcl, hfs, hfc] at HE HD HNEW HSM
    have HRBC : Hid (∀ (w : World) g A c, RB w g (plainR N closes) A c → w.cell? ⟨g, 0, none⟩ = some (.int .i64 N) ∧ w.cell? ⟨g, 1, none⟩ = some (.slice A 0 c) ∧ w.cell? ⟨g, 2, none⟩ = some (.string (plainR N closes).body) ∧ w.cell? ⟨g, 3, none⟩ = some (.bool closes)) := fun w g A c h => ⟨h.c0, h.c1, h.c2, h.c3⟩
    have HFL : Hid (∀ (w : World) g A c, RB w g (plainR N closes) A c → Rd w w.heap.size 2 A 0 (fldCells [])) := fun w g A c h => h.fl
    have HON : Hid (∀ (w w' : World) g A c, RB w g (plainR N closes) A c → Below w.heap.size w w' → RB w' g (plainR N closes) A c) := fun w w' g A c h hb => h.on hb
    clear hbd hst hcl hfs hfc
    generalize hPB : (plainR N closes).body = PB at *
    have hmq : (more.toList == more.toList) = true := by simp
    generalize plainR N closes = R at *
    clear hPB
    go_enter Tryd.func8, Tryd.ntmps8
    go_wp2_with fail
    refine HFIT.out.mono ?_
    rintro e w1 ⟨rfl, hb1⟩
    go_wp2_with fail
    refine (HP.out w1).mono ?_
    rintro e w2 ⟨rfl, hb2⟩
    have HR2 := Lib.hid (HNEW.out w2 none 0 (HRD.out w2))
    have HB2 := Lib.hid (bt hb1 hb2)
    have HB3 : Hid (Below w.heap.size w (w2.alloc (.cells #[.int .i64 N, .slice none 0 0, .string PB, .bool closes] 24))) := HB2.out.alloc HB2.out.size _
    clear hb1 hb2
    obtain ⟨p0, p1, p2, p3⟩ := HRBC.out _ _ _ _ HR2.out
    go_wp2_with fail
    generalize hP : w2.heap.size = P at *
    clear hP
    generalize w2.alloc (.cells #[.int .i64 N, .slice none 0 0, .string PB, .bool closes] 24) = W2 at *
    refine (HE.out W2 (HG.out.on HB3.out).toGB).mono ?_
    rintro e w3 ⟨rfl, hb3⟩
    have HR3 := Lib.hid (HON.out _ _ _ _ _ HR2.out hb3)
    have HB4 := Lib.hid (bt HB3.out hb3)
    clear hb3 p0 p1 p2 p3
    go_wp2_with fail
    refine (HD.out w3 (HG.out.on HB4.out)).mono ?_
    rintro e w4 ⟨A, c, rfl, hrd, hb4⟩
    have HR4 := Lib.hid (HON.out _ _ _ _ _ HR3.out hb4)
    have HX := Lib.hid (HNEW.out w4 A c hrd)
    have HAL := Lib.hid ((Below.refl _ w4).alloc (Nat.le_refl _) (.cells #[.int .i64 N, .slice A 0 c, .string PB, .bool closes] 24))
    have HR5 := Lib.hid (HON.out _ _ _ _ _ HR4.out HAL.out)
    have HB5 := Lib.hid (bt (bt HB4.out hb4) HAL.out)
    clear hb4 hrd
    obtain ⟨p0, p1, p2, p3⟩ := HRBC.out _ _ _ _ HR5.out
    obtain ⟨x0, x1, x2, x3⟩ := HRBC.out _ _ _ _ HX.out
    go_wp2_with fail
    generalize hX : w4.heap.size = X at *
    clear hX
    generalize w4.alloc (.cells #[.int .i64 N, .slice A 0 c, .string PB, .bool closes] 24) = W4 at *
    refine (HSM.out W4 A none c 0 (HFL.out _ _ _ _ HX.out) (HFL.out _ _ _ _ HR5.out)).mono ?_
    rintro e w5 ⟨rfl, hb5⟩
    obtain ⟨y0, y1, y2, y3⟩ := HRBC.out _ _ _ _ (HON.out _ _ _ _ _ HX.out hb5)
    have HB6 := Lib.hid (bt HB5.out hb5)
    clear hb5
    go_wp2_with fail
    go_ret
    exact ⟨rfl, HB6.out⟩
  · have hm2 : (200 : Int) < (more.size : Int) := by omega
    go_enter Tryd.func8, Tryd.ntmps8
    go_wp2_with fail
    refine HFIT.out.mono ?_
    rintro e w1 ⟨rfl, hb1⟩
    go_wp2_with fail
    go_ret
    exact ⟨rfl, hb1⟩

end Go.Proofs.YtkbigfjaaiobfaaDoor
