/- The law AnswerCuts, walked. -/
import Derived.Test.YtkbigfjaaiobfaaDoorRightUse
namespace Go.Proofs.YtkbigfjaaiobfaaDoor
open Go.RowKit Pl Go.Shelf

set_option maxRecDepth 100000 in
set_option maxHeartbeats 4000000 in
theorem cuts_walk (r : Rsp) (A : Option Addr) (c : Nat) (n : Int) (w : World) (hr : Rd w w.heap.size 2 A r.fs.length (fldCells r.fs)) (hz : ∀ f ∈ r.fs, f.1.size ≤ 140737488355328 ∧ f.2.size ≤ 140737488355328) (_h : (Lit.int .i64 n).wf = true) (hg : GV w) :
    Calls Tryd.prog 7 #[.agg #[.int .i64 r.st, .slice A r.fs.length c, .string r.body, .bool r.cl], .int .i64 n] w fun e w' => e = .returned (.bool true) ∧ Below w.heap.size w w' := by
  have HX0 := Lib.hid (RB.new c hr)
  have HB0 := Lib.hid ((Below.refl w.heap.size w).alloc (Nat.le_refl _) (.cells #[.int .i64 r.st, .slice A r.fs.length c, .string r.body, .bool r.cl] 24))
  have HG := Lib.hid hg
  have HFIT := Lib.hid (fit_any _ (hg.on HB0.out).toGB)
  have HRT := Lib.hid (fun (w : World) hr => right_any r A c w hr hz)
  have HEN := Lib.hid (fun h (w : World) hr hg => enc_right r h A c w hr hg)
  have HON : Hid (∀ (w w' : World) g, RB w g r A c → Below w.heap.size w w' → RB w' g r A c) := fun w w' g h hb => h.on hb
  have HRC : Hid (∀ (w : World) g, RB w g r A c → w.cell? ⟨g, 0, none⟩ = some (.int .i64 r.st) ∧ w.cell? ⟨g, 1, none⟩ = some (.slice A r.fs.length c) ∧ w.cell? ⟨g, 2, none⟩ = some (.string r.body) ∧ w.cell? ⟨g, 3, none⟩ = some (.bool r.cl)) := fun w g h => ⟨h.c0, h.c1, h.c2, h.c3⟩
  have HFL : Hid (∀ (w : World) g, RB w g r A c → Rd w w.heap.size 2 A r.fs.length (fldCells r.fs)) := fun w g h => h.fl
  obtain ⟨S, hS⟩ : ∃ S, mkB (encL r) = S := ⟨_, rfl⟩
  have hSL : S.size = (encL r).length := by rw [← hS, mkB_size]
  have hpos := enc_pos r
  have hlen : rightB r = true → S.size ≤ 10000 := fun h => by rw [hSL]; exact right_len h
  obtain ⟨m, hmd⟩ : ∃ m : Nat, n % 65536 = (m : Int) := ⟨(n % 65536).toNat, by omega⟩
  have hand : bits .and .i64 n 65535 = (m : Int) := by rw [i64_and65535, hmd]
  obtain ⟨k, hk⟩ : ∃ k : Nat, k = m % S.size := ⟨_, rfl⟩
  have hk2 : k < S.size := by rw [hk]; exact Nat.mod_lt _ (by omega)
  have htm : (m : Int).tmod (S.size : Int) = (k : Int) := by rw [Int.tmod_eq_emod_of_nonneg (by omega), hk]; omega
  have hsl : S.extract 0 k = mkB ((encL r).take k) := by rw [← hS]; exact take_ext _ _ (by omega)
  have HD := Lib.hid (fun (h : rightB r = true) (w : World) hg => dec_less r (right_ok h) k (by omega) (S.extract 0 k) (by rw [hsl, mkB_data]) (by have := right_len h; omega) w hg)
  rw [hS] at HEN
  clear hS hSL hpos hsl hmd hk hr hz hg
  have hS0 : (S.size : Int) ≠ 0 := by omega
  have j0 : (0 : Int) ≤ (k : Int) := by omega
  have j1 : (k : Int) ≤ (S.size : Int) := by omega
  have HLEN := Lib.hid hlen
  generalize rightB r = b at *
  clear hlen
  generalize hst : r.st = st at *
  generalize hbd : r.body = bd at *
  generalize hcl : r.cl = cl at *
  generalize hfl : r.fs.length = fl at *
  clear hst hbd hcl hfl
  obtain ⟨p0, p1, p2, p3⟩ := HRC.out _ _ HX0.out
  cases b with
  | false =>
    go_enter Tryd.func7, Tryd.ntmps7
    go_wp2_with fail
    generalize w.alloc (.cells #[.int .i64 st, .slice A fl c, .string bd, .bool cl] 24) = W0 at *
    refine HFIT.out.mono ?_
    rintro e w1 ⟨rfl, hb1⟩
    have HX1 := Lib.hid (HON.out _ _ _ HX0.out hb1)
    have HB1 := Lib.hid (bt HB0.out hb1)
    clear hb1 p0 p1 p2 p3
    obtain ⟨p0, p1, p2, p3⟩ := HRC.out _ _ HX1.out
    go_wp2_with fail
    refine (HRT.out w1 (HFL.out _ _ HX1.out)).mono ?_
    rintro e w2 ⟨rfl, hb2⟩
    go_wp2_with fail
    go_ret
    exact ⟨rfl, bt HB1.out hb2⟩
  | true =>
    have hl2 := HLEN.out rfl
    have HEN2 := Lib.hid (HEN.out rfl)
    have HD2 := Lib.hid (HD.out rfl)
    clear HEN HD HLEN
    go_enter Tryd.func7, Tryd.ntmps7
    go_wp2_with fail
    generalize w.alloc (.cells #[.int .i64 st, .slice A fl c, .string bd, .bool cl] 24) = W0 at *
    refine HFIT.out.mono ?_
    rintro e w1 ⟨rfl, hb1⟩
    have HX1 := Lib.hid (HON.out _ _ _ HX0.out hb1)
    have HB1 := Lib.hid (bt HB0.out hb1)
    clear hb1 p0 p1 p2 p3
    obtain ⟨p0, p1, p2, p3⟩ := HRC.out _ _ HX1.out
    go_wp2_with fail
    refine (HRT.out w1 (HFL.out _ _ HX1.out)).mono ?_
    rintro e w2 ⟨rfl, hb2⟩
    have HX2 := Lib.hid (HON.out _ _ _ HX1.out hb2)
    have HB2 := Lib.hid (bt HB1.out hb2)
    clear hb2 p0 p1 p2 p3
    obtain ⟨p0, p1, p2, p3⟩ := HRC.out _ _ HX2.out
    go_wp2_with fail
    refine (HEN2.out w2 (HFL.out _ _ HX2.out) (HG.out.on HB2.out).toGB).mono ?_
    rintro e w3 ⟨rfl, hb3⟩
    have HB3 := Lib.hid (bt HB2.out hb3)
    clear hb3 p0 p1 p2 p3
    go_wp2_with fail
    refine (HD2.out w3 (HG.out.on HB3.out)).mono ?_
    rintro e w4 ⟨rfl, hb4⟩
    have HB4 := Lib.hid (bt HB3.out hb4)
    clear hb4
    go_wp2_with fail
    go_ret
    exact ⟨rfl, HB4.out.alloc HB4.out.size _⟩

end Go.Proofs.YtkbigfjaaiobfaaDoor
