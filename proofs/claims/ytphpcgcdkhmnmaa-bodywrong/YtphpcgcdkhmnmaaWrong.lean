/- The walk of the law BodyWrong. -/
import Derived.Test.YtphpcgcdkhmnmaaBits
namespace Go.Proofs.Ytphpcgcdkhmnmaa
open Go.RowKit Pl

def ones : List UInt8 := List.replicate 201 49
theorem wrong_long : (runB (newB (-1)) ([48, 59] ++ ones)).1.st = 5 ∧ (runB (newB (-1)) ([48, 59] ++ ones)).1.status = 431 := by decide +kernel
theorem good_big : (runB (newB (-1)) [50, 53, 56, 59, 120, 61, 121, 13, 10]).1.st ≠ 5 ∧ (runB (newB (-1)) [50, 53, 56, 59, 120, 61, 121, 13, 10]).1.status = 0 := by decide +kernel
theorem ones_snoc (k : Nat) : List.replicate (k + 1) (49 : UInt8) = List.replicate k 49 ++ [49] := by rw [List.replicate_succ', ]

/-- A text whose body is wrong by that status. -/
theorem wrong_feed (s : ByteArray) (σ : Int) (hs : s.size ≤ 1000) (h : (runB (newB (-1)) s.data.toList).1.st = 5 ∧ (runB (newB (-1)) s.data.toList).1.status = σ) (w : World) :
    Calls Try.prog 8 #[.int .i64 (-1), .string s] w fun e w' => ∃ g k b, e = .returned (.tuple #[.pointer (some ⟨g, 0, none⟩), .int .i64 k]) ∧ BO w.heap.size w' g b ∧ (b.st == 5) = true ∧ b.status = σ ∧ Below w.heap.size w w' :=
  (lawFeed_any (-1) s w (by omega) (by omega)).mono fun _ _ ⟨g, he, ho, hb, _⟩ => ⟨g, _, _, he, ho, by rw [h.1]; rfl, h.2, hb⟩
theorem good_feed (w : World) :
    Calls Try.prog 8 #[.int .i64 (-1), .string ⟨#[50, 53, 56, 59, 120, 61, 121, 13, 10]⟩] w fun e w' => ∃ g k b, e = .returned (.tuple #[.pointer (some ⟨g, 0, none⟩), .int .i64 k]) ∧ BO w.heap.size w' g b ∧ (b.st == 5) = false ∧ b.status = 0 ∧ Below w.heap.size w w' :=
  (lawFeed_any (-1) ⟨#[50, 53, 56, 59, 120, 61, 121, 13, 10]⟩ w (by omega) (by decide)).mono fun _ _ ⟨g, he, ho, hb, _⟩ => ⟨g, _, _, he, ho, by simpa using good_big.1, good_big.2, hb⟩
theorem done_at {base : Nat} {w : World} {g : Nat} {b : Bst} {d : Bool} (h : Hid (BO base w g b)) (hd : Hid ((b.st == 5) = d)) : Calls Try.prog 11 #[.pointer (some ⟨g, 0, none⟩)] w fun e w' => e = .returned (.bool d) ∧ w = w' := by
  have := done_any h.out
  rwa [hd.out] at this
theorem status_at {base : Nat} {w : World} {g : Nat} {b : Bst} {σ : Int} (h : Hid (BO base w g b)) (hd : Hid (b.status = σ)) : Calls Try.prog 9 #[.pointer (some ⟨g, 0, none⟩)] w fun e w' => e = .returned (.int .i64 σ) ∧ w = w' := by
  have := status_any h.out
  rwa [hd.out] at this
theorem tmod_ten (a : Int) : -9 ≤ a.tmod 10 ∧ a.tmod 10 ≤ 9 := by
  rcases Int.le_total 0 a with h | h
  · rw [Int.tmod_eq_emod_of_nonneg h]; omega
  · have e : a.tmod 10 = -((-a).tmod 10) := by rw [Int.neg_tmod]; omega
    rw [e, Int.tmod_eq_emod_of_nonneg (by omega)]; omega
theorem tmod_ten' (a : Int) (h : 0 ≤ a) : a.tmod 10 = a % 10 := Int.tmod_eq_emod_of_nonneg h

theorem alloc2_below {w wr w2 : World} {o1 o2 : Obj} (h : Below w.heap.size w wr) (h2 : Below ((wr.alloc o1).alloc o2).heap.size ((wr.alloc o1).alloc o2) w2) : Below w.heap.size w w2 := by
  have ha := h.alloc h.size o1
  exact bt (ha.alloc ha.size o2) h2

set_option maxRecDepth 100000 in
set_option maxHeartbeats 8000000 in
theorem wrong_walk (a0 n0 : Int) (w : World) : Calls Try.prog 5 #[.int .i64 a0, .int .i64 n0] w fun e w' => e = .returned (.bool true) ∧ Below w.heap.size w w' := by
  have ht := tmod_ten a0
  obtain ⟨ht1, ht2⟩ := ht
  go_enter Try.func5, Try.ntmps5
  go_wp2_with fail
  refine (fit_any _).mono ?_
  rintro e w1 ⟨rfl, hb1⟩
  go_wp2_with fail
  rw [i64_and31]
  have hm0 : 0 ≤ n0 % 32 := by omega
  have hm1 : n0 % 32 ≤ 31 := by omega
  generalize n0 % 32 = n1 at *
  go_wp2_with fail
  go_loopw [5, 17] (fun v i wr => ∃ (k : Nat) (L : ByteArray), k ≤ 201 ∧ i = .int .i64 k ∧ v = .string L ∧ L.size = k ∧ wr = w1 ∧ Hid (L.data.toList = List.replicate k 49)) (fun _ i _ => 201 - (intOf i).toNat)
  case atStart => exact ⟨0, ⟨#[]⟩, by omega, rfl, rfl, rfl, rfl, rfl⟩
  case round =>
    obtain ⟨k, L, hk, rfl, rfl, hL, rfl, HL⟩ := hrel
    by_cases hlt : k < 201
    · have HN : Hid ((L ++ ⟨#[49]⟩).data.toList = List.replicate (k + 1) 49) := by
        show _ = _
        rw [app_data, HL.out, ones_snoc]
      go_wp2_with fail
      go_roundw
      case rel => exact ⟨k + 1, L ++ ⟨#[49]⟩, by omega, by go_num, rfl, by rw [app_size, hL]; rfl, by simp, HN⟩
      case measure => simp [intOf]; omega
    · obtain rfl : k = 201 := by omega
      have hpos : 0 ≤ a0.tmod 10 + 10 := by omega
      obtain ⟨j, hj, hj10⟩ : ∃ j : Nat, (a0.tmod 10 + 10).tmod 10 = (j : Int) ∧ j < 10 := by
        rw [tmod_ten' _ hpos]
        exact ⟨((a0.tmod 10 + 10) % 10).toNat, by omega, by omega⟩
      have hLW : (⟨#[48, 59]⟩ ++ L : ByteArray).data.toList = [48, 59] ++ ones := by rw [app_data, HL.out]; rfl
      have hLs : (⟨#[48, 59]⟩ ++ L : ByteArray).size = 203 := by rw [app_size, hL]; rfl
      have HLC := Lib.hid fun w => wrong_feed (⟨#[48, 59]⟩ ++ L) 431 (by omega) (by rw [hLW]; exact wrong_long) w
      clear hLW HL hm0 hm1
      have hjj : j = 0 ∨ j = 1 ∨ j = 2 ∨ j = 3 ∨ j = 4 ∨ j = 5 ∨ j = 6 ∨ j = 7 ∨ j = 8 ∨ j = 9 := by omega
      clear hj10
      rcases hjj with rfl | rfl | rfl | rfl | rfl | rfl | rfl | rfl | rfl | rfl
      · have HC := Lib.hid fun w => wrong_feed ⟨#[10]⟩ 400 (by decide) (by decide +kernel) w
        clear HLC
        have hj0 : (a0.tmod 10 + 10).tmod 10 = 0 := hj
        clear hj
        go_wp2_with fail
        refine (HC.out _).mono ?_
        rintro e w2 ⟨g, k, b, rfl, ho, hd, hs, hb2⟩
        have HO := Lib.hid ho; have HD := Lib.hid hd; have HS := Lib.hid hs
        have HB := Lib.hid (alloc2_below hb1 hb2)
        clear ho hd hs hb2 HC
        go_wp2_with fail
        refine (good_feed _).mono ?_
        rintro e w3 ⟨g3, k3, b3, rfl, ho, hd, hs, hb3⟩
        have HO2 := Lib.hid (HO.out.below hb3); have HO3 := Lib.hid ho; have HD3 := Lib.hid hd; have HS3 := Lib.hid hs
        have HB3 := Lib.hid (bt HB.out hb3)
        clear ho hd hs hb3
        go_wp2_with fail
        refine (done_at HO2 HD).mono ?_
        rintro e w4 ⟨rfl, rfl⟩
        go_wp2_with fail
        refine (status_at HO2 HS).mono ?_
        rintro e w4 ⟨rfl, rfl⟩
        go_wp2_with fail
        refine (done_at HO3 HD3).mono ?_
        rintro e w4 ⟨rfl, rfl⟩
        go_wp2_with fail
        refine (status_at HO3 HS3).mono ?_
        rintro e w4 ⟨rfl, rfl⟩
        go_wp2_with fail
        go_ret
        exact ⟨rfl, HB3.out⟩
      · have HC := Lib.hid fun w => wrong_feed ⟨#[49, 10]⟩ 400 (by decide) (by decide +kernel) w
        clear HLC
        have hj0 : (a0.tmod 10 + 10).tmod 10 = 1 := hj
        clear hj
        go_wp2_with fail
        refine (HC.out _).mono ?_
        rintro e w2 ⟨g, k, b, rfl, ho, hd, hs, hb2⟩
        have HO := Lib.hid ho; have HD := Lib.hid hd; have HS := Lib.hid hs
        have HB := Lib.hid (alloc2_below hb1 hb2)
        clear ho hd hs hb2 HC
        go_wp2_with fail
        refine (good_feed _).mono ?_
        rintro e w3 ⟨g3, k3, b3, rfl, ho, hd, hs, hb3⟩
        have HO2 := Lib.hid (HO.out.below hb3); have HO3 := Lib.hid ho; have HD3 := Lib.hid hd; have HS3 := Lib.hid hs
        have HB3 := Lib.hid (bt HB.out hb3)
        clear ho hd hs hb3
        go_wp2_with fail
        refine (done_at HO2 HD).mono ?_
        rintro e w4 ⟨rfl, rfl⟩
        go_wp2_with fail
        refine (status_at HO2 HS).mono ?_
        rintro e w4 ⟨rfl, rfl⟩
        go_wp2_with fail
        refine (done_at HO3 HD3).mono ?_
        rintro e w4 ⟨rfl, rfl⟩
        go_wp2_with fail
        refine (status_at HO3 HS3).mono ?_
        rintro e w4 ⟨rfl, rfl⟩
        go_wp2_with fail
        go_ret
        exact ⟨rfl, HB3.out⟩
      · have HC := Lib.hid fun w => wrong_feed ⟨#[49, 13, 13, 10]⟩ 400 (by decide) (by decide +kernel) w
        clear HLC
        have hj0 : (a0.tmod 10 + 10).tmod 10 = 2 := hj
        clear hj
        go_wp2_with fail
        refine (HC.out _).mono ?_
        rintro e w2 ⟨g, k, b, rfl, ho, hd, hs, hb2⟩
        have HO := Lib.hid ho; have HD := Lib.hid hd; have HS := Lib.hid hs
        have HB := Lib.hid (alloc2_below hb1 hb2)
        clear ho hd hs hb2 HC
        go_wp2_with fail
        refine (good_feed _).mono ?_
        rintro e w3 ⟨g3, k3, b3, rfl, ho, hd, hs, hb3⟩
        have HO2 := Lib.hid (HO.out.below hb3); have HO3 := Lib.hid ho; have HD3 := Lib.hid hd; have HS3 := Lib.hid hs
        have HB3 := Lib.hid (bt HB.out hb3)
        clear ho hd hs hb3
        go_wp2_with fail
        refine (done_at HO2 HD).mono ?_
        rintro e w4 ⟨rfl, rfl⟩
        go_wp2_with fail
        refine (status_at HO2 HS).mono ?_
        rintro e w4 ⟨rfl, rfl⟩
        go_wp2_with fail
        refine (done_at HO3 HD3).mono ?_
        rintro e w4 ⟨rfl, rfl⟩
        go_wp2_with fail
        refine (status_at HO3 HS3).mono ?_
        rintro e w4 ⟨rfl, rfl⟩
        go_wp2_with fail
        go_ret
        exact ⟨rfl, HB3.out⟩
      · have HC := Lib.hid fun w => wrong_feed ⟨#[103, 13, 10]⟩ 400 (by decide) (by decide +kernel) w
        clear HLC
        have hj0 : (a0.tmod 10 + 10).tmod 10 = 3 := hj
        clear hj
        go_wp2_with fail
        refine (HC.out _).mono ?_
        rintro e w2 ⟨g, k, b, rfl, ho, hd, hs, hb2⟩
        have HO := Lib.hid ho; have HD := Lib.hid hd; have HS := Lib.hid hs
        have HB := Lib.hid (alloc2_below hb1 hb2)
        clear ho hd hs hb2 HC
        go_wp2_with fail
        refine (good_feed _).mono ?_
        rintro e w3 ⟨g3, k3, b3, rfl, ho, hd, hs, hb3⟩
        have HO2 := Lib.hid (HO.out.below hb3); have HO3 := Lib.hid ho; have HD3 := Lib.hid hd; have HS3 := Lib.hid hs
        have HB3 := Lib.hid (bt HB.out hb3)
        clear ho hd hs hb3
        go_wp2_with fail
        refine (done_at HO2 HD).mono ?_
        rintro e w4 ⟨rfl, rfl⟩
        go_wp2_with fail
        refine (status_at HO2 HS).mono ?_
        rintro e w4 ⟨rfl, rfl⟩
        go_wp2_with fail
        refine (done_at HO3 HD3).mono ?_
        rintro e w4 ⟨rfl, rfl⟩
        go_wp2_with fail
        refine (status_at HO3 HS3).mono ?_
        rintro e w4 ⟨rfl, rfl⟩
        go_wp2_with fail
        go_ret
        exact ⟨rfl, HB3.out⟩
      · have HC := Lib.hid fun w => wrong_feed ⟨#[13, 10]⟩ 400 (by decide) (by decide +kernel) w
        clear HLC
        have hj0 : (a0.tmod 10 + 10).tmod 10 = 4 := hj
        clear hj
        go_wp2_with fail
        refine (HC.out _).mono ?_
        rintro e w2 ⟨g, k, b, rfl, ho, hd, hs, hb2⟩
        have HO := Lib.hid ho; have HD := Lib.hid hd; have HS := Lib.hid hs
        have HB := Lib.hid (alloc2_below hb1 hb2)
        clear ho hd hs hb2 HC
        go_wp2_with fail
        refine (good_feed _).mono ?_
        rintro e w3 ⟨g3, k3, b3, rfl, ho, hd, hs, hb3⟩
        have HO2 := Lib.hid (HO.out.below hb3); have HO3 := Lib.hid ho; have HD3 := Lib.hid hd; have HS3 := Lib.hid hs
        have HB3 := Lib.hid (bt HB.out hb3)
        clear ho hd hs hb3
        go_wp2_with fail
        refine (done_at HO2 HD).mono ?_
        rintro e w4 ⟨rfl, rfl⟩
        go_wp2_with fail
        refine (status_at HO2 HS).mono ?_
        rintro e w4 ⟨rfl, rfl⟩
        go_wp2_with fail
        refine (done_at HO3 HD3).mono ?_
        rintro e w4 ⟨rfl, rfl⟩
        go_wp2_with fail
        refine (status_at HO3 HS3).mono ?_
        rintro e w4 ⟨rfl, rfl⟩
        go_wp2_with fail
        go_ret
        exact ⟨rfl, HB3.out⟩
      · have HC := Lib.hid fun w => wrong_feed ⟨#[49, 13, 10, 97, 98, 13, 10]⟩ 400 (by decide) (by decide +kernel) w
        clear HLC
        have hj0 : (a0.tmod 10 + 10).tmod 10 = 5 := hj
        clear hj
        go_wp2_with fail
        refine (HC.out _).mono ?_
        rintro e w2 ⟨g, k, b, rfl, ho, hd, hs, hb2⟩
        have HO := Lib.hid ho; have HD := Lib.hid hd; have HS := Lib.hid hs
        have HB := Lib.hid (alloc2_below hb1 hb2)
        clear ho hd hs hb2 HC
        go_wp2_with fail
        refine (good_feed _).mono ?_
        rintro e w3 ⟨g3, k3, b3, rfl, ho, hd, hs, hb3⟩
        have HO2 := Lib.hid (HO.out.below hb3); have HO3 := Lib.hid ho; have HD3 := Lib.hid hd; have HS3 := Lib.hid hs
        have HB3 := Lib.hid (bt HB.out hb3)
        clear ho hd hs hb3
        go_wp2_with fail
        refine (done_at HO2 HD).mono ?_
        rintro e w4 ⟨rfl, rfl⟩
        go_wp2_with fail
        refine (status_at HO2 HS).mono ?_
        rintro e w4 ⟨rfl, rfl⟩
        go_wp2_with fail
        refine (done_at HO3 HD3).mono ?_
        rintro e w4 ⟨rfl, rfl⟩
        go_wp2_with fail
        refine (status_at HO3 HS3).mono ?_
        rintro e w4 ⟨rfl, rfl⟩
        go_wp2_with fail
        go_ret
        exact ⟨rfl, HB3.out⟩
      · have HC := Lib.hid fun w => wrong_feed ⟨#[50, 53, 57, 13, 10]⟩ 413 (by decide) (by decide +kernel) w
        clear HLC
        have hj0 : (a0.tmod 10 + 10).tmod 10 = 6 := hj
        clear hj
        go_wp2_with fail
        refine (HC.out _).mono ?_
        rintro e w2 ⟨g, k, b, rfl, ho, hd, hs, hb2⟩
        have HO := Lib.hid ho; have HD := Lib.hid hd; have HS := Lib.hid hs
        have HB := Lib.hid (alloc2_below hb1 hb2)
        clear ho hd hs hb2 HC
        go_wp2_with fail
        refine (good_feed _).mono ?_
        rintro e w3 ⟨g3, k3, b3, rfl, ho, hd, hs, hb3⟩
        have HO2 := Lib.hid (HO.out.below hb3); have HO3 := Lib.hid ho; have HD3 := Lib.hid hd; have HS3 := Lib.hid hs
        have HB3 := Lib.hid (bt HB.out hb3)
        clear ho hd hs hb3
        go_wp2_with fail
        refine (done_at HO2 HD).mono ?_
        rintro e w4 ⟨rfl, rfl⟩
        go_wp2_with fail
        refine (status_at HO2 HS).mono ?_
        rintro e w4 ⟨rfl, rfl⟩
        go_wp2_with fail
        refine (done_at HO3 HD3).mono ?_
        rintro e w4 ⟨rfl, rfl⟩
        go_wp2_with fail
        refine (status_at HO3 HS3).mono ?_
        rintro e w4 ⟨rfl, rfl⟩
        go_wp2_with fail
        go_ret
        exact ⟨rfl, HB3.out⟩
      · have HC := HLC
        clear HLC
        have hj0 : (a0.tmod 10 + 10).tmod 10 = 7 := hj
        clear hj
        go_wp2_with fail
        refine (HC.out _).mono ?_
        rintro e w2 ⟨g, k, b, rfl, ho, hd, hs, hb2⟩
        have HO := Lib.hid ho; have HD := Lib.hid hd; have HS := Lib.hid hs
        have HB := Lib.hid (alloc2_below hb1 hb2)
        clear ho hd hs hb2 HC
        go_wp2_with fail
        refine (good_feed _).mono ?_
        rintro e w3 ⟨g3, k3, b3, rfl, ho, hd, hs, hb3⟩
        have HO2 := Lib.hid (HO.out.below hb3); have HO3 := Lib.hid ho; have HD3 := Lib.hid hd; have HS3 := Lib.hid hs
        have HB3 := Lib.hid (bt HB.out hb3)
        clear ho hd hs hb3
        go_wp2_with fail
        refine (done_at HO2 HD).mono ?_
        rintro e w4 ⟨rfl, rfl⟩
        go_wp2_with fail
        refine (status_at HO2 HS).mono ?_
        rintro e w4 ⟨rfl, rfl⟩
        go_wp2_with fail
        refine (done_at HO3 HD3).mono ?_
        rintro e w4 ⟨rfl, rfl⟩
        go_wp2_with fail
        refine (status_at HO3 HS3).mono ?_
        rintro e w4 ⟨rfl, rfl⟩
        go_wp2_with fail
        go_ret
        exact ⟨rfl, HB3.out⟩
      · have HC := Lib.hid fun w => wrong_feed ⟨#[45, 49, 13, 10]⟩ 400 (by decide) (by decide +kernel) w
        clear HLC
        have hj0 : (a0.tmod 10 + 10).tmod 10 = 8 := hj
        clear hj
        go_wp2_with fail
        refine (HC.out _).mono ?_
        rintro e w2 ⟨g, k, b, rfl, ho, hd, hs, hb2⟩
        have HO := Lib.hid ho; have HD := Lib.hid hd; have HS := Lib.hid hs
        have HB := Lib.hid (alloc2_below hb1 hb2)
        clear ho hd hs hb2 HC
        go_wp2_with fail
        refine (good_feed _).mono ?_
        rintro e w3 ⟨g3, k3, b3, rfl, ho, hd, hs, hb3⟩
        have HO2 := Lib.hid (HO.out.below hb3); have HO3 := Lib.hid ho; have HD3 := Lib.hid hd; have HS3 := Lib.hid hs
        have HB3 := Lib.hid (bt HB.out hb3)
        clear ho hd hs hb3
        go_wp2_with fail
        refine (done_at HO2 HD).mono ?_
        rintro e w4 ⟨rfl, rfl⟩
        go_wp2_with fail
        refine (status_at HO2 HS).mono ?_
        rintro e w4 ⟨rfl, rfl⟩
        go_wp2_with fail
        refine (done_at HO3 HD3).mono ?_
        rintro e w4 ⟨rfl, rfl⟩
        go_wp2_with fail
        refine (status_at HO3 HS3).mono ?_
        rintro e w4 ⟨rfl, rfl⟩
        go_wp2_with fail
        go_ret
        exact ⟨rfl, HB3.out⟩
      · have HC := Lib.hid fun w => wrong_feed ⟨#[49, 13, 10, 97, 10]⟩ 400 (by decide) (by decide +kernel) w
        clear HLC
        have hj0 : (a0.tmod 10 + 10).tmod 10 = 9 := hj
        clear hj
        go_wp2_with fail
        refine (HC.out _).mono ?_
        rintro e w2 ⟨g, k, b, rfl, ho, hd, hs, hb2⟩
        have HO := Lib.hid ho; have HD := Lib.hid hd; have HS := Lib.hid hs
        have HB := Lib.hid (alloc2_below hb1 hb2)
        clear ho hd hs hb2 HC
        go_wp2_with fail
        refine (good_feed _).mono ?_
        rintro e w3 ⟨g3, k3, b3, rfl, ho, hd, hs, hb3⟩
        have HO2 := Lib.hid (HO.out.below hb3); have HO3 := Lib.hid ho; have HD3 := Lib.hid hd; have HS3 := Lib.hid hs
        have HB3 := Lib.hid (bt HB.out hb3)
        clear ho hd hs hb3
        go_wp2_with fail
        refine (done_at HO2 HD).mono ?_
        rintro e w4 ⟨rfl, rfl⟩
        go_wp2_with fail
        refine (status_at HO2 HS).mono ?_
        rintro e w4 ⟨rfl, rfl⟩
        go_wp2_with fail
        refine (done_at HO3 HD3).mono ?_
        rintro e w4 ⟨rfl, rfl⟩
        go_wp2_with fail
        refine (status_at HO3 HS3).mono ?_
        rintro e w4 ⟨rfl, rfl⟩
        go_wp2_with fail
        go_ret
        exact ⟨rfl, HB3.out⟩

theorem wrong_row (a0 n0 : Int) (w : World) (_ha : (Lit.int .i64 a0).wf = true) (_hn : (Lit.int .i64 n0).wf = true) : Calls Try.prog 5 #[.int .i64 a0, .int .i64 n0] w fun e w' => e = .returned (.bool true) ∧ Below w.heap.size w w' := wrong_walk a0 n0 w

end Go.Proofs.Ytphpcgcdkhmnmaa
