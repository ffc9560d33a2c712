/- The law CutterLong, walked. -/
import Derived.Test.YtkjlbddaglcooaaDoorLong
import Derived.Test.YtkjlbddaglcooaaDoorFitC
namespace Go.Proofs.YtkjlbddaglcooaaDoor
open Go.RowKit Pl
open Go.Lib (byteCells)

theorem i64_and11 (n : Int) : bits .and .i64 n 2047 = n % 2048 := by
  have h : (BitVec.ofInt 64 2047).toNat = 2 ^ 11 - 1 := by decide
  have key : (BitVec.ofInt 64 n &&& BitVec.ofInt 64 2047).toNat = (n % ((2 ^ 64 : Nat) : Int)).toNat % 2 ^ 11 := by
    rw [BitVec.toNat_and, BitVec.toNat_ofInt, h, Nat.and_two_pow_sub_one_eq_mod]
  show IntKind.i64.wrap ((BitVec.ofInt 64 n &&& BitVec.ofInt 64 2047).toNat : Nat) = n % 2048
  rw [key, IntKind.wrap_i64]
  omega
theorem i64_and2 (n : Int) : bits .and .i64 n 3 = n % 4 := by
  have h : (BitVec.ofInt 64 3).toNat = 2 ^ 2 - 1 := by decide
  have key : (BitVec.ofInt 64 n &&& BitVec.ofInt 64 3).toNat = (n % ((2 ^ 64 : Nat) : Int)).toNat % 2 ^ 2 := by
    rw [BitVec.toNat_and, BitVec.toNat_ofInt, h, Nat.and_two_pow_sub_one_eq_mod]
  show IntKind.i64.wrap ((BitVec.ofInt 64 n &&& BitVec.ofInt 64 3).toNat : Nat) = n % 4
  rw [key, IntKind.wrap_i64]
  omega

theorem blank_len (k : Nat) : (blankT k).length = k * 2 := by
  induction k with
  | zero => rfl
  | succ k ih => rw [blankT, List.length_append, ih]; simp; omega
/-- What is cut of blank lines and the head. -/
theorem long_plain (n b : Nat) : (1000 < 32 + n → runC newC (blankT b ++ (headT ++ signs n ++ [13, 10, 13, 10])) = (stopC 431, [])) ∧ (32 + n ≤ 1000 → ∃ r, runC newC (blankT b ++ (headT ++ signs n ++ [13, 10, 13, 10])) = (newC, [r])) := by
  have e : ∀ R, runC headC (signs n ++ [13, 10, 13, 10]) = R → runC newC (blankT b ++ (headT ++ signs n ++ [13, 10, 13, 10])) = R := fun R h => by
    rw [runC_app, run_blank, List.append_assoc]
    simp only
    rw [runC_app, run_head]
    simp only
    rw [h]
    simp
  constructor
  · intro h
    refine e _ ?_
    by_cases h2 : 1000 < n + 28
    · exact run_too n h2 _
    · have hne : ∀ x : List UInt8, headT ++ signs n ++ x ≠ [13, 10] := fun x => by rw [List.append_assoc]; exact head_ne _
      have hn : n = 969 ∨ n = 970 ∨ n = 971 ∨ n = 972 := by omega
      rw [runC_app, run_signs n (by omega)]
      have hl := head_len n
      have hcr := crB_signs n
      have hls := last_signs n
      generalize headT ++ signs n = l at *
      have s1 : l.length = 1000 → stepC ⟨l, nilRq, none, false, 0⟩ 13 = (stopC 431, none) := fun h => step_long l 13 (by rw [hcr]; rfl) (hne _) (by omega)
      have s2 : l.length < 1000 → stepC ⟨l, nilRq, none, false, 0⟩ 13 = (⟨l ++ [13], nilRq, none, false, 0⟩, none) := fun h => step_sign l 13 (by decide) hcr (hne _) (by omega)
      have hov : ∀ x, runC (stopC 431) x = (stopC 431, []) := fun x => run_over rfl x
      simp only [runC_cons, runC_nil]
      rcases hn with hn | hn | hn | hn
      · rw [s2 (by omega)]
        simp only
        rw [step_lf (l ++ [13]) (by rw [crB_app]; rfl) (by rw [List.append_assoc]; exact hne _) (by simp; omega) (by rw [List.append_assoc]; exact ends_two _ hls)]
        simp only
        rw [step_sign (l ++ [13] ++ [10]) 13 (by decide) (by rw [crB_app]; rfl) (by rw [List.append_assoc, List.append_assoc]; exact hne _) (by simp; omega)]
        simp only
        rw [step_long (l ++ [13] ++ [10] ++ [13]) 10 (by rw [crB_app]; rfl) (by rw [List.append_assoc, List.append_assoc, List.append_assoc]; exact hne _) (by simp; omega)]
        simp
      · rw [s2 (by omega)]
        simp only
        rw [step_lf (l ++ [13]) (by rw [crB_app]; rfl) (by rw [List.append_assoc]; exact hne _) (by simp; omega) (by rw [List.append_assoc]; exact ends_two _ hls)]
        simp only
        rw [step_long (l ++ [13] ++ [10]) 13 (by rw [crB_app]; rfl) (by rw [List.append_assoc, List.append_assoc]; exact hne _) (by simp; omega)]
        simp only
        rw [step_done rfl]
        simp
      · rw [s2 (by omega)]
        simp only
        rw [step_long (l ++ [13]) 10 (by rw [crB_app]; rfl) (by rw [List.append_assoc]; exact hne _) (by simp; omega)]
        simp only
        rw [step_done rfl, step_done rfl]
        simp
      · rw [s1 (by omega)]
        simp only
        rw [step_done rfl, step_done rfl, step_done rfl]
        simp
  · intro h
    obtain ⟨r, hr⟩ := run_fits n (by omega)
    exact ⟨r, e _ hr⟩

def mkT (l : List UInt8) : ByteArray := ⟨l.toArray⟩
theorem mkT_app (a b : List UInt8) : mkT a ++ mkT b = mkT (a ++ b) := bytes_ext (by simp [mkT])
theorem mkT_size (a : List UInt8) : (mkT a).size = a.length := by simp [mkT, ByteArray.size]
theorem mkT_data (a : List UInt8) : (mkT a).data.toList = a := by simp [mkT]

set_option maxRecDepth 10000 in
set_option maxHeartbeats 4000000 in
theorem long_core (n0 b0 : Int) (n b : Nat) (hn : n0 % 2048 = (n : Int)) (hb : b0 % 4 = (b : Int)) (w : World) (hm : MX w) : Calls Tryd.prog 4 #[.int .i64 n0, .int .i64 b0] w fun e w' => e = .returned (.bool true) ∧ Below w.heap.size w w' := by
  have HF := Lib.hid (fit_any w hm)
  have HM := Lib.hid hm
  have hnb : n < 2048 := by omega
  have hbb : b < 4 := by omega
  have ha1 := i64_and11 n0
  have ha2 := i64_and2 b0
  rw [hn] at ha1
  rw [hb] at ha2
  clear hm hn hb
  go_enter Tryd.func4, Tryd.ntmps4
  go_wp2_with fail
  refine HF.out.mono ?_
  rintro e w1 ⟨rfl, hb1⟩
  have HB1 := Lib.hid hb1
  clear hb1 HF
  go_wp2_with fail
  go_loopw [5, 16] (fun t i wr => ∃ k : Nat, k ≤ b ∧ i = .int .i64 k ∧ t = .string (mkT (blankT k)) ∧ Below w1.heap.size w1 wr) (fun _ i _ => b - (intOf i).toNat)
  case atStart => exact ⟨0, by omega, rfl, rfl, Below.refl _ _⟩
  case round =>
    obtain ⟨k, hk, rfl, rfl, hbw⟩ := hrel
    have HBW := Lib.hid hbw
    clear hbw
    by_cases hlt : k < b
    · have hsum : mkT (blankT k) ++ ⟨#[13, 10]⟩ = mkT (blankT (k + 1)) := mkT_app (blankT k) [13, 10]
      have hsz : (mkT (blankT k)).size ≤ 10 := by rw [mkT_size, blank_len]; omega
      generalize mkT (blankT (k + 1)) = t2 at *
      have HT2 : Hid (t2 = mkT (blankT (k + 1))) := by rw [← hsum]; exact mkT_app (blankT k) [13, 10]
      generalize mkT (blankT k) = t1 at *
      go_wp2_with fail
      go_roundw
      case rel => exact ⟨k + 1, by omega, by go_num, by rw [← HT2.out], HBW.out⟩
      case measure => simp [intOf]; omega
    · obtain rfl : k = b := by omega
      have hsz0 : (mkT (blankT k)).size ≤ 10 := by rw [mkT_size, blank_len]; omega
      generalize hbt : mkT (blankT k) = bt0 at *
      have HBT := Lib.hid hbt
      clear hbt
      go_wp2_with fail
      go_loopw [6, 22] (fun t i wr2 => ∃ j : Nat, j ≤ n ∧ i = .int .i64 j ∧ t = .string (mkT (headT ++ signs j)) ∧ Below w1.heap.size w1 wr2) (fun _ i _ => n - (intOf i).toNat)
      case atStart => exact ⟨0, by omega, rfl, by simp [signs, mkT, headT], HBW.out⟩
      case round =>
        obtain ⟨j, hj, rfl, rfl, hbw2⟩ := hrel
        have HBW2 := Lib.hid hbw2
        clear hbw2
        by_cases hlt2 : j < n
        · have hsz : (mkT (headT ++ signs j)).size ≤ 3000 := by rw [mkT_size, head_len]; omega
          have hsum : mkT (headT ++ signs j) ++ ⟨#[118]⟩ = mkT (headT ++ signs (j + 1)) := by
            rw [signs_snoc, ← List.append_assoc]
            exact mkT_app (headT ++ signs j) [118]
          generalize ht2 : mkT (headT ++ signs (j + 1)) = t2 at *
          have HT2 := Lib.hid ht2
          clear ht2
          generalize mkT (headT ++ signs j) = t1 at *
          go_wp2_with fail
          go_roundw
          case rel => exact ⟨j + 1, by omega, by go_num, by rw [HT2.out], HBW2.out⟩
          case measure => simp [intOf]; omega
        · obtain rfl : j = n := by omega
          have hsz : (mkT (headT ++ signs j)).size = 28 + j := by rw [mkT_size, head_len]
          have hsum : mkT (headT ++ signs j) ++ ⟨#[13, 10, 13, 10]⟩ = mkT (headT ++ signs j ++ [13, 10, 13, 10]) := mkT_app (headT ++ signs j) [13, 10, 13, 10]
          have hsz2 : (mkT (headT ++ signs j ++ [13, 10, 13, 10])).size = 32 + j := by rw [mkT_size, List.length_append, head_len]; simp; omega
          have hsum2 : bt0 ++ mkT (headT ++ signs j ++ [13, 10, 13, 10]) = mkT (blankT k ++ (headT ++ signs j ++ [13, 10, 13, 10])) := by rw [← HBT.out]; exact mkT_app _ _
          have hsz3 : (mkT (blankT k ++ (headT ++ signs j ++ [13, 10, 13, 10]))).size ≤ 10000 := by rw [mkT_size, List.length_append, blank_len, List.length_append, head_len]; simp; omega
          obtain ⟨hp1, hp2⟩ := long_plain j k
          have HAL := Lib.hid fun R h w hm => call_all (mkT (blankT k ++ (headT ++ signs j ++ [13, 10, 13, 10]))) w hm (by omega) R h
          rw [mkT_data] at HAL
          have HP1 := Lib.hid hp1; have HP2 := Lib.hid hp2
          clear hp1 hp2
          generalize runC newC (blankT k ++ (headT ++ signs j ++ [13, 10, 13, 10])) = R at *
          generalize mkT (blankT k ++ (headT ++ signs j ++ [13, 10, 13, 10])) = s3 at *
          generalize mkT (headT ++ signs j ++ [13, 10, 13, 10]) = s2 at *
          generalize mkT (headT ++ signs j) = s1 at *
          by_cases hlong : 1000 < 32 + j
          · have hR := HP1.out hlong
            subst hR
            go_wp2_with fail
            refine (HAL.out _ (Lib.hid rfl) _ (HM.out.below (bt HB1.out HBW2.out))).mono ?_
            rintro e w5 ⟨v, xs, rfl, hxs, hrq, hb5⟩
            have hx0 : xs = [] := by simpa using hxs
            subst hx0
            obtain ⟨A1, c1, rfl, _⟩ := Rd.own hrq.row
            have HB5 := Lib.hid (bt (bt HB1.out HBW2.out) hb5)
            clear hrq hb5 hxs
            go_wp2_with fail
            go_ret
            exact ⟨ret_bool (by decide), HB5.out⟩
          · obtain ⟨r, hR⟩ := HP2.out (by omega)
            subst hR
            go_wp2_with fail
            refine (HAL.out _ (Lib.hid rfl) _ (HM.out.below (bt HB1.out HBW2.out))).mono ?_
            rintro e w5 ⟨v, xs, rfl, hxs, hrq, hb5⟩
            have hx1 : xs.length = 1 := by rw [← List.length_map (f := Prod.fst), hxs]; rfl
            obtain ⟨A1, c1, rfl, _⟩ := Rd.own hrq.row
            have HB5 := Lib.hid (bt (bt HB1.out HBW2.out) hb5)
            rw [hx1]
            clear hrq hb5 hxs hx1
            go_wp2_with fail
            go_ret
            exact ⟨ret_bool (by decide), HB5.out⟩

theorem long_walk (n0 b0 : Int) (w : World) (hm : MX w) : Calls Tryd.prog 4 #[.int .i64 n0, .int .i64 b0] w fun e w' => e = .returned (.bool true) ∧ Below w.heap.size w w' :=
  long_core n0 b0 (n0 % 2048).toNat (b0 % 4).toNat (by omega) (by omega) w hm

end Go.Proofs.YtkjlbddaglcooaaDoor
