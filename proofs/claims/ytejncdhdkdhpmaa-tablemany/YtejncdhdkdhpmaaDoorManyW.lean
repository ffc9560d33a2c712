/- The walk of TableMany. -/
import Derived.Test.YtejncdhdkdhpmaaDoorTbFit
import Derived.Test.YtejncdhdkdhpmaaDoorTbSame
import Derived.Test.YtejncdhdkdhpmaaDoorTbLines
namespace Go.Proofs.YtejncdhdkdhpmaaDoor
open Go.RowKit Pl

theorem i64_and6 (n : Int) : bits .and .i64 n 63 = n % 64 := by
  have h : (BitVec.ofInt 64 63).toNat = 2 ^ 6 - 1 := by decide
  have key : (BitVec.ofInt 64 n &&& BitVec.ofInt 64 63).toNat = (n % ((2 ^ 64 : Nat) : Int)).toNat % 2 ^ 6 := by
    rw [BitVec.toNat_and, BitVec.toNat_ofInt, h, Nat.and_two_pow_sub_one_eq_mod]
  show IntKind.i64.wrap ((BitVec.ofInt 64 n &&& BitVec.ofInt 64 63).toNat : Nat) = n % 64
  rw [key, IntKind.wrap_i64]
  omega

/-- The k-th route. -/
def mnR (k : Nat) : Rt := ⟨[71, 69, 84], [47, 114, UInt8.ofNat (97 + k / 26), UInt8.ofNat (97 + k % 26)], [103, 101, 116]⟩
def mnL (n : Nat) : List Rt := (List.range n).map mnR
theorem mn_len (n : Nat) : (mnL n).length = n := by simp [mnL]
theorem mn_succ (k : Nat) : printL (mnL (k + 1)) = printL (mnL k) ++ lineOf (mnR k) := by
  simp [mnL, printL, List.range_succ]
theorem mn_size (n : Nat) : (printL (mnL n)).length = 13 * n := by
  induction n with
  | zero => rfl
  | succ n ih => rw [mn_succ, List.length_append, ih, line_len]; simp [sizeR, mnR]; omega
theorem mn_right : ∀ k : Fin 64, rightL (mnR k.1) = true := by decide +kernel
theorem mn_all (n : Nat) (h : n ≤ 64) : (mnL n).all rightL = true := by
  rw [List.all_eq_true]
  intro r hr
  obtain ⟨k, hk, rfl⟩ := List.mem_map.1 hr
  have := List.mem_range.1 hk
  exact mn_right ⟨k, by omega⟩
theorem mn_zero : ∀ n : Fin 25, checkL (mnL n.1) = 0 := by decide +kernel
theorem mn_two (n : Nat) (h : n ≤ 64) (h2 : 24 < n) : checkL (mnL n) = 2 := by
  rw [checkL, if_pos (mn_all n h), mn_len, if_pos h2]
theorem mn_lines (n : Nat) (h : n ≤ 64) : linesL (wordsB 10 (printL (mnL n))) = some (mnL n) := by
  have hw : ∀ r ∈ mnL n, Wd r.m ∧ Wd r.p ∧ Wd r.h := fun r hr => right_clean (List.all_eq_true.1 (mn_all n h) r hr)
  rw [print_eq, words_lines _ (fun x hx => by obtain ⟨r, hr, rfl⟩ := List.mem_map.1 hx; exact line_free 0 0 0 0 r (hw r hr).1 (hw r hr).2.1 (hw r hr).2.2)]
  have := lines_app _ [[]] (mnL n) [] (lines_map (mnL n) hw) rfl
  rwa [List.append_nil] at this
theorem mn_good (n : Nat) (h : n ≤ 24) : parseL (printL (mnL n)) = (mnL n, 0) := parse_print (mn_zero ⟨n, by omega⟩)
theorem mn_long (n : Nat) (h : n ≤ 64) (h2 : 24 < n) : parseL (printL (mnL n)) = ([], 2) := by
  rw [parseL, mn_lines n h]
  simp only
  rw [mn_two n h h2]
  rfl

theorem two_bytes (x y : UInt8) (W : World) : (convert 41 9 (.slice (some ⟨W.heap.size, 0, none⟩) 2 2)).run Tryd.prog (W.alloc (.cells #[.int .u8 (x.toNat : Int), .int .u8 (y.toNat : Int)] 5)) = .ok (.string ⟨#[x, y]⟩) (W.alloc (.cells #[.int .u8 (x.toNat : Int), .int .u8 (y.toNat : Int)] 5)) := by
  have := run_convert_bytes_arg (P := Tryd.prog) (W.alloc (.cells #[.int .u8 (x.toNat : Int), .int .u8 (y.toNat : Int)] 5)) 41 5 Tryd.underlying41 Tryd.underlying5 W.heap.size 0 2 2 [(x.toNat : Int), (y.toNat : Int)] rfl (fun i hi => by
    have : i = 0 ∨ i = 1 := by omega
    rcases this with rfl | rfl <;> simp) 9 Tryd.underlying9
  rw [this]
  simp [strOfNums]
theorem two_at (k : Nat) (hk : k < 64) (u v : Int) (hu : u = ((97 + k / 26 : Nat) : Int)) (hv : v = ((97 + k % 26 : Nat) : Int)) (W : World) : (convert 41 9 (.slice (some ⟨W.heap.size, 0, none⟩) 2 2)).run Tryd.prog (W.alloc (.cells #[.int .u8 u, .int .u8 v] 5)) = .ok (.string ⟨#[UInt8.ofNat (97 + k / 26), UInt8.ofNat (97 + k % 26)]⟩) (W.alloc (.cells #[.int .u8 u, .int .u8 v] 5)) := by
  have := two_bytes (UInt8.ofNat (97 + k / 26)) (UInt8.ofNat (97 + k % 26)) W
  have e1 : ((UInt8.ofNat (97 + k / 26)).toNat : Int) = u := by rw [hu, UInt8.toNat_ofNat']; omega
  have e2 : ((UInt8.ofNat (97 + k % 26)).toNat : Int) = v := by rw [hv, UInt8.toNat_ofNat']; omega
  rw [e1, e2] at this
  exact this

set_option maxRecDepth 100000 in
set_option maxHeartbeats 8000000 in
theorem many_walk (n : Int) (w : World) (hw : HB w) : Calls Tryd.prog 6 #[.int .i64 n] w fun e w' => e = .returned (.bool true) ∧ Below w.heap.size w w' := by
  have HF := Lib.hid (fit_any w hw)
  have HW := Lib.hid hw
  have hand := i64_and6 n
  obtain ⟨k, hk⟩ : ∃ k : Nat, n % 64 = (k : Int) := ⟨(n % 64).toNat, by omega⟩
  have hkb : k < 64 := by omega
  rw [hk] at hand
  clear hk hw
  go_enter Tryd.func6, Tryd.ntmps6
  go_wp2_with fail
  refine HF.out.mono ?_
  rintro e w1 ⟨rfl, hb1⟩
  have HB1 := Lib.hid hb1
  clear hb1
  go_wp2_with fail
  go_loopw [3, 12] (fun v i wr => ∃ (j : Nat) (T : ByteArray), j ≤ k ∧ v = .string T ∧ i = .int .i64 j ∧ Hid (Below w.heap.size w wr) ∧ T.size = 13 * j ∧ Hid (T.data.toList = printL (mnL j))) (fun _ i _ => k - (intOf i).toNat)
  case atStart => exact ⟨0, ⟨#[]⟩, by omega, rfl, rfl, HB1, rfl, by show _ = _; rfl⟩
  case round =>
    obtain ⟨j, T, hj, rfl, rfl, HB, hT, HD⟩ := hrel
    by_cases hlt : j < k
    · have hcv := two_at j (by omega) (97 + (j : Int) / 26) (97 + (j : Int) % 26) (by omega) (by omega) wr
      have HL : Hid (lineOf (mnR j) = [71, 69, 84, 32, 47, 114] ++ ([UInt8.ofNat (97 + j / 26), UInt8.ofNat (97 + j % 26)] ++ [32, 103, 101, 116, 10])) := by show _ = _; rfl
      obtain ⟨X, hX⟩ : ∃ X : ByteArray, X = ⟨#[UInt8.ofNat (97 + j / 26), UInt8.ofNat (97 + j % 26)]⟩ := ⟨_, rfl⟩
      have hXz : X.size = 2 := by rw [hX]; rfl
      have HX : Hid (X.data.toList = [UInt8.ofNat (97 + j / 26), UInt8.ofNat (97 + j % 26)]) := by show _ = _; rw [hX]
      rw [← hX] at hcv
      clear hX
      have HB2 := Lib.hid (HB.out.alloc HB.out.size (.cells #[.int .u8 (97 + (j : Int) / 26), .int .u8 (97 + (j : Int) % 26)] 5))
      go_wp2_with fail
      go_roundw
      case rel =>
        refine ⟨j + 1, _, by omega, rfl, by go_num, HB2, ?_, ?_⟩
        · simp only [app_size, hXz, hT]
          show 13 * j + (6 + 2 + 5) = _
          omega
        · show _ = _
          rw [mn_succ, HL.out, ← HD.out, ← HX.out]
          simp only [app_data, List.append_assoc]
      case measure => simp [intOf]; omega
    · have hjk : j = k := by omega
      subst hjk
      have HP := Lib.hid (fun w hw => parse_any T w hw (by omega))
      rw [HD.out] at HP
      have HWr := Lib.hid (HW.out.below HB.out)
      by_cases h24 : j ≤ 24
      · rw [mn_good j h24] at HP
        have HML := Lib.hid (mn_len j)
        have h24i : decide (24 < (j : Int)) = false := by simp only [decide_eq_false_iff_not]; omega
        go_wp2_with fail
        refine (HP.out _ HWr.out).mono ?_
        rintro e w2 ⟨v2, rfl, ho2, hb2⟩
        obtain ⟨A2, c2, rfl, hr2⟩ := Rd.own ho2
        have HB2 := Lib.hid (bt HB.out hb2)
        rw [mn_len]
        clear hb2 ho2 hr2
        go_wp2_with fail
        go_ret
        exact ⟨rfl, HB2.out⟩
      · rw [mn_long j (by omega) (by omega)] at HP
        have h24i : decide (24 < (j : Int)) = true := by simp only [decide_eq_true_eq]; omega
        go_wp2_with fail
        refine (HP.out _ HWr.out).mono ?_
        rintro e w2 ⟨v2, rfl, ho2, hb2⟩
        obtain ⟨A2, c2, rfl, hr2⟩ := Rd.own ho2
        have HB2 := Lib.hid (bt HB.out hb2)
        clear hb2 ho2 hr2
        go_wp2_with fail
        go_ret
        exact ⟨rfl, HB2.out⟩

theorem many_row (n : Int) (w : World) (_ : (Lit.int .i64 n).wf = true) (hw : HB w) : Calls Tryd.prog 6 #[.int .i64 n] w fun e w' => e = .returned (.bool true) ∧ Below w.heap.size w w' := many_walk n w hw

end Go.Proofs.YtejncdhdkdhpmaaDoor
