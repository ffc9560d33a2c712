/- The walk of PathDeep. -/
import Derived.Test.YtghlmdpkchepgaaPtJoin
namespace Go.Proofs.Ytghlmdpkchepgaa
open Go.RowKit Pl

theorem i64_and15 (n : Int) : bits .and .i64 n 15 = n % 16 := by
  have h : (BitVec.ofInt 64 15).toNat = 2 ^ 4 - 1 := by decide
  have key : (BitVec.ofInt 64 n &&& BitVec.ofInt 64 15).toNat = (n % ((2 ^ 64 : Nat) : Int)).toNat % 2 ^ 4 := by
    rw [BitVec.toNat_and, BitVec.toNat_ofInt, h, Nat.and_two_pow_sub_one_eq_mod]
  show IntKind.i64.wrap ((BitVec.ofInt 64 n &&& BitVec.ofInt 64 15).toNat : Nat) = n % 16
  rw [key, IntKind.wrap_i64]
  omega

def repL (k : Nat) : List UInt8 := (List.replicate k [47, 97]).flatten
theorem rep_succ (k : Nat) : mkB (repL k) ++ ⟨#[47, 97]⟩ = mkB (repL (k + 1)) := by
  apply bytes_ext
  rw [app_data, mkB_data, mkB_data]
  simp [repL, List.replicate_succ']
theorem rep_len (k : Nat) : (mkB (repL k)).size = 2 * k := by
  rw [mkB_size]; simp [repL]; omega
theorem rep_fin : ∀ k : Fin 17, 0 < k.val → splitL (repL k.val) = (if k.val ≤ 8 then some (List.replicate k.val [97]) else none) ∧ patL (repL k.val) = (if k.val ≤ 8 then some (List.replicate k.val [97]) else none) ∧ shapeL (List.replicate k.val [97]) = repL k.val := by decide +kernel

theorem join0_any (B : Nat) (xs : List (List UInt8)) (v : Value) (w : World) (ho : w.ownsRow B 9 1 v xs.length (xs.map strV)) (hn : xs.length ≤ 1000) (hs : ∀ x ∈ xs, x.length ≤ 1000000) :
    Calls Try.prog 20 #[v, .int .i64 0] w fun e w' => e = .returned (.string (mkB (joinW 47 xs))) ∧ Below w.heap.size w w' := join_any B xs v 0 w ho hn hs (by omega)

set_option maxRecDepth 100000 in
set_option maxHeartbeats 4000000 in
theorem deep_any (n : Int) (w : World) : Calls Try.prog 8 #[.int .i64 n] w fun e w' => e = .returned (.bool true) ∧ Below w.heap.size w w' := by
  have HF := Lib.hid (fun w => fit_any w)
  have a1 := i64_and15 n
  obtain ⟨m, hm⟩ : ∃ m : Nat, n % 16 = (m : Int) := ⟨(n % 16).toNat, by omega⟩
  have hml : m < 16 := by omega
  rw [hm] at a1
  clear hm
  obtain ⟨f1, f2, f3⟩ := rep_fin ⟨m + 1, by omega⟩ (by simp)
  simp only at f1 f2 f3
  have HS := Lib.hid (fun w => split_any (mkB (repL (m + 1))) w (by rw [rep_len]; omega))
  have HP := Lib.hid (fun w => pat_any (mkB (repL (m + 1))) w (by rw [rep_len]; omega))
  rw [mkB_data] at HS HP
  have HK := Lib.hid (fun (k : Nat) (hk : k ≤ 16) => add_str (mkB (repL k)) ⟨#[47, 97]⟩ (by rw [rep_len]; have : (⟨#[47, 97]⟩ : ByteArray).size = 2 := rfl; omega))
  by_cases h8 : m + 1 ≤ 8
  · rw [if_pos h8] at f1 f2
    rw [f1] at HS
    rw [f2] at HP
    simp only [Option.getD_some, Option.isSome_some] at HS HP
    have hll : (List.replicate (m + 1) ([97] : List UInt8)).length = m + 1 := by simp
    have hsm : ∀ x ∈ List.replicate (m + 1) ([97] : List UInt8), x.length ≤ 10000 := fun x hx => by rw [List.eq_of_mem_replicate hx]; simp
    have HSM := Lib.hid hsm
    have HF3 := Lib.hid f3
    clear f1 f2 f3 hsm
    generalize List.replicate (m + 1) ([97] : List UInt8) = ls at *
    rw [hll] at HS HP
    have HLL := Lib.hid hll
    clear hll
    go_enter Try.func8, Try.ntmps8
    go_wp2_with fail
    refine (HF.out _).mono ?_
    rintro e w1 ⟨rfl, hb1⟩
    go_wp2_with fail
    go_loopw [3, 14] (fun s i wr => ∃ k : Nat, k ≤ m + 1 ∧ s = .string (mkB (repL k)) ∧ i = .int .i64 k ∧ wr = w1) (fun _ i _ => m + 1 - (intOf i).toNat)
    case atStart => exact ⟨0, by omega, rfl, rfl, rfl⟩
    case round =>
      obtain ⟨k, hk, rfl, rfl, rfl⟩ := hrel
      by_cases hlt : k < m + 1
      · have k1 := HK.out k (by omega)
        rw [rep_succ] at k1
        generalize mkB (repL k) = s0 at *
        go_wp2_with fail
        go_roundw
        case rel => exact ⟨k + 1, by omega, rfl, by go_num, by first | rfl | trivial⟩
        case measure => simp [intOf]; omega
      · obtain rfl : k = m + 1 := by omega
        clear hlt hk
        have hq : ((mkB (repL (m + 1))).toList == (mkB (repL (m + 1))).toList) = true := by simp
        have HSH := Lib.hid (fun (A : Option Addr) (c : Nat) (w : World) (hr : Rd w w.heap.size 1 A (m + 1) (ls.map strV)) => shape_any ls A c w (by rw [HLL.out]; exact hr) (by rw [HLL.out]; omega) HSM.out)
        rw [HF3.out, HLL.out] at HSH
        generalize mkB (repL (m + 1)) = s0 at *
        go_wp2_with fail
        refine (HS.out _).mono ?_
        rintro e w2 ⟨v2, rfl, ho2, hb2⟩
        obtain ⟨A2, c2, rfl, _⟩ := Rd.own ho2
        have HO2 := Lib.hid ho2
        clear ho2
        go_wp2_with fail
        refine (HP.out _).mono ?_
        rintro e w3 ⟨v3, rfl, ho3, hb3⟩
        obtain ⟨A3, c3, rfl, hr3⟩ := Rd.own ho3
        have HR3 := Lib.hid hr3
        have HO3 := Lib.hid (own_below HO2.out hb3)
        clear ho3 hr3
        go_wp2_with fail
        refine (HSH.out _ _ _ HR3.out).mono ?_
        rintro e w4 ⟨rfl, hb4⟩
        have HO4 := Lib.hid (own_below HO3.out hb4)
        go_wp2_with fail
        refine (join0_any _ ls _ w4 (by rw [HLL.out]; exact HO4.out) (by rw [HLL.out]; omega) (fun x hx => by have := HSM.out x hx; omega)).mono ?_
        rintro e w5 ⟨rfl, hb5⟩
        have HO5 := Lib.hid (own_below HO4.out hb5)
        have hq2 : ((mkB (joinW 47 ls)).toList == (mkB (joinW 47 ls)).toList) = true := by simp
        go_wp2_with fail
        refine (join0_any _ ls _ w5 (by rw [HLL.out]; exact HO5.out) (by rw [HLL.out]; omega) (fun x hx => by have := HSM.out x hx; omega)).mono ?_
        rintro e w6 ⟨rfl, hb6⟩
        go_wp2_with fail
        go_ret
        exact ⟨rfl, bt (bt (bt (bt (bt hb1 hb2) hb3) hb4) hb5) hb6⟩
  · rw [if_neg h8] at f1 f2
    rw [f1] at HS
    rw [f2] at HP
    simp only [Option.getD_none, Option.isSome_none] at HS HP
    clear f1 f2 f3
    go_enter Try.func8, Try.ntmps8
    go_wp2_with fail
    refine (HF.out _).mono ?_
    rintro e w1 ⟨rfl, hb1⟩
    go_wp2_with fail
    go_loopw [3, 14] (fun s i wr => ∃ k : Nat, k ≤ m + 1 ∧ s = .string (mkB (repL k)) ∧ i = .int .i64 k ∧ wr = w1) (fun _ i _ => m + 1 - (intOf i).toNat)
    case atStart => exact ⟨0, by omega, rfl, rfl, rfl⟩
    case round =>
      obtain ⟨k, hk, rfl, rfl, rfl⟩ := hrel
      by_cases hlt : k < m + 1
      · have k1 := HK.out k (by omega)
        rw [rep_succ] at k1
        generalize mkB (repL k) = s0 at *
        go_wp2_with fail
        go_roundw
        case rel => exact ⟨k + 1, by omega, rfl, by go_num, by first | rfl | trivial⟩
        case measure => simp [intOf]; omega
      · obtain rfl : k = m + 1 := by omega
        clear hlt hk
        have hd8 : decide ((m : Int) + 1 ≤ 8) = false := by simp; omega
        generalize mkB (repL (m + 1)) = s0 at *
        go_wp2_with fail
        refine (HS.out _).mono ?_
        rintro e w2 ⟨v2, rfl, ho2, hb2⟩
        obtain ⟨A2, c2, rfl, _⟩ := Rd.own ho2
        have HO2 := Lib.hid ho2
        clear ho2
        go_wp2_with fail
        refine (HP.out _).mono ?_
        rintro e w3 ⟨v3, rfl, ho3, hb3⟩
        obtain ⟨A3, c3, rfl, hr3⟩ := Rd.own ho3
        have HO3 := Lib.hid (own_below HO2.out hb3)
        clear ho3 hr3
        go_wp2_with fail
        refine (join0_any _ [] _ w3 HO3.out (by simp) (by simp)).mono ?_
        rintro e w5 ⟨rfl, hb5⟩
        have HO5 := Lib.hid (own_below HO3.out hb5)
        have hq2 : ((mkB (joinW 47 [])).toList == (mkB (joinW 47 [])).toList) = true := by simp
        go_wp2_with fail
        refine (join0_any _ [] _ w5 HO5.out (by simp) (by simp)).mono ?_
        rintro e w6 ⟨rfl, hb6⟩
        go_wp2_with fail
        go_ret
        exact ⟨rfl, bt (bt (bt (bt hb1 hb2) hb3) hb5) hb6⟩

theorem deep_row (n : Int) (w : World) (_ : (Lit.int .i64 n).wf = true) : Calls Try.prog 8 #[.int .i64 n] w fun e w' => e = .returned (.bool true) ∧ Below w.heap.size w w' := deep_any n w

end Go.Proofs.Ytghlmdpkchepgaa
