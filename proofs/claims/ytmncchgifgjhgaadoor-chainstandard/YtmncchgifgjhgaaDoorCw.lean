/- The laws' own helpers: digits, light. -/
import Derived.Test.YtmncchgifgjhgaaDoorCk
import Derived.Laws.OwnMore
namespace Go.Proofs.YtmncchgifgjhgaaDoor
open Go.RowKit Go.Shelf

theorem dec_step (n : Nat) (h : ¬ n < 10) : Lib.decDigits n = Lib.decDigits (n / 10) ++ [UInt8.ofNat (48 + n % 10)] := by
  rw [Lib.decDigits, dif_neg h]
theorem dec_len (n : Nat) (h : n < 9223372036854775808) : (Lib.decDigits n).length ≤ 21 := by
  have h1 := Lib.itoa_length_le (n : Int) (by omega) (by omega)
  rw [Lib.itoa_nonneg] at h1
  exact h1
theorem one_byte_at (v : Int) (b : UInt8) (h : v = (b.toNat : Int)) (W : World) : (convert 58 9 (.slice (some ⟨W.heap.size, 0, none⟩) 1 1)).run Tryd.prog (W.alloc (.cells #[.int .u8 v] 5)) = .ok (.string (mkB [b])) (W.alloc (.cells #[.int .u8 v] 5)) := by
  subst h
  have := run_convert_bytes_arg (P := Tryd.prog) (W.alloc (.cells #[.int .u8 (b.toNat : Int)] 5)) 58 5 Tryd.underlying58 Tryd.underlying5 W.heap.size 0 1 1 [(b.toNat : Int)] rfl (fun i hi => by
    obtain rfl : i = 0 := by omega
    simp) 9 Tryd.underlying9
  rw [this]
  simp [strOfNums, mkB]

set_option maxRecDepth 10000 in
set_option maxHeartbeats 1000000 in
theorem dig1_any (n : Nat) (h : n < 10) (w : World) : Calls Tryd.prog 15 #[.int .i64 (n : Int)] w fun e w' => e = .returned (.string (mkB (Lib.decDigits n))) ∧ Below w.heap.size w w' := by
  rw [Lib.decDigits_one h]
  have hv : (((48 : Int) + (n : Int)) % 256) = ((UInt8.ofNat (48 + n)).toNat : Int) := by
    have h2 : (UInt8.ofNat (48 + n)).toNat = (48 + n) % 256 := by simp
    rw [h2]
    omega
  have hv2 : ((48 : Int) + (n : Int)) = ((UInt8.ofNat (48 + n)).toNat : Int) := by omega
  generalize UInt8.ofNat (48 + n) = b at *
  have hc := one_byte_at (((48 : Int) + (n : Int)) % 256) b hv w
  have hc2 := one_byte_at ((48 : Int) + (n : Int)) b hv2 w
  clear hv hv2
  go_enter Tryd.func15, Tryd.ntmps15
  go_wp2_with fail
  go_ret
  exact ⟨rfl, (Below.refl _ _).alloc (Nat.le_refl _) _⟩

set_option maxRecDepth 10000 in
set_option maxHeartbeats 1000000 in
theorem digs_any (n : Nat) : n < 9223372036854775808 → ∀ w, Calls Tryd.prog 15 #[.int .i64 (n : Int)] w fun e w' => e = .returned (.string (mkB (Lib.decDigits n))) ∧ Below w.heap.size w w' := by
  induction n using Nat.strongRecOn with
  | ind n ih =>
    intro hn w
    by_cases h : n < 10
    · exact dig1_any n h w
    · have H1 := Lib.hid fun w => ih (n / 10) (by omega) (by omega) w
      have H2 := Lib.hid fun w => dig1_any (n % 10) (by omega) w
      have l1 := dec_len (n / 10) (by omega)
      rw [dec_step n h]
      rw [Lib.decDigits_one (show n % 10 < 10 by omega)] at H2
      generalize UInt8.ofNat (48 + n % 10) = b at *
      generalize Lib.decDigits (n / 10) = ds at *
      have hs := fun wx => add_str (mkB ds) (mkB [b]) (by rw [mkB_size, mkB_size]; simp; omega) wx
      rw [mkB_app] at hs
      have hd : ((n / 10 : Nat) : Int) = (n : Int) / 10 := by omega
      have hr : ((n % 10 : Nat) : Int) = (n : Int) % 10 := by omega
      rw [hd] at H1
      rw [hr] at H2
      clear hd hr ih l1
      generalize mkB ds = t1 at *
      generalize mkB [b] = t2 at *
      generalize mkB (ds ++ [b]) = t3 at *
      have n0 : ¬ (n : Int) < 0 := by omega
      have n1 : ¬ (n : Int) < 10 := by omega
      go_enter Tryd.func15, Tryd.ntmps15
      go_wp2_with fail
      refine (H1.out _).mono ?_
      rintro e w1 ⟨rfl, hb1⟩
      go_wp2_with fail
      refine (H2.out _).mono ?_
      rintro e w2 ⟨rfl, hb2⟩
      go_wp2_with fail
      go_ret
      exact ⟨rfl, bt hb1 hb2⟩

set_option maxRecDepth 10000 in
set_option maxHeartbeats 1000000 in
theorem digits_any (n : Int) (h0 : -4611686018427387904 < n) (h1 : n ≤ 9223372036854775807) (w : World) : Calls Tryd.prog 15 #[.int .i64 n] w fun e w' => e = .returned (.string (mkB (Lib.itoa n))) ∧ Below w.heap.size w w' := by
  by_cases hn : n < 0
  · obtain ⟨k, rfl⟩ : ∃ k : Nat, n = -(k : Int) := ⟨n.natAbs, by omega⟩
    have hk : 1 ≤ k := by omega
    rw [Lib.itoa_neg k hk]
    have H1 := Lib.hid fun w => digs_any k (by omega) w
    have l1 := dec_len k (by omega)
    generalize Lib.decDigits k = ds at *
    have hs := fun wx => add_str ⟨#[45]⟩ (mkB ds) (by rw [mkB_size]; show 1 + ds.length ≤ _; omega) wx
    have he : (⟨#[45]⟩ : ByteArray) ++ mkB ds = mkB (45 :: ds) := mkB_app [45] ds
    simp only [he] at hs
    have hneg : - -(k : Int) = (k : Int) := by omega
    clear l1 he
    generalize mkB (45 :: ds) = t3 at *
    generalize mkB ds = t1 at *
    have n0 : -(k : Int) < 0 := hn
    clear hn
    go_enter Tryd.func15, Tryd.ntmps15
    go_wp2_with fail
    refine (H1.out _).mono ?_
    rintro e w1 ⟨rfl, hb1⟩
    go_wp2_with fail
    go_ret
    exact ⟨rfl, hb1⟩
  · obtain ⟨k, rfl⟩ : ∃ k : Nat, n = (k : Int) := ⟨n.toNat, by omega⟩
    rw [Lib.itoa_nonneg]
    exact digs_any k (by omega) w
end Go.Proofs.YtmncchgifgjhgaaDoor
