/- The contract of ascii.Number, at base 10 and at base 16. -/
import Derived.Test.YtghlmdpkchepgaaToken
namespace Go.Proofs.Ytghlmdpkchepgaa
open Go.RowKit Pl

set_option maxHeartbeats 1000000 in
theorem num10_any (s : ByteArray) (w : World) :
    Calls Try.prog 15 #[.string s, .int .i64 10] w fun e w' => e = .returned (.tuple #[.int .i64 ((numB 10 s.data.toList).getD 0), .bool (numB 10 s.data.toList).isSome]) ∧ Below w.heap.size w w' := by
  by_cases hne : s.data.toList = []
  · have he := str_empty s hne
    go_enter Try.func15, Try.ntmps15
    go_wp2
    go_ret2
    exact ⟨by rw [numB, if_pos hne]; rfl, Below.refl _ _⟩
  have he := str_nonempty s hne
  rw [numB_ne 10 hne]
  clear hne
  go_enter Try.func15, Try.ntmps15
  go_wp2
  go_loopw [4, 5, 6] (fun a b v w' => ∃ (pos : Nat) (n : Int), w' = w.iter s pos ∧ 0 ≤ n ∧ n ≤ 1073741824 ∧ v = .int .i64 n ∧ a = .int .i64 0 ∧ b = .bool false ∧ Hid (numGo 10 0 s.data.toList = numGo 10 n (s.data.toList.drop pos))) (fun _ _ _ w' => s.size - w'.iterPos w.heap.size)
  case atStart => exact ⟨0, 0, rfl, by omega, by omega, rfl, rfl, rfl, rfl⟩
  case round =>
    obtain ⟨pos, n, rfl, hn0, hn1, rfl, rfl, rfl, hk⟩ := hrel
    by_cases hp : pos < s.size
    · by_cases ha : (s[pos]'hp).toNat < 128
      · have hnx : ∀ ty, (Instr.next (.pointer (some ⟨w.heap.size, 0, none⟩)) true ty).run Try.prog (w.iter s pos) = _ := fun ty => run_next_ascii w s pos ty hp ha
        have hst := Lib.hid (fun hn => num_step s 10 n pos hp hk.out hn)
        have hsp := Lib.hid (fun hn => num_stop s 10 n pos hp hk.out hn)
        generalize hc : ((s[pos]'hp).toNat) = c at *
        have Hc := Lib.hid hc; clear hc
        have hd0 := digR_lo (c : Int)
        have hd1 := digR_hi (c : Int)
        have hcall := fun w => dig_any (c : Int) w (by omega) (by omega)
        generalize digR (c : Int) = d at *
        have HC := Lib.hid hcall; clear hcall
        cases hn : badD 10 n d with
        | false =>
          have hN := hst.out hn
          obtain ⟨hx0, hx1, hx2, hx3⟩ := num_ok10 hn
          clear hst hsp hn
          go_wp2_with (first | (go_at_call 24; refine (HC.out _).mono ?_; rintro e w' ⟨rfl, rfl⟩))
          go_roundw
          case rel => exact ⟨pos + 1, n * 10 + d, rfl, by omega, by omega, rfl, rfl, rfl, hN⟩
          case measure => simp; omega
        | true =>
          have hN := Lib.hid (hsp.out hn)
          have hx := num_bad hn
          clear hst hsp hn
          have hxx : d < 0 ∨ (0 ≤ d ∧ 10 ≤ d) ∨ (0 ≤ d ∧ d < 10 ∧ (1073741824 - d) / 10 < n) := by omega
          clear hx
          rcases hxx with hx | hx | hx
          all_goals
            go_wp2_with (first | (go_at_call 24; refine (HC.out _).mono ?_; rintro e w' ⟨rfl, rfl⟩))
            go_ret2
            exact ⟨ret_num (by rw [hN.out]; rfl) (by rw [hN.out]; rfl), below_iter _ _ _⟩
      · have hnx : ∀ ty, (Instr.next (.pointer (some ⟨w.heap.size, 0, none⟩)) true ty).run Try.prog (w.iter s pos) = _ := fun ty => run_next_any w s pos ty hp
        have hN := Lib.hid (num_stop s 10 n pos hp hk.out (by rw [digR_high (by omega)]; rfl))
        have hr := (decode_high s pos hp (by omega)).1
        have hr2 := decode_le s pos
        generalize (Utf8.decode s pos).1 = c at *
        generalize (Utf8.decode s pos).2 = d at *
        have hcall : ∀ w, Calls Try.prog 24 #[.int .i32 (c : Int)] w fun e w' => e = .returned (.int .i64 (-1)) ∧ w = w' := fun w => by
          have := dig_any (c : Int) w (by omega) (by omega)
          rwa [digR_high (by omega)] at this
        have HC := Lib.hid hcall; clear hcall
        go_wp2_with (first | (go_at_call 24; refine (HC.out _).mono ?_; rintro e w' ⟨rfl, rfl⟩))
        go_ret2
        exact ⟨ret_num (by rw [hN.out]; rfl) (by rw [hN.out]; rfl), below_iter _ _ _⟩
    · have hnx : ∀ ty, (Instr.next (.pointer (some ⟨w.heap.size, 0, none⟩)) true ty).run Try.prog (w.iter s pos) = _ := fun ty => run_next_end w s pos ty hp
      have HE := Lib.hid (num_end s 10 n pos (by omega) hk.out)
      go_wp2
      go_ret2
      exact ⟨ret_num (by rw [HE.out]; rfl) (by rw [HE.out]; rfl), below_iter _ _ _⟩

set_option maxHeartbeats 1000000 in
theorem num16_any (s : ByteArray) (w : World) :
    Calls Try.prog 15 #[.string s, .int .i64 16] w fun e w' => e = .returned (.tuple #[.int .i64 ((numB 16 s.data.toList).getD 0), .bool (numB 16 s.data.toList).isSome]) ∧ Below w.heap.size w w' := by
  by_cases hne : s.data.toList = []
  · have he := str_empty s hne
    go_enter Try.func15, Try.ntmps15
    go_wp2
    go_ret2
    exact ⟨by rw [numB, if_pos hne]; rfl, Below.refl _ _⟩
  have he := str_nonempty s hne
  rw [numB_ne 16 hne]
  clear hne
  go_enter Try.func15, Try.ntmps15
  go_wp2
  go_loopw [4, 5, 6] (fun a b v w' => ∃ (pos : Nat) (n : Int), w' = w.iter s pos ∧ 0 ≤ n ∧ n ≤ 1073741824 ∧ v = .int .i64 n ∧ a = .int .i64 0 ∧ b = .bool false ∧ Hid (numGo 16 0 s.data.toList = numGo 16 n (s.data.toList.drop pos))) (fun _ _ _ w' => s.size - w'.iterPos w.heap.size)
  case atStart => exact ⟨0, 0, rfl, by omega, by omega, rfl, rfl, rfl, rfl⟩
  case round =>
    obtain ⟨pos, n, rfl, hn0, hn1, rfl, rfl, rfl, hk⟩ := hrel
    by_cases hp : pos < s.size
    · by_cases ha : (s[pos]'hp).toNat < 128
      · have hnx : ∀ ty, (Instr.next (.pointer (some ⟨w.heap.size, 0, none⟩)) true ty).run Try.prog (w.iter s pos) = _ := fun ty => run_next_ascii w s pos ty hp ha
        have hst := Lib.hid (fun hn => num_step s 16 n pos hp hk.out hn)
        have hsp := Lib.hid (fun hn => num_stop s 16 n pos hp hk.out hn)
        generalize hc : ((s[pos]'hp).toNat) = c at *
        have Hc := Lib.hid hc; clear hc
        have hd0 := digR_lo (c : Int)
        have hd1 := digR_hi (c : Int)
        have hcall := fun w => dig_any (c : Int) w (by omega) (by omega)
        generalize digR (c : Int) = d at *
        have HC := Lib.hid hcall; clear hcall
        cases hn : badD 16 n d with
        | false =>
          have hN := hst.out hn
          obtain ⟨hx0, hx1, hx2, hx3⟩ := num_ok16 hn
          clear hst hsp hn
          go_wp2_with (first | (go_at_call 24; refine (HC.out _).mono ?_; rintro e w' ⟨rfl, rfl⟩))
          go_roundw
          case rel => exact ⟨pos + 1, n * 16 + d, rfl, by omega, by omega, rfl, rfl, rfl, hN⟩
          case measure => simp; omega
        | true =>
          have hN := Lib.hid (hsp.out hn)
          have hx := num_bad hn
          clear hst hsp hn
          have hxx : d < 0 ∨ (0 ≤ d ∧ 16 ≤ d) ∨ (0 ≤ d ∧ d < 16 ∧ (1073741824 - d) / 16 < n) := by omega
          clear hx
          rcases hxx with hx | hx | hx
          all_goals
            go_wp2_with (first | (go_at_call 24; refine (HC.out _).mono ?_; rintro e w' ⟨rfl, rfl⟩))
            go_ret2
            exact ⟨ret_num (by rw [hN.out]; rfl) (by rw [hN.out]; rfl), below_iter _ _ _⟩
      · have hnx : ∀ ty, (Instr.next (.pointer (some ⟨w.heap.size, 0, none⟩)) true ty).run Try.prog (w.iter s pos) = _ := fun ty => run_next_any w s pos ty hp
        have hN := Lib.hid (num_stop s 16 n pos hp hk.out (by rw [digR_high (by omega)]; rfl))
        have hr := (decode_high s pos hp (by omega)).1
        have hr2 := decode_le s pos
        generalize (Utf8.decode s pos).1 = c at *
        generalize (Utf8.decode s pos).2 = d at *
        have hcall : ∀ w, Calls Try.prog 24 #[.int .i32 (c : Int)] w fun e w' => e = .returned (.int .i64 (-1)) ∧ w = w' := fun w => by
          have := dig_any (c : Int) w (by omega) (by omega)
          rwa [digR_high (by omega)] at this
        have HC := Lib.hid hcall; clear hcall
        go_wp2_with (first | (go_at_call 24; refine (HC.out _).mono ?_; rintro e w' ⟨rfl, rfl⟩))
        go_ret2
        exact ⟨ret_num (by rw [hN.out]; rfl) (by rw [hN.out]; rfl), below_iter _ _ _⟩
    · have hnx : ∀ ty, (Instr.next (.pointer (some ⟨w.heap.size, 0, none⟩)) true ty).run Try.prog (w.iter s pos) = _ := fun ty => run_next_end w s pos ty hp
      have HE := Lib.hid (num_end s 16 n pos (by omega) hk.out)
      go_wp2
      go_ret2
      exact ⟨ret_num (by rw [HE.out]; rfl) (by rw [HE.out]; rfl), below_iter _ _ _⟩

end Go.Proofs.Ytghlmdpkchepgaa
