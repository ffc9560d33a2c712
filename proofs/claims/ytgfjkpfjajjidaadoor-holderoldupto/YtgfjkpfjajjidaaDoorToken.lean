/- The contracts of ascii.Token and ascii.Value. -/
import Derived.Test.YtgfjkpfjajjidaaDoorLeaf
import Derived.Lib.Strings
namespace Go.Proofs.YtgfjkpfjajjidaaDoor
open Go.RowKit Pl

set_option maxHeartbeats 1000000 in
theorem tok_any (s : ByteArray) (w : World) :
    Calls Tryd.prog 45 #[.string s] w fun e w' => e = .returned (.bool (tokB s.data.toList)) ∧ Below w.heap.size w w' := by
  go_enter Tryd.func45, Tryd.ntmps45
  go_wp2
  go_loopw [4] (fun _ w' => ∃ pos : Nat, w' = w.iter s pos ∧ pos ≤ s.size ∧ Hid (namesB (s.data.toList.take pos) = true)) (fun _ w' => s.size - w'.iterPos w.heap.size)
  case atStart => exact ⟨0, rfl, by omega, rfl⟩
  case round =>
    obtain ⟨pos, rfl, hle, hk⟩ := hrel
    by_cases hp : pos < s.size
    · by_cases ha : (s[pos]'hp).toNat < 128
      · have hnx : ∀ ty, (Instr.next (.pointer (some ⟨w.heap.size, 0, none⟩)) true ty).run Tryd.prog (w.iter s pos) = _ := fun ty => run_next_ascii w s pos ty hp ha
        have hst := Lib.hid (fun hn => names_step s pos hp hk.out hn)
        have hsp := Lib.hid (fun hn => names_stop s pos hp hn)
        generalize hc : ((s[pos]'hp).toNat) = c at *
        have Hc := Lib.hid hc; clear hc
        cases hn : nameR (c : Int) with
        | true =>
          have hN := hst.out hn
          clear hst hsp
          go_wp2_with (first | (go_at_call 73; refine (name_any _ _ (by omega) (by omega)).mono ?_; rintro e w' ⟨rfl, rfl⟩))
          go_roundw
          case rel => exact ⟨pos + 1, rfl, by omega, hN⟩
          case measure => simp; omega
        | false =>
          have hN := Lib.hid (hsp.out hn)
          clear hst hsp
          go_wp2_with (first | (go_at_call 73; refine (name_any _ _ (by omega) (by omega)).mono ?_; rintro e w' ⟨rfl, rfl⟩))
          go_ret
          exact ⟨ret_bool hN.out.symm, below_iter _ _ _⟩
      · have hnx : ∀ ty, (Instr.next (.pointer (some ⟨w.heap.size, 0, none⟩)) true ty).run Tryd.prog (w.iter s pos) = _ := fun ty => run_next_any w s pos ty hp
        have hsp := Lib.hid (names_stop s pos hp (nameR_high (by omega)))
        have hr := (decode_high s pos hp (by omega)).1
        have hr2 := decode_le s pos
        generalize (Utf8.decode s pos).1 = c at *
        generalize (Utf8.decode s pos).2 = d at *
        have hn : nameR (c : Int) = false := nameR_high (by omega)
        go_wp2_with (first | (go_at_call 73; refine (name_any _ _ (by omega) (by omega)).mono ?_; rintro e w' ⟨rfl, rfl⟩))
        go_ret
        exact ⟨ret_bool hsp.out.symm, below_iter _ _ _⟩
    · have hnx : ∀ ty, (Instr.next (.pointer (some ⟨w.heap.size, 0, none⟩)) true ty).run Tryd.prog (w.iter s pos) = _ := fun ty => run_next_end w s pos ty hp
      have hE := names_end s pos (by omega) hk.out
      rw [← Lib.toList_data s] at hE
      have HE := Lib.hid hE
      clear hE
      go_wp2
      go_ret
      exact ⟨ret_bool (by rw [← Lib.toList_data s]; exact HE.out.symm), below_iter _ _ _⟩

theorem val_skip (s : ByteArray) (pos : Nat) (h : pos < s.size) (ha : 128 ≤ (s[pos]'h).toNat) (hk : valB s.data.toList = valB (s.data.toList.drop pos)) (j : Nat) (hj : j ≤ (Utf8.decode s pos).2) : valB s.data.toList = valB (s.data.toList.drop (pos + j)) := by
  induction j with
  | zero => exact hk
  | succ j ih =>
    obtain ⟨hlt, hb⟩ := decode_cont s pos h ha j (by omega)
    exact val_step s (pos + j) hlt (ih (by omega)) (valR_high (by omega))

theorem str_empty (s : ByteArray) (h : s.data.toList = []) : s.toList.isEmpty = true := by rw [Lib.toList_data, h]; rfl
theorem str_nonempty (s : ByteArray) (h : s.data.toList ≠ []) : s.toList.isEmpty = false := by
  rw [Lib.toList_data]; cases hl : s.data.toList with
  | nil => exact absurd hl h
  | cons _ _ => rfl

end Go.Proofs.YtgfjkpfjajjidaaDoor
