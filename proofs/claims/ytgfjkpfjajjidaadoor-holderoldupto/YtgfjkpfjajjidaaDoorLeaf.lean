/- Contracts of ascii's leaves: capital, nameSign. -/
import Derived.Test.YtgfjkpfjajjidaaDoorProg
import Derived.Test.YtgfjkpfjajjidaaDoorPlains
import Derived.WalkKit
import Derived.WalkSpells
import Derived.WalkLawsBesides
import Derived.Lib.Hide
namespace Go.Proofs.YtgfjkpfjajjidaaDoor
open Go.RowKit Pl

theorem cap_any (r : Int) (w : World) (_h0 : -2147483648 ≤ r) (_h1 : r ≤ 2147483647) :
    Calls Tryd.prog 90 #[.int .i32 r] w fun e w' => e = .returned (.bool (capR r)) ∧ w = w' := by
  by_cases a : 65 ≤ r
  · have ha : decide (65 ≤ r) = true := by simpa using a
    go_enter Tryd.func90, Tryd.ntmps90
    go_wp2
    go_ret
    exact ⟨by simp [capR, ha], rfl⟩
  · have ha : decide (65 ≤ r) = false := by simpa using a
    go_enter Tryd.func90, Tryd.ntmps90
    go_wp2
    go_ret
    exact ⟨by unfold capR; rw [ha]; rfl, rfl⟩

set_option maxHeartbeats 1000000 in
theorem name_any (r : Int) (w : World) (h0 : -2147483648 ≤ r) (h1 : r ≤ 2147483647) :
    Calls Tryd.prog 73 #[.int .i32 r] w fun e w' => e = .returned (.bool (nameR r)) ∧ w = w' := by
  go_enter Tryd.func73, Tryd.ntmps73
  go_wp2_with (first | (go_at_call 90; refine (cap_any _ _ h0 h1).mono ?_; rintro e w' ⟨rfl, rfl⟩))
  all_goals go_ret
  all_goals refine ⟨?_, rfl⟩
  all_goals simp only [nameR, markR, *]
  all_goals try rfl
  all_goals simp
  all_goals omega

theorem ret_int {k : IntKind} {a b : Int} (h : a = b) : Ending.returned (.int k a) = .returned (.int k b) := by rw [h]
theorem ret_bool {a b : Bool} (h : a = b) : Ending.returned (.bool a) = .returned (.bool b) := by rw [h]
theorem ret_num {a b : Int} {c d : Bool} (h : a = b) (k : c = d) : Ending.returned (.tuple #[.int .i64 a, .bool c]) = .returned (.tuple #[.int .i64 b, .bool d]) := by rw [h, k]
theorem below_iter (w : World) (s : ByteArray) (pos : Nat) : Below w.heap.size w (w.iter s pos) := (Below.refl _ _).alloc (Nat.le_refl _) _

theorem get_bang (s : ByteArray) (k : Nat) (h : k < s.size) : s.get! k = s[k]'h := by
  simp [ByteArray.get!, getElem!_pos, h]
  rfl

/-- Of a rune that begins with a byte beyond ASCII every byte is beyond ASCII, and all of them are there. -/
theorem decode_cont (s : ByteArray) (pos : Nat) (h : pos < s.size) (ha : 128 ≤ (s[pos]'h).toNat) (j : Nat) (hj : j < (Utf8.decode s pos).2) : ∃ hlt : pos + j < s.size, 128 ≤ (s[pos + j]'hlt).toNat := by
  have key : pos + j < s.size ∧ 128 ≤ (s.get! (pos + j)).toNat := by
    have h0 : 128 ≤ (s.get! (pos + 0)).toNat := by rw [get_at s pos h]; exact ha
    revert hj
    simp only [Utf8.decode]
    repeat' split
    all_goals intro hj
    all_goals simp only [Bool.and_eq_true, decide_eq_true_eq, beq_iff_eq] at *
    all_goals (have hjs : j = 0 ∨ j = 1 ∨ j = 2 ∨ j = 3 := by omega)
    all_goals (rcases hjs with rfl | rfl | rfl | rfl)
    all_goals (first | omega | (exact ⟨by omega, by omega⟩))
  exact ⟨key.1, by rw [← get_bang s (pos + j) key.1]; exact key.2⟩

end Go.Proofs.YtgfjkpfjajjidaaDoor
