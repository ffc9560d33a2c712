/- The walk of the law AsciiJoins. -/
import Derived.Test.YteenbddmdoogdaaWordsWalk
import Derived.Test.YteenbddmdoogdaaLower
namespace Go.Proofs.Yteenbddmdoogdaa
open Go.RowKit Pl

theorem nameR_low (c : UInt8) : nameR ((lowU c).toNat : Int) = nameR (c.toNat : Int) := by
  cases h : capR (c.toNat : Int) with
  | false => rw [lowU_not h]
  | true =>
    rw [lowU_cap h]
    simp [capR] at h
    have h1 : nameR (c.toNat : Int) = true := by simp [nameR, capR]; omega
    have h2 : nameR ((c.toNat : Int) + 32) = true := by simp [nameR, capR]; omega
    rw [h1, h2]
theorem tokB_low (l : List UInt8) : tokB (lowB l) = tokB l := by
  simp [tokB, namesB, lowB, Function.comp_def, nameR_low]

theorem tok_b (s : ByteArray) (w0 w : World) (h : Below w0.heap.size w0 w) : Calls Try.prog 12 #[.string s] w fun e w' => e = .returned (.bool (tokB s.data.toList)) ∧ Below w0.heap.size w0 w' :=
  (tok_any s w).mono fun _ _ ⟨he, hb⟩ => ⟨he, bt h hb⟩

theorem low_b {a t : ByteArray} (hl : ∀ w, Calls Try.prog 15 #[.string a] w fun e w' => e = .returned (.string t) ∧ Below w.heap.size w w') (w0 w : World) (h : Below w0.heap.size w0 w) : Calls Try.prog 15 #[.string a] w fun e w' => e = .returned (.string t) ∧ Below w0.heap.size w0 w' :=
  (hl w).mono fun _ _ ⟨he, hb⟩ => ⟨he, bt h hb⟩
theorem below_alloc {w W : World} (h : Below w.heap.size w W) (o : Obj) : Below w.heap.size w (W.alloc o) := h.alloc h.size o

set_option maxHeartbeats 2000000 in
theorem joins_core (a b : ByteArray) (c : UInt8) (w : World) (ha : a.size ≤ 1000) (hb : b.size ≤ 1000) (ta ea tb eb ts : Bool)
    (h1 : tokB a.data.toList = ta) (h2 : a.toList.isEmpty = ea) (h3 : tokB b.data.toList = tb) (h4 : b.toList.isEmpty = eb) (h5 : tokB (⟨#[c]⟩ : ByteArray).data.toList = ts)
    (h6 : tokB (a ++ (⟨#[c]⟩ : ByteArray) ++ b).data.toList = ((ta || ea) && ts && (tb || eb)))
    (h6' : tokB (a.data.toList ++ c :: b.data.toList) = ((ta || ea) && ts && (tb || eb))) (h7 : (ta && tb) = true → tokB (a.data.toList ++ b.data.toList) = true) (t : ByteArray) (h8 : tokB t.data.toList = ta)
    (HL : Hid (∀ w, Calls Try.prog 15 #[.string a] w fun e w' => e = .returned (.string t) ∧ Below w.heap.size w w')) (h9 : (ta && ea) = false) (h10 : (tb && eb) = false) :
    Calls Try.prog 7 #[.string a, .string b, .int .u8 (c.toNat : Int)] w fun e w' => e = .returned (.bool true) ∧ Below w.heap.size w w' := by
  have hcv := one_byte c
  go_enter Try.func7, Try.ntmps7
  go_wp2_with fail
  refine (fit_any _).mono ?_
  rintro e w1 ⟨rfl, hb1⟩
  go_wp2_with fail
  refine (light_yes _ _ ha).mono ?_
  rintro e w2 ⟨rfl, rfl⟩
  go_wp2_with fail
  refine (light_yes _ _ hb).mono ?_
  rintro e w2 ⟨rfl, rfl⟩
  have hbase : Below w.heap.size w w1 := hb1
  cases ta <;> cases ea <;> cases tb <;> cases eb <;> cases ts
  all_goals first | (cases h9; done) | (cases h10; done) | skip
  all_goals clear h9 h10
  all_goals first | (have h7' := h7 rfl; clear h7) | clear h7
  all_goals
    go_wp2_with (first | (go_at_call 12; refine (tok_b _ w _ (by assumption)).mono ?_; rintro e w' ⟨rfl, hbn⟩) | (go_at_call 12; refine (tok_b _ w _ (below_alloc (by assumption) _)).mono ?_; rintro e w' ⟨rfl, hbn⟩) | (go_at_call 15; refine (low_b HL.out w _ (by assumption)).mono ?_; rintro e w' ⟨rfl, hbn⟩))
    go_ret
    exact ⟨rfl, by assumption⟩

end Go.Proofs.Yteenbddmdoogdaa
