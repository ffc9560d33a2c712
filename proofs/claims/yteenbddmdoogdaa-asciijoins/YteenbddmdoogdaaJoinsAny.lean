/- The law AsciiJoins returns true at every input. -/
import Derived.Test.YteenbddmdoogdaaJoins
namespace Go.Proofs.Yteenbddmdoogdaa
open Go.RowKit Pl

theorem names_of (l : List UInt8) : namesB l = (tokB l || l.isEmpty) := by
  cases l with
  | nil => rfl
  | cons _ _ => simp [tokB]
theorem tok_mid (a b : List UInt8) (c : UInt8) : tokB (a ++ c :: b) = ((tokB a || a.isEmpty) && tokB [c] && (tokB b || b.isEmpty)) := by
  rw [← names_of, ← names_of]
  have h : tokB [c] = nameR (c.toNat : Int) := by simp [tokB, namesB]
  rw [h, tokB, namesB_append, namesB_cons]
  simp [Bool.and_assoc]
theorem tok_both (a b : List UInt8) (h : (tokB a && tokB b) = true) : tokB (a ++ b) = true := by
  simp [tokB, namesB_append] at h ⊢
  exact ⟨fun e => absurd e h.1.1, h.1.2, h.2.2⟩
theorem tok_not_empty (l : List UInt8) : (tokB l && l.isEmpty) = false := by
  cases l <;> simp [tokB]

theorem joins_any (a b : ByteArray) (x : Int) (w : World) (_ha : a.size ≤ maxLen) (_hb : b.size ≤ maxLen) (hx : (Lit.int .u8 x).wf = true) :
    Calls Try.prog 7 #[.string a, .string b, .int .u8 x] w fun e w' => e = .returned (.bool true) ∧ Below w.heap.size w w' := by
  obtain ⟨c, rfl⟩ := u8_of x hx
  clear hx
  by_cases ha : a.size ≤ 1000
  · by_cases hb : b.size ≤ 1000
    · have e6 : tokB (a.data.toList ++ c :: b.data.toList) = ((tokB a.data.toList || a.toList.isEmpty) && tokB [c] && (tokB b.data.toList || b.toList.isEmpty)) := by
        rw [Lib.toList_data, Lib.toList_data]; exact tok_mid _ _ _
      refine joins_core a b c w ha hb (tokB a.data.toList) (a.toList.isEmpty) (tokB b.data.toList) (b.toList.isEmpty) (tokB [c]) rfl rfl rfl rfl rfl ?_ e6 (tok_both _ _) ⟨(lowB a.data.toList).toArray⟩ (by simpa using tokB_low a.data.toList) (fun w => lower_any a w (by omega)) ?_ ?_
      · rw [← e6]; simp [app_data]
      · rw [Lib.toList_data]; exact tok_not_empty _
      · rw [Lib.toList_data]; exact tok_not_empty _
    · go_enter Try.func7, Try.ntmps7
      go_wp2_with fail
      refine (fit_any _).mono ?_
      rintro e w1 ⟨rfl, hb1⟩
      go_wp2_with fail
      refine (light_yes _ _ ha).mono ?_
      rintro e w2 ⟨rfl, rfl⟩
      go_wp2_with fail
      refine (light_no _ _ hb).mono ?_
      rintro e w2 ⟨rfl, rfl⟩
      go_wp2
      go_ret
      exact ⟨rfl, hb1⟩
  · go_enter Try.func7, Try.ntmps7
    go_wp2_with fail
    refine (fit_any _).mono ?_
    rintro e w1 ⟨rfl, hb1⟩
    go_wp2_with fail
    refine (light_no _ _ ha).mono ?_
    rintro e w2 ⟨rfl, rfl⟩
    go_wp2
    go_ret
    exact ⟨rfl, hb1⟩

end Go.Proofs.Yteenbddmdoogdaa
