/- The contracts of strings.TrimSuffix at the end of a line and of strings.Cut at a semicolon. -/
import Derived.Test.YtkjlbddaglcooaaGreatDoorShelf
import Derived.Test.YtkjlbddaglcooaaGreatDoorLeaf
import Derived.Test.YtkjlbddaglcooaaGreatDoorPlains
import Derived.Lib.IndexLaws
import Derived.Laws.Strings3
namespace Go.Proofs.YtkjlbddaglcooaaGreatDoor
open Go.RowKit Pl Go.Shelf

theorem trimSuffix_end (x : List UInt8) : Lib.trimSuffix (x ++ [13, 10]) [13, 10] = x := by
  have h : Lib.hasSuffix (x ++ [13, 10]) [13, 10] = true := by
    simp [Lib.hasSuffix]
  unfold Lib.trimSuffix
  rw [if_pos h]
  simp

theorem trimEnd_any (x : List UInt8) (w : World) (hs : x.length ≤ 1000000) : Calls Tryz.prog 68 #[.string ⟨(x ++ [13, 10]).toArray⟩, .string ⟨#[13, 10]⟩] w fun e w' => e = .returned (.string ⟨x.toArray⟩) ∧ w = w' := by
  have hc := Any.strings_TrimSuffix Tryz.lays102 ⟨(x ++ [13, 10]).toArray⟩ ⟨#[13, 10]⟩ w (by simp [ByteArray.size]; omega)
  have e1 : (ByteArray.mk (x ++ [13, 10]).toArray).data.toList = x ++ [13, 10] := by simp
  rw [e1] at hc
  change Calls Tryz.prog 68 _ _ (fun e w' => e = .returned (.string ⟨(Lib.trimSuffix (x ++ [13, 10]) [13, 10]).toArray⟩) ∧ w' = w) at hc
  rw [trimSuffix_end] at hc
  exact hc.mono fun _ _ ⟨he, hw⟩ => ⟨he, hw.symm⟩

theorem index_semi (s : ByteArray) (w : World) : Calls Tryz.prog 73 #[.string s, .string ⟨#[59]⟩] w fun e w' => e = .returned (.int .i64 (Lib.indexByte s.data.toList 59)) ∧ w = w' :=
  (Any.stringslite_Index_one Tryz.lays219 s 59 w).mono fun _ _ ⟨he, hw⟩ => ⟨he, hw.symm⟩

theorem cutS_cases (l : List UInt8) : (Lib.indexByte l 59 = -1 ∧ cutS l = l) ∨ ∃ i : Nat, Lib.indexByte l 59 = i ∧ i < l.length ∧ cutS l = l.take i := by
  induction l with
  | nil => exact .inl ⟨rfl, rfl⟩
  | cons b l ih =>
    rw [Lib.indexByte, cutS]
    by_cases hb : b = 59
    · subst hb
      exact .inr ⟨0, by simp, by simp, by simp⟩
    · have hb2 : (b == 59) = false := by simpa using hb
      rw [hb2, if_neg hb]
      rcases ih with ⟨h1, h2⟩ | ⟨i, h1, h2, h3⟩
      · exact .inl ⟨by rw [h1]; rfl, by rw [h2]⟩
      · refine .inr ⟨i + 1, ?_, by simp; omega, by rw [h3]; rfl⟩
        have h4 : (Lib.indexByte l 59 == -1) = false := by rw [beq_eq_false_iff_ne, h1]; omega
        rw [h4, h1]; simp

set_option maxHeartbeats 1000000 in
theorem cutS_inner (s : ByteArray) (w : World) (hs : s.size ≤ 1000000000000) : Calls Tryz.prog 58 #[.string s, .string ⟨#[59]⟩] w fun e w' => (∃ u v, e = .returned (.tuple #[.string ⟨(cutS s.data.toList).toArray⟩, .string u, .bool v])) ∧ Below w.heap.size w w' := by
  rcases cutS_cases s.data.toList with ⟨h1, h2⟩ | ⟨i, h1, h2, h3⟩
  · have hc := index_semi s
    rw [h1] at hc
    have HC := Lib.hid hc
    clear hc
    have HK : Hid (s = ⟨(cutS s.data.toList).toArray⟩) := by rw [h2]; rfl
    clear h1 h2
    go_enter Tryz.func58, Tryz.ntmps58
    go_wp2_with (go_at_call 73; refine (HC.out _).mono ?_; rintro e w' ⟨rfl, rfl⟩)
    go_ret3
    exact ⟨⟨⟨#[]⟩, false, by rw [← HK.out]; rfl⟩, Below.refl _ _⟩
  · have hc := index_semi s
    rw [h1] at hc
    have HC := Lib.hid hc
    clear hc
    have HK : Hid (cutS s.data.toList = _) := h3
    have hi : i < s.size := by simpa using h2
    clear h1 h2 h3
    have c1 : (0 : Int) ≤ ↑i := by omega
    have c2 : (↑i : Int) ≤ ↑s.size := by omega
    have c3 : (0 : Int) ≤ ↑i + 1 := by omega
    have c4 : (↑i + 1 : Int) ≤ ↑s.size := by omega
    have e1 : s.extract 0 i = ⟨(s.data.toList.take i).toArray⟩ := by rw [Lib.extract_eq]; simp
    have E1 := Lib.hid e1
    clear e1
    go_enter Tryz.func58, Tryz.ntmps58
    go_wp2_with (go_at_call 73; refine (HC.out _).mono ?_; rintro e w' ⟨rfl, rfl⟩)
    go_region
    go_wp2
    go_ret3
    refine ⟨⟨s.extract (i + 1) s.size, true, ?_⟩, (Below.refl _ _).drew⟩
    rw [HK.out, ← E1.out]
    rfl

theorem cut_any (x : List UInt8) (w : World) (hs : x.length ≤ 1000000) :
    Calls Tryz.prog 46 #[.string ⟨x.toArray⟩, .string ⟨#[59]⟩] w fun e w' => (∃ u v, e = .returned (.tuple #[.string ⟨(cutS x).toArray⟩, .string u, .bool v])) ∧ Below w.heap.size w w' := by
  have HC := Lib.hid fun w => cutS_inner ⟨x.toArray⟩ w (by simp [ByteArray.size]; omega)
  simp only [List.toList_toArray] at HC
  generalize cutS x = y at *
  go_enter Tryz.func46, Tryz.ntmps46
  go_wp2_with (go_at_call 58; refine (HC.out _).mono ?_; rintro e w' ⟨⟨u, v, rfl⟩, hb⟩)
  go_ret3
  exact ⟨⟨u, v, rfl⟩, hb⟩

end Go.Proofs.YtkjlbddaglcooaaGreatDoor
