/- The contracts of ascii.Trim, strings.HasPrefix and strings.Cut at a colon. -/
import Derived.Test.YtkjlbddaglcooaaGreatDoorShelf
import Derived.Test.YtkjlbddaglcooaaGreatDoorPlains
import Derived.Test.YtkjlbddaglcooaaGreatDoorLeaf
import Derived.Lib.IndexLaws
import Derived.Laws.Strings3
namespace Go.Proofs.YtkjlbddaglcooaaGreatDoor
open Go.RowKit Pl Go.Shelf

theorem trim_any (s : ByteArray) (w : World) (hs : s.size ≤ 9223372036854775807) :
    Calls Tryz.prog 48 #[.string s] w fun e w' => e = .returned (.string (trS s)) ∧ Below w.heap.size w w' := by
  have hcon := Any.strings_Trim_laid Tryz.lays160 (by kernel_rfl) s ⟨#[32, 9]⟩ w hs (by decide) (ascii_of_all (by decide))
  change Calls Tryz.prog 60 _ _ (fun e w' => e = .returned (.string ⟨(Lib.trimS s.data.toList [32, 9]).toArray⟩) ∧ Below w.heap.size w w') at hcon
  rw [trimS_eq] at hcon
  change Calls Tryz.prog 60 _ _ (fun e w' => e = .returned (.string (trS s)) ∧ Below w.heap.size w w') at hcon
  generalize trS s = r at hcon ⊢
  go_enter Tryz.func48, Tryz.ntmps48
  go_wp2_with (go_at_call 60; refine hcon.mono ?_; rintro e w' ⟨rfl, hB⟩)
  go_ret
  exact ⟨rfl, hB⟩

theorem prefix_any (s p : ByteArray) (w : World) : Calls Tryz.prog 44 #[.string s, .string p] w fun e w' => e = .returned (.bool (Lib.hasPrefix s.data.toList p.data.toList)) ∧ w = w' :=
  (Any.strings_HasPrefix Tryz.lays99 s p w).mono fun _ _ ⟨he, hw⟩ => ⟨he, hw.symm⟩

theorem index_one (s : ByteArray) (w : World) : Calls Tryz.prog 73 #[.string s, .string ⟨#[58]⟩] w fun e w' => e = .returned (.int .i64 (Lib.indexByte s.data.toList 58)) ∧ w = w' :=
  (Any.stringslite_Index_one Tryz.lays219 s 58 w).mono fun _ _ ⟨he, hw⟩ => ⟨he, hw.symm⟩

def Cutted (s : ByteArray) (e : Ending) : Prop := e = .returned (match cutL s.data.toList with | some (a, b) => .tuple #[strV a, strV b, .bool true] | none => .tuple #[.string s, .string ⟨#[]⟩, .bool false])

set_option maxHeartbeats 1000000 in
theorem cut_inner (s : ByteArray) (w : World) (hs : s.size ≤ 1000000000000) : Calls Tryz.prog 58 #[.string s, .string ⟨#[58]⟩] w fun e w' => Cutted s e ∧ Below w.heap.size w w' := by
  rcases cutL_cases s.data.toList with ⟨h1, h2⟩ | ⟨i, h1, h2, h3⟩
  · have hc := index_one s
    rw [h1] at hc
    have HC := Lib.hid hc
    clear hc
    have HK : Hid (cutL s.data.toList = none) := h2
    clear h1 h2
    go_enter Tryz.func58, Tryz.ntmps58
    go_wp2_with (go_at_call 73; refine (HC.out _).mono ?_; rintro e w' ⟨rfl, rfl⟩)
    go_ret3
    exact ⟨by unfold Cutted; rw [HK.out]; rfl, Below.refl _ _⟩
  · have hc := index_one s
    rw [h1] at hc
    have HC := Lib.hid hc
    clear hc
    have HK : Hid (cutL s.data.toList = _) := h3
    have hi : i < s.size := by simpa using h2
    clear h1 h2 h3
    have c1 : (0 : Int) ≤ ↑i := by omega
    have c2 : (↑i : Int) ≤ ↑s.size := by omega
    have c3 : (0 : Int) ≤ ↑i + 1 := by omega
    have c4 : (↑i + 1 : Int) ≤ ↑s.size := by omega
    have e1 : s.extract 0 i = ⟨(s.data.toList.take i).toArray⟩ := by rw [Lib.extract_eq]; simp
    have e2 : s.extract (i + 1) s.size = ⟨(s.data.toList.drop (i + 1)).toArray⟩ := by
      rw [Lib.extract_eq, List.take_of_length_le]
      simp
    have E1 := Lib.hid e1; have E2 := Lib.hid e2
    clear e1 e2
    go_enter Tryz.func58, Tryz.ntmps58
    go_wp2_with (go_at_call 73; refine (HC.out _).mono ?_; rintro e w' ⟨rfl, rfl⟩)
    go_region
    go_wp2
    go_ret3
    refine ⟨?_, (Below.refl _ _).drew⟩
    unfold Cutted
    rw [HK.out]
    show Ending.returned (.tuple #[.string (s.extract 0 i), .string (s.extract (i + 1) s.size), .bool true]) = .returned (.tuple #[.string ⟨(s.data.toList.take i).toArray⟩, .string ⟨(s.data.toList.drop (i + 1)).toArray⟩, .bool true])
    rw [E1.out, E2.out]

theorem cut_hit (s a b : ByteArray) (w : World) (hs : s.size ≤ 1000000000000) (h : cutL s.data.toList = some (a.data.toList, b.data.toList)) :
    Calls Tryz.prog 46 #[.string s, .string ⟨#[58]⟩] w fun e w' => e = .returned (.tuple #[.string a, .string b, .bool true]) ∧ Below w.heap.size w w' := by
  have hc := fun w => cut_inner s w hs
  unfold Cutted at hc
  rw [h] at hc
  simp only [strV, Array.toArray_toList] at hc
  have HC := Lib.hid hc
  clear hc h
  go_enter Tryz.func46, Tryz.ntmps46
  go_wp2_with (go_at_call 58; refine (HC.out _).mono ?_; rintro e w' ⟨rfl, hb⟩)
  go_ret3
  exact ⟨rfl, hb⟩

theorem cut_miss (s : ByteArray) (w : World) (hs : s.size ≤ 1000000000000) (h : cutL s.data.toList = none) :
    Calls Tryz.prog 46 #[.string s, .string ⟨#[58]⟩] w fun e w' => e = .returned (.tuple #[.string s, .string ⟨#[]⟩, .bool false]) ∧ Below w.heap.size w w' := by
  have hc := fun w => cut_inner s w hs
  unfold Cutted at hc
  rw [h] at hc
  simp only at hc
  have HC := Lib.hid hc
  clear hc h
  go_enter Tryz.func46, Tryz.ntmps46
  go_wp2_with (go_at_call 58; refine (HC.out _).mono ?_; rintro e w' ⟨rfl, hb⟩)
  go_ret3
  exact ⟨rfl, hb⟩

end Go.Proofs.YtkjlbddaglcooaaGreatDoor
