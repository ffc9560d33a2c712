/- The contracts of answer.fieldName, fieldValue and fieldOf. -/
import Derived.Test.YtkbigfjaaiobfaaDoorAnsAny
import Derived.Test.YtkbigfjaaiobfaaDoorAnsBody
namespace Go.Proofs.YtkbigfjaaiobfaaDoor
open Go.RowKit Pl Go.Shelf

theorem lower_m (s : ByteArray) (w : World) (hs : s.size ≤ 1000000000) : Calls Tryd.prog 17 #[.string s] w fun e w' => e = .returned (.string (lowS s)) ∧ Below w.heap.size w w' := lower_any s w (by omega)
theorem low_test (s : ByteArray) : ((lowS s).toList == s.toList) = decide (lowB s.data.toList = s.data.toList) := by
  rw [eq_test]
  congr 1
  apply propext
  exact ⟨fun h => by rw [← lowS_data, h], fun h => bytes_ext (by rw [lowS_data]; exact h)⟩
theorem tr_test (s : ByteArray) : ((trS s).toList == s.toList) = decide (tr s.data.toList = s.data.toList) := by
  rw [eq_test]
  congr 1
  apply propext
  exact ⟨fun h => by rw [← trS_data, h], fun h => bytes_ext (by rw [trS_data]; exact h)⟩
theorem ne_test (s : ByteArray) (l : List UInt8) : (s.toList != l) = decide (s.data.toList ≠ l) := by
  have := eq_list s l
  rw [bne, this]
  by_cases h : s.data.toList = l <;> simp [h]

theorem name_eq (l : List UInt8) : nameOk l = (tokB l && (decide (lowB l = l) && (!decide (l = connL) && !decide (l = lenL)))) := by
  unfold nameOk; rw [decide_not, decide_not]

set_option maxHeartbeats 2000000 in
theorem fname_any (s : ByteArray) (w : World) (hs : s.size ≤ 1000000000) : Calls Tryd.prog 49 #[.string s] w fun e w' => e = .returned (.bool (nameOk s.data.toList)) ∧ Below w.heap.size w w' := by
  have HT := Lib.hid (tok_any s w)
  have HL := Lib.hid (fun w => lower_m s w hs)
  have hlt := low_test s
  have hn1 := eq_list s connL
  have hn2 := eq_list s lenL
  have HN := Lib.hid (name_eq s.data.toList)
  generalize nameOk s.data.toList = N at *
  generalize tokB s.data.toList = b0 at *
  generalize decide (lowB s.data.toList = s.data.toList) = b1 at *
  generalize decide (s.data.toList = connL) = b2 at *
  generalize decide (s.data.toList = lenL) = b3 at *
  unfold connL at hn1
  unfold lenL at hn2
  generalize lowS s = L at *
  cases b0 with
  | false =>
    clear hlt hn1 hn2 HL
    go_enter Tryd.func49, Tryd.ntmps49
    go_wp2_with fail
    refine HT.out.mono ?_
    rintro e w1 ⟨rfl, hb1⟩
    go_wp2_with fail
    go_ret
    exact ⟨by rw [HN.out]; rfl, hb1⟩
  | true =>
    cases b1 <;> cases b2 <;> cases b3
    all_goals
      go_enter Tryd.func49, Tryd.ntmps49
      go_wp2_with fail
      refine HT.out.mono ?_
      rintro e w1 ⟨rfl, hb1⟩
      go_wp2_with fail
      refine (HL.out w1).mono ?_
      rintro e w2 ⟨rfl, hb2⟩
      go_wp2_with fail
      go_ret
      exact ⟨by rw [HN.out]; rfl, bt hb1 hb2⟩

set_option maxHeartbeats 2000000 in
theorem fval_any (s : ByteArray) (w : World) (hs : s.size ≤ 1000000000) : Calls Tryd.prog 50 #[.string s] w fun e w' => e = .returned (.bool (valOk s.data.toList)) ∧ Below w.heap.size w w' := by
  have HT := Lib.hid (trim_any s w (by omega))
  have HC := Lib.hid (fun w => contains_any s w hs)
  have hlt := tr_test s
  have HN : Hid (valOk s.data.toList = (decide (tr s.data.toList = s.data.toList) && !Lib.containsAny s.data.toList crlf)) := rfl
  generalize valOk s.data.toList = N at *
  generalize Lib.containsAny s.data.toList crlf = b1 at *
  generalize decide (tr s.data.toList = s.data.toList) = b0 at *
  generalize trS s = L at *
  unfold crB at HC
  cases b0 with
  | false =>
    go_enter Tryd.func50, Tryd.ntmps50
    go_wp2_with fail
    refine HT.out.mono ?_
    rintro e w1 ⟨rfl, hb1⟩
    go_wp2_with fail
    go_ret
    exact ⟨by rw [HN.out]; rfl, hb1⟩
  | true =>
    cases b1
    all_goals
      go_enter Tryd.func50, Tryd.ntmps50
      go_wp2_with fail
      refine HT.out.mono ?_
      rintro e w1 ⟨rfl, hb1⟩
      go_wp2_with fail
      refine (HC.out w1).mono ?_
      rintro e w2 ⟨rfl, hb2⟩
      go_wp2_with fail
      go_ret
      exact ⟨by rw [HN.out]; rfl, bt hb1 hb2⟩

end Go.Proofs.YtkbigfjaaiobfaaDoor
