/- The contracts of answer.Word and answer.firstLine. -/
import Derived.Test.YtkbigfjaaiobfaaDoorAnsMem
import Derived.Test.YtkbigfjaaiobfaaDoorToken
import Derived.Lib.SmallJoins
import Derived.Lib.ItoaLen
namespace Go.Proofs.YtkbigfjaaiobfaaDoor
open Go.RowKit Pl Go.Shelf

set_option maxHeartbeats 1000000 in
theorem word_any (n : Int) (w : World) : Calls Tryd.prog 14 #[.int .i64 n] w fun e w' => e = .returned (.string (mkB (wordL n))) ∧ w = w' := by
  rcases word_cases n with rfl | rfl | rfl | rfl | rfl | rfl | rfl | rfl | rfl | rfl | rfl | rfl | rfl | rfl | h
  iterate 14
    · go_enter Tryd.func14, Tryd.ntmps14
      go_wp2
      go_ret
      exact ⟨rfl, rfl⟩
  · rw [word_else h]
    obtain ⟨h200, h201, h400, h401, h404, h405, h409, h412, h413, h431, h500, h501, h503, h507⟩ := h
    have e200 : (n == 200) = false := beq_eq_false_iff_ne.2 h200
    have e201 : (n == 201) = false := beq_eq_false_iff_ne.2 h201
    have e400 : (n == 400) = false := beq_eq_false_iff_ne.2 h400
    have e401 : (n == 401) = false := beq_eq_false_iff_ne.2 h401
    have e404 : (n == 404) = false := beq_eq_false_iff_ne.2 h404
    have e405 : (n == 405) = false := beq_eq_false_iff_ne.2 h405
    have e409 : (n == 409) = false := beq_eq_false_iff_ne.2 h409
    have e412 : (n == 412) = false := beq_eq_false_iff_ne.2 h412
    have e413 : (n == 413) = false := beq_eq_false_iff_ne.2 h413
    have e431 : (n == 431) = false := beq_eq_false_iff_ne.2 h431
    have e500 : (n == 500) = false := beq_eq_false_iff_ne.2 h500
    have e501 : (n == 501) = false := beq_eq_false_iff_ne.2 h501
    have e503 : (n == 503) = false := beq_eq_false_iff_ne.2 h503
    have e507 : (n == 507) = false := beq_eq_false_iff_ne.2 h507
    clear h200 h201 h400 h401 h404 h405 h409 h412 h413 h431 h500 h501 h503 h507
    go_enter Tryd.func14, Tryd.ntmps14
    go_wp2
    go_ret
    exact ⟨rfl, rfl⟩

theorem first_eq (n : Int) : (⟨#[72, 84, 84, 80, 47, 49, 46, 49, 32]⟩ : ByteArray) ++ mkB (Lib.itoa n) ++ ⟨#[32]⟩ ++ mkB (wordL n) = mkB (firstL n) := by
  apply bytes_ext
  simp [mkB_data, firstL, httpL, ByteArray.data_append]

theorem add_str (a b : ByteArray) (h : a.size + b.size ≤ 9223372036854775807) (wx : World) : (Op.stringOp .add a b).run Tryd.prog wx = .ok (.string (a ++ b)) wx := run_string_add_sum wx a b h
theorem app_size (a b : ByteArray) : (a ++ b).size = a.size + b.size := by simp

set_option maxHeartbeats 1000000 in
theorem first_any (n : Int) (h0 : -9223372036854775808 ≤ n) (h1 : n ≤ 9223372036854775807) (w : World) (hg : GB w) :
    Calls Tryd.prog 20 #[.int .i64 n] w fun e w' => e = .returned (.string (mkB (firstL n))) ∧ Below w.heap.size w w' := by
  have HI := Lib.hid (itoa_any n h0 h1 w hg)
  have HE : Hid _ := first_eq n
  have ha : (mkB (Lib.itoa n)).size ≤ 21 := by rw [mkB_size]; exact Lib.itoa_length_le n h0 h1
  have hb : (mkB (wordL n)).size ≤ 31 := by rw [mkB_size]; exact word_len n
  have hc9 : (⟨#[72, 84, 84, 80, 47, 49, 46, 49, 32]⟩ : ByteArray).size = 9 := rfl
  have hc1 : (⟨#[32]⟩ : ByteArray).size = 1 := rfl
  have k1 := add_str ⟨#[72, 84, 84, 80, 47, 49, 46, 49, 32]⟩ (mkB (Lib.itoa n)) (by omega)
  have k2 := add_str (⟨#[72, 84, 84, 80, 47, 49, 46, 49, 32]⟩ ++ mkB (Lib.itoa n)) ⟨#[32]⟩ (by rw [app_size]; omega)
  have k3 := add_str (⟨#[72, 84, 84, 80, 47, 49, 46, 49, 32]⟩ ++ mkB (Lib.itoa n) ++ ⟨#[32]⟩) (mkB (wordL n)) (by rw [app_size, app_size]; omega)
  rw [HE.out] at k3
  clear HE
  generalize (⟨#[72, 84, 84, 80, 47, 49, 46, 49, 32]⟩ ++ mkB (Lib.itoa n) ++ ⟨#[32]⟩ : ByteArray) = x2 at *
  generalize (⟨#[72, 84, 84, 80, 47, 49, 46, 49, 32]⟩ ++ mkB (Lib.itoa n) : ByteArray) = x1 at *
  generalize mkB (Lib.itoa n) = a at *
  have HW := Lib.hid (word_any n)
  generalize mkB (wordL n) = b at *
  generalize mkB (firstL n) = c at *
  clear ha hb hc9 hc1
  go_enter Tryd.func20, Tryd.ntmps20
  go_wp2_with fail
  refine HI.out.mono ?_
  rintro e w1 ⟨rfl, hb1⟩
  go_wp2_with fail
  refine (HW.out _).mono ?_
  rintro e w2 ⟨rfl, rfl⟩
  go_wp2_with fail
  go_ret
  exact ⟨rfl, hb1⟩

end Go.Proofs.YtkbigfjaaiobfaaDoor
