/- The law CutterLong, plainly: heads that are just so long, or too long. No Go. -/
import Derived.Test.YtkjlbddaglcooaaGreatDoorPlains
namespace Go.Proofs.YtkjlbddaglcooaaGreatDoor
open Pl

def blankT : Nat → List UInt8
  | 0 => []
  | k + 1 => blankT k ++ [13, 10]
def headT : List UInt8 := [71, 69, 84, 32, 47, 32, 72, 84, 84, 80, 47, 49, 46, 49, 13, 10, 104, 111, 115, 116, 58, 32, 97, 13, 10, 120, 58, 32]
def signs (n : Nat) : List UInt8 := List.replicate n 118
def headC : Cst := ⟨headT, nilRq, none, false, 0⟩

theorem runC_nil (c : Cst) : runC c [] = (c, []) := rfl
theorem run_blank (k : Nat) : runC newC (blankT k) = (newC, []) := by
  induction k with
  | zero => rfl
  | succ k ih =>
    rw [blankT, runC_app, ih]
    rfl
theorem run_head : runC newC headT = (headC, []) := by kernel_rfl
theorem signs_len (n : Nat) : (signs n).length = n := by simp [signs]
theorem head_len (n : Nat) : (headT ++ signs n).length = 28 + n := by rw [List.length_append, signs_len]; rfl
theorem crB_app (l : List UInt8) (b : UInt8) : crB (l ++ [b]) = decide (b = 13) := by simp [crB]
theorem signs_snoc (n : Nat) : signs (n + 1) = signs n ++ [118] := by
  unfold signs
  exact List.replicate_succ'
theorem crB_signs (n : Nat) : crB (headT ++ signs n) = false := by
  cases n with
  | zero => rfl
  | succ n => rw [signs_snoc, ← List.append_assoc, crB_app]; rfl
theorem head_ne (x : List UInt8) : headT ++ x ≠ [13, 10] := fun e => by
  have := congrArg List.head? e
  simp [headT] at this
theorem ends_last (l : List UInt8) (b : UInt8) (h : b ≠ 10) : endsB (l ++ [b]) = false := by
  unfold endsB Lib.hasSuffix
  rw [Bool.eq_false_iff]
  intro h2
  rw [List.isSuffixOf_iff_suffix] at h2
  obtain ⟨t, ht⟩ := h2
  have e : t ++ [13, 10, 13] ++ [10] = l ++ [b] := by rw [← ht]; simp
  have := List.append_inj_right' e rfl
  simp at this
  exact h this.symm
/-- A sign of a line that goes on. -/
theorem step_sign (l : List UInt8) (b : UInt8) (hb : b ≠ 10) (hcr : crB l = false) (hne : l ++ [b] ≠ [13, 10]) (hl : l.length + 1 ≤ 1000) : stepC ⟨l, nilRq, none, false, 0⟩ b = (⟨l ++ [b], nilRq, none, false, 0⟩, none) := by
  unfold stepC
  rw [if_neg (by simp)]
  have h1 : lookC ⟨l, nilRq, none, false, 0⟩ b = ⟨l ++ [b], nilRq, none, false, 0⟩ := by
    unfold lookC lookHeadC
    simp only
    rw [if_neg (by simp [hcr, hb]), if_neg hne, if_neg (by omega), if_neg (by simp [ends_last l b hb])]
  rw [h1]
  rfl
theorem step_long (l : List UInt8) (b : UInt8) (hcr : crB l = decide (b = 10)) (hne : l ++ [b] ≠ [13, 10]) (hl : 1000 < l.length + 1) : stepC ⟨l, nilRq, none, false, 0⟩ b = (stopC 431, none) := by
  unfold stepC
  rw [if_neg (by simp)]
  have h1 : lookC ⟨l, nilRq, none, false, 0⟩ b = stopC 431 := by
    unfold lookC lookHeadC
    simp only
    rw [if_neg (by simp [hcr]), if_neg hne, if_pos hl]
  rw [h1]
  rfl
theorem step_lf (l : List UInt8) (hcr : crB l = true) (hne : l ++ [10] ≠ [13, 10]) (hl : l.length + 1 ≤ 1000) (he : endsB (l ++ [10]) = false) : stepC ⟨l, nilRq, none, false, 0⟩ 10 = (⟨l ++ [10], nilRq, none, false, 0⟩, none) := by
  unfold stepC
  rw [if_neg (by simp)]
  have h1 : lookC ⟨l, nilRq, none, false, 0⟩ 10 = ⟨l ++ [10], nilRq, none, false, 0⟩ := by
    unfold lookC lookHeadC
    simp only
    rw [if_neg (by simp [hcr]), if_neg hne, if_neg (by omega), if_neg (by simp [he])]
  rw [h1]
  rfl
theorem step_end (l : List UInt8) (hcr : crB l = true) (hne : l ++ [10] ≠ [13, 10]) (hl : l.length + 1 ≤ 1000) (he : endsB (l ++ [10]) = true) : stepC ⟨l, nilRq, none, false, 0⟩ 10 = emitC (endHeadC (l ++ [10])) := by
  unfold stepC
  rw [if_neg (by simp)]
  have h1 : lookC ⟨l, nilRq, none, false, 0⟩ 10 = endHeadC (l ++ [10]) := by
    unfold lookC lookHeadC
    simp only
    rw [if_neg (by simp [hcr]), if_neg hne, if_neg (by omega), if_pos he]
  rw [h1]
/-- All signs, while they fit. -/
theorem run_signs (n : Nat) (h : n + 28 ≤ 1000) : runC headC (signs n) = (⟨headT ++ signs n, nilRq, none, false, 0⟩, []) := by
  induction n with
  | zero => simp [signs, runC, headC]
  | succ n ih =>
    rw [signs_snoc, runC_app, ih (by omega)]
    simp only [runC]
    rw [step_sign (headT ++ signs n) 118 (by decide) (crB_signs n) (by rw [List.append_assoc]; exact head_ne _) (by rw [head_len]; omega)]
    simp
/-- Beyond the bound: it is done by the sign that is too many, whatever comes. -/
theorem run_too (n : Nat) (h : 1000 < n + 28) (x : List UInt8) : runC headC (signs n ++ x) = (stopC 431, []) := by
  have e : signs n = signs 972 ++ (118 :: signs (n - 973)) := by
    unfold signs
    rw [← List.replicate_succ, List.replicate_append_replicate]
    congr 1
    omega
  rw [e, List.append_assoc, runC_app, run_signs 972 (by decide)]
  simp only [List.cons_append, runC_cons]
  rw [step_long (headT ++ signs 972) 118 (by rw [crB_signs]; rfl) (by rw [List.append_assoc]; exact head_ne _) (by rw [head_len]; decide)]
  rw [run_over (by rfl)]
  rfl

theorem index_crlf (a b : List UInt8) (h : (13 : UInt8) ∉ a) : Lib.index (a ++ 13 :: 10 :: b) [13, 10] = (a.length : Int) := by
  induction a with
  | nil => rw [List.nil_append, Lib.index]; simp [List.isPrefixOf]
  | cons x a ih =>
    rw [List.mem_cons, not_or] at h
    have := ih h.2
    rw [List.cons_append, Lib.index]
    have hp : ([13, 10] : List UInt8).isPrefixOf (x :: (a ++ 13 :: 10 :: b)) = false := by simp [List.isPrefixOf, h.1]
    rw [hp, this]
    have hne : ((a.length : Int) == -1) = false := by rw [beq_eq_false_iff_ne]; omega
    simp [hne]
theorem index_none (a : List UInt8) (h : (13 : UInt8) ∉ a) : Lib.index a [13, 10] = -1 := by
  induction a with
  | nil => simp [Lib.index]
  | cons x a ih =>
    rw [List.mem_cons, not_or] at h
    have := ih h.2
    rw [Lib.index]
    have hp : ([13, 10] : List UInt8).isPrefixOf (x :: a) = false := by simp [List.isPrefixOf, h.1]
    rw [hp, this]
    simp
theorem lines_one (a : List UInt8) (h : (13 : UInt8) ∉ a) : linesOf a = [mkB a] := by
  unfold linesOf
  refine Lib.splitB_miss _ _ _ _ ?_
  show Lib.index (mkB a).data.toList _ = -1
  rw [mkB_data]
  exact index_none a h
theorem lines_cons (a b : List UInt8) (h : (13 : UInt8) ∉ a) : linesOf (a ++ 13 :: 10 :: b) = mkB a :: linesOf b := by
  have hi : Lib.indexB (mkB (a ++ 13 :: 10 :: b)) ⟨#[13, 10]⟩ = (a.length : Int) := by
    show Lib.index (mkB (a ++ 13 :: 10 :: b)).data.toList _ = _
    rw [mkB_data]
    exact index_crlf a b h
  have e2 : (mkB (a ++ 13 :: 10 :: b)).extract (a.length + (ByteArray.mk #[13, 10]).size) (mkB (a ++ 13 :: 10 :: b)).size = mkB b := by
    refine bytes_ext ?_
    rw [Lib.extract_eq, mkB_data, mkB_data, mkB_size]
    simp only [List.toList_toArray]
    have e3 : (a ++ 13 :: 10 :: b).drop (a.length + (ByteArray.mk #[13, 10]).size) = b := by
      rw [← List.drop_drop]
      simp
      rfl
    rw [e3]
    exact List.take_of_length_le (by simp [ByteArray.size]; omega)
  have e1 : (mkB (a ++ 13 :: 10 :: b)).extract 0 (a.length + 0) = mkB a := by
    refine bytes_ext ?_
    rw [Lib.extract_eq, mkB_data, mkB_data]
    simp
  unfold linesOf
  rw [Lib.countB_hit _ _ _ (by decide) hi, e2, Nat.add_comm, Lib.splitB_hit _ _ _ _ _ hi, e1, e2]

def xLine (n : Nat) : List UInt8 := [120, 58, 32] ++ signs n
theorem lines_long (n : Nat) : linesOf (headT ++ signs n) = [mkB [71, 69, 84, 32, 47, 32, 72, 84, 84, 80, 47, 49, 46, 49], mkB [104, 111, 115, 116, 58, 32, 97], mkB (xLine n)] := by
  have e : headT ++ signs n = [71, 69, 84, 32, 47, 32, 72, 84, 84, 80, 47, 49, 46, 49] ++ 13 :: 10 :: ([104, 111, 115, 116, 58, 32, 97] ++ 13 :: 10 :: xLine n) := by simp [headT, xLine]
  rw [e, lines_cons _ _ (by decide), lines_cons _ _ (by decide), lines_one]
  unfold xLine signs
  intro h
  rw [List.mem_append, List.mem_replicate] at h
  rcases h with h | h
  · revert h; decide
  · exact absurd h.2 (by decide)
theorem val_signs (n : Nat) : valB (signs n) = true := by
  induction n with
  | zero => rfl
  | succ n ih => show valB (118 :: signs n) = true; rw [valB_cons, ih]; rfl
theorem fld_x (n : Nat) : ∃ v, fldOf (mkB (xLine n)) = some (mkB [120], v) := by
  have hc : cutL (xLine n) = some ([120], 32 :: signs n) := rfl
  refine ⟨mkB (tr (32 :: signs n)), ?_⟩
  unfold fldOf
  rw [mkB_data, hc]
  simp only
  rw [valB_cons, val_signs]
  rfl
theorem parse_long_ok (n : Nat) : ∃ fs, parseF (linesOf (headT ++ signs n)) = ⟨mkB [71, 69, 84], mkB [47], fs, false, 0, 0⟩ := by
  obtain ⟨v, hv⟩ := fld_x n
  have h1 : firstOf (mkB [71, 69, 84, 32, 47, 32, 72, 84, 84, 80, 47, 49, 46, 49]) = some (mkB [71, 69, 84], mkB [47]) := by rfl
  have h2 : takeF [mkB [104, 111, 115, 116, 58, 32, 97], mkB (xLine n)] = some [(hostN, mkB [97]), (mkB [120], v)] := by
    have h3 : fldOf (mkB [104, 111, 115, 116, 58, 32, 97]) = some (hostN, mkB [97]) := by rfl
    simp [takeF, h3, hv]
  rw [lines_long]
  have hh : valsOf hostN [(hostN, mkB [97]), (mkB [120], v)] = [mkB [97]] := by rfl
  have hl : valsOf lengthN [(hostN, mkB [97]), (mkB [120], v)] = [] := by rfl
  have hc : valsOf codingN [(hostN, mkB [97]), (mkB [120], v)] = [] := by rfl
  have hn : valsOf connN [(hostN, mkB [97]), (mkB [120], v)] = [] := by rfl
  refine ⟨[(hostN, mkB [97]), (mkB [120], v)], ?_⟩
  rw [parse_ok _ _ ⟨by decide, by simp⟩ h1 h2 (by rw [hh]; rfl) (by rw [hl, hc]; rfl), hl, hc, hn]
  rfl

theorem ends_app (l : List UInt8) : endsB (l ++ [13, 10, 13, 10]) = true := by
  unfold endsB Lib.hasSuffix
  rw [List.isSuffixOf_iff_suffix]
  exact ⟨l, rfl⟩
theorem take_four (l : List UInt8) : (l ++ [13, 10, 13, 10]).take ((l ++ [13, 10, 13, 10]).length - 4) = l := by simp
theorem ends_two (l : List UInt8) (h : l.getLast? ≠ some 10) : endsB (l ++ [13, 10]) = false := by
  unfold endsB Lib.hasSuffix
  rw [Bool.eq_false_iff]
  intro h2
  rw [List.isSuffixOf_iff_suffix] at h2
  obtain ⟨t, ht⟩ := h2
  have e : t ++ [13, 10] ++ [13, 10] = l ++ [13, 10] := by rw [← ht]; simp
  have := List.append_inj_left' e rfl
  rw [← this] at h
  simp at h
theorem last_signs (n : Nat) : (headT ++ signs n).getLast? ≠ some 10 := by
  cases n with
  | zero => decide
  | succ n => rw [signs_snoc, ← List.append_assoc]; simp
theorem run_fits (n : Nat) (h : n + 32 ≤ 1000) : ∃ r, runC headC (signs n ++ [13, 10, 13, 10]) = (newC, [r]) := by
  obtain ⟨fs, hp⟩ := parse_long_ok n
  refine ⟨⟨mkB [71, 69, 84], mkB [47], fs, mkB [], false⟩, ?_⟩
  have hne : ∀ x : List UInt8, headT ++ signs n ++ x ≠ [13, 10] := fun x => by rw [List.append_assoc]; exact head_ne _
  rw [runC_app, run_signs n (by omega)]
  simp only [runC]
  rw [step_sign (headT ++ signs n) 13 (by decide) (crB_signs n) (hne _) (by rw [head_len]; omega)]
  simp only
  rw [step_lf (headT ++ signs n ++ [13]) (by rw [crB_app]; rfl) (by rw [List.append_assoc]; exact hne _) (by rw [List.length_append, head_len]; simp; omega) (by rw [List.append_assoc]; exact ends_two _ (last_signs n))]
  simp only
  rw [step_sign (headT ++ signs n ++ [13] ++ [10]) 13 (by decide) (by rw [crB_app]; rfl) (by rw [List.append_assoc, List.append_assoc]; exact hne _) (by rw [List.length_append, List.length_append, head_len]; simp; omega)]
  simp only
  have e4 : headT ++ signs n ++ [13] ++ [10] ++ [13] ++ [10] = (headT ++ signs n) ++ [13, 10, 13, 10] := by simp
  rw [step_end (headT ++ signs n ++ [13] ++ [10] ++ [13]) (by rw [crB_app]; rfl) (by rw [e4]; exact hne _) (by rw [List.length_append, List.length_append, List.length_append, head_len]; simp; omega) (by rw [e4]; exact ends_app _), e4]
  have e5 : endHeadC (headT ++ signs n ++ [13, 10, 13, 10]) = ⟨[], ⟨mkB [71, 69, 84], mkB [47], fs, emptyB, false⟩, some (newB 0), false, 0⟩ := by
    unfold endHeadC
    have e6 : (headT ++ signs n ++ [13, 10, 13, 10]).take ((headT ++ signs n ++ [13, 10, 13, 10]).length - 4) = headT ++ signs n := take_four _
    rw [e6, hp]
    rfl
  rw [e5]
  rfl
end Go.Proofs.YtkjlbddaglcooaaGreatDoor
