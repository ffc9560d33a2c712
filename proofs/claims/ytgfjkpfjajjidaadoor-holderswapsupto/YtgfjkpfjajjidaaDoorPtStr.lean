/- The contracts of strings.HasPrefix, CutPrefix, Cut and Contains, at one byte. -/
import Derived.Test.YtgfjkpfjajjidaaDoorPtBase
import Derived.Lib.IndexLaws
import Derived.Laws.Strings3
namespace Go.Proofs.YtgfjkpfjajjidaaDoor
open Go.RowKit Pl

def hd (s : ByteArray) (c : UInt8) : Bool := decide (s.data.toList.head? = some c)

theorem hd_ext (s : ByteArray) (c : UInt8) (h : 0 < s.size) : ((s.extract 0 1).toList == [c]) = hd s c := by
  rw [eq_list, ext_data, hd]
  cases hl : s.data.toList with
  | nil => rw [← data_len, hl] at h; simp at h
  | cons d l => simp

set_option maxHeartbeats 1000000 in
theorem pre_low (s : ByteArray) (c : UInt8) (w : World) : Calls Tryd.prog 75 #[.string s, .string ⟨#[c]⟩] w fun e w' => e = .returned (.bool (hd s c)) ∧ w = w' := by
  by_cases h : 0 < s.size
  · have he := hd_ext s c h
    generalize hd s c = r at *
    have ht : decide ((1 : Int) ≤ (s.size : Int)) = true := by simp; omega
    go_enter Tryd.func75, Tryd.ntmps75
    go_wp2
    go_ret
    exact ⟨rfl, rfl⟩
  · have he : hd s c = false := by
      have : s.data.toList = [] := by rw [← List.length_eq_zero_iff, data_len]; omega
      rw [hd, this]; rfl
    have ht : decide ((1 : Int) ≤ (s.size : Int)) = false := by simp; omega
    rw [he]
    go_enter Tryd.func75, Tryd.ntmps75
    go_wp2
    go_ret
    exact ⟨rfl, rfl⟩

theorem pre_any (s : ByteArray) (c : UInt8) (w : World) : Calls Tryd.prog 52 #[.string s, .string ⟨#[c]⟩] w fun e w' => e = .returned (.bool (hd s c)) ∧ w = w' := by
  go_enter Tryd.func52, Tryd.ntmps52
  go_wp2_with (go_at_call 75; refine (pre_low _ _ _).mono ?_; rintro e w' ⟨rfl, rfl⟩)
  go_ret
  exact ⟨rfl, rfl⟩

def tl (s : ByteArray) : ByteArray := s.extract 1 s.size
theorem tl_data (s : ByteArray) : (tl s).data.toList = s.data.toList.drop 1 := by
  rw [tl, ext_data, List.take_of_length_le]
  simp

theorem pre_size {s : ByteArray} {c : UInt8} (h : hd s c = true) : 0 < s.size := by
  rw [← data_len]
  cases hl : s.data.toList with
  | nil => rw [hd, hl] at h; cases h
  | cons d l => simp

set_option maxHeartbeats 1000000 in
theorem cutp_low (s : ByteArray) (c : UInt8) (w : World) (hs : s.size ≤ 1000000000000) : Calls Tryd.prog 72 #[.string s, .string ⟨#[c]⟩] w fun e w' => e = .returned (.tuple #[.string (if hd s c then tl s else s), .bool (hd s c)]) ∧ w = w' := by
  have HC := Lib.hid (fun w => pre_low s c w)
  cases hh : hd s c with
  | true =>
    have hp := pre_size hh
    rw [hh] at HC
    go_enter Tryd.func72, Tryd.ntmps72
    go_wp2_with (go_at_call 75; refine (HC.out _).mono ?_; rintro e w' ⟨rfl, rfl⟩)
    go_ret2
    exact ⟨rfl, rfl⟩
  | false =>
    rw [hh] at HC
    go_enter Tryd.func72, Tryd.ntmps72
    go_wp2_with (go_at_call 75; refine (HC.out _).mono ?_; rintro e w' ⟨rfl, rfl⟩)
    go_ret2
    exact ⟨rfl, rfl⟩

theorem cutp_any (s : ByteArray) (c : UInt8) (w : World) (hs : s.size ≤ 1000000000000) : Calls Tryd.prog 44 #[.string s, .string ⟨#[c]⟩] w fun e w' => e = .returned (.tuple #[.string (if hd s c then tl s else s), .bool (hd s c)]) ∧ w = w' := by
  have HC := Lib.hid (fun w => cutp_low s c w hs)
  generalize (if hd s c then tl s else s) = r at *
  generalize hd s c = b at *
  go_enter Tryd.func44, Tryd.ntmps44
  go_wp2_with (go_at_call 72; refine (HC.out _).mono ?_; rintro e w' ⟨rfl, rfl⟩)
  go_ret2
  exact ⟨rfl, rfl⟩

set_option maxRecDepth 100000 in
theorem idxb_any (s : ByteArray) (c : Int) (w : World) : Calls Tryd.prog 94 #[.string s, .int .u8 c] w fun e w' => e = .returned (.int .i64 (Lib.indexByte s.data.toList c.toNat.toUInt8)) ∧ w = w' := by
  go_enter Tryd.func94, Tryd.ntmps94
  go_wp2
  rw [run_callFunc_extern Tryd.func102 (by kernel_rfl) (by kernel_rfl) (by kernel_rfl) (e := Extern.BytealgIndexByte.indexByte) (by kernel_rfl), Lib.run_indexByteString]
  simp only [Result.andThen]
  rw [Oper.upon_value]
  go_wp2
  go_ret
  exact ⟨rfl, rfl⟩

set_option maxHeartbeats 2000000 in
set_option maxRecDepth 100000 in
theorem index_one (s : ByteArray) (c : UInt8) (w : World) : Calls Tryd.prog 86 #[.string s, .string ⟨#[c]⟩] w fun e w' => e = .returned (.int .i64 (Lib.indexByte s.data.toList c)) ∧ w = w' := by
  go_enter Tryd.func86, Tryd.ntmps86
  go_wp2_with (go_at_call 94; refine (idxb_any _ _ _).mono ?_; rintro e w' ⟨rfl, rfl⟩)
  · have h : ([c] == s.toList) = true := by assumption
    go_ret
    refine ⟨?_, rfl⟩
    have e : s.data.toList = [c] := by rw [← Lib.toList_data]; exact (beq_iff_eq.1 h).symm
    rw [e]
    simp [Lib.indexByte]
  · go_ret
    exact ⟨rfl, rfl⟩

theorem idx_cases (c : UInt8) (l : List UInt8) : (Lib.indexByte l c = -1 ∧ c ∉ l) ∨ ∃ i : Nat, Lib.indexByte l c = i ∧ i < l.length ∧ c ∉ l.take i ∧ l = l.take i ++ c :: l.drop (i + 1) := by
  induction l with
  | nil => exact .inl ⟨rfl, by simp⟩
  | cons b l ih =>
    rw [Lib.indexByte]
    by_cases hb : b = c
    · subst hb
      exact .inr ⟨0, by simp, by simp, by simp, by simp⟩
    · have hb2 : (b == c) = false := by simpa using hb
      rw [hb2]
      rcases ih with ⟨h1, h2⟩ | ⟨i, h1, h2, h3, h4⟩
      · exact .inl ⟨by rw [h1]; rfl, by simp [h2]; exact fun e => hb e.symm⟩
      · refine .inr ⟨i + 1, ?_, by simp; omega, ?_, ?_⟩
        · have h5 : (Lib.indexByte l c == -1) = false := by rw [beq_eq_false_iff_ne, h1]; omega
          rw [h5, h1]; simp
        · simp [h3]; exact fun e => hb e.symm
        · simpa using h4

theorem contains_idx (c : UInt8) (l : List UInt8) : decide (0 ≤ Lib.indexByte l c) = l.contains c := by
  rw [Bool.eq_iff_iff]
  simp only [decide_eq_true_eq, List.contains_iff_mem]
  rcases idx_cases c l with ⟨h1, h2⟩ | ⟨i, h1, _, _, h4⟩
  · rw [h1]; exact ⟨fun h => absurd h (by decide), fun h => absurd h h2⟩
  · rw [h1]; exact ⟨fun _ => by rw [h4]; simp, fun _ => by omega⟩

theorem indexs_one (s : ByteArray) (c : UInt8) (w : World) : Calls Tryd.prog 74 #[.string s, .string ⟨#[c]⟩] w fun e w' => e = .returned (.int .i64 (Lib.indexByte s.data.toList c)) ∧ w = w' := by
  go_enter Tryd.func74, Tryd.ntmps74
  go_wp2_with (go_at_call 86; refine (index_one _ _ _).mono ?_; rintro e w' ⟨rfl, rfl⟩)
  go_ret
  exact ⟨rfl, rfl⟩

theorem cont_any (s : ByteArray) (c : UInt8) (w : World) : Calls Tryd.prog 47 #[.string s, .string ⟨#[c]⟩] w fun e w' => e = .returned (.bool (s.data.toList.contains c)) ∧ w = w' := by
  have hc := fun w => indexs_one s c w
  have hk := contains_idx c s.data.toList
  generalize s.data.toList.contains c = r at *
  generalize Lib.indexByte s.data.toList c = i at *
  have HC := Lib.hid hc
  clear hc
  go_enter Tryd.func47, Tryd.ntmps47
  go_wp2_with (go_at_call 74; refine (HC.out _).mono ?_; rintro e w' ⟨rfl, rfl⟩)
  go_ret
  exact ⟨rfl, rfl⟩

theorem ahead_idx (l : List UInt8) : (Lib.indexByte l 63 = -1 ∧ aheadL l = l) ∨ ∃ i : Nat, Lib.indexByte l 63 = i ∧ i < l.length ∧ aheadL l = l.take i := by
  rcases idx_cases 63 l with ⟨h1, h2⟩ | ⟨i, h1, h2, h3, h4⟩
  · exact .inl ⟨h1, ahead_free l h2⟩
  · exact .inr ⟨i, h1, h2, by conv => { lhs; rw [h4] }; exact ahead_app _ _ h3⟩

end Go.Proofs.YtgfjkpfjajjidaaDoor
