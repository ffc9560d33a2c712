/- The contracts of strings.TrimLeft and strings.Cut at a blank, and of table.next. -/
import Derived.Test.YtekjpcmobgdgpaaDoorPlains
import Derived.Test.YtekjpcmobgdgpaaDoorPtStr
namespace Go.Proofs.YtekjpcmobgdgpaaDoor
open Go.RowKit Pl

theorem ret_s {a b : ByteArray} (h : a = b) : Ending.returned (.string a) = .returned (.string b) := by rw [h]

theorem drop_one (s : ByteArray) (h : 0 < s.size) : s.data.toList = s[0] :: s.data.toList.drop 1 := by
  have : s.data.toList = s.data.toList.drop 0 := rfl
  rw [this, List.drop_eq_getElem_cons (by rw [data_len]; exact h)]
  rfl
theorem skip_step (s : ByteArray) (h : 0 < s.size) (hc : s[0] = 32) : skipL s.data.toList = skipL (s.extract 1 s.size).data.toList := by
  have e : (s.extract 1 s.size).data.toList = s.data.toList.drop 1 := tl_data s
  rw [e]
  conv => { lhs; rw [drop_one s h] }
  rw [skipL, List.dropWhile_cons, hc]
  rfl
theorem skip_stop (s : ByteArray) (h : 0 < s.size) (hc : s[0] ≠ 32) : skipL s.data.toList = s.data.toList := by
  conv => { lhs; rw [drop_one s h] }
  rw [skipL, List.dropWhile_cons, if_neg (by simpa using hc)]
  exact (drop_one s h).symm

theorem take_free (c : UInt8) (l r : List UInt8) (h : c ∉ l) : (l ++ c :: r).takeWhile (fun d => decide (d ≠ c)) = l ∧ (l ++ c :: r).dropWhile (fun d => decide (d ≠ c)) = c :: r := by
  induction l with
  | nil => simp
  | cons a l ih =>
    simp at h
    obtain ⟨i1, i2⟩ := ih h.2
    have ha : decide (a ≠ c) = true := by simp; exact fun e => h.1 e.symm
    rw [List.cons_append, List.takeWhile_cons, List.dropWhile_cons, if_pos ha, if_pos ha, i1, i2]
    exact ⟨rfl, rfl⟩
theorem all_free (c : UInt8) (l : List UInt8) (h : c ∉ l) : l.takeWhile (fun d => decide (d ≠ c)) = l ∧ l.dropWhile (fun d => decide (d ≠ c)) = [] := by
  induction l with
  | nil => simp
  | cons a l ih =>
    simp at h
    obtain ⟨i1, i2⟩ := ih h.2
    have ha : decide (a ≠ c) = true := by simp; exact fun e => h.1 e.symm
    rw [List.takeWhile_cons, List.dropWhile_cons, if_pos ha, if_pos ha, i1, i2]
    exact ⟨rfl, rfl⟩

def headL (l : List UInt8) : List UInt8 := l.takeWhile (fun c => decide (c ≠ 32))
def tailL (l : List UInt8) : List UInt8 := (l.dropWhile (fun c => decide (c ≠ 32))).drop 1
theorem word_idx (l : List UInt8) : (Lib.indexByte l 32 = -1 ∧ headL l = l ∧ tailL l = []) ∨ ∃ i : Nat, Lib.indexByte l 32 = i ∧ i < l.length ∧ headL l = l.take i ∧ tailL l = l.drop (i + 1) := by
  rcases idx_cases 32 l with ⟨h1, h2⟩ | ⟨i, h1, h2, h3, h4⟩
  · obtain ⟨e1, e2⟩ := all_free 32 l h2
    exact .inl ⟨h1, e1, by rw [tailL, e2]; rfl⟩
  · obtain ⟨e1, e2⟩ := take_free 32 (l.take i) (l.drop (i + 1)) h3
    rw [← h4] at e1 e2
    exact .inr ⟨i, h1, h2, e1, by rw [tailL, e2]; rfl⟩

theorem skip_len (l : List UInt8) : (skipL l).length ≤ l.length := (List.dropWhile_sublist _).length_le
theorem rest_len (l : List UInt8) : (restL l).length ≤ l.length := by
  refine Nat.le_trans ?_ (skip_len l)
  rw [restL, List.length_drop]
  exact Nat.le_trans (Nat.sub_le _ _) (List.dropWhile_sublist _).length_le
theorem word_len (l : List UInt8) : (wordL l).length ≤ l.length := Nat.le_trans (List.takeWhile_sublist _).length_le (skip_len l)

end Go.Proofs.YtekjpcmobgdgpaaDoor
