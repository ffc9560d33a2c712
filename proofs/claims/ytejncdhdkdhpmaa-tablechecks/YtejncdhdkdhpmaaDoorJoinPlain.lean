/- Words put together again are the text, plainly; no Go. -/
import Derived.Test.YtejncdhdkdhpmaaDoorWordsPlain
namespace Go.Proofs.YtejncdhdkdhpmaaDoor.Pl

def joinW (b : UInt8) (ws : List (List UInt8)) : List UInt8 := ((ws.map (b :: ·)).flatten).drop 1
def joinTo (b : UInt8) (ws : List (List UInt8)) (j : Nat) : List UInt8 := joinW b (ws.take j)

theorem flat_wordsGo (b : UInt8) : ∀ (l cur : List UInt8), ((wordsGo b cur l).map (b :: ·)).flatten = b :: cur ++ l
  | [], cur => by simp [wordsGo]
  | c :: l, cur => by
    rw [wordsGo]
    split
    · rename_i h
      rw [List.map_cons, List.flatten_cons, flat_wordsGo b l, h]; simp
    · rw [flat_wordsGo b l]; simp
theorem join_words (b : UInt8) (l : List UInt8) : joinW b (wordsB b l) = l := by
  rw [joinW, wordsB, flat_wordsGo]; simp
theorem wordsGo_free (b : UInt8) : ∀ (l cur : List UInt8), b ∉ cur → ∀ x ∈ wordsGo b cur l, b ∉ x
  | [], cur => by simp [wordsGo]
  | c :: l, cur => by
    intro hc x hx
    rw [wordsGo] at hx
    split at hx
    · rw [List.mem_cons] at hx
      rcases hx with rfl | hx
      · exact hc
      · exact wordsGo_free b l [] (by simp) x hx
    · rename_i h
      exact wordsGo_free b l (cur ++ [c]) (by simp [hc]; exact fun e => h e.symm) x hx
theorem words_free (b : UInt8) (l : List UInt8) (j : Nat) (h : j < (wordsB b l).length) : b ∉ (wordsB b l)[j] := wordsGo_free b l [] (by simp) _ (List.getElem_mem h)
theorem words_pos (b : UInt8) (l : List UInt8) : 0 < (wordsB b l).length := by
  have : ∀ (l cur : List UInt8), 0 < (wordsGo b cur l).length := by
    intro l
    induction l with
    | nil => intro cur; simp [wordsGo]
    | cons c l ih =>
      intro cur
      rw [wordsGo]
      split
      · simp
      · exact ih _
  exact this l []
theorem joinTo_zero (b : UInt8) (ws : List (List UInt8)) : joinTo b ws 0 = [] := rfl
theorem joinTo_first (b : UInt8) (ws : List (List UInt8)) (h : 0 < ws.length) : joinTo b ws 1 = ws[0] := by
  rw [joinTo, joinW, List.take_succ_eq_append_getElem h]; simp
theorem joinTo_step (b : UInt8) (ws : List (List UInt8)) (j : Nat) (h : j < ws.length) (hj : 0 < j) : joinTo b ws (j + 1) = joinTo b ws j ++ [b] ++ ws[j] := by
  have hne : 1 ≤ ((ws.take j).map (b :: ·)).flatten.length := by
    cases ws with
    | nil => simp at h
    | cons a ws =>
      cases j with
      | zero => omega
      | succ j => simp
  rw [joinTo, joinW, List.take_succ_eq_append_getElem h, List.map_append, List.flatten_append, List.drop_append_of_le_length hne]
  simp [joinTo, joinW]
theorem joinTo_all (b : UInt8) (ws : List (List UInt8)) : joinTo b ws ws.length = joinW b ws := by rw [joinTo, List.take_length]
theorem joinTo_len (b : UInt8) (ws : List (List UInt8)) (j : Nat) : (joinTo b ws j).length ≤ (joinW b ws).length := by
  have h : ((ws.map (b :: ·)).flatten).length = (((ws.take j).map (b :: ·)).flatten).length + (((ws.drop j).map (b :: ·)).flatten).length := by
    rw [← List.length_append, ← List.flatten_append, ← List.map_append, List.take_append_drop]
  rw [joinTo, joinW, joinW, List.length_drop, List.length_drop]
  omega

end Go.Proofs.YtejncdhdkdhpmaaDoor.Pl
