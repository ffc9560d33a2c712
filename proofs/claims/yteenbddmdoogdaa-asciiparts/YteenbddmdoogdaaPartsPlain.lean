/- How many words there are, and how long they are together, plainly; no Go. -/
import Derived.Test.YteenbddmdoogdaaWordsPlain
namespace Go.Proofs.Yteenbddmdoogdaa.Pl

def lens (ws : List (List UInt8)) : Nat := (ws.map List.length).sum
def cntTo (b : UInt8) (s : ByteArray) (k : Nat) : Nat := (s.data.toList.take k).count b

theorem wordsGo_length (b : UInt8) : ∀ (l cur : List UInt8), (wordsGo b cur l).length = l.count b + 1
  | [], cur => by simp [wordsGo]
  | c :: l, cur => by
    rw [wordsGo]
    split
    · rename_i h
      rw [List.length_cons, wordsGo_length b l, h, List.count_cons_self]
    · rename_i h
      rw [wordsGo_length b l, List.count_cons_of_ne h]
theorem wordsGo_lens (b : UInt8) : ∀ (l cur : List UInt8), lens (wordsGo b cur l) + l.count b = cur.length + l.length
  | [], cur => by simp [wordsGo, lens]
  | c :: l, cur => by
    rw [wordsGo]
    split
    · rename_i h
      have := wordsGo_lens b l []
      rw [h, List.count_cons_self]
      simp [lens] at this ⊢
      omega
    · rename_i h
      have := wordsGo_lens b l (cur ++ [c])
      rw [List.count_cons_of_ne h]
      simp at this ⊢
      omega
theorem words_length (b : UInt8) (s : ByteArray) : (wordsB b s.data.toList).length = cntTo b s s.size + 1 := by
  rw [wordsB, wordsGo_length, cntTo, take_all s s.size (Nat.le_refl _)]
theorem words_lens (b : UInt8) (s : ByteArray) : lens (wordsB b s.data.toList) + cntTo b s s.size = s.size := by
  have := wordsGo_lens b s.data.toList []
  rw [cntTo, take_all s s.size (Nat.le_refl _)]
  simpa [wordsB] using this
theorem cnt_zero (b : UInt8) (s : ByteArray) : cntTo b s 0 = 0 := by simp [cntTo]
theorem cnt_hit (b : UInt8) (s : ByteArray) (k : Nat) (h : k < s.size) (e : s[k] = b) : cntTo b s (k + 1) = cntTo b s k + 1 := by
  rw [cntTo, take_snoc s k h, List.count_append, e]; simp [cntTo]
theorem cnt_miss (b : UInt8) (s : ByteArray) (k : Nat) (h : k < s.size) (e : s[k] ≠ b) : cntTo b s (k + 1) = cntTo b s k := by
  rw [cntTo, take_snoc s k h, List.count_append]
  have : List.count b [s[k]] = 0 := by rw [List.count_eq_zero]; simp; exact fun h => e h.symm
  rw [this]; rfl
theorem cnt_le (b : UInt8) (s : ByteArray) (k : Nat) : cntTo b s k ≤ k := by
  rw [cntTo]; exact Nat.le_trans List.count_le_length (by rw [List.length_take]; omega)

theorem lens_append (a b : List (List UInt8)) : lens (a ++ b) = lens a + lens b := by simp [lens]
def lensTo (ws : List (List UInt8)) (j : Nat) : Nat := lens (ws.take j)
theorem lensTo_zero (ws : List (List UInt8)) : lensTo ws 0 = 0 := rfl
theorem lensTo_step (ws : List (List UInt8)) (j : Nat) (h : j < ws.length) : lensTo ws (j + 1) = lensTo ws j + (ws[j]).length := by
  rw [lensTo, lensTo, List.take_succ_eq_append_getElem h, lens_append]; simp [lens]
theorem lensTo_all (ws : List (List UInt8)) : lensTo ws ws.length = lens ws := by rw [lensTo, List.take_length]
theorem lensTo_le (ws : List (List UInt8)) (j : Nat) : lensTo ws j ≤ lens ws := by
  have := lens_append (ws.take j) (ws.drop j)
  rw [List.take_append_drop] at this
  rw [lensTo]; omega

end Go.Proofs.Yteenbddmdoogdaa.Pl
