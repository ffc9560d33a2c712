/- First lines of three words, plainly; no Go. -/
import Derived.Test.YtihdjgjceadooaaDoorLenPlain
namespace Go.Proofs.YtihdjgjceadooaaDoor
open Pl

theorem wordsGo_free (b : UInt8) (l : List UInt8) : ∀ cur, b ∉ l → wordsGo b cur l = [cur ++ l] := by
  induction l with
  | nil => intro cur _; simp [wordsGo]
  | cons c l ih =>
    intro cur h
    simp at h
    rw [wordsGo, if_neg (fun e => h.1 e.symm), ih _ h.2]; simp
theorem wordsGo_part (b : UInt8) (l r : List UInt8) : ∀ cur, b ∉ l → wordsGo b cur (l ++ b :: r) = (cur ++ l) :: wordsGo b [] r := by
  induction l with
  | nil => intro cur _; simp [wordsGo]
  | cons c l ih =>
    intro cur h
    simp at h
    rw [List.cons_append, wordsGo, if_neg (fun e => h.1 e.symm), ih _ h.2]; simp
theorem words_three (b : UInt8) (x y z : List UInt8) (hx : b ∉ x) (hy : b ∉ y) (hz : b ∉ z) : wordsB b (x ++ b :: (y ++ b :: z)) = [x, y, z] := by
  rw [wordsB, wordsGo_part b x _ [] hx, wordsGo_part b y _ [] hy, wordsGo_free b z [] hz]; simp
theorem slash_nil : slashB [] = false := rfl
theorem slash_cons (c : UInt8) (l : List UInt8) : slashB (c :: l) = (c == 47) := by
  unfold slashB Lib.hasPrefix
  simp [List.isPrefixOf, Bool.beq_comm]

theorem parse_first (L m t v : ByteArray) (hL : L.data.toList = m.data.toList ++ 32 :: (t.data.toList ++ 32 :: v.data.toList)) (hm : 32 ∉ m.data.toList) (ht : 32 ∉ t.data.toList) (hv : 32 ∉ v.data.toList) (hs : L.size ≤ 200) :
    parseF [L, hostL] = if v.data.toList = httpB ∧ tokB m.data.toList = true ∧ slashB t.data.toList = true ∧ valB t.data.toList = true then ⟨m, t, [(hostN, aS)], false, 0, 0⟩ else badH 400 := by
  have hw := words_three 32 _ _ _ hm ht hv
  rw [← hL] at hw
  have hF := first_three L m t v hw
  have hT : takeF [hostL] = some [(hostN, aS)] := by simp [takeF, fld_host]
  by_cases hc : v.data.toList = httpB ∧ tokB m.data.toList = true ∧ slashB t.data.toList = true ∧ valB t.data.toList = true
  · rw [if_pos hc] at hF ⊢
    rw [parse_ok L _ ⟨hs, by simp⟩ hF hT rfl rfl]
    rfl
  · rw [if_neg hc] at hF ⊢
    exact parse_f L _ ⟨hs, by simp⟩ hF

end Go.Proofs.YtihdjgjceadooaaDoor
