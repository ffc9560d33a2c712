/- TableBack's text, plainly: lines with blanks and empty lines between. -/
import Derived.Test.YtejncdhdkdhpmaaDoorTbLines
import Derived.Test.YtejncdhdkdhpmaaDoorTbSame
namespace Go.Proofs.YtejncdhdkdhpmaaDoor
open Go.RowKit Pl

/-- The lines: p blanks ahead, one more between at every other one, q behind. -/
def lsB (p q : Nat) : Nat → List Rt → List (List UInt8)
  | _, [] => []
  | k, r :: l => lineB p (k % 2) 0 q r :: [] :: lsB p q (k + 1) l
def textB (p q : Nat) (l : List Rt) : List UInt8 := ([[], bl 2] ++ lsB p q 0 l).flatMap (· ++ [10])
theorem ls_snoc (p q : Nat) : ∀ (l : List Rt) (k : Nat) (r : Rt), lsB p q k (l ++ [r]) = lsB p q k l ++ [lineB p ((k + l.length) % 2) 0 q r, []]
  | [], k, r => rfl
  | x :: l, k, r => by
    show lineB p (k % 2) 0 q x :: [] :: lsB p q (k + 1) (l ++ [r]) = _
    rw [ls_snoc p q l (k + 1) r]
    have e : k + 1 + l.length = k + (x :: l).length := by rw [List.length_cons]; omega
    rw [e]
    rfl
theorem text_nil (p q : Nat) : textB p q [] = [10, 32, 32, 10] := rfl
theorem text_snoc (p q : Nat) (l : List Rt) (r : Rt) : textB p q (l ++ [r]) = textB p q l ++ (lineB p (l.length % 2) 0 q r ++ [10, 10]) := by
  unfold textB
  rw [ls_snoc, Nat.zero_add, ← List.append_assoc, List.flatMap_append]
  simp
theorem text_take (p q : Nat) (l : List Rt) (k : Nat) (h : k < l.length) : textB p q (l.take (k + 1)) = textB p q (l.take k) ++ (lineB p (k % 2) 0 q l[k] ++ [10, 10]) := by
  rw [List.take_succ_eq_append_getElem h, text_snoc, List.length_take, Nat.min_eq_left (by omega)]
theorem ls_lines (p q : Nat) : ∀ (l : List Rt) (k : Nat), (∀ r ∈ l, Wd r.m ∧ Wd r.p ∧ Wd r.h) → linesL (lsB p q k l) = some l ∧ ∀ x ∈ lsB p q k l, (10 : UInt8) ∉ x
  | [], k, _ => ⟨rfl, fun x hx => nomatch hx⟩
  | r :: l, k, h => by
    have h1 := h r (by simp)
    obtain ⟨i1, i2⟩ := ls_lines p q l (k + 1) (fun x hx => h x (by simp [hx]))
    constructor
    · show linesL (lineB p (k % 2) 0 q r :: [] :: lsB p q (k + 1) l) = _
      rw [linesL, line_bl _ _ _ _ r h1.1 h1.2.1 h1.2.2]
      show (linesL (lsB p q (k + 1) l)).map _ = _
      rw [i1]
      rfl
    · intro x hx
      rcases List.mem_cons.1 hx with e | hx
      · subst e; exact line_free _ _ _ _ r h1.1 h1.2.1 h1.2.2
      · rcases List.mem_cons.1 hx with e | hx
        · subst e; simp
        · exact i2 x hx
theorem text_parse (p q : Nat) {l : List Rt} (h : checkL l = 0) : parseL (textB p q l) = (l, 0) := by
  obtain ⟨i1, i2⟩ := ls_lines p q l 0 (check_clean h)
  refine parse_of ?_ h
  unfold textB
  rw [words_lines]
  · have e1 : linesL [[], bl 2] = some [] := rfl
    have := lines_app _ [[]] _ [] (lines_app _ _ _ _ e1 i1) rfl
    rwa [List.nil_append, List.append_nil] at this
  · intro x hx
    rcases List.mem_append.1 hx with hx | hx
    · simp at hx
      rcases hx with e | e
      · subst e; simp
      · subst e; exact bl_free 2
    · exact i2 x hx
theorem bl_len (n : Nat) : (bl n).length = n := List.length_replicate
theorem lineB_len (a b c d : Nat) (r : Rt) : (lineB a b c d r).length = a + b + c + d + 2 + sizeR r := by
  unfold lineB sizeR
  simp only [List.length_append, List.length_cons, bl_len]
  omega
theorem text_len (p q : Nat) (hp : p ≤ 1) (hq : q ≤ 1) (l : List Rt) : ∀ k, k ≤ l.length → (textB p q (l.take k)).length ≤ 4 + sizeL (l.take k) + 7 * k
  | 0, _ => by simp [text_nil]
  | k + 1, h => by
    have := text_len p q hp hq l k (by omega)
    rw [text_take p q l k (by omega), size_snoc l k (by omega), List.length_append, List.length_append, lineB_len]
    simp only [List.length_cons, List.length_nil]
    omega
theorem lineB_parts (a b d : Nat) (A B D : ByteArray) (hA : A.data.toList = bl a) (hB : B.data.toList = 32 :: bl b) (hD : D.data.toList = bl d) (m p h T : ByteArray) (t : List UInt8) (hT : T.data.toList = t) (r : Rt) (hr : r = ⟨m.data.toList, p.data.toList, h.data.toList⟩) :
    (T ++ (A ++ m ++ B ++ p ++ ⟨#[32]⟩ ++ h ++ D ++ ⟨#[10, 10]⟩) : ByteArray).data.toList = t ++ (lineB a b 0 d r ++ [10, 10]) := by
  subst hr
  simp only [ByteArray.data_append, Array.toList_append, hA, hB, hD, hT, lineB, List.append_assoc, List.cons_append, List.nil_append]
  rfl

end Go.Proofs.YtejncdhdkdhpmaaDoor
