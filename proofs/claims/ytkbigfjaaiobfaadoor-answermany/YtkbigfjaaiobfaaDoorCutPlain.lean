/- A line parted at its first colon, plainly; no Go. -/
import Derived.Test.YtkbigfjaaiobfaaDoorPlain
import Derived.Lib.Bytealg
namespace Go.Proofs.YtkbigfjaaiobfaaDoor.Pl

def cutL : List UInt8 → Option (List UInt8 × List UInt8)
  | [] => none
  | b :: l => if b = 58 then some ([], l) else (cutL l).map fun p => (b :: p.1, p.2)

theorem cutL_cases (l : List UInt8) : (Lib.indexByte l 58 = -1 ∧ cutL l = none) ∨ ∃ i : Nat, Lib.indexByte l 58 = i ∧ i < l.length ∧ cutL l = some (l.take i, l.drop (i + 1)) := by
  induction l with
  | nil => exact .inl ⟨rfl, rfl⟩
  | cons b l ih =>
    rw [Lib.indexByte, cutL]
    by_cases hb : b = 58
    · subst hb
      exact .inr ⟨0, by simp, by simp, by simp⟩
    · have hb2 : (b == 58) = false := by simpa using hb
      rw [hb2, if_neg hb]
      rcases ih with ⟨h1, h2⟩ | ⟨i, h1, h2, h3⟩
      · exact .inl ⟨by rw [h1]; rfl, by rw [h2]; rfl⟩
      · refine .inr ⟨i + 1, ?_, by simp; omega, by rw [h3]; rfl⟩
        have h4 : (Lib.indexByte l 58 == -1) = false := by rw [beq_eq_false_iff_ne, h1]; omega
        rw [h4, h1]; simp

theorem cutL_app (a b : List UInt8) (h : 58 ∉ a) : cutL (a ++ 58 :: b) = some (a, b) := by
  induction a with
  | nil => simp [cutL]
  | cons c a ih =>
    simp at h
    rw [List.cons_append, cutL, if_neg (fun e => h.1 e.symm), ih h.2]
    rfl

end Go.Proofs.YtkbigfjaaiobfaaDoor.Pl
