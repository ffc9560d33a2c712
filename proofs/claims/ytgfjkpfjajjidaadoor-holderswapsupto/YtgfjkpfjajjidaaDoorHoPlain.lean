/- A table of routes that counts, plainly. -/
import Derived.Test.YtgfjkpfjajjidaaDoorTbFit
import Derived.Test.YtgfjkpfjajjidaaDoorLws
namespace Go.Proofs.YtgfjkpfjajjidaaDoor
open Go.RowKit Pl

theorem parse_small (s : List UInt8) : (parseL s).1.length ≤ s.length + 1 ∧ ∀ r ∈ (parseL s).1, r.m.length ≤ s.length ∧ r.p.length ≤ s.length ∧ r.h.length ≤ s.length := by
  unfold parseL
  cases h : linesL (wordsB 10 s) with
  | none => simp
  | some l =>
    simp only
    split
    · obtain ⟨h1, h2⟩ := lines_small _ _ h
      have h3 := words_many 10 s
      exact ⟨by show l.length ≤ _; omega, h2 s.length (words_small 10 s)⟩
    · simp
theorem parse_check (s : List UInt8) : (parseL s).2 = 0 ∧ checkL (parseL s).1 = 0 ∨ (parseL s).1 = [] ∧ ((parseL s).2 = 1 ∨ (parseL s).2 = 2 ∨ (parseL s).2 = 3) := by
  unfold parseL
  cases linesL (wordsB 10 s) with
  | none => exact .inr ⟨rfl, .inl rfl⟩
  | some l =>
    simp only
    by_cases h : checkL l = 0
    · rw [if_pos h]; exact .inl ⟨rfl, h⟩
    · rw [if_neg h]
      refine .inr ⟨rfl, ?_⟩
      rcases check_cases l with e | e
      · exact absurd e h
      · exact e

/-- The routes that may stand beside one another, with patterns that are not too long. -/
theorem law_check {l : List Rt} (h : checkL l = 0) (hp : ∀ r ∈ l, r.p.length ≤ 10000) : Law l :=
  ⟨(check_zero h).2.1, check_good h, check_apart h, fun r hr => by
    have h1 := List.all_eq_true.1 (check_zero h).1 r hr
    simp only [rightL, Bool.and_eq_true] at h1
    exact ⟨h1.1.1, hp r hr⟩⟩
theorem law_nil : Law [] := law_check (by decide +kernel) (fun _ h => by cases h)
theorem law_parse (s : List UInt8) (hs : s.length ≤ 10000) (h : (parseL s).2 = 0) : Law (parseL s).1 := by
  rcases parse_check s with ⟨_, h2⟩ | ⟨h2, _⟩
  · exact law_check h2 fun r hr => by have := ((parse_small s).2 r hr).2.1; omega
  · rw [h2]; exact law_nil
/-- What a holder begins with. -/
def newL (l : List Rt) : List Rt := if checkL l = 0 then l else []
theorem law_new (l : List Rt) (hp : ∀ r ∈ l, r.p.length ≤ 10000) : Law (newL l) := by
  unfold newL
  split
  · next h => exact law_check h hp
  · exact law_nil
/-- What counts behind a text. -/
def swapL (s : List UInt8) (l : List Rt) : List Rt := if (parseL s).2 = 0 then (parseL s).1 else l
def swapV (s : List UInt8) (k : Nat) : Nat := if (parseL s).2 = 0 then k + 1 else k
def swapN (s : List UInt8) (k : Nat) : Nat := if (parseL s).2 = 0 then k + 1 else 0
theorem law_swap (s : List UInt8) (l : List Rt) (hs : s.length ≤ 10000) (hl : Law l) : Law (swapL s l) := by
  unfold swapL
  split
  · next h => exact law_parse s hs h
  · exact hl
def firstR : List Rt := [⟨[71, 69, 84], [47, 104, 101, 97, 108, 116, 104], [104, 101, 97, 108, 116, 104]⟩, ⟨[80, 79, 83, 84], [47, 97, 100, 109, 105, 110, 47, 114, 111, 117, 116, 101, 115], [114, 101, 108, 111, 97, 100]⟩, ⟨[80, 79, 83, 84], [47, 97, 100, 109, 105, 110, 47, 115, 116, 111, 112], [115, 104, 117, 116, 100, 111, 119, 110]⟩, ⟨[71, 69, 84], [47, 107, 118, 47, 58, 107, 101, 121], [103, 101, 116]⟩, ⟨[80, 85, 84], [47, 107, 118, 47, 58, 107, 101, 121], [112, 117, 116]⟩, ⟨[68, 69, 76, 69, 84, 69], [47, 107, 118, 47, 58, 107, 101, 121], [100, 101, 108, 101, 116, 101]⟩, ⟨[71, 69, 84], [47, 108, 105, 115, 116, 47, 42, 112, 114, 101, 102, 105, 120], [108, 105, 115, 116]⟩, ⟨[71, 69, 84], [47, 119, 97, 108, 107, 47, 58, 109, 111, 118, 101, 115], [119, 97, 108, 107]⟩]
theorem first_check : checkL firstR = 0 := by decide +kernel
theorem first_short : ∀ r ∈ firstR, r.p.length ≤ 10000 := by decide +kernel
theorem first_law : Law firstR := law_check first_check first_short
theorem first_new : newL firstR = firstR := if_pos first_check
end Go.Proofs.YtgfjkpfjajjidaaDoor
