/- Texts of requests by their seeds, plainly: what is cut of them. No Go. -/
import Derived.Test.YtkjlbddaglcooaaGreatDoorLong
namespace Go.Proofs.YtkjlbddaglcooaaGreatDoor
open Pl

/-- The methods of the seeds. -/
def methodT : Nat → List UInt8
  | 0 => [71, 69, 84]
  | 1 => [80, 85, 84]
  | 2 => [80, 79, 83, 84]
  | 3 => [68, 69, 76, 69, 84, 69]
  | 4 => [71, 69, 84]
  | _ => [72, 69, 65, 68]
/-- Their targets. -/
def targetT : Nat → List UInt8
  | 0 => [47, 104, 101, 97, 108, 116, 104]
  | 1 => [47, 107, 118, 47, 97]
  | 2 => [47, 107, 118, 47, 98]
  | 3 => [47, 107, 118, 47, 99, 37, 50, 48, 100]
  | 4 => [47, 108, 105, 115, 116, 47]
  | 5 => [47, 108, 105, 115, 116, 47, 97]
  | 6 => [47, 119, 97, 108, 107, 47, 70, 76, 70]
  | 7 => [47, 119, 97, 108, 107, 47, 120]
  | 8 => [47, 97, 100, 109, 105, 110, 47, 114, 111, 117, 116, 101, 115]
  | 9 => [47, 97, 100, 109, 105, 110, 47, 115, 116, 111, 112]
  | 10 => [47, 110, 111, 112, 101]
  | 11 => [47, 107, 118]
  | 12 => [47, 107, 118, 47, 97]
  | 13 => [47, 107, 118, 47, 98, 63, 120]
  | 14 => [47, 107, 118, 47, 37, 122, 122]
  | _ => [47]
/-- Their bodies. -/
def bodyT : Nat → List UInt8
  | 0 => []
  | 1 => [111, 110, 101]
  | 2 => [116, 119, 111]
  | 3 => [71, 69, 84, 32, 47, 104, 101, 97, 108, 116, 104, 32, 104, 101, 97, 108, 116, 104, 10, 80, 85, 84, 32, 47, 107, 118, 47, 58, 107, 32, 112, 117, 116, 10, 71, 69, 84, 32, 47, 107, 118, 47, 58, 107, 32, 103, 101, 116, 10, 80, 79, 83, 84, 32, 47, 97, 100, 109, 105, 110, 47, 114, 111, 117, 116, 101, 115, 32, 114, 101, 108, 111, 97, 100, 10]
  | 4 => [71, 69, 84, 32, 47, 97, 47, 58, 120, 32, 103, 101, 116, 10, 71, 69, 84, 32, 47, 97, 47, 58, 121, 32, 112, 117, 116, 10]
  | 5 => [106, 117, 110, 107]
  | 6 => []
  | _ => [80, 79, 83, 84, 32, 47, 97, 100, 109, 105, 110, 47, 114, 111, 117, 116, 101, 115, 32, 114, 101, 108, 111, 97, 100, 10, 80, 79, 83, 84, 32, 47, 97, 100, 109, 105, 110, 47, 115, 116, 111, 112, 32, 115, 104, 117, 116, 100, 111, 119, 110, 10, 71, 69, 84, 32, 47, 107, 118, 47, 58, 107, 101, 121, 32, 103, 101, 116, 10, 71, 69, 84, 32, 47, 42, 97, 108, 108, 32, 108, 105, 115, 116, 10, 80, 85, 84, 32, 47, 107, 118, 47, 58, 107, 101, 121, 32, 112, 117, 116, 10]
def firstL (mi ti : Nat) : List UInt8 := methodT mi ++ [32] ++ targetT ti ++ [32, 72, 84, 84, 80, 47, 49, 46, 49]
def hostL : List UInt8 := [72, 111, 115, 116, 58, 32, 104]
def tokenL (tk : Nat) : List (List UInt8) := if tk = 0 then [] else [[84, 111, 107, 101, 110, 58, 32] ++ (if tk = 3 then [117] else [116])]
def closeL (cl : Bool) : List (List UInt8) := if cl then [[67, 111, 110, 110, 101, 99, 116, 105, 111, 110, 58, 32, 99, 108, 111, 115, 101]] else []
/-- How many bytes a body has, in digits. -/
def digitsT : Nat → List UInt8
  | 0 => [48]
  | 1 => [51]
  | 2 => [51]
  | 3 => [55, 53]
  | 4 => [50, 56]
  | 5 => [52]
  | 6 => [48]
  | _ => [49, 48, 49]
/-- How a body comes: in chunks, by its length, or not at all. -/
def kindL (bi ch : Nat) : List (List UInt8) := if 0 < ch then [[84, 114, 97, 110, 115, 102, 101, 114, 45, 69, 110, 99, 111, 100, 105, 110, 103, 58, 32, 99, 104, 117, 110, 107, 101, 100]] else if bodyT bi = [] then [] else [[67, 111, 110, 116, 101, 110, 116, 45, 76, 101, 110, 103, 116, 104, 58, 32] ++ digitsT bi]
def chunkS : Nat → Nat → List UInt8 → List UInt8
  | 0, _, _ => [48] ++ [13, 10, 13, 10]
  | f + 1, n, [] => [48] ++ [13, 10, 13, 10]
  | f + 1, n, b => [UInt8.ofNat (48 + min n b.length), 13, 10] ++ b.take n ++ [13, 10] ++ chunkS f n (b.drop n)
/-- A body's bytes. -/
def tailT (bi ch : Nat) : List UInt8 := if 0 < ch then chunkS 200 ch (bodyT bi) else bodyT bi
def restL (bi tk ch : Nat) (cl : Bool) : List (List UInt8) := hostL :: (tokenL tk ++ closeL cl ++ kindL bi ch)
def joinL : List (List UInt8) → List UInt8
  | [] => []
  | a :: ls => a ++ [13, 10] ++ joinL ls
def seedT (mi ti bi tk ch : Nat) (cl : Bool) : List UInt8 := joinL (firstL mi ti :: restL bi tk ch cl) ++ [13, 10] ++ tailT bi ch

/-- Lines that may be. -/
def goodL (a : List UInt8) : Bool := !a.isEmpty && a.all fun b => b != 13 && b != 10
def lineC (p : List UInt8) : Cst := ⟨p, nilRq, none, false, 0⟩
theorem crB_of (p : List UInt8) (h : p.getLast? ≠ some 13) : crB p = false := by simp [crB, h]
theorem run_line (p : List UInt8) : ∀ a : List UInt8, (a.all fun b => b != 13 && b != 10) = true → p.getLast? ≠ some 13 → p.length + a.length ≤ 1000 → runC (lineC p) a = (lineC (p ++ a), []) ∧ (p ++ a).getLast? ≠ some 13 := by
  intro a
  induction a generalizing p with
  | nil => intro _ hp _; rw [List.append_nil]; exact ⟨rfl, hp⟩
  | cons b a ih =>
    intro ha hp hl
    simp only [List.all_cons, Bool.and_eq_true, bne_iff_ne, ne_eq] at ha
    obtain ⟨⟨h13, h10⟩, ha⟩ := ha
    have hs := step_sign p b h10 (crB_of p hp) (fun e => by
      have := congrArg List.getLast? e
      simp at this
      exact h10 this) (by simp at hl; omega)
    have hb : (p ++ [b]).getLast? ≠ some 13 := by simp; exact h13
    obtain ⟨h1, h2⟩ := ih (p ++ [b]) (by simpa using ha) hb (by simp at hl ⊢; omega)
    rw [runC_cons]
    have hs2 : stepC (lineC p) b = (lineC (p ++ [b]), none) := hs
    rw [hs2]
    simp only
    rw [h1]
    simp only [List.append_assoc, List.singleton_append] at h2 ⊢
    exact ⟨rfl, h2⟩
/-- A whole line, its end with it. -/
theorem run_whole (p a : List UInt8) (hg : goodL a = true) (hp : p.getLast? ≠ some 13) (hl : p.length + a.length + 2 ≤ 1000) : runC (lineC p) (a ++ [13, 10]) = (lineC (p ++ a ++ [13, 10]), []) := by
  unfold goodL at hg
  simp only [Bool.and_eq_true, Bool.not_eq_true'] at hg
  obtain ⟨hne, hall⟩ := hg
  obtain ⟨h1, h2⟩ := run_line p a hall hp (by omega)
  have hlast : (p ++ a).getLast? ≠ some 10 := by
    rcases List.eq_nil_or_concat a with rfl | ⟨y, z, rfl⟩
    · simp at hne
    · rw [List.concat_eq_append] at hall ⊢
      rw [← List.append_assoc, List.getLast?_append]
      simp at hall ⊢
      exact hall.2.2
  have hpa : p ++ a ≠ [] := fun e => by
    rw [List.append_eq_nil_iff] at e
    rw [e.2] at hne
    cases hne
  rw [runC_app, h1]
  simp only [runC]
  have e1 : stepC (lineC (p ++ a)) 13 = (lineC (p ++ a ++ [13]), none) := step_sign (p ++ a) 13 (by decide) (crB_of _ h2) (fun e => by
    have := congrArg List.getLast? e
    simp at this) (by simp; omega)
  rw [e1]
  simp only
  have e2 : stepC (lineC (p ++ a ++ [13])) 10 = (lineC (p ++ a ++ [13] ++ [10]), none) := step_lf (p ++ a ++ [13]) (by rw [crB_app]; rfl) (fun e => by
    have e3 : (p ++ a) ++ [13, 10] = [] ++ [13, 10] := by
      simp only [List.append_assoc, List.singleton_append, List.cons_append, List.nil_append] at e ⊢
      exact e
    exact hpa (List.append_cancel_right e3)) (by simp; omega) (by rw [List.append_assoc]; exact ends_two _ hlast)
  rw [e2]
  simp
theorem run_lines : ∀ (ls : List (List UInt8)) (p : List UInt8), ls.all goodL = true → p.getLast? ≠ some 13 → p.length + (joinL ls).length ≤ 1000 → runC (lineC p) (joinL ls) = (lineC (p ++ joinL ls), []) ∧ (p ++ joinL ls).getLast? ≠ some 13
  | [], p, _, hp, _ => by rw [joinL, List.append_nil]; exact ⟨rfl, hp⟩
  | a :: ls, p, hg, hp, hl => by
    simp only [List.all_cons, Bool.and_eq_true] at hg
    rw [joinL] at hl ⊢
    simp only [List.length_append, List.length_cons, List.length_nil] at hl
    have h1 := run_whole p a hg.1 hp (by omega)
    have h2 : (p ++ a ++ [13, 10]).getLast? ≠ some 13 := by simp
    obtain ⟨h3, h4⟩ := run_lines ls (p ++ a ++ [13, 10]) hg.2 h2 (by simp; omega)
    rw [runC_app, h1]
    simp only
    rw [h3]
    simp only [List.append_assoc] at h4 ⊢
    exact ⟨by simp, h4⟩
theorem join_last (a : List UInt8) (ls : List (List UInt8)) : ∃ x, joinL (a :: ls) = x ++ [13, 10] := by
  induction ls generalizing a with
  | nil => exact ⟨a, by simp [joinL]⟩
  | cons b ls ih =>
    obtain ⟨x, hx⟩ := ih b
    exact ⟨a ++ [13, 10] ++ x, by rw [joinL, hx]; simp⟩
theorem lines_join : ∀ (a : List UInt8) (ls : List (List UInt8)) (x : List UInt8), goodL a = true → ls.all goodL = true → joinL (a :: ls) = x ++ [13, 10] → linesOf x = (a :: ls).map mkB
  | a, [], x, ha, _, hx => by
    have e : a = x := by
      have h := hx
      simp [joinL] at h
      exact h
    subst e
    refine lines_one a fun h => ?_
    unfold goodL at ha
    simp at ha
    exact (ha.2 _ h).1 rfl
  | a, b :: ls, x, ha, hl, hx => by
    obtain ⟨y, hy⟩ := join_last b ls
    have e : x = a ++ 13 :: 10 :: y := by
      rw [joinL, hy] at hx
      have : (a ++ [13, 10] ++ y) ++ [13, 10] = x ++ [13, 10] := by rw [← hx]; simp
      have := List.append_cancel_right this
      rw [← this]; simp
    simp only [List.all_cons, Bool.and_eq_true] at hl
    rw [e, lines_cons a y (fun h => by
      unfold goodL at ha
      simp at ha
      exact (ha.2 _ h).1 rfl), lines_join b ls y hl.1 hl.2 hy]
    rfl
/-- A head by its lines. -/
theorem run_heads (a : List UInt8) (ls : List (List UInt8)) (ha : goodL a = true) (hl : ls.all goodL = true) (hlen : (joinL (a :: ls)).length + 2 ≤ 1000) (more : List UInt8) :
    runC newC (joinL (a :: ls) ++ [13, 10] ++ more) = ((runC (emitC (byHead (parseF ((a :: ls).map mkB)))).1 more).1, (emitC (byHead (parseF ((a :: ls).map mkB)))).2.toList ++ (runC (emitC (byHead (parseF ((a :: ls).map mkB)))).1 more).2) := by
  obtain ⟨x, hx⟩ := join_last a ls
  obtain ⟨h1, h2⟩ := run_lines (a :: ls) [] (by simp [ha, hl]) (by simp) (by simp; omega)
  have hlo := lines_join a ls x ha hl hx
  have hn : newC = lineC [] := rfl
  rw [List.append_assoc, runC_app, hn, h1]
  simp only [List.nil_append] at h2 ⊢
  have hj : joinL (a :: ls) ≠ [] := fun e => by rw [hx] at e; simp at e
  have e1 : stepC (lineC (joinL (a :: ls))) 13 = (lineC (joinL (a :: ls) ++ [13]), none) := step_sign _ 13 (by decide) (crB_of _ h2) (fun e => by
    have := congrArg List.getLast? e
    simp at this) (by omega)
  have e4 : joinL (a :: ls) ++ [13] ++ [10] = x ++ [13, 10, 13, 10] := by rw [hx]; simp
  have e2 : stepC (lineC (joinL (a :: ls) ++ [13])) 10 = emitC (endHeadC (joinL (a :: ls) ++ [13] ++ [10])) := step_end _ (by rw [crB_app]; rfl) (fun e => by
    have e3 : joinL (a :: ls) ++ [13, 10] = [] ++ [13, 10] := by
      simp only [List.append_assoc, List.singleton_append, List.cons_append, List.nil_append] at e ⊢
      exact e
    exact hj (List.append_cancel_right e3)) (by simp; omega) (by rw [e4]; exact ends_app _)
  simp only [List.cons_append, List.nil_append, runC_cons]
  rw [e1]
  simp only
  rw [e2, e4]
  have e5 : endHeadC (x ++ [13, 10, 13, 10]) = byHead (parseF ((a :: ls).map mkB)) := by
    unfold endHeadC
    rw [take_four, hlo]
  rw [e5]
  simp

end Go.Proofs.YtkjlbddaglcooaaGreatDoor
