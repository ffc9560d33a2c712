/- Tables of routes, plainly: the next word of a line, lines, texts; what may be a route; which routes may stand beside one another. -/
import Derived.Test.YtejncdhdkdhpmaaDoorPtPlain
import Derived.Test.YtejncdhdkdhpmaaDoorWordsPlain
namespace Go.Proofs.YtejncdhdkdhpmaaDoor
open Pl

/-- A route, as bytes. -/
structure Rt where
  m : List UInt8
  p : List UInt8
  h : List UInt8
deriving DecidableEq

def skipL (l : List UInt8) : List UInt8 := l.dropWhile (fun c => decide (c = 32))
def wordL (l : List UInt8) : List UInt8 := (skipL l).takeWhile (fun c => decide (c ≠ 32))
def restL (l : List UInt8) : List UInt8 := ((skipL l).dropWhile (fun c => decide (c ≠ 32))).drop 1

/-- A line: none: ErrForm; some none: no word in it. -/
def lineL (l : List UInt8) : Option (Option Rt) :=
  if wordL l = [] then some none
  else if wordL (restL l) = [] then none
  else if wordL (restL (restL l)) = [] then none
  else if wordL (restL (restL (restL l))) = [] then some (some ⟨wordL l, wordL (restL l), wordL (restL (restL l))⟩) else none

def linesL : List (List UInt8) → Option (List Rt)
  | [] => some []
  | x :: xs => match lineL x with
    | none => none
    | some none => linesL xs
    | some (some r) => (linesL xs).map (r :: ·)

def names8 : List (List UInt8) := [[103, 101, 116], [112, 117, 116], [100, 101, 108, 101, 116, 101], [108, 105, 115, 116], [119, 97, 108, 107], [104, 101, 97, 108, 116, 104], [114, 101, 108, 111, 97, 100], [115, 104, 117, 116, 100, 111, 119, 110]]
def handL (h : List UInt8) : Bool := decide (h ∈ names8)
def rightL (r : Rt) : Bool := (patL r.p).isSome && tokB r.m && handL r.h
def placeL (r : Rt) : List UInt8 × List UInt8 := (r.m, shapeL ((patL r.p).getD []))
def clashFrom (tk : List (List UInt8 × List UInt8)) : List Rt → Bool
  | [] => false
  | r :: l => if placeL r ∈ tk then true else clashFrom (tk ++ [placeL r]) l
def clashL (l : List Rt) : Bool := clashFrom [] l
def checkL (l : List Rt) : Int := if l.all rightL then (if 24 < l.length then 2 else if clashL l then 3 else 0) else 1
def parseL (s : List UInt8) : List Rt × Int :=
  match linesL (wordsB 10 s) with
  | none => ([], 1)
  | some l => if checkL l = 0 then (l, 0) else ([], checkL l)
def lineOf (r : Rt) : List UInt8 := r.m ++ 32 :: (r.p ++ 32 :: (r.h ++ [10]))
def printL (l : List Rt) : List UInt8 := l.flatMap lineOf

theorem lines_at (ws : List (List UInt8)) (k : Nat) (h : k < ws.length) (acc : List Rt) : (linesL (ws.drop k)).map (acc ++ ·) = match lineL ws[k] with
    | none => none
    | some none => (linesL (ws.drop (k + 1))).map (acc ++ ·)
    | some (some r) => (linesL (ws.drop (k + 1))).map ((acc ++ [r]) ++ ·) := by
  rw [List.drop_eq_getElem_cons h, linesL]
  cases lineL ws[k] with
  | none => rfl
  | some o =>
    cases o with
    | none => rfl
    | some r =>
      simp only [Option.map_map]
      congr 1
      funext x
      simp

theorem clash_at (l : List Rt) (k : Nat) (h : k < l.length) (tk : List (List UInt8 × List UInt8)) : clashFrom tk (l.drop k) = if placeL l[k] ∈ tk then true else clashFrom (tk ++ [placeL l[k]]) (l.drop (k + 1)) := by
  rw [List.drop_eq_getElem_cons h, clashFrom]

theorem clash_from : ∀ (l : List Rt) (tk : List (List UInt8 × List UInt8)), tk.Nodup → clashFrom tk l = !decide ((tk ++ l.map placeL).Nodup)
  | [], tk, h => by simp [clashFrom, h]
  | r :: l, tk, h => by
    rw [clashFrom]
    by_cases hm : placeL r ∈ tk
    · rw [if_pos hm]
      symm
      simp only [Bool.not_eq_true', decide_eq_false_iff_not]
      intro hn
      rw [List.nodup_append] at hn
      exact hn.2.2 _ hm _ (by simp) rfl
    · rw [if_neg hm, clash_from l (tk ++ [placeL r])]
      · simp
      · rw [List.nodup_append]
        refine ⟨h, by simp, ?_⟩
        intro a ha b hb e
        simp at hb
        subst hb; subst e
        exact hm ha
theorem clash_nodup (l : List Rt) : clashL l = !decide ((l.map placeL).Nodup) := by
  have := clash_from l [] (by simp)
  simpa [clashL] using this

theorem check_zero {l : List Rt} (h : checkL l = 0) : l.all rightL = true ∧ l.length ≤ 24 ∧ (l.map placeL).Nodup := by
  unfold checkL at h
  by_cases h1 : l.all rightL = true
  · rw [if_pos h1] at h
    by_cases h2 : 24 < l.length
    · rw [if_pos h2] at h; cases h
    · rw [if_neg h2, clash_nodup] at h
      by_cases h3 : (l.map placeL).Nodup
      · exact ⟨h1, by omega, h3⟩
      · simp [h3] at h
  · rw [if_neg h1] at h; cases h
theorem check_cases (l : List Rt) : checkL l = 0 ∨ checkL l = 1 ∨ checkL l = 2 ∨ checkL l = 3 := by
  unfold checkL
  split
  · split
    · simp
    · split <;> simp
  · simp
/-- The order plays no part. -/
theorem check_perm {l m : List Rt} (h : l.Perm m) : checkL l = checkL m := by
  have h1 : l.all rightL = m.all rightL := by
    rw [Bool.eq_iff_iff, List.all_eq_true, List.all_eq_true]
    exact ⟨fun k x hx => k x (h.mem_iff.2 hx), fun k x hx => k x (h.mem_iff.1 hx)⟩
  have h2 : clashL l = clashL m := by
    rw [clash_nodup, clash_nodup, Bool.eq_iff_iff]
    simp only [Bool.not_eq_true', decide_eq_false_iff_not]
    exact not_congr (h.map placeL).nodup_iff
  unfold checkL
  rw [h1, h2, h.length_eq]

end Go.Proofs.YtejncdhdkdhpmaaDoor
