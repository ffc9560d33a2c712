/- A cutter that comes byte by byte, plainly; no Go. -/
import Derived.Test.YtkjlbddaglcooaaDoorFirstPlain
import Derived.Test.YtkjlbddaglcooaaDoorRunPlain
import Derived.Lib.Split
namespace Go.Proofs.YtkjlbddaglcooaaDoor
open Pl

structure Rq where
  m : ByteArray
  t : ByteArray
  fs : List Fld
  body : ByteArray
  close : Bool
def emptyB : ByteArray := ⟨#[]⟩
def nilRq : Rq := ⟨emptyB, emptyB, [], emptyB, false⟩

/-- What a cutter is, but for the bytes that wait. -/
structure Cst where
  lines : List UInt8
  rq : Rq
  bd : Option Bst
  done : Bool
  status : Int
def newC : Cst := ⟨[], nilRq, none, false, 0⟩
def stopC (s : Int) : Cst := ⟨[], nilRq, none, true, s⟩
def endsB (l : List UInt8) : Bool := Lib.hasSuffix l [13, 10, 13, 10]
/-- The lines of a head's text. -/
def linesOf (l : List UInt8) : List ByteArray := Lib.splitB ⟨#[13, 10]⟩ 0 (Lib.countB (mkB l) ⟨#[13, 10]⟩) (mkB l)
def bareRq (h : Hd) : Rq := ⟨h.m, h.t, h.fs, emptyB, h.close⟩
def byHead (h : Hd) : Cst := if h.status = 0 then ⟨[], bareRq h, some (newB h.len), false, 0⟩ else stopC h.status
def endHeadC (l : List UInt8) : Cst := byHead (parseF (linesOf (l.take (l.length - 4))))
def lookHeadC (c : Cst) (b : UInt8) : Cst :=
  if crB c.lines != decide (b = 10) then stopC 400
  else if c.lines ++ [b] = [13, 10] then ⟨[], c.rq, none, false, 0⟩
  else if 1000 < c.lines.length + 1 then stopC 431
  else if endsB (c.lines ++ [b]) then endHeadC (c.lines ++ [b])
  else ⟨c.lines ++ [b], c.rq, none, false, 0⟩
def lookBodyC (c : Cst) (d : Bst) : Cst := if d.status = 0 then ⟨c.lines, c.rq, some d, false, 0⟩ else stopC d.status
def lookC (c : Cst) (b : UInt8) : Cst :=
  match c.bd with
  | none => lookHeadC c b
  | some d => lookBodyC c (feedB d b)
def wholeRq (c : Cst) (d : Bst) : Rq := ⟨c.rq.m, c.rq.t, c.rq.fs, mkB d.data, c.rq.close⟩
def wholeC (c : Cst) : Cst := if c.rq.close then stopC 0 else ⟨c.lines, nilRq, none, false, 0⟩
/-- What is whole behind a byte. -/
def emitC (c : Cst) : Cst × Option Rq :=
  match c.bd with
  | none => (c, none)
  | some d => if d.st = 5 then (wholeC c, some (wholeRq c d)) else (c, none)
def stepC (c : Cst) (b : UInt8) : Cst × Option Rq := if c.done then (c, none) else emitC (lookC c b)
/-- All requests of a text. -/
def runC : Cst → List UInt8 → Cst × List Rq
  | c, [] => (c, [])
  | c, b :: l => ((runC (stepC c b).1 l).1, (stepC c b).2.toList ++ (runC (stepC c b).1 l).2)
/-- The next request of a text, and what waits behind it. -/
def nextC : Cst → List UInt8 → Option Rq × Cst × List UInt8
  | c, [] => (none, c, [])
  | c, b :: l =>
    match stepC c b with
    | (c1, some r) => (some r, c1, if c1.done then [] else l)
    | (c1, none) => if c1.done then (none, c1, []) else nextC c1 l

/-- What holds of each cutter. -/
structure Okc (c : Cst) : Prop where
  len : c.lines.length ≤ 1000
  over : c.done = true → ∃ s, c = stopC s
  stat : c.done = false → c.status = 0
  amid : ∀ d, c.bd = some d → c.lines = [] ∧ Okb d ∧ d.status = 0 ∧ d.st ≠ 5
  fresh : c.bd = none → c.rq = nilRq
theorem okc_new : Okc newC := ⟨by decide, fun h => (by cases h), fun _ => rfl, fun d h => (by cases h), fun _ => rfl⟩
theorem okc_stop (s : Int) : Okc (stopC s) := ⟨Nat.zero_le _, fun _ => ⟨s, rfl⟩, fun h => (by simp [stopC] at h), fun d h => (by simp [stopC] at h), fun _ => rfl⟩

theorem byLen_le (s : ByteArray) : (byLen s).2 ≤ 600 := by
  unfold byLen
  split
  · decide
  · split
    · decide
    · simp; omega
theorem measure_le (L C : List ByteArray) : (measureF L C).2 ≤ 600 := by
  unfold measureF
  split <;> first | decide | exact byLen_le _ | (split <;> decide)
theorem parse_len (ls : List ByteArray) : (parseF ls).len ≤ 600 := by
  unfold parseF
  split
  · decide
  · split
    · decide
    · split
      · decide
      · split
        · decide
        · split
          · decide
          · split
            · exact (by decide : (0 : Int) ≤ 600)
            · exact measure_le _ _

/-- What a head leaves behind, before it is asked whether its body is done. -/
structure Oka (c : Cst) : Prop where
  len : c.lines.length ≤ 1000
  over : c.done = true → ∃ s, c = stopC s
  stat : c.done = false → c.status = 0
  amid : ∀ d, c.bd = some d → c.lines = [] ∧ Okb d ∧ d.status = 0 ∧ c.done = false
  fresh : c.bd = none → c.rq = nilRq
theorem oka_stop (s : Int) : Oka (stopC s) := ⟨Nat.zero_le _, fun _ => ⟨s, rfl⟩, fun h => (by simp [stopC] at h), fun d h => (by simp [stopC] at h), fun _ => rfl⟩
theorem newB_status (n : Int) : (newB n).status = 0 := by
  unfold newB
  split
  · rfl
  · split <;> rfl
theorem oka_byHead (h : Hd) (hl : h.len ≤ 600) : Oka (byHead h) := by
  unfold byHead
  split
  · refine ⟨Nat.zero_le _, fun h => (by cases h), fun _ => rfl, fun d hd => ?_, fun h => (by cases h)⟩
    injection hd with hd
    subst hd
    exact ⟨rfl, okb_new _ (by omega), newB_status _, rfl⟩
  · exact oka_stop _
theorem oka_lookHead {c : Cst} (h : Okc c) (hb : c.bd = none) (b : UInt8) : Oka (lookHeadC c b) := by
  unfold lookHeadC
  split
  · exact oka_stop _
  · split
    · exact ⟨Nat.zero_le _, fun h => (by cases h), fun _ => rfl, fun d hd => (by cases hd), fun _ => h.fresh hb⟩
    · split
      · exact oka_stop _
      · split
        · exact oka_byHead _ (parse_len _)
        · exact ⟨by simp; omega, fun h => (by cases h), fun _ => rfl, fun d hd => (by cases hd), fun _ => h.fresh hb⟩
theorem oka_look {c : Cst} (h : Okc c) (b : UInt8) : Oka (lookC c b) := by
  unfold lookC
  split
  · rename_i hb; exact oka_lookHead h hb b
  · rename_i d hb
    unfold lookBodyC
    split
    · rename_i hs
      obtain ⟨h1, h2, h3, h4⟩ := h.amid d hb
      refine ⟨h.len, fun h => (by cases h), fun _ => rfl, fun e he => ?_, fun h => (by cases h)⟩
      injection he with he
      subst he
      exact ⟨h1, okb_feed h2 b, hs, rfl⟩
    · exact oka_stop _
theorem okc_emit {c : Cst} (h : Oka c) : Okc (emitC c).1 := by
  unfold emitC
  split
  · rename_i hb
    exact ⟨h.len, h.over, h.stat, fun d hd => (by rw [hb] at hd; cases hd), h.fresh⟩
  · rename_i d hb
    obtain ⟨h1, h2, h3, h4⟩ := h.amid d hb
    split
    · show Okc (wholeC c)
      unfold wholeC
      split
      · exact okc_stop _
      · exact ⟨h.len, fun h => (by cases h), fun _ => rfl, fun d hd => (by cases hd), fun _ => rfl⟩
    · rename_i h5
      refine ⟨h.len, h.over, h.stat, fun e he => ?_, h.fresh⟩
      have he2 : some d = some e := hb.symm.trans he
      injection he2 with he2
      subst he2
      exact ⟨h1, h2, h3, h5⟩
theorem okc_step {c : Cst} (h : Okc c) (b : UInt8) : Okc (stepC c b).1 := by
  unfold stepC
  split
  · exact h
  · exact okc_emit (oka_look h b)

theorem step_done {c : Cst} (h : c.done = true) (b : UInt8) : stepC c b = (c, none) := by unfold stepC; rw [if_pos h]
theorem run_over {c : Cst} (h : c.done = true) (l : List UInt8) : runC c l = (c, []) := by
  induction l with
  | nil => rfl
  | cons b l ih => rw [runC, step_done h, ih]; rfl
theorem runC_cons (c : Cst) (b : UInt8) (l : List UInt8) : runC c (b :: l) = ((runC (stepC c b).1 l).1, (stepC c b).2.toList ++ (runC (stepC c b).1 l).2) := rfl
theorem runC_app (c : Cst) (l m : List UInt8) : runC c (l ++ m) = ((runC (runC c l).1 m).1, (runC c l).2 ++ (runC (runC c l).1 m).2) := by
  induction l generalizing c with
  | nil => rfl
  | cons b l ih => rw [List.cons_append, runC_cons, runC_cons, ih]; simp
theorem okc_run {c : Cst} (h : Okc c) (l : List UInt8) : Okc (runC c l).1 := by
  induction l generalizing c with
  | nil => exact h
  | cons b l ih => exact ih (okc_step h b)
theorem okc_next {c : Cst} (h : Okc c) (l : List UInt8) : Okc (nextC c l).2.1 := by
  induction l generalizing c with
  | nil => exact h
  | cons b l ih =>
    have hk := okc_step h b
    unfold nextC
    split
    · rename_i c1 r e; rw [e] at hk; exact hk
    · rename_i c1 e
      rw [e] at hk
      split
      · exact hk
      · exact ih hk
theorem next_some {c : Cst} (l : List UInt8) (r : Rq) (c1 : Cst) (rest : List UInt8) (h : nextC c l = (some r, c1, rest)) : runC c l = ((runC c1 rest).1, r :: (runC c1 rest).2) ∧ rest.length < l.length ∧ (c1.done = true → rest = []) := by
  induction l generalizing c with
  | nil => simp [nextC] at h
  | cons b l ih =>
    rw [nextC] at h
    rw [runC_cons]
    split at h
    · rename_i c2 r2 e
      rw [e]
      injection h with h1 h2
      injection h1 with h1
      injection h2 with h2 h3
      subst h1; subst h2
      by_cases hd : c2.done = true
      · rw [if_pos hd] at h3
        subst h3
        rw [run_over hd, run_over hd]
        exact ⟨rfl, by simp, fun _ => rfl⟩
      · rw [if_neg hd] at h3
        subst h3
        exact ⟨rfl, by simp, fun h => absurd h hd⟩
    · rename_i c2 e
      rw [e]
      by_cases hd : c2.done = true
      · rw [if_pos hd] at h; injection h with h1; cases h1
      · rw [if_neg hd] at h
        obtain ⟨h1, h2, h3⟩ := ih h
        simp only [Option.toList, List.nil_append]
        exact ⟨h1, by simp; omega, h3⟩
theorem next_none {c : Cst} (l : List UInt8) (c1 : Cst) (rest : List UInt8) (h : nextC c l = (none, c1, rest)) : runC c l = (c1, []) ∧ rest = [] := by
  induction l generalizing c with
  | nil => simp [nextC] at h; obtain ⟨rfl, rfl⟩ := h; exact ⟨rfl, rfl⟩
  | cons b l ih =>
    rw [nextC] at h
    rw [runC_cons]
    split at h
    · injection h with h1; cases h1
    · rename_i c2 e
      rw [e]
      by_cases hd : c2.done = true
      · rw [if_pos hd] at h
        injection h with h1 h2
        injection h2 with h2 h3
        subst h2; subst h3
        rw [run_over hd]
        exact ⟨rfl, rfl⟩
      · rw [if_neg hd] at h
        obtain ⟨h1, h2⟩ := ih h
        simp only [Option.toList, List.nil_append]
        exact ⟨h1, h2⟩

end Go.Proofs.YtkjlbddaglcooaaDoor
