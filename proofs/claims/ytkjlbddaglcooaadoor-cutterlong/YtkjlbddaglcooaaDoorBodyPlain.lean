/- A body that comes byte by byte, plainly; no Go. -/
import Derived.Test.YtkjlbddaglcooaaDoorPlain
namespace Go.Proofs.YtkjlbddaglcooaaDoor.Pl

/-- What a body is: its state, the bytes that are still to come, its status, the line so far, the data so far. -/
structure Bst where
  st : Int
  left : Int
  status : Int
  line : List UInt8
  data : List UInt8

def newB (n : Int) : Bst := if n < 0 then ⟨1, 0, 0, [], []⟩ else if n = 0 then ⟨5, 0, 0, [], []⟩ else ⟨0, n, 0, [], []⟩
def stopB (b : Bst) (s : Int) : Bst := ⟨5, b.left, s, [], b.data⟩
def dataB (b : Bst) (c : UInt8) : Bst :=
  if b.data.length = 600 then stopB b 413
  else ⟨if b.left - 1 > 0 then b.st else if b.st = 0 then 5 else 3, b.left - 1, b.status, b.line, b.data ++ [c]⟩
def cutS : List UInt8 → List UInt8
  | [] => []
  | b :: l => if b = 59 then [] else b :: cutS l
def readB (st : Int) (t : List UInt8) : Option Int :=
  if st = 1 then numB 16 (cutS t) else if st = 3 then (if t = [] then some 0 else none) else some 0
def passB (b : Bst) (n : Int) (empty : Bool) : Bst :=
  if b.st = 3 then ⟨1, b.left, b.status, b.line, b.data⟩
  else if n > 0 then ⟨2, n, b.status, b.line, b.data⟩
  else if b.st = 1 then ⟨4, b.left, b.status, b.line, b.data⟩
  else if empty then ⟨5, b.left, b.status, [], b.data⟩ else b
def endB (b : Bst) (t : List UInt8) (long : Bool) : Bst :=
  match readB b.st t with
  | none => stopB b 400
  | some n => if long then stopB b 431 else if n > 600 then stopB b 413 else passB b n t.isEmpty
def clearB (b : Bst) : Bst := ⟨b.st, b.left, b.status, [], b.data⟩
def crB (l : List UInt8) : Bool := decide (l.getLast? = some 13)
def lineB (b : Bst) (c : UInt8) : Bst :=
  if crB b.line != decide (c = 10) then stopB b 400
  else if c = 10 then endB (clearB b) b.line.dropLast (decide (b.line.length + 1 > 200))
  else if b.line.length + 1 > 200 then stopB b 431
  else ⟨b.st, b.left, b.status, b.line ++ [c], b.data⟩
def feedB (b : Bst) (c : UInt8) : Bst :=
  if b.st = 0 ∨ b.st = 2 then dataB b c else if b.st = 1 ∨ b.st = 3 ∨ b.st = 4 then lineB b c else b

/-- What holds of each body: bounds of what it has. -/
structure Okb (b : Bst) : Prop where
  left0 : 0 ≤ b.left
  left1 : b.left ≤ 9223372036854775807
  more : b.st = 0 ∨ b.st = 2 → 0 < b.left
  line : b.line.length ≤ 200
  data : b.data.length ≤ 600
  stat : b.status = 0 ∨ b.status = 400 ∨ b.status = 413 ∨ b.status = 431
  done : b.status ≠ 0 → b.st = 5
  range : 0 ≤ b.st ∧ b.st ≤ 5

theorem okb_new (n : Int) (hn : n ≤ 9223372036854775807) : Okb (newB n) := by
  unfold newB
  split
  · constructor <;> simp
  · split
    · constructor <;> simp
    · constructor <;> simp <;> omega
theorem okb_stop {b : Bst} (h : Okb b) (s : Int) (hs : s = 400 ∨ s = 413 ∨ s = 431) : Okb (stopB b s) := by
  constructor <;> simp [stopB]
  · exact h.left0
  · exact h.left1
  · exact h.data
  · omega
theorem okb_data {b : Bst} (h : Okb b) (c : UInt8) (hst : b.st = 0 ∨ b.st = 2) : Okb (dataB b c) := by
  unfold dataB
  split
  · exact okb_stop h _ (by simp)
  · rename_i hl
    have h1 := h.left1; have h2 := h.more hst; have h3 := h.data; have h5 := h.done
    refine ⟨by simp; omega, by simp; omega, ?_, h.line, by simp; omega, h.stat, fun hs => ?_, ?_⟩
    · simp only
      split
      · omega
      · split <;> omega
    · have := h5 hs; omega
    · simp only
      split
      · exact h.range
      · split <;> omega
theorem numGo_nonneg {n : Int} (l : List UInt8) (hn : 0 ≤ n) {r : Int} (h : numGo 16 n l = some r) : 0 ≤ r := by
  induction l generalizing n with
  | nil => simp [numGo] at h; omega
  | cons c l ih =>
    rw [numGo] at h
    split at h
    · cases h
    · rename_i hb
      have := num_ok16 (by simpa using hb)
      exact ih (by omega) h
theorem okb_pass {b : Bst} (h : Okb b) (n : Int) (hn : n ≤ 600) (e : Bool) (hst : b.st = 1 ∨ b.st = 3 ∨ b.st = 4) : Okb (passB b n e) := by
  have h1 := h.left0; have h2 := h.left1; have h3 := h.line; have h4 := h.data; have h5 := h.stat; have h6 := h.done
  have hs0 : b.status = 0 := by
    by_cases hc : b.status = 0
    · exact hc
    · have := h6 hc; omega
  unfold passB
  split
  · constructor <;> simp_all
  · split
    · constructor <;> simp_all <;> omega
    · split
      · constructor <;> simp_all
      · split
        · constructor <;> simp_all
        · exact h
theorem okb_clear {b : Bst} (h : Okb b) : Okb (clearB b) := ⟨h.left0, h.left1, h.more, by simp [clearB], h.data, h.stat, h.done, h.range⟩
theorem okb_end {b : Bst} (h : Okb b) (t : List UInt8) (lg : Bool) (hst : b.st = 1 ∨ b.st = 3 ∨ b.st = 4) : Okb (endB b t lg) := by
  unfold endB
  split
  · exact okb_stop h _ (by simp)
  · split
    · exact okb_stop h _ (by simp)
    · split
      · exact okb_stop h _ (by simp)
      · exact okb_pass h _ (by omega) _ hst
theorem okb_line {b : Bst} (h : Okb b) (c : UInt8) (hst : b.st = 1 ∨ b.st = 3 ∨ b.st = 4) : Okb (lineB b c) := by
  unfold lineB
  split
  · exact okb_stop h _ (by simp)
  · split
    · exact okb_end (okb_clear h) _ _ hst
    · split
      · exact okb_stop h _ (by simp)
      · exact ⟨h.left0, h.left1, h.more, by simp; omega, h.data, h.stat, h.done, h.range⟩
theorem okb_feed {b : Bst} (h : Okb b) (c : UInt8) : Okb (feedB b c) := by
  unfold feedB
  split
  · rename_i hs; exact okb_data h c hs
  · split
    · rename_i hs; exact okb_line h c hs
    · exact h

end Go.Proofs.YtkjlbddaglcooaaDoor.Pl
