/- What is cut of a seed's text, and what stands behind it; no Go. -/
import Derived.Test.YtkjlbddaglcooaaGreatDoorSeedPlain
namespace Go.Proofs.YtkjlbddaglcooaaGreatDoor
open Pl

def lenK (bi ch : Nat) : Int := if 0 < ch then -1 else ((bodyT bi).length : Int)
def fsK (bi tk ch : Nat) (cl : Bool) : List Fld := (takeF ((restL bi tk ch cl).map mkB)).getD []
def firstOK (mi ti : Nat) : Bool := decide (firstOf (mkB (firstL mi ti)) = some (mkB (methodT mi), mkB (targetT ti))) && goodL (firstL mi ti) && decide ((firstL mi ti).length ≤ 40)
def restOK (bi tk ch : Nat) (cl : Bool) : Bool :=
  (takeF ((restL bi tk ch cl).map mkB)).isSome && decide ((valsOf hostN (fsK bi tk ch cl)).length = 1) && decide (measureF (valsOf lengthN (fsK bi tk ch cl)) (valsOf codingN (fsK bi tk ch cl)) = (0, lenK bi ch)) &&
  (closesF (valsOf connN (fsK bi tk ch cl)) == cl) && (restL bi tk ch cl).all goodL && decide ((joinL (restL bi tk ch cl)).length ≤ 200) && decide ((restL bi tk ch cl).length ≤ 16)
/-- Bytes of a body up to its end: its data. -/
def goB : Bst → List UInt8 → Option (List UInt8)
  | _, [] => none
  | d, b :: l => if (feedB d b).status ≠ 0 then none else if (feedB d b).st = 5 then (if l = [] then some (feedB d b).data else none) else goB (feedB d b) l
def bodyOK (bi ch : Nat) : Bool := decide (ch = 0 ∧ bodyT bi = []) || (decide (goB (newB (lenK bi ch)) (tailT bi ch) = some (bodyT bi)) && decide ((newB (lenK bi ch)).st ≠ 5))
theorem first_all : ∀ mi : Fin 6, ∀ ti : Fin 16, firstOK mi ti = true := by decide +kernel
theorem rest_all : ∀ bi : Fin 8, ∀ tk : Fin 4, ∀ ch : Fin 4, ∀ cl : Bool, restOK bi tk ch cl = true := by decide +kernel
theorem body_all : ∀ bi : Fin 8, ∀ ch : Fin 4, bodyOK bi ch = true := by decide +kernel

def afterC (cl : Bool) : Cst := if cl then stopC 0 else newC
theorem go_run (rq : Rq) (l more : List UInt8) : ∀ (d : Bst) (x : List UInt8), goB d l = some x → runC ⟨[], rq, some d, false, 0⟩ (l ++ more) = ((runC (afterC rq.close) more).1, ⟨rq.m, rq.t, rq.fs, mkB x, rq.close⟩ :: (runC (afterC rq.close) more).2) := by
  induction l with
  | nil => intro d x h; simp [goB] at h
  | cons b l ih =>
    intro d x h
    rw [goB] at h
    split at h
    · cases h
    · rename_i hs
      have hs2 : (feedB d b).status = 0 := by simpa using hs
      have hl : stepC ⟨[], rq, some d, false, 0⟩ b = emitC ⟨[], rq, some (feedB d b), false, 0⟩ := by
        unfold stepC
        rw [if_neg (by simp)]
        congr 1
        unfold lookC lookBodyC
        simp only
        rw [if_pos hs2]
      rw [List.cons_append, runC_cons, hl]
      split at h
      · rename_i h5
        split at h
        · rename_i hl0
          subst hl0
          injection h with h
          subst h
          have he : emitC ⟨[], rq, some (feedB d b), false, 0⟩ = (afterC rq.close, some ⟨rq.m, rq.t, rq.fs, mkB (feedB d b).data, rq.close⟩) := by
            unfold emitC
            simp only
            rw [if_pos h5]
            unfold wholeC wholeRq afterC
            cases rq.close <;> rfl
          rw [he]
          rfl
        · cases h
      · rename_i h5
        have he : emitC ⟨[], rq, some (feedB d b), false, 0⟩ = (⟨[], rq, some (feedB d b), false, 0⟩, none) := by
          unfold emitC
          simp only
          rw [if_neg h5]
        rw [he]
        simp only
        rw [ih _ _ h]
        rfl

/-- The request of a seed. -/
def seedRq (mi ti bi tk ch : Nat) (cl : Bool) : Rq := ⟨mkB (methodT mi), mkB (targetT ti), fsK bi tk ch cl, mkB (bodyT bi), cl⟩
theorem seed_run (mi ti bi tk ch : Nat) (cl : Bool) (h1 : mi < 6) (h2 : ti < 16) (h3 : bi < 8) (h4 : tk < 4) (h5 : ch < 4) (more : List UInt8) :
    runC newC (seedT mi ti bi tk ch cl ++ more) = ((runC (afterC cl) more).1, seedRq mi ti bi tk ch cl :: (runC (afterC cl) more).2) := by
  have hf := first_all ⟨mi, h1⟩ ⟨ti, h2⟩
  have hr := rest_all ⟨bi, h3⟩ ⟨tk, h4⟩ ⟨ch, h5⟩ cl
  have hb := body_all ⟨bi, h3⟩ ⟨ch, h5⟩
  simp only [firstOK, Bool.and_eq_true, decide_eq_true_eq] at hf
  obtain ⟨⟨hf1, hf2⟩, hf3⟩ := hf
  simp only [restOK, Bool.and_eq_true, decide_eq_true_eq, beq_iff_eq] at hr
  obtain ⟨⟨⟨⟨⟨⟨r1, r2⟩, r3⟩, r4⟩, r5⟩, r6⟩, r7⟩ := hr
  have r1' : takeF ((restL bi tk ch cl).map mkB) = some (fsK bi tk ch cl) := by
    unfold fsK
    cases hx : takeF ((restL bi tk ch cl).map mkB) with
    | none => rw [hx] at r1; cases r1
    | some y => rfl
  have hp : parseF ((firstL mi ti :: restL bi tk ch cl).map mkB) = ⟨mkB (methodT mi), mkB (targetT ti), fsK bi tk ch cl, cl, lenK bi ch, 0⟩ := by
    rw [List.map_cons, parse_ok _ _ ⟨by rw [mkB_size]; omega, by simpa using r7⟩ hf1 r1' r2 (by rw [r3]), r3, r4]
  unfold seedT
  have hlen : (joinL (firstL mi ti :: restL bi tk ch cl)).length + 2 ≤ 1000 := by
    rw [joinL]
    simp only [List.length_append, List.length_cons, List.length_nil]
    omega
  rw [List.append_assoc, run_heads _ _ hf2 r5 hlen, hp]
  have hby : byHead ⟨mkB (methodT mi), mkB (targetT ti), fsK bi tk ch cl, cl, lenK bi ch, 0⟩ = ⟨[], ⟨mkB (methodT mi), mkB (targetT ti), fsK bi tk ch cl, emptyB, cl⟩, some (newB (lenK bi ch)), false, 0⟩ := rfl
  rw [hby]
  simp only [bodyOK, Bool.or_eq_true, Bool.and_eq_true, decide_eq_true_eq] at hb
  rcases hb with ⟨hc0, hb0⟩ | hb
  · subst hc0
    have hl0 : lenK bi 0 = 0 := by unfold lenK; rw [hb0]; rfl
    have ht0 : tailT bi 0 = [] := by unfold tailT; rw [hb0]; rfl
    rw [hl0, ht0]
    have he : emitC ⟨[], ⟨mkB (methodT mi), mkB (targetT ti), fsK bi tk 0 cl, emptyB, cl⟩, some (newB 0), false, 0⟩ = (afterC cl, some (seedRq mi ti bi tk 0 cl)) := by
      unfold seedRq
      rw [hb0]
      cases cl <;> rfl
    rw [he]
    rfl
  · obtain ⟨hb, h50⟩ := hb
    have he : emitC ⟨[], ⟨mkB (methodT mi), mkB (targetT ti), fsK bi tk ch cl, emptyB, cl⟩, some (newB (lenK bi ch)), false, 0⟩ = (⟨[], ⟨mkB (methodT mi), mkB (targetT ti), fsK bi tk ch cl, emptyB, cl⟩, some (newB (lenK bi ch)), false, 0⟩, none) := by
      unfold emitC
      simp only
      rw [if_neg h50]
    rw [he]
    simp only
    rw [go_run _ _ _ _ _ hb]
    rfl

end Go.Proofs.YtkjlbddaglcooaaGreatDoor
