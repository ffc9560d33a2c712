/- More of seeds' texts, plainly: heads that are wrong, texts that are cut off, ends of lines that are broken, rows of seeds. No Go. -/
import Derived.Test.YtkjlbddaglcooaaGreatDoorSeedRun
namespace Go.Proofs.YtkjlbddaglcooaaGreatDoor
open Pl

/-- A line that makes a head wrong. -/
def wrongL : Nat → List UInt8
  | 1 => [66, 97, 100]
  | 2 => [67, 111, 110, 116, 101, 110, 116, 45, 76, 101, 110, 103, 116, 104, 58, 32, 57, 57, 57]
  | _ => [84, 114, 97, 110, 115, 102, 101, 114, 45, 69, 110, 99, 111, 100, 105, 110, 103, 58, 32, 103, 122, 105, 112]
def wrongS : Nat → Int
  | 1 => 400
  | 2 => 413
  | _ => 501
theorem wrongS_ne (k : Nat) : wrongS k ≠ 0 := by unfold wrongS; split <;> decide
def wrongR (tk : Nat) (cl : Bool) (wk : Nat) : List (List UInt8) := hostL :: (tokenL tk ++ closeL cl ++ [wrongL wk])
def wrongT (mi ti tk : Nat) (cl : Bool) (wk : Nat) : List UInt8 := joinL (firstL mi ti :: wrongR tk cl wk) ++ [13, 10]
def wrongW (s : Int) (o : Option (List Fld)) : Bool :=
  match o with
  | none => decide (s = 400)
  | some fs => decide ((valsOf hostN fs).length = 1) && decide ((measureF (valsOf lengthN fs) (valsOf codingN fs)).1 = s)
def wrongOK (tk : Nat) (cl : Bool) (wk : Nat) : Bool :=
  (wrongR tk cl wk).all goodL && decide ((joinL (wrongR tk cl wk)).length ≤ 200) && decide ((wrongR tk cl wk).length ≤ 16) && wrongW (wrongS wk) (takeF ((wrongR tk cl wk).map mkB))
theorem wrong_all : ∀ tk : Fin 4, ∀ cl : Bool, ∀ wk : Fin 4, wk.1 = 0 ∨ wrongOK tk cl wk = true := by decide +kernel
theorem parse_wrong (first : ByteArray) (rest : List ByteArray) (mt : ByteArray × ByteArray) (s : Int) (h : ¬ (200 < first.size ∨ 16 < rest.length)) (hf : firstOf first = some mt) (hs : s ≠ 0) (hw : wrongW s (takeF rest) = true) : parseF (first :: rest) = badH s := by
  unfold parseF
  simp only
  rw [if_neg h, hf]
  simp only
  cases ht : takeF rest with
  | none =>
    rw [ht] at hw
    simp [wrongW] at hw
    rw [hw]
  | some fs =>
    rw [ht] at hw
    simp only [wrongW, Bool.and_eq_true, decide_eq_true_eq] at hw
    simp only
    rw [if_neg (by simp [hw.1]), if_pos (by rw [hw.2]; exact hs), hw.2]
theorem wrong_run (mi ti tk : Nat) (cl : Bool) (wk : Nat) (h1 : mi < 6) (h2 : ti < 16) (h4 : tk < 4) (h5 : 1 ≤ wk) (h6 : wk ≤ 3) (more : List UInt8) : runC newC (wrongT mi ti tk cl wk ++ more) = (stopC (wrongS wk), []) := by
  have hf := first_all ⟨mi, h1⟩ ⟨ti, h2⟩
  simp only [firstOK, Bool.and_eq_true, decide_eq_true_eq] at hf
  obtain ⟨⟨hf1, hf2⟩, hf3⟩ := hf
  rcases wrong_all ⟨tk, h4⟩ cl ⟨wk, by omega⟩ with h0 | hr
  · simp at h0; omega
  · simp only [wrongOK, Bool.and_eq_true, decide_eq_true_eq] at hr
    obtain ⟨⟨⟨r1, r2⟩, r3⟩, r4⟩ := hr
    have hlen : (joinL (firstL mi ti :: wrongR tk cl wk)).length + 2 ≤ 1000 := by
      rw [joinL]
      simp only [List.length_append, List.length_cons, List.length_nil]
      omega
    have hp : parseF ((firstL mi ti :: wrongR tk cl wk).map mkB) = badH (wrongS wk) := by
      rw [List.map_cons]
      exact parse_wrong _ _ _ _ (by rw [mkB_size, List.length_map]; omega) hf1 (wrongS_ne wk) r4
    unfold wrongT
    rw [run_heads _ _ hf2 r1 hlen, hp]
    have hby : byHead (badH (wrongS wk)) = stopC (wrongS wk) := by
      unfold byHead
      rw [if_neg (show ¬ (badH (wrongS wk)).status = 0 from wrongS_ne wk)]
      rfl
    rw [hby]
    have he : emitC (stopC (wrongS wk)) = (stopC (wrongS wk), none) := rfl
    rw [he]
    simp only
    rw [run_over rfl]
    rfl

/-- A text of lines, up to its last sign but one. -/
theorem good_all {a : List UInt8} (h : goodL a = true) : (a.all fun b => b != 13 && b != 10) = true := by
  unfold goodL at h
  simp only [Bool.and_eq_true] at h
  exact h.2
theorem run_cr (p : List UInt8) (hp : p.getLast? ≠ some 13) (hl : p.length + 1 ≤ 1000) : runC (lineC p) [13] = (lineC (p ++ [13]), []) := by
  rw [runC_cons]
  have e1 : stepC (lineC p) 13 = (lineC (p ++ [13]), none) := step_sign p 13 (by decide) (crB_of _ hp) (fun e => by
    have := congrArg List.getLast? e
    simp at this) hl
  rw [e1]
  rfl
theorem run_pre : ∀ (ls : List (List UInt8)) (p : List UInt8) (k : Nat), ls.all goodL = true → p.getLast? ≠ some 13 → p.length + (joinL ls).length + 2 ≤ 1000 → k ≤ (joinL ls).length + 1 → runC (lineC p) ((joinL ls ++ [13]).take k) = (lineC (p ++ (joinL ls ++ [13]).take k), [])
  | [], p, k, _, hp, hl, hk => by
    simp only [joinL, List.length_nil, List.nil_append] at hl hk ⊢
    rcases (show k = 0 ∨ k = 1 by omega) with rfl | rfl
    · simp [runC]
    · exact run_cr p hp (by omega)
  | a :: ls, p, k, hg, hp, hl, hk => by
    simp only [List.all_cons, Bool.and_eq_true] at hg
    rw [joinL] at hl hk ⊢
    simp only [List.length_append, List.length_cons, List.length_nil] at hl hk
    by_cases h1 : k ≤ a.length
    · have e : (a ++ [13, 10] ++ joinL ls ++ [13]).take k = a.take k := by
        simp only [List.append_assoc]
        exact List.take_append_of_le_length h1
      rw [e]
      refine (run_line p (a.take k) ?_ hp (by simp; omega)).1
      rw [List.all_eq_true]
      intro x hx
      exact List.all_eq_true.1 (good_all hg.1) x (List.mem_of_mem_take hx)
    · by_cases h2 : k = a.length + 1
      · have e : (a ++ [13, 10] ++ joinL ls ++ [13]).take k = a ++ [13] := by
          subst h2
          simp only [List.append_assoc]
          rw [List.take_append]
          simp [List.take_of_length_le]
        obtain ⟨e1, e2⟩ := run_line p a (good_all hg.1) hp (by omega)
        rw [e, runC_app, e1]
        simp only
        rw [run_cr _ e2 (by simp; omega)]
        simp
      · have e : (a ++ [13, 10] ++ joinL ls ++ [13]).take k = (a ++ [13, 10]) ++ (joinL ls ++ [13]).take (k - (a.length + 2)) := by
          rw [List.append_assoc (a ++ [13, 10]), List.take_append]
          have e3 : (a ++ [13, 10]).take k = a ++ [13, 10] := List.take_of_length_le (by simp; omega)
          rw [e3]
          simp
        have hr := run_pre ls (p ++ a ++ [13, 10]) (k - (a.length + 2)) hg.2 (by simp) (by simp; omega) (by omega)
        rw [e, runC_app, run_whole p a hg.1 hp (by omega)]
        simp only
        rw [hr]
        simp
/-- What stands around a CR. -/
theorem cr_at : ∀ (ls : List (List UInt8)) (k : Nat), ls.all goodL = true → (joinL ls ++ [13, 10])[k]? = some 13 → k ≤ (joinL ls).length ∧ (joinL ls ++ [13, 10])[k + 1]? = some 10 ∧ ((joinL ls ++ [13, 10]).take k).getLast? ≠ some 13
  | [], k, _, hk => by
    simp only [joinL, List.nil_append] at hk ⊢
    match k, hk with
    | 0, _ => simp
    | 1, hk => simp at hk
    | k + 2, hk => simp at hk
  | a :: ls, k, hg, hk => by
    simp only [List.all_cons, Bool.and_eq_true] at hg
    have hga := good_all hg.1
    rw [List.all_eq_true] at hga
    rw [joinL] at hk ⊢
    simp only [List.append_assoc] at hk ⊢
    by_cases h1 : k < a.length
    · rw [List.getElem?_append_left h1] at hk
      have := hga 13 (List.mem_of_getElem? hk)
      simp at this
    · by_cases h2 : k = a.length
      · subst h2
        refine ⟨by simp, ?_, ?_⟩
        · rw [List.getElem?_append_right (by omega)]
          simp
        · rw [List.take_append_of_le_length (Nat.le_refl _), List.take_of_length_le (Nat.le_refl _)]
          intro e
          have := hga 13 (List.mem_of_getLast? e)
          simp at this
      · by_cases h3 : k = a.length + 1
        · subst h3
          rw [List.getElem?_append_right (by omega)] at hk
          simp at hk
        · obtain ⟨j, rfl⟩ : ∃ j, k = a.length + (j + 2) := ⟨k - a.length - 2, by omega⟩
          rw [List.getElem?_append_right (by omega)] at hk
          simp only [Nat.add_sub_cancel_left, List.cons_append, List.nil_append, List.getElem?_cons_succ] at hk
          obtain ⟨i1, i2, i3⟩ := cr_at ls j hg.2 hk
          refine ⟨by simp; omega, ?_, ?_⟩
          · rw [List.getElem?_append_right (by omega)]
            have : a.length + (j + 2) + 1 - a.length = j + 1 + 1 + 1 := by omega
            rw [this]
            simpa using i2
          · have e : (a ++ ([13, 10] ++ (joinL ls ++ [13, 10]))).take (a.length + (j + 2)) = (a ++ [13, 10]) ++ (joinL ls ++ [13, 10]).take j := by
              rw [← List.append_assoc, List.take_append]
              have e3 : (a ++ [13, 10]).take (a.length + (j + 2)) = a ++ [13, 10] := List.take_of_length_le (by simp)
              have e4 : a.length + (j + 2) - (a ++ [13, 10]).length = j := by simp; omega
              rw [e3, e4]
            rw [e, List.getLast?_append]
            cases hx : ((joinL ls ++ [13, 10]).take j).getLast? with
            | none => simp
            | some y =>
              rw [hx] at i3
              simpa using i3
theorem step_bad (p : List UInt8) (b : UInt8) (h : (crB p != decide (b = 10)) = true) : stepC (lineC p) b = (stopC 400, none) := by
  unfold stepC
  rw [if_neg (by simp [lineC])]
  have : lookC (lineC p) b = stopC 400 := by
    unfold lookC lineC
    simp only
    unfold lookHeadC
    simp only
    rw [if_pos h]
  rw [this]
  rfl
theorem run_bad (p : List UInt8) (b : UInt8) (more : List UInt8) (h : (crB p != decide (b = 10)) = true) : runC (lineC p) (b :: more) = (stopC 400, []) := by
  rw [runC_cons, step_bad p b h]
  simp only
  rw [run_over rfl]
  rfl
theorem take_cr (u : List UInt8) (k : Nat) (h : k ≤ u.length + 1) : (u ++ [13, 10]).take k = (u ++ [13]).take k := by
  have e : u ++ [13, 10] = (u ++ [13]) ++ [10] := by simp
  rw [e]
  exact List.take_append_of_le_length (by simp; omega)
theorem drop_of {l : List UInt8} {k : Nat} {x : UInt8} (h : l[k]? = some x) : l.drop k = x :: l.drop (k + 1) := by
  obtain ⟨hk, rfl⟩ := List.getElem?_eq_some_iff.1 h
  exact List.drop_eq_getElem_cons hk
/-- A CR that is taken away. -/
theorem broken_cr (ls : List (List UInt8)) (k : Nat) (hg : ls.all goodL = true) (hl : (joinL ls).length + 2 ≤ 1000) (hk : (joinL ls ++ [13, 10])[k]? = some 13) : runC newC ((joinL ls ++ [13, 10]).take k ++ (joinL ls ++ [13, 10]).drop (k + 1)) = (stopC 400, []) := by
  obtain ⟨h1, h2, h3⟩ := cr_at ls k hg hk
  have hr := run_pre ls [] k hg (by simp) (by simp; omega) (by omega)
  have hn : newC = lineC [] := rfl
  rw [drop_of h2, runC_app, hn, take_cr _ _ (by omega), hr]
  rw [take_cr _ _ (by omega)] at h3
  simp only [List.nil_append]
  rw [run_bad _ 10 _ (by rw [crB_of _ h3]; rfl)]
/-- An LF behind a CR that is another sign. -/
theorem broken_lf (ls : List (List UInt8)) (k : Nat) (hg : ls.all goodL = true) (hl : (joinL ls).length + 2 ≤ 1000) (hk : (joinL ls ++ [13, 10])[k]? = some 13) (more : List UInt8) : runC newC ((joinL ls ++ [13, 10]).take (k + 1) ++ 120 :: more) = (stopC 400, []) := by
  obtain ⟨h1, h2, h3⟩ := cr_at ls k hg hk
  have hr := run_pre ls [] (k + 1) hg (by simp) (by simp; omega) (by omega)
  have hn : newC = lineC [] := rfl
  have hlast : crB ((joinL ls ++ [13]).take (k + 1)) = true := by
    rw [← take_cr _ _ (by omega), List.take_add_one, hk]
    simp only [Option.toList]
    rw [crB_app]
    rfl
  rw [runC_app, hn, take_cr _ _ (by omega), hr]
  simp only [List.nil_append]
  rw [run_bad _ 120 _ (by rw [hlast]; rfl)]

/-- A body's bytes, but for the last one. -/
theorem step_body (rq : Rq) (d : Bst) (b : UInt8) (hs : (feedB d b).status = 0) : stepC ⟨[], rq, some d, false, 0⟩ b = emitC ⟨[], rq, some (feedB d b), false, 0⟩ := by
  unfold stepC
  rw [if_neg (by simp)]
  congr 1
  unfold lookC lookBodyC
  simp only
  rw [if_pos hs]
theorem go_pre (rq : Rq) (l : List UInt8) : ∀ (d : Bst) (x : List UInt8) (k : Nat), goB d l = some x → k < l.length → ∃ d', runC ⟨[], rq, some d, false, 0⟩ (l.take k) = (⟨[], rq, some d', false, 0⟩, []) := by
  induction l with
  | nil => intro d x k h; simp [goB] at h
  | cons b l ih =>
    intro d x k h hk
    cases k with
    | zero => exact ⟨d, rfl⟩
    | succ k =>
      rw [goB] at h
      split at h
      · cases h
      · rename_i hs
        have hs2 : (feedB d b).status = 0 := by simpa using hs
        split at h
        · split at h
          · rename_i h0
            subst h0
            simp at hk
          · cases h
        · rename_i h5
          obtain ⟨d', hd'⟩ := ih (feedB d b) x k h (by simpa using hk)
          have he : emitC ⟨[], rq, some (feedB d b), false, 0⟩ = (⟨[], rq, some (feedB d b), false, 0⟩, none) := by
            unfold emitC
            simp only
            rw [if_neg h5]
          refine ⟨d', ?_⟩
          rw [List.take_succ_cons, runC_cons, step_body rq d b hs2, he]
          simp only
          rw [hd']
          rfl
theorem go_next (rq : Rq) (hc : rq.close = false) (l more : List UInt8) : ∀ (d : Bst) (x : List UInt8), goB d l = some x → nextC ⟨[], rq, some d, false, 0⟩ (l ++ more) = (some ⟨rq.m, rq.t, rq.fs, mkB x, false⟩, newC, more) := by
  induction l with
  | nil => intro d x h; simp [goB] at h
  | cons b l ih =>
    intro d x h
    rw [goB] at h
    split at h
    · cases h
    · rename_i hs
      have hs2 : (feedB d b).status = 0 := by simpa using hs
      rw [List.cons_append, nextC, step_body rq d b hs2]
      split at h
      · rename_i h5
        split at h
        · rename_i hl0
          subst hl0
          injection h with h
          subst h
          have he : emitC ⟨[], rq, some (feedB d b), false, 0⟩ = (newC, some ⟨rq.m, rq.t, rq.fs, mkB (feedB d b).data, false⟩) := by
            unfold emitC
            simp only
            rw [if_pos h5]
            unfold wholeC wholeRq
            simp only
            rw [hc]
            rfl
          rw [he]
          rfl
        · cases h
      · rename_i h5
        have he : emitC ⟨[], rq, some (feedB d b), false, 0⟩ = (⟨[], rq, some (feedB d b), false, 0⟩, none) := by
          unfold emitC
          simp only
          rw [if_neg h5]
        rw [he]
        simp only
        exact ih _ _ h
theorem next_app (c : Cst) (l m : List UInt8) (h : (runC c l).2 = []) (hd : (runC c l).1.done = false) : nextC c (l ++ m) = nextC (runC c l).1 m := by
  induction l generalizing c with
  | nil => rfl
  | cons b l ih =>
    rw [runC_cons] at h hd ⊢
    simp only [List.append_eq_nil_iff] at h
    rw [List.cons_append, nextC]
    rcases hs : stepC c b with ⟨c1, o⟩
    rw [hs] at h hd
    simp only at h hd ⊢
    cases o with
    | some r => simp at h
    | none =>
      simp only
      by_cases hc : c1.done = true
      · rw [run_over hc] at hd
        rw [hc] at hd
        cases hd
      · rw [if_neg hc]
        exact ih c1 h.2 hd

def seedLs (mi ti bi tk ch : Nat) (cl : Bool) : List (List UInt8) := firstL mi ti :: restL bi tk ch cl
/-- A seed's head, and what its end makes. -/
theorem seed_open (mi ti bi tk ch : Nat) (cl : Bool) (h1 : mi < 6) (h2 : ti < 16) (h3 : bi < 8) (h4 : tk < 4) (h5 : ch < 4) :
    (seedLs mi ti bi tk ch cl).all goodL = true ∧ (joinL (seedLs mi ti bi tk ch cl)).length + 2 ≤ 1000 ∧
    stepC (lineC (joinL (seedLs mi ti bi tk ch cl) ++ [13])) 10 = emitC ⟨[], ⟨mkB (methodT mi), mkB (targetT ti), fsK bi tk ch cl, emptyB, cl⟩, some (newB (lenK bi ch)), false, 0⟩ := by
  have hf := first_all ⟨mi, h1⟩ ⟨ti, h2⟩
  have hr := rest_all ⟨bi, h3⟩ ⟨tk, h4⟩ ⟨ch, h5⟩ cl
  simp only [firstOK, Bool.and_eq_true, decide_eq_true_eq] at hf
  obtain ⟨⟨hf1, hf2⟩, hf3⟩ := hf
  simp only [restOK, Bool.and_eq_true, decide_eq_true_eq, beq_iff_eq] at hr
  obtain ⟨⟨⟨⟨⟨⟨r1, r2⟩, r3⟩, r4⟩, r5⟩, r6⟩, r7⟩ := hr
  have r1' : takeF ((restL bi tk ch cl).map mkB) = some (fsK bi tk ch cl) := by
    unfold fsK
    cases hx : takeF ((restL bi tk ch cl).map mkB) with
    | none => rw [hx] at r1; cases r1
    | some y => rfl
  have hp : parseF ((firstL mi ti :: restL bi tk ch cl).map mkB) = ⟨mkB (methodT mi), mkB (targetT ti), fsK bi tk ch cl, cl, lenK bi ch, 0⟩ := by
    rw [List.map_cons, parse_ok _ _ ⟨by rw [mkB_size]; omega, by simpa using r7⟩ hf1 r1' r2 (by rw [r3]), r3, r4]
  have hlen : (joinL (firstL mi ti :: restL bi tk ch cl)).length + 2 ≤ 1000 := by
    rw [joinL]
    simp only [List.length_append, List.length_cons, List.length_nil]
    omega
  have hgood : (seedLs mi ti bi tk ch cl).all goodL = true := by
    unfold seedLs
    simp [hf2, r5]
  have hrun := run_heads _ _ hf2 r5 hlen []
  rw [hp] at hrun
  have hby : byHead ⟨mkB (methodT mi), mkB (targetT ti), fsK bi tk ch cl, cl, lenK bi ch, 0⟩ = ⟨[], ⟨mkB (methodT mi), mkB (targetT ti), fsK bi tk ch cl, emptyB, cl⟩, some (newB (lenK bi ch)), false, 0⟩ := rfl
  rw [hby] at hrun
  refine ⟨hgood, hlen, ?_⟩
  have hpre := run_pre (seedLs mi ti bi tk ch cl) [] ((joinL (seedLs mi ti bi tk ch cl)).length + 1) hgood (by simp) (by have : (joinL (seedLs mi ti bi tk ch cl)).length + 2 ≤ 1000 := hlen; simpa using this) (Nat.le_refl _)
  have htk : (joinL (seedLs mi ti bi tk ch cl) ++ [13]).take ((joinL (seedLs mi ti bi tk ch cl)).length + 1) = joinL (seedLs mi ti bi tk ch cl) ++ [13] := List.take_of_length_le (by simp)
  rw [htk, List.nil_append] at hpre
  have e : joinL (firstL mi ti :: restL bi tk ch cl) ++ [13, 10] ++ [] = (joinL (seedLs mi ti bi tk ch cl) ++ [13]) ++ [10] := by simp [seedLs]
  have hn : newC = lineC [] := rfl
  rw [e, runC_app, hn, hpre, runC_cons] at hrun
  simp only [runC, List.append_nil, List.nil_append, Prod.mk.injEq] at hrun
  refine Prod.ext hrun.1 ?_
  have h2 := hrun.2
  generalize (stepC (lineC (joinL (seedLs mi ti bi tk ch cl) ++ [13])) 10).2 = o1 at h2
  generalize (emitC ⟨[], ⟨mkB (methodT mi), mkB (targetT ti), fsK bi tk ch cl, emptyB, cl⟩, some (newB (lenK bi ch)), false, 0⟩).2 = o2 at h2
  cases o1 <;> cases o2 <;> simp at h2 ⊢
  exact h2
theorem seed_split (mi ti bi tk ch : Nat) (cl : Bool) : seedT mi ti bi tk ch cl = (joinL (seedLs mi ti bi tk ch cl) ++ [13]) ++ 10 :: tailT bi ch := by simp [seedT, seedLs]
/-- The first request of a seed's text and what stands behind it. -/
theorem seed_next (mi ti bi tk ch : Nat) (h1 : mi < 6) (h2 : ti < 16) (h3 : bi < 8) (h4 : tk < 4) (h5 : ch < 4) (more : List UInt8) :
    nextC newC (seedT mi ti bi tk ch false ++ more) = (some (seedRq mi ti bi tk ch false), newC, more) := by
  obtain ⟨hg, hl, hst⟩ := seed_open mi ti bi tk ch false h1 h2 h3 h4 h5
  have hb := body_all ⟨bi, h3⟩ ⟨ch, h5⟩
  have hpre := run_pre (seedLs mi ti bi tk ch false) [] ((joinL (seedLs mi ti bi tk ch false)).length + 1) hg (by simp) (by simpa using hl) (Nat.le_refl _)
  have htk : (joinL (seedLs mi ti bi tk ch false) ++ [13]).take ((joinL (seedLs mi ti bi tk ch false)).length + 1) = joinL (seedLs mi ti bi tk ch false) ++ [13] := List.take_of_length_le (by simp)
  rw [htk, List.nil_append] at hpre
  have hn : newC = lineC [] := rfl
  rw [← hn] at hpre
  rw [seed_split, List.append_assoc, next_app _ _ _ (by rw [hpre]) (by rw [hpre]; rfl), hpre]
  simp only
  rw [List.cons_append, nextC, hst]
  simp only [bodyOK, Bool.or_eq_true, Bool.and_eq_true, decide_eq_true_eq] at hb
  rcases hb with ⟨hc0, hb0⟩ | ⟨hb, h50⟩
  · subst hc0
    have hl0 : lenK bi 0 = 0 := by unfold lenK; rw [hb0]; rfl
    have ht0 : tailT bi 0 = [] := by unfold tailT; rw [hb0]; rfl
    rw [hl0, ht0]
    have he : emitC ⟨[], ⟨mkB (methodT mi), mkB (targetT ti), fsK bi tk 0 false, emptyB, false⟩, some (newB 0), false, 0⟩ = (newC, some (seedRq mi ti bi tk 0 false)) := by
      unfold seedRq
      rw [hb0]
      rfl
    rw [he]
    rfl
  · have he : emitC ⟨[], ⟨mkB (methodT mi), mkB (targetT ti), fsK bi tk ch false, emptyB, false⟩, some (newB (lenK bi ch)), false, 0⟩ = (⟨[], ⟨mkB (methodT mi), mkB (targetT ti), fsK bi tk ch false, emptyB, false⟩, some (newB (lenK bi ch)), false, 0⟩, none) := by
      unfold emitC
      simp only
      rw [if_neg h50]
    rw [he]
    simp only
    exact go_next _ rfl _ _ _ _ hb
/-- A seed's text that is cut off. -/
theorem seed_cut (mi ti bi tk ch : Nat) (cl : Bool) (h1 : mi < 6) (h2 : ti < 16) (h3 : bi < 8) (h4 : tk < 4) (h5 : ch < 4) (k : Nat) (hk : k < (seedT mi ti bi tk ch cl).length) :
    ∃ c, runC newC ((seedT mi ti bi tk ch cl).take k) = (c, []) ∧ c.done = false ∧ (c.lines.isEmpty && c.bd.isNone) = decide (k = 0) := by
  obtain ⟨hg, hl, hst⟩ := seed_open mi ti bi tk ch cl h1 h2 h3 h4 h5
  have hb := body_all ⟨bi, h3⟩ ⟨ch, h5⟩
  have hn : newC = lineC [] := rfl
  rw [seed_split] at hk ⊢
  generalize hH : joinL (seedLs mi ti bi tk ch cl) = h at *
  simp only [List.length_append, List.length_cons, List.length_nil] at hk
  by_cases hle : k ≤ h.length + 1
  · have hpre := run_pre (seedLs mi ti bi tk ch cl) [] k hg (by simp) (by rw [hH]; simpa using hl) (by rw [hH]; exact hle)
    rw [hH, List.nil_append] at hpre
    rw [List.take_append_of_le_length (by simp; omega), hn, hpre]
    refine ⟨_, rfl, rfl, ?_⟩
    show (((h ++ [13]).take k).isEmpty && true) = decide (k = 0)
    cases k with
    | zero => rfl
    | succ k =>
      have : ((h ++ [13]).take (k + 1)).isEmpty = false := by
        rw [List.isEmpty_eq_false_iff]
        intro e
        have := congrArg List.length e
        simp at this
      rw [this]
      rfl
  · obtain ⟨j, rfl⟩ : ∃ j, k = h.length + 2 + j := ⟨k - h.length - 2, by omega⟩
    have hpre := run_pre (seedLs mi ti bi tk ch cl) [] (h.length + 1) hg (by simp) (by rw [hH]; simpa using hl) (by rw [hH]; exact Nat.le_refl _)
    rw [hH, List.nil_append, List.take_of_length_le (by simp)] at hpre
    have e : ((h ++ [13]) ++ 10 :: tailT bi ch).take (h.length + 2 + j) = (h ++ [13]) ++ 10 :: (tailT bi ch).take j := by
      rw [List.take_append, List.take_of_length_le (by simp; omega)]
      have : h.length + 2 + j - (h ++ [13]).length = j + 1 := by simp; omega
      rw [this, List.take_succ_cons]
    have hj : j < (tailT bi ch).length := by omega
    simp only [bodyOK, Bool.or_eq_true, Bool.and_eq_true, decide_eq_true_eq] at hb
    rcases hb with ⟨hc0, hb0⟩ | ⟨hb, h50⟩
    · subst hc0
      have ht0 : tailT bi 0 = [] := by unfold tailT; rw [hb0]; rfl
      rw [ht0] at hj
      simp at hj
    · have he : emitC ⟨[], ⟨mkB (methodT mi), mkB (targetT ti), fsK bi tk ch cl, emptyB, cl⟩, some (newB (lenK bi ch)), false, 0⟩ = (⟨[], ⟨mkB (methodT mi), mkB (targetT ti), fsK bi tk ch cl, emptyB, cl⟩, some (newB (lenK bi ch)), false, 0⟩, none) := by
        unfold emitC
        simp only
        rw [if_neg h50]
      obtain ⟨d', hd'⟩ := go_pre ⟨mkB (methodT mi), mkB (targetT ti), fsK bi tk ch cl, emptyB, cl⟩ _ _ _ j hb hj
      rw [e, runC_app, hn, hpre, runC_cons, hst, he]
      simp only
      rw [hd']
      exact ⟨_, rfl, rfl, by simp⟩

/-- Seeds in a row. -/
structure Sd where
  mi : Nat
  ti : Nat
  bi : Nat
  tk : Nat
  ch : Nat
  cl : Bool
  wk : Nat
structure Sd.Ok (s : Sd) : Prop where
  h1 : s.mi < 6
  h2 : s.ti < 16
  h3 : s.bi < 8
  h4 : s.tk < 4
  h5 : s.ch < 4
def Sd.bad (s : Sd) : Bool := decide (1 ≤ s.wk) && decide (s.wk ≤ 3)
def Sd.text (s : Sd) : List UInt8 := if s.bad then wrongT s.mi s.ti s.tk s.cl s.wk else seedT s.mi s.ti s.bi s.tk s.ch s.cl
def Sd.rq (s : Sd) : Rq := seedRq s.mi s.ti s.bi s.tk s.ch s.cl
def sdCut : List Sd → Cst × List Rq
  | [] => (newC, [])
  | s :: l => if s.bad then (stopC (wrongS s.wk), []) else if s.cl then (stopC 0, [s.rq]) else ((sdCut l).1, s.rq :: (sdCut l).2)
def sdText (l : List Sd) : List UInt8 := l.flatMap Sd.text
theorem sdText_cons (s : Sd) (l : List Sd) : sdText (s :: l) = s.text ++ sdText l := rfl
theorem sdText_snoc (s : Sd) (l : List Sd) : sdText (l ++ [s]) = sdText l ++ s.text := by simp [sdText]
theorem sd_run (l : List Sd) (hl : ∀ s ∈ l, s.Ok) (more : List UInt8) : runC newC (sdText l ++ more) = if (sdCut l).1.done then sdCut l else ((runC newC more).1, (sdCut l).2 ++ (runC newC more).2) := by
  induction l with
  | nil => simp [sdText, sdCut, newC]
  | cons s l ih =>
    have hs := hl s (by simp)
    have ih := ih fun x hx => hl x (by simp [hx])
    rw [sdText_cons, List.append_assoc, sdCut]
    unfold Sd.text
    cases hb : s.bad with
    | true =>
      simp only [if_true]
      have hb2 := hb
      unfold Sd.bad at hb2
      simp only [Bool.and_eq_true, decide_eq_true_eq] at hb2
      rw [wrong_run _ _ _ _ _ hs.h1 hs.h2 hs.h4 hb2.1 hb2.2]
      rfl
    | false =>
      simp only [Bool.false_eq_true, if_false]
      rw [seed_run _ _ _ _ _ _ hs.h1 hs.h2 hs.h3 hs.h4 hs.h5]
      cases hc : s.cl with
      | true =>
        simp only [if_true]
        have : afterC true = stopC 0 := rfl
        rw [this, run_over rfl]
        unfold Sd.rq
        rw [hc]
        rfl
      | false =>
        simp only [Bool.false_eq_true, if_false]
        have : afterC false = newC := rfl
        rw [this, ih]
        unfold Sd.rq
        rw [hc]
        by_cases hd : (sdCut l).1.done = true
        · rw [if_pos hd, if_pos hd]
        · rw [if_neg hd, if_neg hd]
          rfl
theorem sdCut_live (l : List Sd) (h : (sdCut l).1.done = false) : (sdCut l).1 = newC := by
  induction l with
  | nil => rfl
  | cons s l ih =>
    rw [sdCut] at h ⊢
    split at h
    · cases h
    · rename_i hb
      rw [if_neg hb]
      split at h
      · cases h
      · rename_i hc
        rw [if_neg hc]
        exact ih h
theorem sd_whole (l : List Sd) (hl : ∀ s ∈ l, s.Ok) : runC newC (sdText l) = sdCut l := by
  have := sd_run l hl []
  rw [List.append_nil] at this
  rw [this]
  by_cases hd : (sdCut l).1.done = true
  · rw [if_pos hd]
  · rw [if_neg hd]
    simp only [runC, List.append_nil]
    rw [← sdCut_live l (by simpa using hd)]
theorem sdCut_snoc (l : List Sd) (s : Sd) : sdCut (l ++ [s]) = if (sdCut l).1.done then sdCut l else if s.bad then (stopC (wrongS s.wk), (sdCut l).2) else if s.cl then (stopC 0, (sdCut l).2 ++ [s.rq]) else (newC, (sdCut l).2 ++ [s.rq]) := by
  induction l with
  | nil =>
    have e : (newC.done = true) = False := by simp [newC]
    simp only [List.nil_append, sdCut, e, if_false]
  | cons x l ih =>
    rw [List.cons_append, sdCut, ih, sdCut]
    by_cases h1 : x.bad = true
    · rw [if_pos h1, if_pos h1]; rfl
    · rw [if_neg h1, if_neg h1]
      by_cases h2 : x.cl = true
      · rw [if_pos h2, if_pos h2]; rfl
      · rw [if_neg h2, if_neg h2]
        simp only
        by_cases h3 : (sdCut l).1.done = true
        · rw [if_pos h3, if_pos h3]
        · rw [if_neg h3, if_neg h3]
          by_cases h4 : s.bad = true
          · rw [if_pos h4, if_pos h4]
          · rw [if_neg h4, if_neg h4]
            by_cases h5 : s.cl = true
            · rw [if_pos h5, if_pos h5]; rfl
            · rw [if_neg h5, if_neg h5]; rfl
theorem sdCut_pre (l : List Sd) : (sdCut l).2.length ≤ l.length ∧ ∀ i (h : i < (sdCut l).2.length) (h2 : i < l.length), ((sdCut l).2[i]) = (l[i]).rq := by
  induction l with
  | nil => exact ⟨Nat.le_refl _, fun i h => absurd h (by simp [sdCut])⟩
  | cons s l ih =>
    obtain ⟨h1, h2⟩ := ih
    rw [sdCut]
    by_cases hb : s.bad = true
    · simp only [hb, if_true]
      exact ⟨Nat.zero_le _, fun i h => absurd h (by simp)⟩
    · simp only [hb, if_false]
      by_cases hc : s.cl = true
      · simp only [hc, if_true]
        refine ⟨by simp, fun i h h3 => ?_⟩
        have : i = 0 := by simp at h; omega
        subst this
        rfl
      · simp only [hc, if_false]
        refine ⟨by simp; omega, fun i h h3 => ?_⟩
        cases i with
        | zero => rfl
        | succ i => simpa using h2 i (by simpa using h) (by simpa using h3)
end Go.Proofs.YtkjlbddaglcooaaGreatDoor
