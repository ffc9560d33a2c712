/- The pattern of TrieParams, plainly. -/
import Derived.Test.YtgfjkpfjajjidaaDoorMatchesW
import Derived.Test.YtgfjkpfjajjidaaDoorKeepsW
namespace Go.Proofs.YtgfjkpfjajjidaaDoor
open Go.RowKit Pl

/-- Its segment number i of n. -/
def pmS (rest : Bool) (n i : Nat) : Seg := [if rest = true ∧ i + 1 = n then 42 else 58, 110, UInt8.ofNat (48 + i)]
def pmP (rest : Bool) (n k : Nat) : List UInt8 := (List.range k).flatMap fun i => 47 :: pmS rest n i
def pmL (rest : Bool) (n : Nat) : List Seg := (List.range n).map (pmS rest n)
def pmR (rest : Bool) (n : Nat) : Rt := ⟨[71, 69, 84], pmP rest n n, [103, 101, 116]⟩
theorem pm_succ (rest : Bool) (n k : Nat) : pmP rest n (k + 1) = pmP rest n k ++ 47 :: pmS rest n k := by
  unfold pmP
  rw [List.range_succ, List.flatMap_append]
  simp
theorem pm_pat : ∀ (rest : Bool) (n : Fin 8), 0 < n.1 → patL (pmP rest n.1 n.1) = some (pmL rest n.1) ∧ (pmP rest n.1 n.1).length ≤ 10000 ∧ checkL [pmR rest n.1] = 0 ∧ cutL (pmP rest n.1 n.1) = pmL rest n.1 := by decide +kernel
theorem pm_law (rest : Bool) (n : Nat) (h0 : 0 < n) (h7 : n ≤ 7) : Law [pmR rest n] := by
  obtain ⟨h1, h2, h3, _⟩ := pm_pat rest ⟨n, by omega⟩ h0
  exact ⟨by simp, check_good h3, check_apart h3, fun r hr => by simp at hr; subst hr; exact ⟨by show (patL (pmP rest n n)).isSome = true; rw [h1]; rfl, h2⟩⟩
/-- All but perhaps the last stand for one segment. -/
def anyOnes : List Seg → Prop
  | [] => True
  | p :: ps => (kd p = 1 ∨ (kd p = 2 ∧ ps = [])) ∧ anyOnes ps
theorem ones_of (l : List Seg) (h : ∀ k (hk : k < l.length), kd l[k] = 1 ∨ (kd l[k] = 2 ∧ k + 1 = l.length)) : anyOnes l := by
  induction l with
  | nil => trivial
  | cons p ps ih =>
    refine ⟨?_, ih fun k hk => ?_⟩
    · rcases h 0 (by simp) with h1 | ⟨h1, h2⟩
      · exact .inl h1
      · exact .inr ⟨h1, by simp at h2; exact h2⟩
    · have := h (k + 1) (by simpa using hk)
      simp only [List.getElem_cons_succ, List.length_cons] at this
      rcases this with h1 | ⟨h1, h2⟩
      · exact .inl h1
      · exact .inr ⟨h1, by omega⟩
theorem pm_ones (rest : Bool) (n : Nat) : anyOnes (pmL rest n) := by
  refine ones_of _ fun k hk => ?_
  have hk' : k < n := by simpa [pmL] using hk
  have e : (pmL rest n)[k] = pmS rest n k := by simp [pmL]
  rw [e]
  unfold pmS
  by_cases h : rest = true ∧ k + 1 = n
  · rw [if_pos h]
    exact .inr ⟨rfl, by simp [pmL]; exact h.2⟩
  · rw [if_neg h]
    exact .inl rfl
theorem ones_has : ∀ (q x : List Seg), anyOnes q → q.length = x.length → (∀ s ∈ x, s ≠ []) → hasL q x = true
  | [], [], _, _, _ => rfl
  | [], _ :: _, _, h, _ => by simp at h
  | _ :: _, [], _, h, _ => by simp at h
  | p :: ps, y :: ys, ho, hl, hx => by
    have ih := ones_has ps ys ho.2 (by simpa using hl) (fun s hs => hx s (List.mem_cons_of_mem _ hs))
    rcases ho.1 with h | ⟨h, _⟩
    · rw [hasL, if_neg (by omega), if_pos h, ih, Bool.and_true, decide_eq_true_eq]
      exact hx y (by simp)
    · rw [hasL, if_pos h]
/-- What stands for each name. -/
theorem ones_params : ∀ (q x : List Seg), anyOnes q → q.length = x.length → paramsL q x = (q.map (·.drop 1)).zip x
  | [], [], _, _ => rfl
  | [], _ :: _, _, h => by simp at h
  | _ :: _, [], _, h => by simp at h
  | p :: ps, y :: ys, ho, hl => by
    have ih := ones_params ps ys ho.2 (by simpa using hl)
    rcases ho.1 with h | ⟨h, he⟩
    · rw [paramsL, if_neg (by omega), if_pos h, ih]; rfl
    · subst he
      have : ys = [] := List.length_eq_zero_iff.1 (by simpa using hl.symm)
      subst this
      rw [paramsL, if_pos h]; rfl
/-- One segment more. -/
theorem ones_more : ∀ (q x : List Seg) (z : Seg), anyOnes q → q.length = x.length → q ≠ [] → (∀ s ∈ x, s ≠ []) → (hasL q (x ++ [z]) = decide (kd (q.getLast?.getD []) = 2)) ∧ (kd (q.getLast?.getD []) = 2 → (paramsL q (x ++ [z])).getLast? = some ((q.getLast?.getD []).drop 1, x.getLast?.getD [] ++ 47 :: z) ∧ (paramsL q (x ++ [z])).length = x.length)
  | [], _, _, _, _, h, _ => absurd rfl h
  | _ :: _, [], _, _, h, _, _ => by simp at h
  | [p], [y], z, ho, _, _, hx => by
    rcases ho.1 with h | ⟨h, _⟩
    · refine ⟨?_, fun h2 => ?_⟩
      · show hasL [p] [y, z] = _
        rw [hasL, if_neg (by omega), if_pos h]
        simp [hasL, h]
      · simp at h2; omega
    · refine ⟨?_, fun _ => ?_⟩
      · show hasL [p] [y, z] = _
        rw [hasL, if_pos h]; simp [h]
      · have e : paramsL [p] ([y] ++ [z]) = [(p.drop 1, joinS [y, z])] := by
          show paramsL [p] [y, z] = _
          rw [paramsL, if_pos h]
        rw [e]
        exact ⟨rfl, rfl⟩
  | [_], _ :: _ :: _, _, _, h, _, _ => by simp at h
  | _ :: _ :: _, [_], _, _, h, _, _ => by simp at h
  | p :: p2 :: ps, y :: y2 :: ys, z, ho, hl, _, hx => by
    have ih := ones_more (p2 :: ps) (y2 :: ys) z ho.2 (by simpa using hl) (by simp) (fun s hs => hx s (List.mem_cons_of_mem _ hs))
    have h1 : kd p = 1 := by
      rcases ho.1 with h | ⟨_, h⟩
      · exact h
      · cases h
    have e : (p :: p2 :: ps).getLast?.getD [] = (p2 :: ps).getLast?.getD [] := by simp [List.getLast?_cons]
    have e2 : (y :: y2 :: ys).getLast?.getD [] = (y2 :: ys).getLast?.getD [] := by simp [List.getLast?_cons]
    rw [e, e2]
    refine ⟨?_, fun h2 => ?_⟩
    · show hasL (p :: p2 :: ps) (y :: (y2 :: ys ++ [z])) = _
      rw [hasL, if_neg (by omega), if_pos h1, ih.1, decide_eq_true (hx y (by simp)), Bool.true_and]
    · obtain ⟨i1, i2⟩ := ih.2 h2
      have e3 : paramsL (p :: p2 :: ps) (y :: y2 :: ys ++ [z]) = (p.drop 1, y) :: paramsL (p2 :: ps) (y2 :: ys ++ [z]) := by
        show paramsL (p :: p2 :: ps) (y :: (y2 :: ys ++ [z])) = _
        rw [paramsL, if_neg (by omega), if_pos h1]
      rw [e3]
      refine ⟨?_, by rw [List.length_cons, i2]; simp⟩
      rw [List.getLast?_cons, i1]; rfl
theorem one_best (r : Rt) (x : List Seg) (hc : r.m = [71, 69, 84]) : matchL [71, 69, 84] x [r] = if hasL (cutL r.p) x then ⟨r.h, paramsL (cutL r.p) x, [], true⟩ else ⟨[], [], [], false⟩ := by
  unfold matchL bestL allowL
  simp only [List.foldl_cons, List.foldl_nil]
  unfold stepR stepA fitR
  rw [decide_eq_true hc, Bool.and_true]
  cases hasL (cutL r.p) x <;> rfl
theorem pm_last (rest : Bool) (n : Nat) (h : 0 < n) : (pmL rest n).getLast?.getD [] = pmS rest n (n - 1) := by
  unfold pmL
  rw [List.getLast?_eq_getElem?, List.length_map, List.length_range, List.getElem?_map, List.getElem?_range (by omega)]; rfl
theorem pm_kd (rest : Bool) (n : Nat) (h : 0 < n) : decide (kd (pmS rest n (n - 1)) = 2) = rest := by
  unfold pmS
  cases rest
  · rfl
  · rw [if_pos ⟨rfl, by omega⟩]; rfl
/-- What is found by the path itself. -/
theorem pm_match (rest : Bool) (n : Nat) (x : List Seg) (h0 : 0 < n) (h7 : n ≤ 7) (hx : x.length = n) (hne : ∀ s ∈ x, s ≠ []) : (matchL [71, 69, 84] x [pmR rest n]).ok = true ∧ (matchL [71, 69, 84] x [pmR rest n]).ps = ((pmL rest n).map (·.drop 1)).zip x := by
  have hc := (pm_pat rest ⟨n, by omega⟩ h0).2.2.2
  have hl : (pmL rest n).length = x.length := by simp [pmL, hx]
  rw [one_best _ _ rfl]
  have hcc : cutL (pmR rest n).p = pmL rest n := hc
  rw [hcc, ones_has _ _ (pm_ones rest n) hl hne, if_pos rfl]
  exact ⟨rfl, ones_params _ _ (pm_ones rest n) hl⟩
/-- By the path with one segment more. -/
theorem pm_more (rest : Bool) (n : Nat) (x : List Seg) (z : Seg) (h0 : 0 < n) (h7 : n ≤ 7) (hx : x.length = n) (hne : ∀ s ∈ x, s ≠ []) : (matchL [71, 69, 84] (x ++ [z]) [pmR rest n]).ok = rest ∧ (rest = true → (matchL [71, 69, 84] (x ++ [z]) [pmR rest n]).ps.length = n ∧ ((matchL [71, 69, 84] (x ++ [z]) [pmR rest n]).ps[n - 1]?).map Prod.snd = some (x.getLast?.getD [] ++ 47 :: z)) := by
  have hc := (pm_pat rest ⟨n, by omega⟩ h0).2.2.2
  have hl : (pmL rest n).length = x.length := by simp [pmL, hx]
  have hq : pmL rest n ≠ [] := fun h => by rw [h] at hl; simp at hl; omega
  obtain ⟨h1, h2⟩ := ones_more (pmL rest n) x z (pm_ones rest n) hl hq hne
  rw [pm_last rest n h0] at h1 h2
  rw [pm_kd rest n h0] at h1
  rw [one_best _ _ rfl]
  have hcc : cutL (pmR rest n).p = pmL rest n := hc
  rw [hcc, h1]
  cases rest with
  | false => exact ⟨rfl, fun h => by cases h⟩
  | true =>
    obtain ⟨i1, i2⟩ := h2 (of_decide_eq_true (pm_kd true n h0))
    rw [if_pos rfl]
    refine ⟨rfl, fun _ => ⟨i2.trans hx, ?_⟩⟩
    show ((paramsL (pmL true n) (x ++ [z]))[n - 1]?).map Prod.snd = _
    rw [List.getLast?_eq_getElem?, i2, hx] at i1
    rw [i1]; rfl
end Go.Proofs.YtgfjkpfjajjidaaDoor
