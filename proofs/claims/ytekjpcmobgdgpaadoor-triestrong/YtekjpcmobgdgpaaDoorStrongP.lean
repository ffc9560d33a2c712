/- The routes of TrieStrong, plainly: which of them is found. -/
import Derived.Test.YtekjpcmobgdgpaaDoorLws
namespace Go.Proofs.YtekjpcmobgdgpaaDoor
open Go.RowKit Pl

def stN : List (List UInt8) := [[47, 119, 47, 101, 110, 100], [47, 119, 47, 58, 120], [47, 119, 47, 42, 121], [47, 58, 97, 47, 101, 110, 100], [47, 42, 122]]
def stH : List (List UInt8) := [[103, 101, 116], [112, 117, 116], [108, 105, 115, 116], [119, 97, 108, 107], [104, 101, 97, 108, 116, 104]]
def stR (i : Nat) : Rt := ⟨[71, 69, 84], stN.getD i [], stH.getD i []⟩
def stOn (w i : Nat) : Bool := decide (2 < i) || decide (w / 2 ^ i % 2 = 1)
/-- The routes ahead of the k-th. -/
def stL (w k : Nat) : List Rt := ((List.range k).filter (stOn w)).map stR
theorem stL_succ (w k : Nat) : stL w (k + 1) = stL w k ++ (if stOn w k then [stR k] else []) := by
  unfold stL
  rw [List.range_succ, List.filter_append, List.map_append]
  cases h : stOn w k <;> simp [h]
theorem stL_few (w k : Nat) : (stL w k).length ≤ k := by
  unfold stL
  rw [List.length_map]
  exact Nat.le_trans (List.length_filter_le _ _) (by simp)
def endB : List UInt8 := [101, 110, 100]
def stWant (w : Nat) (s : List UInt8) : List UInt8 :=
  if w % 2 = 1 ∧ s = endB then [103, 101, 116] else if w / 2 % 2 = 1 then [112, 117, 116] else if w / 4 % 2 = 1 then [108, 105, 115, 116] else if s = endB then [119, 97, 108, 107] else [104, 101, 97, 108, 116, 104]
theorem st_check : ∀ w : Fin 8, checkL (stL w.1 5) = 0 := by decide +kernel
theorem st_pat : ∀ w : Fin 8, (stL w.1 5).all (fun r => (patL r.p).isSome && decide (r.p.length ≤ 10000)) = true := by decide +kernel
theorem cut0 : cutL [47, 119, 47, 101, 110, 100] = [[119], endB] := by decide +kernel
theorem cut1 : cutL [47, 119, 47, 58, 120] = [[119], [58, 120]] := by decide +kernel
theorem cut2 : cutL [47, 119, 47, 42, 121] = [[119], [42, 121]] := by decide +kernel
theorem cut3 : cutL [47, 58, 97, 47, 101, 110, 100] = [[58, 97], endB] := by decide +kernel
theorem cut4 : cutL [47, 42, 122] = [[42, 122]] := by decide +kernel
theorem has0 (s : List UInt8) : hasL [[119], endB] [[119], s] = decide (endB = s) := by simp [hasL, kd, endB]
theorem has1 (s : List UInt8) : hasL [[119], [58, 120]] [[119], s] = decide (s ≠ []) := by simp [hasL, kd]
theorem has2 (s : List UInt8) : hasL [[119], [42, 121]] [[119], s] = true := by simp [hasL, kd]
theorem has3 (s : List UInt8) : hasL [[58, 97], endB] [[119], s] = decide (endB = s) := by simp [hasL, kd, endB]
theorem has4 (s : List UInt8) : hasL [[42, 122]] [[119], s] = true := by simp [hasL, kd]
theorem st_match (s : List UInt8) (hs : s ≠ []) (w : Nat) (hw : w < 8) : (matchL [71, 69, 84] [[119], s] (stL w 5)).h = stWant w s ∧ (matchL [71, 69, 84] [[119], s] (stL w 5)).ok = true := by
  have hfit : ∀ i, fitR cutL [71, 69, 84] [[119], s] (stR i) = hasL (cutL (stR i).p) [[119], s] := fun i => by unfold fitR; simp [stR]
  have f0 : fitR cutL [71, 69, 84] [[119], s] (stR 0) = decide (endB = s) := by rw [hfit, show (stR 0).p = [47, 119, 47, 101, 110, 100] from rfl, cut0, has0]
  have f1 : fitR cutL [71, 69, 84] [[119], s] (stR 1) = true := by rw [hfit, show (stR 1).p = [47, 119, 47, 58, 120] from rfl, cut1, has1]; simp [hs]
  have f2 : fitR cutL [71, 69, 84] [[119], s] (stR 2) = true := by rw [hfit, show (stR 2).p = [47, 119, 47, 42, 121] from rfl, cut2, has2]
  have f3 : fitR cutL [71, 69, 84] [[119], s] (stR 3) = decide (endB = s) := by rw [hfit, show (stR 3).p = [47, 58, 97, 47, 101, 110, 100] from rfl, cut3, has3]
  have f4 : fitR cutL [71, 69, 84] [[119], s] (stR 4) = true := by rw [hfit, show (stR 4).p = [47, 42, 122] from rfl, cut4, has4]
  have c : ∀ i j : Fin 5, strL (cutL (stR i.1).p) (cutL (stR j.1).p) = decide (i < j) := by decide +kernel
  have c' : ∀ i j : Nat, i < 5 → j < 5 → strL (cutL (stR i).p) (cutL (stR j).p) = decide (i < j) := fun i j hi hj => c ⟨i, hi⟩ ⟨j, hj⟩
  have hk : ∀ l, stL w 5 = l → l = stL w 5 := fun l h => h.symm
  by_cases he : endB = s
  · have hw8 : w = 0 ∨ w = 1 ∨ w = 2 ∨ w = 3 ∨ w = 4 ∨ w = 5 ∨ w = 6 ∨ w = 7 := by omega
    subst he
    rcases hw8 with rfl | rfl | rfl | rfl | rfl | rfl | rfl | rfl <;> decide +kernel
  · rw [decide_eq_false he] at f0 f3
    have he' : ¬ s = endB := fun h => he h.symm
    have s0 : ∀ b, stepR cutL [71, 69, 84] [[119], s] b (stR 0) = b := fun b => by unfold stepR; rw [f0]; rfl
    have s3 : ∀ b, stepR cutL [71, 69, 84] [[119], s] b (stR 3) = b := fun b => by unfold stepR; rw [f3]; rfl
    have sn : ∀ i, i = 1 ∨ i = 2 ∨ i = 4 → stepR cutL [71, 69, 84] [[119], s] none (stR i) = some (stR i) := fun i hi => by
      rcases hi with rfl | rfl | rfl
      · unfold stepR; rw [f1]; rfl
      · unfold stepR; rw [f2]; rfl
      · unfold stepR; rw [f4]; rfl
    have ss : ∀ i j, (i = 1 ∨ i = 2 ∨ i = 4) → j < i → stepR cutL [71, 69, 84] [[119], s] (some (stR j)) (stR i) = some (stR j) := fun i j hi hj => by
      have hc := c' i j (by omega) (by omega)
      rw [decide_eq_false (by omega)] at hc
      have hf : fitR cutL [71, 69, 84] [[119], s] (stR i) = true := by
        rcases hi with rfl | rfl | rfl
        · exact f1
        · exact f2
        · exact f4
      unfold stepR; rw [hf, if_pos rfl]
      show (if strL (cutL (stR i).p) (cutL (stR j).p) = true then _ else _) = _
      rw [hc]; rfl
    have hb : bestL cutL [71, 69, 84] [[119], s] (stL w 5) = some (stR (if w / 2 % 2 = 1 then 1 else if w / 4 % 2 = 1 then 2 else 4)) := by
      have hw8 : w = 0 ∨ w = 1 ∨ w = 2 ∨ w = 3 ∨ w = 4 ∨ w = 5 ∨ w = 6 ∨ w = 7 := by omega
      have e0 : stL 0 5 = [stR 3, stR 4] := rfl
      have e1 : stL 1 5 = [stR 0, stR 3, stR 4] := rfl
      have e2 : stL 2 5 = [stR 1, stR 3, stR 4] := rfl
      have e3 : stL 3 5 = [stR 0, stR 1, stR 3, stR 4] := rfl
      have e4 : stL 4 5 = [stR 2, stR 3, stR 4] := rfl
      have e5 : stL 5 5 = [stR 0, stR 2, stR 3, stR 4] := rfl
      have e6 : stL 6 5 = [stR 1, stR 2, stR 3, stR 4] := rfl
      have e7 : stL 7 5 = [stR 0, stR 1, stR 2, stR 3, stR 4] := rfl
      rcases hw8 with rfl | rfl | rfl | rfl | rfl | rfl | rfl | rfl
      · rw [e0, bestL, List.foldl_cons, s3, List.foldl_cons, sn 4 (by decide)]; rfl
      · rw [e1, bestL, List.foldl_cons, s0, List.foldl_cons, s3, List.foldl_cons, sn 4 (by decide)]; rfl
      · rw [e2, bestL, List.foldl_cons, sn 1 (by decide), List.foldl_cons, s3, List.foldl_cons, ss 4 1 (by decide) (by decide)]; rfl
      · rw [e3, bestL, List.foldl_cons, s0, List.foldl_cons, sn 1 (by decide), List.foldl_cons, s3, List.foldl_cons, ss 4 1 (by decide) (by decide)]; rfl
      · rw [e4, bestL, List.foldl_cons, sn 2 (by decide), List.foldl_cons, s3, List.foldl_cons, ss 4 2 (by decide) (by decide)]; rfl
      · rw [e5, bestL, List.foldl_cons, s0, List.foldl_cons, sn 2 (by decide), List.foldl_cons, s3, List.foldl_cons, ss 4 2 (by decide) (by decide)]; rfl
      · rw [e6, bestL, List.foldl_cons, sn 1 (by decide), List.foldl_cons, ss 2 1 (by decide) (by decide), List.foldl_cons, s3, List.foldl_cons, ss 4 1 (by decide) (by decide)]; rfl
      · rw [e7, bestL, List.foldl_cons, s0, List.foldl_cons, sn 1 (by decide), List.foldl_cons, ss 2 1 (by decide) (by decide), List.foldl_cons, s3, List.foldl_cons, ss 4 1 (by decide) (by decide)]; rfl
    have hq : stWant w s = (stR (if w / 2 % 2 = 1 then 1 else if w / 4 % 2 = 1 then 2 else 4)).h := by
      unfold stWant
      rw [if_neg (fun h => he' h.2)]
      by_cases h1 : w / 2 % 2 = 1
      · rw [if_pos h1, if_pos h1]; rfl
      · rw [if_neg h1, if_neg h1]
        by_cases h2 : w / 4 % 2 = 1
        · rw [if_pos h2, if_pos h2]; rfl
        · rw [if_neg h2, if_neg h2, if_neg he']; rfl
    unfold matchL
    rw [hb, hq]
    exact ⟨rfl, rfl⟩
end Go.Proofs.YtekjpcmobgdgpaaDoor
