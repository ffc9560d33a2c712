/- Tables that pass Check, as the list that is gone through sees them: plainly. -/
import Derived.Test.YtgfjkpfjajjidaaDoorPlains
namespace Go.Proofs.YtgfjkpfjajjidaaDoor
open Pl

/-- A pattern's segments, as the document's answer cuts them. -/
def cutL (s : List UInt8) : List Seg := if s = [47] then [] else wordsB 47 (s.drop 1)
theorem cut_pat {p : List UInt8} {l : List Seg} (h : patL p = some l) : cutL p = l := by
  obtain ⟨h1, _⟩ := pat_segs h
  match p, h1 with
  | c :: r, h1 =>
    rw [segsL] at h1
    split at h1
    · rename_i hc
      subst hc
      split at h1
      · rename_i hr
        subst hr
        cases h1; rfl
      · rename_i hr
        split at h1
        · cases h1
          rw [cutL, if_neg (by simpa using hr)]
          rfl
        · cases h1
    · cases h1
theorem kd_kind (s : Seg) : (kd s : Int) = kindL s := by
  cases s with
  | nil => rfl
  | cons c r =>
    simp only [kd, kindL]
    split
    · rfl
    · split <;> rfl
theorem okP_of (l : List Seg) (h : ∀ k (hk : k < l.length), l[k] ≠ [] ∧ (kd l[k] = 2 → k + 1 = l.length)) : okP l = true := by
  induction l with
  | nil => rfl
  | cons p ps ih =>
    have h0 := h 0 (by simp)
    simp only [okP, Bool.and_eq_true, Bool.or_eq_true, decide_eq_true_eq]
    refine ⟨⟨h0.1, ?_⟩, ih fun k hk => ?_⟩
    · by_cases e : kd p = 2
      · have := h0.2 e
        right
        simp at this
        exact this
      · exact .inl e
    · have := h (k + 1) (by simpa using hk)
      simp only [List.getElem_cons_succ, List.length_cons] at this
      exact ⟨this.1, fun e => by have := this.2 e; omega⟩
theorem okP_pat {p : List UInt8} {l : List Seg} (h : patL p = some l) : okP l = true := by
  obtain ⟨_, h2⟩ := pat_segs h
  have hf := fits_all l h2
  refine okP_of l fun k hk => ?_
  have := hf k hk
  have hkk := kd_kind l[k]
  unfold fitL at this
  split at this
  · rename_i h2
    simp only [Bool.and_eq_true, decide_eq_true_eq] at this
    refine ⟨fun e => ?_, fun _ => this.1⟩
    rw [e] at h2; cases h2
  · rename_i h2
    refine ⟨fun e => ?_, fun e => ?_⟩
    · rw [e, if_neg (by decide)] at this
      revert this; decide
    · rw [e] at hkk
      exact absurd hkk.symm h2
theorem shape_shps (l : List Seg) : shapeL l = (shps l).flatMap (47 :: ·) := by
  unfold shapeL shps
  rw [List.flatMap_map]
  congr 1
  funext s
  unfold shapeC shp
  cases s with
  | nil => rfl
  | cons c r =>
    simp only [kd, kindL]
    by_cases h1 : c = 58
    · simp [h1]
    · by_cases h2 : c = 42
      · simp [h2]
      · simp [h1, h2]
theorem check_good {l : List Rt} (h : checkL l = 0) : Good cutL l := fun r hr => by
  have := List.all_eq_true.1 (check_zero h).1 r hr
  simp only [rightL, Bool.and_eq_true] at this
  obtain ⟨q, hq⟩ := Option.isSome_iff_exists.1 this.1.1
  rw [cut_pat hq]
  exact okP_pat hq
theorem check_apart {l : List Rt} (h : checkL l = 0) : Apart cutL l := by
  have h1 := (check_zero h).2.2
  have h2 := List.all_eq_true.1 (check_zero h).1
  rw [List.nodup_iff_pairwise_ne, List.pairwise_map] at h1
  unfold Apart
  refine List.Pairwise.imp_of_mem ?_ h1
  intro r s hr hs hne hb
  apply hne
  have a := h2 r hr
  have b := h2 s hs
  simp only [rightL, Bool.and_eq_true] at a b
  obtain ⟨q, hq⟩ := Option.isSome_iff_exists.1 a.1.1
  obtain ⟨t, ht⟩ := Option.isSome_iff_exists.1 b.1.1
  have e := hb.2
  rw [cut_pat hq, cut_pat ht] at e
  unfold placeL
  rw [hq, ht, hb.1]
  simp only [Option.getD_some]
  rw [shape_shps, shape_shps, e]

end Go.Proofs.YtgfjkpfjajjidaaDoor
