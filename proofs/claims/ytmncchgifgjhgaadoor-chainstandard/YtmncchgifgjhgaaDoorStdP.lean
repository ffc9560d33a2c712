/- What the standard chain answers, as the law reckons it. -/
import Derived.Test.YtmncchgifgjhgaaDoorLinkP
namespace Go.Proofs.YtmncchgifgjhgaaDoor
open Go.RowKit Go.Shelf

theorem known_if (c : Cl) (o : Out × Bool) : knownO c o = if kbT c.m = true then o else (refB 501, false) := by
  unfold knownO
  by_cases h : c.m = getB ∨ c.m = putB ∨ c.m = postB ∨ c.m = delB
  · have : kbT c.m = true := by
      unfold kbT
      rw [test_eq, test_eq, test_eq, test_eq]
      simp only [Bool.or_eq_true, decide_eq_true_eq]
      exact h
    rw [if_pos h, if_pos this]
  · have : ¬ kbT c.m = true := by
      unfold kbT
      rw [test_eq, test_eq, test_eq, test_eq]
      simp only [Bool.or_eq_true, decide_eq_true_eq]
      exact h
    rw [if_neg h, if_neg this]
theorem small_if (c : Cl) (o : Out × Bool) : smallO c o = if sbT c.m c.bd = true then o else (refB 400, false) := by
  unfold smallO sbT
  rw [test_eq, test_eq, test_eq]
  by_cases hb : c.bd.data.toList = []
  · have h0 : c.bd = ⟨[].toArray⟩ := bytes_ext hb
    rw [if_pos hb, decide_eq_true h0, Bool.true_or, if_pos rfl]
  · have h0 : ¬ c.bd = ⟨[].toArray⟩ := fun e => hb (by rw [e])
    rw [if_neg hb, decide_eq_false h0, Bool.false_or]
    by_cases h1 : c.m = getB
    · have h2 : c.m = ⟨[71, 69, 84].toArray⟩ := h1
      rw [if_pos h1, decide_eq_true h2]
      rfl
    · have h2 : ¬ c.m = ⟨[71, 69, 84].toArray⟩ := h1
      rw [if_neg h1, decide_eq_false h2]
      by_cases h3 : c.m = delB
      · have h4 : c.m = ⟨[68, 69, 76, 69, 84, 69].toArray⟩ := h3
        rw [if_pos h3, decide_eq_true h4]
        rfl
      · have h4 : ¬ c.m = ⟨[68, 69, 76, 69, 84, 69].toArray⟩ := h3
        rw [if_neg h3, decide_eq_false h4]
        rfl
theorem guard_if (c : Cl) (o : Out × Bool) : guardO c o = if gbT c.tk c.tg (valsOf tokB c.fs) = true then o else (refB 401, false) := by
  unfold guardO gbT showsB
  rw [guarded_eq]
  cases (c.tk.toList == []) with
  | true => simp
  | false =>
    cases preL admL c.tg.data.toList with
    | false => simp
    | true =>
      by_cases hv : valsOf tokB c.fs = [c.tk]
      · simp [hv]
      · simp [hv]

/-- What the law looks for. -/
def wantB (k s g f a gv : Bool) : Int := if k = true then if s = true then if g = true then if f = true then if gv = true then 500 else 0 else if a = true then 405 else 404 else 401 else 400 else 501
/-- An answer of the chain, ahead of its marks. -/
structure Says (want st : Int) (l : List Fld) (b : ByteArray) (cl gv : Bool) (sst : Int) (sl : List Fld) (sb : ByteArray) (scl once : Bool) : Prop where
  own : want = 0 → gv = false ∧ sst = st ∧ sl = l ∧ sb = b ∧ scl = cl ∧ once = true
  ref : want ≠ 0 → sst = want ∧ sb = plB want ∧ scl = false ∧ once = decide (want = 500)
  allow : want = 405 → ∃ x, sl = [(allowB, x)]
  bare : want ≠ 0 → want ≠ 405 → sl = []
def own0 (gv : Bool) (st : Int) (l : List Fld) (b : ByteArray) (cl : Bool) : Out := if gv = true then .gone else .ans st l b cl

theorem says_ref (w : Int) (h0 : w ≠ 0) (h4 : w ≠ 405) (once : Bool) (ho : once = decide (w = 500)) {st : Int} {l : List Fld} {b : ByteArray} {cl gv : Bool} : Says w st l b cl gv w [] (plB w) false once :=
  ⟨fun h => absurd h h0, fun _ => ⟨rfl, rfl, rfl, ho⟩, fun h => absurd h h4, fun _ _ => rfl⟩
theorem std_says (c : Cl) (gv : Bool) (st : Int) (l : List Fld) (b : ByteArray) (cl : Bool) : ∃ sst sl sb scl, safeO (stdO c (own0 gv st l b cl)).1 = .ans sst sl sb scl ∧
    Says (wantB (kbT c.m) (sbT c.m c.bd) (gbT c.tk c.tg (valsOf tokB c.fs)) c.fd (decide (c.al ≠ [])) gv) st l b cl gv sst sl sb scl (stdO c (own0 gv st l b cl)).2 := by
  unfold stdO wantB
  rw [known_if, small_if, guard_if]
  cases kbT c.m with
  | false => exact ⟨_, _, _, _, rfl, says_ref 501 (by decide) (by decide) _ rfl⟩
  | true =>
    cases sbT c.m c.bd with
    | false => exact ⟨_, _, _, _, rfl, says_ref 400 (by decide) (by decide) _ rfl⟩
    | true =>
      cases gbT c.tk c.tg (valsOf tokB c.fs) with
      | false => exact ⟨_, _, _, _, rfl, says_ref 401 (by decide) (by decide) _ rfl⟩
      | true =>
        unfold routedO
        cases c.fd with
        | true =>
          cases gv with
          | true => exact ⟨_, _, _, _, rfl, says_ref 500 (by decide) (by decide) _ rfl⟩
          | false => exact ⟨_, _, _, _, rfl, fun _ => ⟨rfl, rfl, rfl, rfl, rfl, rfl⟩, fun h => absurd rfl h, fun h => absurd (show (0 : Int) = 405 from h) (by decide), fun h => absurd rfl h⟩
        | false =>
          by_cases ha : c.al = []
          · simp only [ha, ne_eq, not_true_eq_false, decide_false, Bool.false_eq_true, if_false, if_true]
            exact ⟨_, _, _, _, rfl, says_ref 404 (by decide) (by decide) _ rfl⟩
          · simp only [ha, ne_eq, not_false_eq_true, decide_true, Bool.false_eq_true, if_false, if_true]
            exact ⟨_, _, _, _, rfl, fun h => absurd (show (405 : Int) = 0 from h) (by decide), fun _ => ⟨rfl, rfl, rfl, rfl⟩, fun _ => ⟨_, rfl⟩, fun _ h => absurd rfl h⟩
end Go.Proofs.YtmncchgifgjhgaaDoor
