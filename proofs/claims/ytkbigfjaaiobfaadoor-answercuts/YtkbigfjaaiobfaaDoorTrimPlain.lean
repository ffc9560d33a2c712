/- Blanks and tabs taken off both ends, plainly; no Go. -/
import Derived.Test.YtkbigfjaaiobfaaDoorPlain
import Derived.Lib.SlTrimSet
namespace Go.Proofs.YtkbigfjaaiobfaaDoor.Pl

def bl (c : UInt8) : Bool := c == 32 || c == 9
def tr (l : List UInt8) : List UInt8 := ((l.reverse.dropWhile bl).reverse).dropWhile bl

theorem trimS_eq (l : List UInt8) : Lib.trimS l [32, 9] = tr l := by
  have h : (fun c : UInt8 => ([32, 9] : List UInt8).contains c) = bl := by
    funext c; simp [bl, List.contains, List.elem]
    cases h1 : (c == 32) <;> cases h2 : (c == 9) <;> simp
  unfold Lib.trimS Lib.trimLeftS Lib.trimRightS tr
  rw [h]

theorem drop_blank (p m : List UInt8) (h : p.all bl = true) : (p ++ m).dropWhile bl = m.dropWhile bl := by
  induction p with
  | nil => rfl
  | cons c p ih =>
    simp at h
    rw [List.cons_append, List.dropWhile_cons_of_pos h.1]
    exact ih (by simpa using h.2)
theorem drop_first (m : List UInt8) (h : ∀ c, m.head? = some c → bl c = false) : m.dropWhile bl = m := by
  cases m with
  | nil => rfl
  | cons c m => rw [List.dropWhile_cons_of_neg]; simp [h c rfl]

def Ends (m : List UInt8) : Prop := (∀ c, m.head? = some c → bl c = false) ∧ (∀ c, m.getLast? = some c → bl c = false)

theorem tr_only (p m q : List UInt8) (hp : p.all bl = true) (hq : q.all bl = true) (hm : Ends m) : tr (p ++ m ++ q) = m := by
  unfold tr
  rw [List.reverse_append, drop_blank _ _ (by rw [List.all_reverse]; exact hq), List.reverse_append]
  cases hml : m.reverse with
  | nil =>
    have : m = [] := by simpa using hml
    subst this
    rw [List.nil_append]
    have h0 : (p.reverse ++ []).dropWhile bl = ([] : List UInt8).dropWhile bl := drop_blank p.reverse [] (by rw [List.all_reverse]; exact hp)
    rw [List.append_nil] at h0
    rw [h0]; rfl
  | cons c r =>
    have hc : bl c = false := hm.2 c (by rw [List.getLast?_eq_head?_reverse, hml]; rfl)
    rw [List.cons_append, List.dropWhile_cons_of_neg (by simp [hc]), ← List.cons_append, ← hml, List.reverse_append, List.reverse_reverse, List.reverse_reverse, drop_blank p m hp]
    exact drop_first m hm.1

theorem take_blank (l : List UInt8) : (l.takeWhile bl).all bl = true := by
  induction l with
  | nil => rfl
  | cons c l ih =>
    rw [List.takeWhile_cons]
    split
    · simp_all
    · rfl
theorem first_not (l : List UInt8) : ∀ c, (l.dropWhile bl).head? = some c → bl c = false := by
  induction l with
  | nil => intro c h; cases h
  | cons d l ih =>
    intro c h
    rw [List.dropWhile_cons] at h
    split at h
    · exact ih c h
    · simp at h; subst h; simpa using ‹¬ bl d = true›

theorem tr_parts (l : List UInt8) : ∃ p q, p.all bl = true ∧ q.all bl = true ∧ l = p ++ tr l ++ q := by
  refine ⟨((l.reverse.dropWhile bl).reverse).takeWhile bl, (l.reverse.takeWhile bl).reverse, take_blank _, by rw [List.all_reverse]; exact take_blank _, ?_⟩
  unfold tr
  rw [List.takeWhile_append_dropWhile, ← List.reverse_append, List.takeWhile_append_dropWhile, List.reverse_reverse]
theorem last_of_suffix (l : List UInt8) : ∀ c, (l.dropWhile bl).getLast? = some c → l.getLast? = some c := by
  intro c h
  have e : l.takeWhile bl ++ l.dropWhile bl = l := List.takeWhile_append_dropWhile
  rw [← e, List.getLast?_append, h]; rfl
theorem tr_ends (l : List UInt8) : Ends (tr l) := by
  refine ⟨first_not _, fun c h => ?_⟩
  have h2 := last_of_suffix _ c h
  rw [List.getLast?_reverse] at h2
  exact first_not _ c h2
theorem tr_tr (l : List UInt8) : tr (tr l) = tr l := by
  have := tr_only [] (tr l) [] rfl rfl (tr_ends l)
  simpa using this
theorem tr_pad (a l b : List UInt8) (ha : a.all bl = true) (hb : b.all bl = true) : tr (a ++ l ++ b) = tr l := by
  obtain ⟨p, q, hp, hq, e⟩ := tr_parts l
  have e2 : a ++ l ++ b = (a ++ p) ++ tr l ++ (q ++ b) := by
    conv => lhs; rw [e]
    simp
  rw [e2]
  exact tr_only _ _ _ (by rw [List.all_append, ha, hp]; rfl) (by rw [List.all_append, hq, hb]; rfl) (tr_ends l)
theorem tr_len (l : List UInt8) : (tr l).length ≤ l.length := by
  obtain ⟨p, q, _, _, e⟩ := tr_parts l
  have : l.length = (p ++ tr l ++ q).length := by rw [← e]
  simp at this; omega
theorem tr_empty (l : List UInt8) : (tr l).isEmpty = l.all bl := by
  obtain ⟨p, q, hp, hq, e⟩ := tr_parts l
  cases h : (tr l).isEmpty with
  | true =>
    have h0 : tr l = [] := by simpa using h
    rw [h0] at e
    rw [e, List.append_nil, List.all_append, hp, hq]; rfl
  | false =>
    symm
    cases hm : tr l with
    | nil => rw [hm] at h; cases h
    | cons c r =>
      have hc := (tr_ends l).1 c (by rw [hm]; rfl)
      rw [e, hm, List.all_append, List.all_append]
      simp [hc]

def blTo (s : ByteArray) (k : Nat) : Bool := (s.data.toList.take k).all bl
theorem blTo_step (s : ByteArray) (k : Nat) (h : k < s.size) : blTo s (k + 1) = (blTo s k && bl s[k]) := by
  rw [blTo, blTo, take_snoc s k h, List.all_append]; simp

end Go.Proofs.YtkbigfjaaiobfaaDoor.Pl
