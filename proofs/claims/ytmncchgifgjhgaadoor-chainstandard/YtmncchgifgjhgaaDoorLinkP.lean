/- What each link says by itself. -/
import Derived.Test.YtmncchgifgjhgaaDoorLw
namespace Go.Proofs.YtmncchgifgjhgaaDoor
open Go.RowKit Go.Shelf

def pickB (j : Nat) (b0 b1 b2 b3 : Bool) : Bool := [b0, b1, b2, b3, true].getD j false
def kbT (m : ByteArray) : Bool := (m.toList == [71, 69, 84]) || ((m.toList == [80, 85, 84]) || ((m.toList == [80, 79, 83, 84]) || (m.toList == [68, 69, 76, 69, 84, 69])))
def sbT (m bd : ByteArray) : Bool := (bd.toList == []) || (!(m.toList == [71, 69, 84]) && !(m.toList == [68, 69, 76, 69, 84, 69]))
def gbT (tk tg : ByteArray) (vals : List ByteArray) : Bool := (tk.toList == []) || (!preL admL tg.data.toList || decide (vals = [tk]))
/-- The outcome says what ok says. -/
def Good (o : Out) (ok : Bool) (tg : ByteArray) : Prop := ∃ st l b cl, o = .ans st l b cl ∧ (st == 222) = ok ∧ (ok = true → b = tg ∧ l = [])

theorem test_eq (m : ByteArray) (l : List UInt8) : (m.toList == l) = decide (m = ⟨l.toArray⟩) := by
  rw [eq_list, Bool.eq_iff_iff]
  simp only [decide_eq_true_eq]
  exact ⟨fun h => bytes_ext (by rw [h]), fun h => by rw [h]⟩
theorem good_ref (s : Int) (hs : s ≠ 222) (tg : ByteArray) : Good (refB s) false tg := ⟨_, _, _, _, rfl, by simpa using hs, fun h => by cases h⟩
theorem good_own (tg : ByteArray) : Good (.ans 222 [] tg false) true tg := ⟨_, _, _, _, rfl, rfl, fun _ => ⟨rfl, rfl⟩⟩

theorem good_known (c : Cl) : Good (knownO c (.ans 222 [] c.tg false, true)).1 (kbT c.m) c.tg := by
  unfold knownO
  by_cases h : c.m = getB ∨ c.m = putB ∨ c.m = postB ∨ c.m = delB
  · rw [if_pos h]
    have : kbT c.m = true := by
      unfold kbT
      rw [test_eq, test_eq, test_eq, test_eq]
      simp only [Bool.or_eq_true, decide_eq_true_eq]
      exact h
    rw [this]
    exact good_own _
  · rw [if_neg h]
    have : kbT c.m = false := by
      unfold kbT
      rw [test_eq, test_eq, test_eq, test_eq, Bool.eq_false_iff]
      simp only [ne_eq, Bool.or_eq_true, decide_eq_true_eq]
      exact h
    rw [this]
    exact good_ref 501 (by decide) _
theorem good_small (c : Cl) : Good (smallO c (.ans 222 [] c.tg false, true)).1 (sbT c.m c.bd) c.tg := by
  unfold smallO sbT
  rw [test_eq, test_eq, test_eq]
  by_cases hb : c.bd.data.toList = []
  · have h0 : c.bd = ⟨[].toArray⟩ := bytes_ext hb
    rw [if_pos hb, decide_eq_true h0, Bool.true_or]
    exact good_own _
  · have h0 : ¬ c.bd = ⟨[].toArray⟩ := fun e => hb (by rw [e])
    rw [if_neg hb, decide_eq_false h0, Bool.false_or]
    by_cases h1 : c.m = getB
    · have h2 : c.m = ⟨[71, 69, 84].toArray⟩ := h1
      rw [if_pos h1, decide_eq_true h2]
      exact good_ref 400 (by decide) _
    · have h2 : ¬ c.m = ⟨[71, 69, 84].toArray⟩ := h1
      rw [if_neg h1, decide_eq_false h2]
      by_cases h3 : c.m = delB
      · have h4 : c.m = ⟨[68, 69, 76, 69, 84, 69].toArray⟩ := h3
        rw [if_pos h3, decide_eq_true h4]
        exact good_ref 400 (by decide) _
      · have h4 : ¬ c.m = ⟨[68, 69, 76, 69, 84, 69].toArray⟩ := h3
        rw [if_neg h3, decide_eq_false h4]
        exact good_own _
theorem guarded_eq (tk tg : ByteArray) : guardedB tk tg = (!(tk.toList == []) && preL admL tg.data.toList) := by
  unfold guardedB
  rw [eq_list]
  by_cases h : tk.data.toList = []
  · rw [if_pos h, decide_eq_true h]; rfl
  · rw [if_neg h, decide_eq_false h]; rfl
theorem good_guard (c : Cl) : Good (guardO c (.ans 222 [] c.tg false, true)).1 (gbT c.tk c.tg (valsOf tokB c.fs)) c.tg := by
  unfold guardO gbT showsB
  rw [guarded_eq]
  cases (c.tk.toList == []) with
  | true => simp; exact good_own _
  | false =>
    cases preL admL c.tg.data.toList with
    | false => simp; exact good_own _
    | true =>
      by_cases hv : valsOf tokB c.fs = [c.tk]
      · simp [hv]; exact good_own _
      · simp [hv]; exact good_ref 401 (by decide) _
theorem good_routed (c : Cl) : Good (routedO c (.ans 222 [] c.tg false)).1 c.fd c.tg := by
  unfold routedO
  cases c.fd with
  | true => exact good_own _
  | false =>
    simp only [Bool.false_eq_true, if_false]
    split
    · exact good_ref 404 (by decide) _
    · exact ⟨_, _, _, _, rfl, rfl, fun h => by cases h⟩

theorem hd_sel {P : Nat → Prop} {b : Bool} {cv : Value} {o : Out} {w0 : World} {hv : Value} (h : Hd P anyS anyS cv o w0 hv) : Hd P anyS (sel b anyS anyS) cv o w0 hv := by
  unfold sel
  cases b <;> exact h

/-- The link at place j. -/
theorem link_at (j : Nat) (hj : j < 5) (c : Cl) : ∃ K, LinkOf (.func (.func ([21, 22, 23, 24, 25].getD j 0)) #[] #[]) K #[] ∧ ∀ (w' : World) (g : Nat) (hv : Value), c.ok noP w' → Hd noP anyS anyS c.v (.ans 222 [] c.tg false) w' hv → g < w'.heap.size → w'.cell? ⟨g, 0, none⟩ = some hv →
    ∃ o, Hd noP anyS anyS c.v o w' (.func (.func K) #[] #[.pointer (some ⟨g, 0, none⟩)]) ∧ Good o (pickB j (kbT c.m) (sbT c.m c.bd) (gbT c.tk c.tg (valsOf tokB c.fs)) c.fd) c.tg := by
  have hj' : j = 0 ∨ j = 1 ∨ j = 2 ∨ j = 3 ∨ j = 4 := by omega
  rcases hj' with rfl | rfl | rfl | rfl | rfl
  · exact ⟨_, mk_known, fun w' g hv _ h hg hb => ⟨_, hd_any (known_o (b := true) (hd_sel h) (fun _ q => q.elim) (of_any _) (of_any _) hg (fun q => q) hb), good_known c⟩⟩
  · exact ⟨_, mk_small, fun w' g hv _ h hg hb => ⟨_, hd_any (small_o (b := true) (hd_sel h) (fun _ q => q.elim) (of_any _) (of_any _) hg (fun q => q) hb), good_small c⟩⟩
  · exact ⟨_, mk_guard, fun w' g hv hc h hg hb => ⟨_, hd_any (guard_o (b := true) hc (hd_sel h) (fun _ q => q.elim) (of_any _) (of_any _) hg (fun q => q) hb), good_guard c⟩⟩
  · exact ⟨_, mk_routed, fun w' g hv hc h hg hb => ⟨_, hd_any (routed_o hc h (fun _ q => q.elim) (of_any _) (of_any _) hg (fun q => q) hb), good_routed c⟩⟩
  · exact ⟨_, mk_safe, fun w' g hv _ h hg hb => ⟨_, safe_o h (fun _ q => q.elim) (of_any _) (of_any _) hg (fun q => q) hb, good_own _⟩⟩
end Go.Proofs.YtmncchgifgjhgaaDoor
