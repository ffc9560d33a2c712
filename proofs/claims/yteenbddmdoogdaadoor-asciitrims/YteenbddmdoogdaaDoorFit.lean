/- The contracts of the laws' own helpers: fit, light. -/
import Derived.Test.YteenbddmdoogdaaDoorNumber
import Derived.Test.YteenbddmdoogdaaDoorWords
namespace Go.Proofs.YteenbddmdoogdaaDoor
open Go.RowKit Pl

theorem bt {w w1 w2 : World} (h : Below w.heap.size w w1) (k : Below w1.heap.size w1 w2) : Below w.heap.size w w2 := h.trans (k.mono h.size)

theorem own_shape {w : World} {base : Nat} {e : TypeId} {v : Value} {n : Nat} {xs : List Value} (h : w.ownsRow base e 1 v n xs) (hn : 0 < n) : ∃ g cap, v = .slice (some ⟨g, 0, none⟩) n cap := by
  rcases h.2 with ⟨_, h0⟩ | ⟨g, cap, cur, hv, _⟩
  · omega
  · exact ⟨g, cap, hv⟩

theorem light_any (s : ByteArray) (w : World) : Calls Tryd.prog 5 #[.string s] w fun e w' => e = .returned (.bool (decide (s.size ≤ 1000))) ∧ w = w' := by
  go_enter Tryd.func5, Tryd.ntmps5
  go_wp2
  go_ret
  refine ⟨ret_bool ?_, rfl⟩
  rw [Bool.eq_iff_iff]
  simp
  try omega

theorem light_yes (s : ByteArray) (w : World) (h : s.size ≤ 1000) : Calls Tryd.prog 5 #[.string s] w fun e w' => e = .returned (.bool true) ∧ w = w' := by
  have := light_any s w
  rwa [show decide (s.size ≤ 1000) = true from by simpa using h] at this
theorem light_no (s : ByteArray) (w : World) (h : ¬ s.size ≤ 1000) : Calls Tryd.prog 5 #[.string s] w fun e w' => e = .returned (.bool false) ∧ w = w' := by
  have := light_any s w
  rwa [show decide (s.size ≤ 1000) = false from by simpa using h] at this

set_option maxHeartbeats 1000000 in
theorem fit_any (w : World) : Calls Tryd.prog 4 #[] w fun e w' => e = .returned (.bool true) ∧ Below w.heap.size w w' := by
  have c1 : ∀ w, Calls Tryd.prog 7 #[.string ⟨#[102, 70]⟩, .int .i64 16] w fun e w' => e = .returned (.tuple #[.int .i64 255, .bool true]) ∧ Below w.heap.size w w' := fun w => num16_any ⟨#[102, 70]⟩ w
  have c2 : ∀ w, Calls Tryd.prog 8 #[.string ⟨#[97, 44, 44, 98]⟩, .int .u8 44] w fun e w' => ∃ g cap, e = .returned (.slice (some ⟨g, 0, none⟩) 3 cap) ∧ Below w.heap.size w w' := fun w =>
    (words_any ⟨#[97, 44, 44, 98]⟩ 44 w (by decide)).mono fun e w' ⟨v, he, ho, hb⟩ => by
      obtain ⟨g, cap, hv⟩ := own_shape ho (by decide)
      exact ⟨g, cap, by rw [he, hv]; rfl, hb⟩
  have c3 : ∀ w, Calls Tryd.prog 9 #[.string ⟨#[97, 45, 98]⟩] w fun e w' => e = .returned (.bool true) ∧ Below w.heap.size w w' := fun w => tok_any ⟨#[97, 45, 98]⟩ w
  have c4 : ∀ w, Calls Tryd.prog 9 #[.string ⟨#[]⟩] w fun e w' => e = .returned (.bool false) ∧ Below w.heap.size w w' := fun w => tok_any ⟨#[]⟩ w
  have C1 := Lib.hid c1; have C2 := Lib.hid c2; have C3 := Lib.hid c3; have C4 := Lib.hid c4
  clear c1 c2 c3 c4
  go_enter Tryd.func4, Tryd.ntmps4
  go_wp2_with fail
  refine (C1.out _).mono ?_
  rintro e w1 ⟨rfl, hb1⟩
  go_wp2_with fail
  refine (C2.out _).mono ?_
  rintro e w2 ⟨g, cap, rfl, hb2⟩
  go_wp2_with fail
  refine (C3.out _).mono ?_
  rintro e w3 ⟨rfl, hb3⟩
  go_wp2_with fail
  refine (C4.out _).mono ?_
  rintro e w4 ⟨rfl, hb4⟩
  go_wp2_with fail
  go_ret
  exact ⟨rfl, ((hb1.trans (hb2.mono hb1.size)).trans (hb3.mono (Nat.le_trans hb1.size hb2.size))).trans (hb4.mono (Nat.le_trans hb1.size (Nat.le_trans hb2.size hb3.size)))⟩

end Go.Proofs.YteenbddmdoogdaaDoor
