/- The contracts of New, Done, Status, Data, stop, lineLong and pass of package body. -/
import Derived.Test.YtkjlbddaglcooaaGreatDoorBodyMem
import Derived.Test.YtkjlbddaglcooaaGreatDoorToken
namespace Go.Proofs.YtkjlbddaglcooaaGreatDoor
open Go.RowKit Pl
open Go.Lib (byteCells)

theorem new_bv {P : Nat → Prop} {w : World} (hb : ∀ k, P k → k < w.heap.size) (st left : Int) : BO P (w.alloc (.cells #[.int .i64 st, .int .i64 left, .int .i64 0, .slice none 0 0, .slice none 0 0] 72)) w.heap.size ⟨st, left, 0, [], []⟩ :=
  ⟨_, _, heap_alloc_new w _, World.ownsRow_nil _ _ _ _, World.ownsRow_nil _ _ _ _, fun k hk => by have := hb k hk; simp; omega, fun k hk => (by cases hk), fun k hk => (by cases hk), fun k hk => (by cases hk)⟩

theorem new_any (n : Int) (w : World) : Calls Tryz.prog 21 #[.int .i64 n] w fun e w' => ∃ g, e = .returned (.pointer (some ⟨g, 0, none⟩)) ∧ BO (fun k => k < w.heap.size) w' g (newB n) ∧ Below w.heap.size w w' ∧ g = w.heap.size := by
  have hr : n < 0 ∨ n = 0 ∨ 0 < n := by omega
  rcases hr with h | h | h
  · have HN : Hid (newB n = ⟨1, 0, 0, [], []⟩) := by unfold newB; rw [if_pos h]; rfl
    go_enter Tryz.func21, Tryz.ntmps21
    go_wp2
    go_ret
    exact ⟨_, rfl, by rw [HN.out]; exact new_bv (fun _ h => h) _ _, (Below.refl _ _).alloc (Nat.le_refl _) _, rfl⟩
  · subst h
    go_enter Tryz.func21, Tryz.ntmps21
    go_wp2
    go_ret
    exact ⟨_, rfl, new_bv (fun _ h => h) _ _, (Below.refl _ _).alloc (Nat.le_refl _) _, rfl⟩
  · have HN : Hid (newB n = ⟨0, n, 0, [], []⟩) := by unfold newB; rw [if_neg (by omega), if_neg (by omega)]; rfl
    go_enter Tryz.func21, Tryz.ntmps21
    go_wp2
    go_ret
    exact ⟨_, rfl, by rw [HN.out]; exact new_bv (fun _ h => h) _ _, (Below.refl _ _).alloc (Nat.le_refl _) _, rfl⟩

theorem status_any {P : Nat → Prop} {w : World} {g : Nat} {b : Bst} (h : BO P w g b) : Calls Tryz.prog 39 #[.pointer (some ⟨g, 0, none⟩)] w fun e w' => e = .returned (.int .i64 b.status) ∧ w = w' := by
  obtain ⟨lv, dv, h⟩ := h
  have c2 := h.cell 2
  simp [bdCells] at c2
  have H := Lib.hid h
  clear h
  go_enter Tryz.func39, Tryz.ntmps39
  go_wp2
  go_ret
  exact ⟨rfl, rfl⟩

theorem done_any {P : Nat → Prop} {w : World} {g : Nat} {b : Bst} (h : BO P w g b) : Calls Tryz.prog 22 #[.pointer (some ⟨g, 0, none⟩)] w fun e w' => e = .returned (.bool (b.st == 5)) ∧ w = w' := by
  obtain ⟨lv, dv, h⟩ := h
  have c0 := h.cell 0
  simp [bdCells] at c0
  have H := Lib.hid h
  clear h
  go_enter Tryz.func22, Tryz.ntmps22
  go_wp2
  go_ret
  exact ⟨rfl, rfl⟩

theorem data_any {P : Nat → Prop} {w : World} {g : Nat} {b : Bst} (h : BO P w g b) : Calls Tryz.prog 41 #[.pointer (some ⟨g, 0, none⟩)] w fun e w' => e = .returned (.string ⟨b.data.toArray⟩) ∧ w = w' := by
  obtain ⟨lv, dv, h⟩ := h
  have c4 := h.cell 4
  simp [bdCells] at c4
  have hs := own_string h.dt
  have H := Lib.hid h
  clear h
  go_enter Tryz.func41, Tryz.ntmps41
  go_wp2
  go_ret
  exact ⟨rfl, rfl⟩

theorem stop_any {P : Nat → Prop} {w : World} {g : Nat} {b : Bst} (h : BO P w g b) (s : Int) : Calls Tryz.prog 70 #[.pointer (some ⟨g, 0, none⟩), .int .i64 s] w fun e w' => e = .returned (.tuple #[]) ∧ BO P w' g (stopB b s) ∧ Fr P g w w' := by
  obtain ⟨lv, dv, h⟩ := h
  have f0 := h.free 0; have f2 := h.free 2; have f3 := h.free 3
  have c0 := h.cell 0; have c2 := h.cell 2; have c3 := h.cell 3
  simp [bdCells] at c0 c2 c3
  have H := Lib.hid h
  clear h
  go_enter Tryz.func70, Tryz.ntmps70
  go_wp2
  go_end0
  have H1 := ((H.out.set0 5).set2 s).set3n
  exact ⟨rfl, ⟨_, _, H1⟩, (((Fr.refl _ _ _).setCell _ _).setCell _ _).setCell _ _⟩

theorem long_any {P : Nat → Prop} {w : World} {g : Nat} {b : Bst} (h : BO P w g b) (hl : b.line.length ≤ 1000) : Calls Tryz.prog 72 #[.pointer (some ⟨g, 0, none⟩)] w fun e w' => e = .returned (.bool (decide (b.line.length > 200))) ∧ w = w' := by
  obtain ⟨lv, dv, h⟩ := h
  obtain ⟨A, c, rfl, _⟩ := Rd.own h.ln
  have c3 := h.cell 3
  simp [bdCells] at c3
  have H := Lib.hid h
  clear h
  have hr : b.line.length > 200 ∨ b.line.length ≤ 200 := by omega
  rcases hr with hr | hr
  · have HE : Hid (decide (b.line.length > 200) = true) := decide_eq_true hr
    generalize b.line.length = n at *
    go_enter Tryz.func72, Tryz.ntmps72
    go_wp2
    go_ret
    exact ⟨ret_bool (by rw [HE.out]; simp; omega), rfl⟩
  · have HE : Hid (decide (b.line.length > 200) = false) := decide_eq_false (by omega)
    generalize b.line.length = n at *
    go_enter Tryz.func72, Tryz.ntmps72
    go_wp2
    go_ret
    exact ⟨ret_bool (by rw [HE.out]; simp; omega), rfl⟩

theorem pass_any {P : Nat → Prop} {w : World} {g : Nat} {b : Bst} (h : BO P w g b) (hst : b.st = 1 ∨ b.st = 3 ∨ b.st = 4) (n : Int) (hn : 0 ≤ n) (e : Bool) : Calls Tryz.prog 90 #[.pointer (some ⟨g, 0, none⟩), .int .i64 n, .bool e] w fun e' w' => e' = .returned (.tuple #[]) ∧ BO P w' g (passB b n e) ∧ Fr P g w w' := by
  obtain ⟨lv, dv, h⟩ := h
  obtain ⟨st, left, status, line, data⟩ := b
  have f0 := h.free 0; have f1 := h.free 1; have f3 := h.free 3
  have c0 := h.cell 0; have c1 := h.cell 1; have c3 := h.cell 3
  simp [bdCells] at c0 c1 c3 hst
  have H := Lib.hid h
  have hlo := h.lo
  clear h
  have h3 : st = 3 ∨ (st ≠ 3 ∧ 0 < n) ∨ (st = 1 ∧ n = 0) ∨ (st = 4 ∧ n = 0) := by omega
  rcases h3 with hs | ⟨hs, hp⟩ | ⟨hs, hp⟩ | ⟨hs, hp⟩
  · subst hs
    go_enter Tryz.func90, Tryz.ntmps90
    go_wp2
    go_end0
    exact ⟨rfl, ⟨_, _, H.out.set0 1⟩, (Fr.refl _ _ _).setCell _ _⟩
  · have ht : (st == 3) = false := by simpa using hs
    have HP : Hid (passB ⟨st, left, status, line, data⟩ n e = ⟨2, n, status, line, data⟩) := by
      show _ = _
      simp [passB, hs, hp]
    go_enter Tryz.func90, Tryz.ntmps90
    go_wp2
    go_end0
    exact ⟨rfl, by rw [HP.out]; exact ⟨_, _, (H.out.set0 2).set1 n⟩, ((Fr.refl _ _ _).setCell _ _).setCell _ _⟩
  · subst hs hp
    go_enter Tryz.func90, Tryz.ntmps90
    go_wp2
    go_end0
    exact ⟨rfl, ⟨_, _, H.out.set0 4⟩, (Fr.refl _ _ _).setCell _ _⟩
  · subst hs hp
    cases e with
    | false =>
      go_enter Tryz.func90, Tryz.ntmps90
      go_wp2
      go_end0
      exact ⟨rfl, ⟨_, _, H.out⟩, Fr.refl _ _ _⟩
    | true =>
      go_enter Tryz.func90, Tryz.ntmps90
      go_wp2
      go_end0
      exact ⟨rfl, ⟨_, _, (H.out.set0 5).set3n⟩, ((Fr.refl _ _ _).setCell _ _).setCell _ _⟩

end Go.Proofs.YtkjlbddaglcooaaGreatDoor
