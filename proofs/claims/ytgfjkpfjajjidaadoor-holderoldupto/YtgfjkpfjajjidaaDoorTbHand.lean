/- The contract of table.Handler: the names of handlers lie in block 0. -/
import Derived.Test.YtgfjkpfjajjidaaDoorNxStr
import Derived.Test.YtgfjkpfjajjidaaDoorPtPat
namespace Go.Proofs.YtgfjkpfjajjidaaDoor
open Go.RowKit Pl

/-- The eight names lie where the program laid them. -/
def HB (w : World) : Prop := ∀ i (h : i < 8), w.cell? ⟨0, i, none⟩ = some (.string (mkB (names8[i]'h)))
theorem HB.lt {w : World} (h : HB w) : 0 < w.heap.size := World.block_lt_of_cell? _ _ (h 0 (by decide))
theorem HB.on {w w' : World} (h : HB w) {C : Nat} (hb : Below C w w') (hC : 0 < C) : HB w' := fun i hi => (hb.cell (p := ⟨0, i, none⟩) hC).trans (h i hi)
theorem HB.below {w w' : World} (h : HB w) (hb : Below w.heap.size w w') : HB w' := h.on hb h.lt

theorem hand_step (l : List UInt8) (k : Nat) (h : k < 8) (hn : ∀ j (hj : j < 8), j < k → l ≠ names8[j]'hj) (he : l ≠ names8[k]'h) : ∀ j (hj : j < 8), j < k + 1 → l ≠ names8[j]'hj := by
  intro j hj hjk
  by_cases e : j = k
  · subst e; exact he
  · exact hn j hj (by omega)
theorem hand_no (l : List UInt8) (hn : ∀ j (hj : j < 8), j < 8 → l ≠ names8[j]'hj) : handL l = false := by
  rw [handL, decide_eq_false_iff_not]
  intro hm
  obtain ⟨i, hi, e⟩ := List.getElem_of_mem hm
  exact hn i hi hi e.symm
theorem hand_yes (l : List UInt8) (k : Nat) (h : k < 8) (he : l = names8[k]'h) : handL l = true := by
  rw [handL, decide_eq_true_iff, he]
  exact List.getElem_mem h
theorem str_eq (s : ByteArray) (l : List UInt8) : (s.toList == (mkB l).toList) = decide (s.data.toList = l) := by
  rw [Lib.toList_data (mkB l), mkB_data]; exact eq_list s l

set_option maxRecDepth 100000 in
set_option maxHeartbeats 4000000 in
theorem hand_any (s : ByteArray) (w : World) (hw : HB w) : Calls Tryd.prog 18 #[.string s] w fun e w' => e = .returned (.bool (handL s.data.toList)) ∧ w = w' := by
  have HT := Lib.hid (fun k (h : k < 8) => str_eq s (names8[k]'h))
  generalize hm : (fun k : Nat => mkB (names8.getD k [])) = m
  have HM : Hid (∀ k (h : k < 8), mkB (names8[k]'h) = m k) := fun k h => by
    rw [← hm]
    show mkB _ = mkB _
    congr 1
    rw [List.getD_eq_getElem?_getD, List.getElem?_eq_getElem h]; rfl
  have c0 : w.cell? ⟨0, 0, none⟩ = some (.string (m 0)) := by rw [← HM.out 0 (by decide)]; exact hw 0 (by decide)
  have c1 : w.cell? ⟨0, 1, none⟩ = some (.string (m 1)) := by rw [← HM.out 1 (by decide)]; exact hw 1 (by decide)
  have c2 : w.cell? ⟨0, 2, none⟩ = some (.string (m 2)) := by rw [← HM.out 2 (by decide)]; exact hw 2 (by decide)
  have c3 : w.cell? ⟨0, 3, none⟩ = some (.string (m 3)) := by rw [← HM.out 3 (by decide)]; exact hw 3 (by decide)
  have c4 : w.cell? ⟨0, 4, none⟩ = some (.string (m 4)) := by rw [← HM.out 4 (by decide)]; exact hw 4 (by decide)
  have c5 : w.cell? ⟨0, 5, none⟩ = some (.string (m 5)) := by rw [← HM.out 5 (by decide)]; exact hw 5 (by decide)
  have c6 : w.cell? ⟨0, 6, none⟩ = some (.string (m 6)) := by rw [← HM.out 6 (by decide)]; exact hw 6 (by decide)
  have c7 : w.cell? ⟨0, 7, none⟩ = some (.string (m 7)) := by rw [← HM.out 7 (by decide)]; exact hw 7 (by decide)
  have i0 : ∀ wx, (Instr.index 82 (.agg #[.string (m 0), .string (m 1), .string (m 2), .string (m 3), .string (m 4), .string (m 5), .string (m 6), .string (m 7)]) (.int .i64 0)).run Tryd.prog wx = .ok (.string (m 0)) wx := fun _ => by kernel_rfl
  have i1 : ∀ wx, (Instr.index 82 (.agg #[.string (m 0), .string (m 1), .string (m 2), .string (m 3), .string (m 4), .string (m 5), .string (m 6), .string (m 7)]) (.int .i64 1)).run Tryd.prog wx = .ok (.string (m 1)) wx := fun _ => by kernel_rfl
  have i2 : ∀ wx, (Instr.index 82 (.agg #[.string (m 0), .string (m 1), .string (m 2), .string (m 3), .string (m 4), .string (m 5), .string (m 6), .string (m 7)]) (.int .i64 2)).run Tryd.prog wx = .ok (.string (m 2)) wx := fun _ => by kernel_rfl
  have i3 : ∀ wx, (Instr.index 82 (.agg #[.string (m 0), .string (m 1), .string (m 2), .string (m 3), .string (m 4), .string (m 5), .string (m 6), .string (m 7)]) (.int .i64 3)).run Tryd.prog wx = .ok (.string (m 3)) wx := fun _ => by kernel_rfl
  have i4 : ∀ wx, (Instr.index 82 (.agg #[.string (m 0), .string (m 1), .string (m 2), .string (m 3), .string (m 4), .string (m 5), .string (m 6), .string (m 7)]) (.int .i64 4)).run Tryd.prog wx = .ok (.string (m 4)) wx := fun _ => by kernel_rfl
  have i5 : ∀ wx, (Instr.index 82 (.agg #[.string (m 0), .string (m 1), .string (m 2), .string (m 3), .string (m 4), .string (m 5), .string (m 6), .string (m 7)]) (.int .i64 5)).run Tryd.prog wx = .ok (.string (m 5)) wx := fun _ => by kernel_rfl
  have i6 : ∀ wx, (Instr.index 82 (.agg #[.string (m 0), .string (m 1), .string (m 2), .string (m 3), .string (m 4), .string (m 5), .string (m 6), .string (m 7)]) (.int .i64 6)).run Tryd.prog wx = .ok (.string (m 6)) wx := fun _ => by kernel_rfl
  have i7 : ∀ wx, (Instr.index 82 (.agg #[.string (m 0), .string (m 1), .string (m 2), .string (m 3), .string (m 4), .string (m 5), .string (m 6), .string (m 7)]) (.int .i64 7)).run Tryd.prog wx = .ok (.string (m 7)) wx := fun _ => by kernel_rfl
  clear hm hw
  go_enter Tryd.func18, Tryd.ntmps18
  go_wp2_with fail
  go_loop [6] (fun i => ∃ k : Nat, k ≤ 8 ∧ i = .int .i64 k ∧ Hid (∀ j (hj : j < 8), j < k → s.data.toList ≠ names8[j]'hj)) (fun i => 8 - (intOf i).toNat)
  case atStart => exact ⟨0, by omega, rfl, fun j hj h => absurd h (by omega)⟩
  case round =>
    obtain ⟨k, hk, rfl, HN⟩ := hrel
    by_cases hlt : k < 8
    · have ht := HT.out k hlt
      rw [HM.out k hlt] at ht
      by_cases he : s.data.toList = names8[k]'hlt
      · rw [decide_eq_true he] at ht
        have HY := Lib.hid (hand_yes _ k hlt he)
        clear he
        have hkc : k = 0 ∨ k = 1 ∨ k = 2 ∨ k = 3 ∨ k = 4 ∨ k = 5 ∨ k = 6 ∨ k = 7 := by omega
        rcases hkc with rfl | rfl | rfl | rfl | rfl | rfl | rfl | rfl
        all_goals
          go_wp2_with fail
          go_ret
          exact ⟨ret_bool HY.out.symm, rfl⟩
      · rw [decide_eq_false he] at ht
        have HY := Lib.hid (hand_step _ k hlt HN.out he)
        clear he
        have hkc : k = 0 ∨ k = 1 ∨ k = 2 ∨ k = 3 ∨ k = 4 ∨ k = 5 ∨ k = 6 ∨ k = 7 := by omega
        rcases hkc with rfl | rfl | rfl | rfl | rfl | rfl | rfl | rfl
        all_goals
          go_wp2_with fail
          exact ⟨⟨_, by omega, by go_num, HY⟩, by simp [intOf]⟩
    · have hk8 : k = 8 := by omega
      subst hk8
      have HY := Lib.hid (hand_no _ HN.out)
      go_wp2_with fail
      go_ret
      exact ⟨ret_bool HY.out.symm, rfl⟩

end Go.Proofs.YtgfjkpfjajjidaaDoor
