/- The contract of (*Head).begin. -/
import Derived.Test.YtkjlbddaglcooaaGreatDoorBodyMem
import Derived.Test.YtkjlbddaglcooaaGreatDoorTake
import Derived.Test.YtkjlbddaglcooaaGreatDoorPlains
import Derived.Test.YtkjlbddaglcooaaGreatDoorWords
namespace Go.Proofs.YtkjlbddaglcooaaGreatDoor
open Go.RowKit Pl

theorem grown_of_below {a b : World} (h : Below a.heap.size a b) (row : Option Nat) : a.grownBy b row := ⟨h.os, h.tape, h.output, h.size, fun i hi _ => h.block i hi⟩
theorem grown_set {a w : World} {g : Nat} (h : a.grownBy w (some g)) (i : Nat) (u : Value) : a.grownBy (w.setCell ⟨g, i, none⟩ u) (some g) := by
  refine ⟨h.os, h.tape, h.output, by simpa [World.setCell] using h.size, fun k hk hne => ?_⟩
  have hne2 : k ≠ g := fun e => hne (by rw [e])
  rw [Below.heap_setCell _ _ _ _ (by simpa using hne2)]
  exact h.block k hk hne
theorem grown_drew {a w : World} {row : Option Nat} (h : a.grownBy w row) : a.grownBy w.drew row := ⟨h.os, h.tape, h.output, h.size, h.block⟩
theorem own_shape {w : World} {base : Nat} {e : TypeId} {v : Value} {n k : Nat} {xs : List Value} (h : w.ownsRow base e k v n xs) (hn : 0 < n) : ∃ g cap, v = .slice (some ⟨g, 0, none⟩) n cap ∧ base ≤ g ∧ g < w.heap.size ∧ n ≤ cap := by
  rcases h.2 with ⟨_, h0⟩ | ⟨g, cap, cur, hv, hb, hh, hc, _⟩
  · omega
  · exact ⟨g, cap, hv, hb, blk_lt hh, hc⟩

/-- What begin leaves. -/
structure Begun (s : ByteArray) (v b cl le st : Value) (w : World) (g : Nat) (w' : World) : Prop where
  first : ∀ m t, firstOf s = some (m, t) → w'.heap[g]? = some (.cells (hdCells (.string m) (.string t) v b cl le st) 51 (0, 0))
  grown : w.grownBy w' (some g)

set_option maxHeartbeats 2000000 in
theorem begin_any (s : ByteArray) (g : Nat) (m0 t0 v b cl le st : Value) (w : World) (hs : s.size ≤ 1000000) (hblk : w.heap[g]? = some (.cells (hdCells m0 t0 v b cl le st) 51 (0, 0))) :
    Calls Tryz.prog 29 #[.pointer (some ⟨g, 0, none⟩), .string s] w fun e w' => e = .returned (.bool (firstOf s).isSome) ∧ Begun s v b cl le st w g w' := by
  have hg := blk_lt hblk
  have hw := Lib.hid fun w => words_any s 32 w (by omega)
  have HB := Lib.hid hblk
  clear hblk
  by_cases h3 : (wordsB 32 s.data.toList).length = 3
  · obtain ⟨x, y, z, hxyz⟩ := three_of s h3
    have hF := first_three s x y z hxyz
    rw [hxyz] at hw
    clear h3 hxyz
    have hz := eq_list z httpB
    simp only [httpB] at hz
    simp only [strV, List.map_cons, List.map_nil, Array.toArray_toList, List.length_cons, List.length_nil] at hw
    have HF := Lib.hid hF
    clear hF
    go_enter Tryz.func29, Tryz.ntmps29
    go_wp2_with fail
    refine (hw.out _).mono ?_
    rintro e w1 ⟨v1, rfl, hown, hb1⟩
    obtain ⟨gw, cap, rfl, hgw, hgl, hcap⟩ := own_shape hown (by decide)
    have k0 := hown.cells (g := gw) rfl 0 (.string x) rfl
    have k1 := hown.cells (g := gw) rfl 1 (.string y) rfl
    have k2 := hown.cells (g := gw) rfl 2 (.string z) rfl
    rw [add_zero_own] at k0 k1 k2
    have HO := Lib.hid hown
    clear hown
    have hblk1 : w1.heap[g]? = some (.cells (hdCells m0 t0 v b cl le st) 51 (0, 0)) := (hb1.block g hg).trans HB.out
    have c0 := blk_cell hblk1 0
    have c1 := blk_cell hblk1 1
    have f0 := blk_free hblk1 0
    have f1 := blk_free hblk1 1
    simp [hdCells] at c0 c1
    have HB1 := Lib.hid hblk1
    clear hblk1
    by_cases hzz : z.data.toList = [72, 84, 84, 80, 47, 49, 46, 49]
    · have hz1 : (z.toList == [72, 84, 84, 80, 47, 49, 46, 49]) = true := by rw [hz]; exact decide_eq_true hzz
      have HZZ := Lib.hid hzz
      clear hz hzz
      go_wp2_with fail
      have hne : gw ≠ g := by omega
      go_region
      have hW : (((w1.setCell { block := g, off := 0 } (Value.string x)).setCell { block := g, off := 1 } (Value.string y)).drew).heap[g]? = some (.cells (hdCells (.string x) (.string y) v b cl le st) 51 (0, 0)) := by
        have e1 := Lib.heap_setCell_same (i := 0) (v := .string x) HB1.out
        have e2 := Lib.heap_setCell_same (i := 1) (v := .string y) e1
        exact e2
      have hgrW : w.grownBy (((w1.setCell { block := g, off := 0 } (Value.string x)).setCell { block := g, off := 1 } (Value.string y)).drew) (some g) :=
        grown_drew (grown_set (grown_set (grown_of_below hb1 _) _ _) _ _)
      have htc := fun w => tok_any x w
      have hpc := fun w => prefix_any y ⟨#[47]⟩ w
      change ∀ w, Calls Tryz.prog 44 #[.string y, .string ⟨#[47]⟩] w fun e w' => e = .returned (.bool (slashB y.data.toList)) ∧ w = w' at hpc
      have hvc := fun w => val_any y w
      have hF2 : firstOf s = if tokB x.data.toList && (slashB y.data.toList && valB y.data.toList) then some (x, y) else none := by
        rw [HF.out]
        simp only [httpB, HZZ.out, true_and, Bool.and_eq_true]
      generalize tokB x.data.toList = bt1 at *
      generalize slashB y.data.toList = bs1 at *
      generalize valB y.data.toList = bv1 at *
      have HF2 := Lib.hid hF2
      have HT := Lib.hid htc; have HP := Lib.hid hpc; have HV := Lib.hid hvc
      clear hF2 htc hpc hvc HF k0 k1 k2 c0 c1 f0 f1 hz1
      have HW := Lib.hid hW
      clear hW
      generalize ((w1.setCell { block := g, off := 0 } (Value.string x)).setCell { block := g, off := 1 } (Value.string y)).drew = W at *
      have c0 := blk_cell HW.out 0
      have c1 := blk_cell HW.out 1
      simp [hdCells] at c0 c1
      have hgW : g < W.heap.size := Nat.lt_of_lt_of_le hg hgrW.size
      go_wp2_with fail
      refine (HT.out _).mono ?_
      rintro e w2 ⟨rfl, hb2⟩
      have hW2 := (hb2.block g hgW).trans HW.out
      have d1 := blk_cell hW2 1
      simp [hdCells] at d1
      have HW2 := Lib.hid hW2
      clear hW2 c0 c1
      have hgr2 := grown_below hgrW hb2
      cases bt1 with
      | false =>
        have HN : Hid (firstOf s = none) := HF2.out
        go_wp2_with fail
        go_ret
        exact ⟨ret_bool (by rw [HN.out]; rfl), (fun m t h => by rw [HN.out] at h; cases h), hgr2⟩
      | true =>
        go_wp2_with fail
        refine (HP.out _).mono ?_
        rintro e w3 ⟨rfl, rfl⟩
        cases bs1 with
        | false =>
          have HN : Hid (firstOf s = none) := HF2.out
          go_wp2_with fail
          go_ret
          exact ⟨ret_bool (by rw [HN.out]; rfl), (fun m t h => by rw [HN.out] at h; cases h), hgr2⟩
        | true =>
          go_wp2_with fail
          refine (HV.out _).mono ?_
          rintro e w4 ⟨rfl, hb4⟩
          have hW4 := (hb4.block g (Nat.lt_of_lt_of_le hg hgr2.size)).trans HW2.out
          have HW4 := Lib.hid hW4
          have hgr4 := grown_below hgr2 hb4
          clear hW4 d1
          cases bv1 with
          | false =>
            have HN : Hid (firstOf s = none) := HF2.out
            go_wp2_with fail
            go_ret
            exact ⟨ret_bool (by rw [HN.out]; rfl), (fun m t h => by rw [HN.out] at h; cases h), hgr4⟩
          | true =>
            have HN : Hid (firstOf s = some (x, y)) := HF2.out
            go_wp2_with fail
            go_ret
            exact ⟨ret_bool (by rw [HN.out]; rfl), (fun m t h => by rw [HN.out] at h; injection h with h; injection h with h1 h2; subst h1; subst h2; exact HW4.out), hgr4⟩
    · have hz1 : (z.toList == [72, 84, 84, 80, 47, 49, 46, 49]) = false := by rw [hz]; exact decide_eq_false hzz
      have HN : Hid (firstOf s = none) := by rw [HF.out, if_neg (fun h => hzz h.1)]; rfl
      clear hz
      go_wp2_with fail
      go_ret
      exact ⟨ret_bool (by rw [HN.out]; rfl), (fun m t h => by rw [HN.out] at h; cases h), grown_of_below hb1 _⟩
  · have HF := Lib.hid (first_not s h3)
    generalize wordsB 32 s.data.toList = ws at *
    have h31 : (ws.length == 3) = false := by simpa using h3
    have h32 : ((ws.length : Int) == 3) = false := by rw [beq_eq_false_iff_ne]; omega
    have h33 : ((ws.length : Int) != 3) = true := by rw [bne, h32]; rfl
    go_enter Tryz.func29, Tryz.ntmps29
    go_wp2_with fail
    refine (hw.out _).mono ?_
    rintro e w1 ⟨v1, rfl, hown, hb1⟩
    obtain ⟨A, cc, rfl, _⟩ := Rd.own hown
    have HO := Lib.hid hown
    clear hown
    go_wp2_with fail
    go_ret
    exact ⟨ret_bool (by rw [HF.out]; rfl), (fun m t h => by rw [HF.out] at h; cases h), grown_of_below hb1 _⟩

end Go.Proofs.YtkjlbddaglcooaaGreatDoor
