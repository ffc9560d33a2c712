/- The contracts of (*Body).read and (*Body).endLine. -/
import Derived.Test.YtkjlbddaglcooaaGreatDoorBodyLow
import Derived.Test.YtkjlbddaglcooaaGreatDoorBodyStr
import Derived.Test.YtkjlbddaglcooaaGreatDoorNumber
namespace Go.Proofs.YtkjlbddaglcooaaGreatDoor
open Go.RowKit Pl
open Go.Lib (byteCells)

theorem num_list (x : List UInt8) (w : World) : Calls Tryz.prog 61 #[.string ⟨x.toArray⟩, .int .i64 16] w fun e w' => e = .returned (.tuple #[.int .i64 ((numB 16 x).getD 0), .bool (numB 16 x).isSome]) ∧ Below w.heap.size w w' := by
  have := num16_any ⟨x.toArray⟩ w
  simpa using this

set_option maxHeartbeats 1000000 in
theorem read_any {P : Nat → Prop} {w : World} {g : Nat} {b : Bst} (h : BO P w g b) (hst : b.st = 1 ∨ b.st = 3 ∨ b.st = 4) (x : List UInt8) (hx : x.length ≤ 1000000) :
    Calls Tryz.prog 89 #[.pointer (some ⟨g, 0, none⟩), .string ⟨x.toArray⟩] w fun e w' => e = .returned (.tuple #[.int .i64 ((readB b.st x).getD 0), .bool (readB b.st x).isSome]) ∧ Below w.heap.size w w' := by
  obtain ⟨lv, dv, h⟩ := h
  obtain ⟨st, left, status, line, data⟩ := b
  have c0 := h.cell 0
  simp [bdCells] at c0 hst
  have HC := Lib.hid fun w => cut_any x w hx
  have HM := Lib.hid fun w => num_list (cutS x) w
  clear h
  rcases hst with rfl | rfl | rfl
  · have HR : Hid (readB 1 x = numB 16 (cutS x)) := rfl
    generalize cutS x = y at *
    generalize numB 16 y = r at *
    generalize hr0 : r.getD 0 = r0 at HM
    generalize hr1 : r.isSome = r1 at HM
    have HR0 := Lib.hid hr0; have HR1 := Lib.hid hr1
    clear hr0 hr1
    go_enter Tryz.func89, Tryz.ntmps89
    go_wp2_with (first | (go_at_call 46; refine (HC.out _).mono ?_; rintro e w1 ⟨⟨u, v, rfl⟩, hb1⟩) | (go_at_call 61; refine (HM.out _).mono ?_; rintro e w2 ⟨rfl, hb2⟩))
    go_ret2
    exact ⟨by rw [HR.out, HR0.out, HR1.out]; rfl, bt hb1 hb2⟩
  · by_cases hx0 : x = []
    · subst hx0
      have HR : Hid (readB 3 [] = some 0) := rfl
      go_enter Tryz.func89, Tryz.ntmps89
      go_wp2
      go_ret2
      exact ⟨by rw [HR.out]; rfl, Below.refl _ _⟩
    · have HR : Hid (readB 3 x = none) := by show _ = _; simp [readB, hx0]
      have he : (x == []) = false := by simpa using hx0
      clear HC HM
      go_enter Tryz.func89, Tryz.ntmps89
      go_wp2
      go_ret2
      exact ⟨by rw [HR.out]; simp [hx0], Below.refl _ _⟩
  · have HR : Hid (readB 4 x = some 0) := rfl
    go_enter Tryz.func89, Tryz.ntmps89
    go_wp2
    go_ret2
    exact ⟨by rw [HR.out]; rfl, Below.refl _ _⟩

theorem endB_none {b : Bst} {t : List UInt8} (lg : Bool) (h : readB b.st t = none) : endB b t lg = stopB b 400 := by unfold endB; rw [h]
theorem endB_long {b : Bst} {t : List UInt8} {n : Int} (h : readB b.st t = some n) : endB b t true = stopB b 431 := by unfold endB; rw [h]; rfl
theorem endB_big {b : Bst} {t : List UInt8} {n : Int} (h : readB b.st t = some n) (hn : n > 600) : endB b t false = stopB b 413 := by unfold endB; rw [h]; simp [hn]
theorem endB_pass {b : Bst} {t : List UInt8} {n : Int} (h : readB b.st t = some n) (hn : n ≤ 600) : endB b t false = passB b n t.isEmpty := by
  unfold endB; rw [h]
  show (if false = true then _ else if n > 600 then _ else _) = _
  rw [if_neg (by decide), if_neg (by omega)]
theorem readB_nonneg {st : Int} {t : List UInt8} {n : Int} (h : readB st t = some n) : 0 ≤ n := by
  unfold readB at h
  split at h
  · unfold numB at h
    split at h
    · cases h
    · exact numGo_nonneg _ (by omega) h
  · split at h
    · split at h
      · injection h with h; omega
      · cases h
    · injection h with h; omega

set_option maxRecDepth 10000 in
set_option maxHeartbeats 2000000 in
theorem endLine_any {P : Nat → Prop} {w : World} {g : Nat} {b : Bst} (x : List UInt8) (h : BO P w g b) (hl : b.line = x ++ [13, 10]) (hst : b.st = 1 ∨ b.st = 3 ∨ b.st = 4) (hx : x.length ≤ 900) :
    Calls Tryz.prog 71 #[.pointer (some ⟨g, 0, none⟩)] w fun e w' => e = .returned (.tuple #[]) ∧ BO P w' g (endB (clearB b) x (decide (x.length + 2 > 200))) ∧ Fr P g w w' := by
  have hlen : b.line.length = x.length + 2 := by rw [hl]; simp
  have hL := Lib.hid (long_any h (by omega))
  obtain ⟨lv, dv, h⟩ := h
  have hs := own_string h.ln
  rw [hl] at hs
  rw [hlen] at hL
  have hln := h.ln
  rw [hlen] at hln
  obtain ⟨gl, cap, rfl, _, _, hcap⟩ : ∃ gl cap, lv = .slice (some ⟨gl, 0, none⟩) (x.length + 2) cap ∧ 0 ≤ gl ∧ gl < w.heap.size ∧ x.length + 2 ≤ cap := by
    rcases hln.2 with ⟨_, h0⟩ | ⟨g, cap, cur, hv, hb, hh, hc, _⟩
    · omega
    · exact ⟨g, cap, hv, hb, blk_lt hh, hc⟩
  clear hln
  have HT := Lib.hid fun w => trimEnd_any x w (by omega)
  have hB := h.set3c hlen.symm
  have hb1 : Fr P g w (w.setCell ⟨g, 3, none⟩ (.slice (some ⟨gl, 0, none⟩) 0 cap)) := (Fr.refl _ _ _).setCell _ _
  have c3 := h.cell 3
  have f3 := h.free 3
  simp [bdCells] at c3
  have hst1 : (clearB b).st = 1 ∨ (clearB b).st = 3 ∨ (clearB b).st = 4 := hst
  generalize clearB b = b1 at *
  have HR := Lib.hid (read_any ⟨_, _, hB⟩ hst1 x (by omega))
  have hlow : ∀ k, P k → k < (w.setCell ⟨g, 3, none⟩ (.slice (some ⟨gl, 0, none⟩) 0 cap)).heap.size := hB.lo
  have HLOW := Lib.hid hlow
  clear hlow
  have HB := Lib.hid hB
  have HB1 := Lib.hid hb1
  clear h hB hl hlen hb1
  generalize hlg : decide (x.length + 2 > 200) = lg at *
  have HLG := Lib.hid hlg
  clear hlg
  cases hr : readB b1.st x with
  | none =>
    have HE := Lib.hid (endB_none lg hr)
    rw [hr] at HR
    clear hr
    simp only [Option.getD_none, Option.isSome_none] at HR
    go_enter Tryz.func71, Tryz.ntmps71
    go_wp2_with (first | (go_at_call 68; refine (HT.out _).mono ?_; rintro e w1 ⟨rfl, rfl⟩) | (go_at_call 72; refine hL.out.mono ?_; rintro e w1 ⟨rfl, rfl⟩) | (go_at_call 89; refine HR.out.mono ?_; rintro e w2 ⟨rfl, hb2⟩; have HO : BO P w2 g b1 := ⟨_, _, HB.out.below hb2⟩) | (go_at_call 70; refine (stop_any HO _).mono ?_; rintro e w3 ⟨rfl, ho3, hb3⟩))
    go_end0
    exact ⟨rfl, by rw [HE.out]; exact ho3, (HB1.out.trans (Fr.of HLOW.out hb2)).trans hb3⟩
  | some n =>
    have hn0 := readB_nonneg hr
    rw [hr] at HR
    simp only [Option.getD_some, Option.isSome_some] at HR
    cases lg with
    | true =>
      have HE := Lib.hid (endB_long hr)
      clear hr
      go_enter Tryz.func71, Tryz.ntmps71
      go_wp2_with (first | (go_at_call 68; refine (HT.out _).mono ?_; rintro e w1 ⟨rfl, rfl⟩) | (go_at_call 72; refine hL.out.mono ?_; rintro e w1 ⟨rfl, rfl⟩) | (go_at_call 89; refine HR.out.mono ?_; rintro e w2 ⟨rfl, hb2⟩; have HO : BO P w2 g b1 := ⟨_, _, HB.out.below hb2⟩) | (go_at_call 70; refine (stop_any HO _).mono ?_; rintro e w3 ⟨rfl, ho3, hb3⟩))
      go_end0
      exact ⟨rfl, by rw [HE.out]; exact ho3, (HB1.out.trans (Fr.of HLOW.out hb2)).trans hb3⟩
    | false =>
      have hc : 600 < n ∨ n ≤ 600 := by omega
      rcases hc with hc | hc
      · have HE := Lib.hid (endB_big hr hc)
        clear hr
        go_enter Tryz.func71, Tryz.ntmps71
        go_wp2_with (first | (go_at_call 68; refine (HT.out _).mono ?_; rintro e w1 ⟨rfl, rfl⟩) | (go_at_call 72; refine hL.out.mono ?_; rintro e w1 ⟨rfl, rfl⟩) | (go_at_call 89; refine HR.out.mono ?_; rintro e w2 ⟨rfl, hb2⟩; have HO : BO P w2 g b1 := ⟨_, _, HB.out.below hb2⟩) | (go_at_call 70; refine (stop_any HO _).mono ?_; rintro e w3 ⟨rfl, ho3, hb3⟩))
        go_end0
        exact ⟨rfl, by rw [HE.out]; exact ho3, (HB1.out.trans (Fr.of HLOW.out hb2)).trans hb3⟩
      · have HE := Lib.hid (endB_pass hr hc)
        clear hr
        go_enter Tryz.func71, Tryz.ntmps71
        go_wp2_with (first | (go_at_call 68; refine (HT.out _).mono ?_; rintro e w1 ⟨rfl, rfl⟩) | (go_at_call 72; refine hL.out.mono ?_; rintro e w1 ⟨rfl, rfl⟩) | (go_at_call 89; refine HR.out.mono ?_; rintro e w2 ⟨rfl, hb2⟩; have HO : BO P w2 g b1 := ⟨_, _, HB.out.below hb2⟩) | (go_at_call 90; refine (pass_any HO hst1 n hn0 _).mono ?_; rintro e w3 ⟨rfl, ho3, hb3⟩))
        go_end0
        exact ⟨rfl, by rw [HE.out]; exact ho3, (HB1.out.trans (Fr.of HLOW.out hb2)).trans hb3⟩

end Go.Proofs.YtkjlbddaglcooaaGreatDoor
