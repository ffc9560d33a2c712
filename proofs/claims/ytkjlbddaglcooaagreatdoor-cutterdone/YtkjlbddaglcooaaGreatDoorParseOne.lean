/- The contract of head.Parse at a lone line whose slice has no room behind it, and at whatever lines. -/
import Derived.Test.YtkjlbddaglcooaaGreatDoorParse
namespace Go.Proofs.YtkjlbddaglcooaaGreatDoor
open Go.RowKit Pl

theorem parse_lone (first : ByteArray) (h : first.size ≤ 200) : parseF [first] = badH 400 := by
  cases hF : firstOf first with
  | none => exact parse_f first [] ⟨h, by simp⟩ hF
  | some mt => exact parse_h first [] ⟨h, by simp⟩ (m := mt.1) (t := mt.2) (fs := []) hF rfl (by decide)

set_option maxHeartbeats 1000000 in
theorem parse_one_long (first : ByteArray) (a : Addr) (w : World) (hcell : w.cell? a = some (.string first)) (hab : a.block < w.heap.size) (hl : 200 < first.size) : Calls Tryz.prog 20 #[.slice (some a) 1 1] w fun e w' => Parsed (badH 431) w e w' := by
  go_enter Tryz.func20, Tryz.ntmps20
  go_wp2_with fail
  go_region
  go_wp2_with fail
  refine (wrong_any _ _).mono ?_
  rintro e w1 ⟨rfl, hb1⟩
  have hb1' : Below w.heap.size w w1 := ((Below.refl _ _).alloc (Nat.le_refl _) _).drew.trans (hb1.mono (by simp))
  have hres : w1.heap[w.heap.size]? = some (.cells zero7 51 (0, 0)) := (hb1.block _ (by simp)).trans (heap_alloc_new w _)
  obtain ⟨⟨r0, r1, r2, r3, r4, r5, r6⟩, f0, f1, f2, f3, f4, f5, f6⟩ := res_cells hres
  unfold wrongV
  go_wp2_with fail
  exact put7_ret hres _ _ _ _ _ _ _ rfl rfl (parsed_bad 431 rfl (put7_below hb1' (Nat.le_refl _) _ _ _ _ _ _ _))

set_option maxHeartbeats 2000000 in
theorem parse_one (first : ByteArray) (a : Addr) (w : World) (hcell : w.cell? a = some (.string first)) (hab : a.block < w.heap.size) (hl : first.size ≤ 200) : Calls Tryz.prog 20 #[.slice (some a) 1 1] w fun e w' => Parsed (badH 400) w e w' := by
  go_enter Tryz.func20, Tryz.ntmps20
  go_wp2_with fail
  go_region
  go_wp2_with fail
  have hps := PS.start w
  unfold zero7 at hps
  generalize ((w.alloc (Obj.cells #[Value.string { data := #[] }, Value.string { data := #[] }, Value.slice none 0 0, Value.string { data := #[] }, Value.bool false, Value.int IntKind.i64 0, Value.int IntKind.i64 0] 51)).alloc (Obj.cells #[Value.string { data := #[] }, Value.string { data := #[] }, Value.slice none 0 0, Value.string { data := #[] }, Value.bool false, Value.int IntKind.i64 0, Value.int IntKind.i64 0] 51)).drew = W1 at *
  refine (begin_any first (w.heap.size + 1) emptyS emptyS nilS emptyS (.bool false) (.int .i64 0) (.int .i64 0) W1 (by omega) hps.blk).mono ?_
  rintro e w2 ⟨rfl, hbg⟩
  cases hF : firstOf first with
  | none =>
    obtain ⟨hres, hbel⟩ := hps.res_of hbg.grown
    clear hF
    go_wp2_with fail
    refine (wrong_any _ _).mono ?_
    rintro e w3 ⟨rfl, hb3⟩
    have hres3 := (hb3.block _ (blk_lt hres)).trans hres
    obtain ⟨⟨r0, r1, r2, r3, r4, r5, r6⟩, f0, f1, f2, f3, f4, f5, f6⟩ := res_cells hres3
    unfold wrongV
    go_wp2_with fail
    exact put7_ret hres3 _ _ _ _ _ _ _ rfl rfl (parsed_bad 400 rfl (put7_below (bt hbel hb3) (Nat.le_refl _) _ _ _ _ _ _ _))
  | some mt =>
    obtain ⟨m, t⟩ := mt
    have hps2 := hps.go hbg.grown (hbg.first m t hF)
    clear hF
    have HTC := Lib.hid (take_any [] (some a) 0 (w.heap.size + 1) w.heap.size (.string m) (.string t) emptyS (.bool false) (.int .i64 0) (.int .i64 0) w2 (by omega) ⟨rfl, fun h => absurd rfl h⟩ (by simp) (by simp) hps2.blk)
    go_wp2_with fail
    refine HTC.out.mono ?_
    rintro e w3 ⟨rfl, v, fs, hst, hfs⟩
    obtain rfl := hfs [] rfl
    obtain ⟨A2, c2, rfl, hrd⟩ := Rd.own hst.row
    have hps3 := hps2.go hst.grown hst.blk
    have ce3 := hst.cell
    have HAH := Lib.hid (all_any [] hostN A2 c2 w3 hrd (by simp))
    unfold hostN at HAH
    clear hst hfs HTC
    go_wp2_with fail
    refine HAH.out.mono ?_
    rintro e w4 ⟨vh, rfl, hoh, hb4⟩
    obtain ⟨Ah, ch, rfl, _⟩ := Rd.own hoh
    have hps4 := hps3.step hb4
    clear hoh HAH ce3
    have hres := hps4.res
    have hbel := hps4.below
    simp only [valsOf, List.filterMap_nil, List.length_nil]
    go_wp2_with fail
    refine (wrong_any _ _).mono ?_
    rintro e w5 ⟨rfl, hb5⟩
    have hres3 := (hb5.block _ (blk_lt hres)).trans hres
    obtain ⟨⟨r0, r1, r2, r3, r4, r5, r6⟩, f0, f1, f2, f3, f4, f5, f6⟩ := res_cells hres3
    unfold wrongV
    go_wp2_with fail
    exact put7_ret hres3 _ _ _ _ _ _ _ rfl rfl (parsed_bad 400 rfl (put7_below (bt hbel hb5) (Nat.le_refl _) _ _ _ _ _ _ _))

/-- Parse, at whatever lines. -/
theorem parse_lines (ls : List ByteArray) (A : Option Addr) (c : Nat) (w : World) (hr : Rd w w.heap.size 1 A ls.length (ls.map .string)) (hcap : ls.length ≤ c) (hc2 : c ≤ maxLen) (hs : ∀ s ∈ ls, s.size ≤ 1000000) :
    Calls Tryz.prog 20 #[.slice A ls.length c] w fun e w' => Parsed (parseF ls) w e w' := by
  match ls with
  | [] => exact parse_none A c w
  | [first] =>
    obtain ⟨a, rfl, hab, hc⟩ := hr.2 (by simp)
    have hcell : w.cell? a = some (.string first) := by
      have := hc 0 (.string first) rfl
      simpa [Addr.add] using this
    by_cases h1 : c = 1
    · subst h1
      by_cases hl : first.size ≤ 200
      · rw [parse_lone first hl]
        exact parse_one first a w hcell hab hl
      · rw [parse_long first [] (by omega)]
        exact parse_one_long first a w hcell hab (by omega)
    · simp only [List.length_cons, List.length_nil] at hcap
      by_cases hl : 200 < first.size
      · rw [parse_long first [] (by omega)]
        exact parse_longs first 0 a c w hcell hab hcap (by omega) hc2 (.inl hl)
      · exact parse_core first [] a c w _ rfl hcell hab ⟨rfl, fun h => absurd rfl h⟩ (by simp) hcap (by omega) hc2 (by omega) (by simp)
  | x :: y :: ls => exact parse_any (x :: y :: ls) A c w hr (by simp) hcap hc2 hs

end Go.Proofs.YtkjlbddaglcooaaGreatDoor
