/- The contract of ascii.Trim, and the walk of the law AsciiTrims. -/
import Derived.Test.YteenbddmdoogdaaDoorShelf
import Derived.Test.YteenbddmdoogdaaDoorTrimPlain
import Derived.Test.YteenbddmdoogdaaDoorFit
import Derived.Deep.RegionHeld3
namespace Go.Proofs.YteenbddmdoogdaaDoor
open Go.RowKit Pl Go.Shelf

def trS (s : ByteArray) : ByteArray := ⟨(tr s.data.toList).toArray⟩
theorem trS_data (s : ByteArray) : (trS s).data.toList = tr s.data.toList := by simp [trS]

theorem trim_any (s : ByteArray) (w : World) (hs : s.size ≤ 9223372036854775807) :
    Calls Tryd.prog 6 #[.string s] w fun e w' => e = .returned (.string (trS s)) ∧ Below w.heap.size w w' := by
  have hcon := Any.strings_Trim_laid Tryd.lays160 (by kernel_rfl) s ⟨#[32, 9]⟩ w hs (by decide) (ascii_of_all (by decide))
  change Calls Tryd.prog 10 _ _ (fun e w' => e = .returned (.string ⟨(Lib.trimS s.data.toList [32, 9]).toArray⟩) ∧ Below w.heap.size w w') at hcon
  rw [trimS_eq] at hcon
  change Calls Tryd.prog 10 _ _ (fun e w' => e = .returned (.string (trS s)) ∧ Below w.heap.size w w') at hcon
  generalize trS s = r at hcon ⊢
  go_enter Tryd.func6, Tryd.ntmps6
  go_wp2_with (go_at_call 10; refine hcon.mono ?_; rintro e w' ⟨rfl, hB⟩)
  go_ret
  exact ⟨rfl, hB⟩

theorem i64_and7 (n : Int) : bits .and .i64 n 7 = n % 8 := by
  have h : (BitVec.ofInt 64 7).toNat = 2 ^ 3 - 1 := by decide
  have key : (BitVec.ofInt 64 n &&& BitVec.ofInt 64 7).toNat = (n % ((2 ^ 64 : Nat) : Int)).toNat % 2 ^ 3 := by
    rw [BitVec.toNat_and, BitVec.toNat_ofInt, h, Nat.and_two_pow_sub_one_eq_mod]
  show IntKind.i64.wrap ((BitVec.ofInt 64 n &&& BitVec.ofInt 64 7).toNat : Nat) = n % 8
  rw [key, IntKind.wrap_i64]
  omega

def padA : ByteArray := ⟨#[9, 32, 32, 32, 32, 32, 32, 32]⟩
def padB : ByteArray := ⟨#[32, 32, 9, 32, 32, 32, 32, 32]⟩
theorem padA_blank (m : Nat) (h : m < 8) : (padA.extract 0 m).data.toList.all bl = true := by
  have : ∀ m : Fin 8, (padA.extract 0 m.1).data.toList.all bl = true := by decide
  exact this ⟨m, h⟩
theorem padB_blank (m : Nat) (h : m < 8) : (padB.extract 0 m).data.toList.all bl = true := by
  have : ∀ m : Fin 8, (padB.extract 0 m.1).data.toList.all bl = true := by decide
  exact this ⟨m, h⟩
theorem pad_size (x : ByteArray) (m : Nat) : (x.extract 0 m).size ≤ m := by
  rw [Lib.size_eq, Lib.extract_data, List.length_take]; omega
theorem bl_not {c : UInt8} (h : bl c = false) : ((c.toNat : Int) == 32) = false ∧ ((c.toNat : Int) == 9) = false := by
  simp [bl] at h
  constructor <;> rw [beq_eq_false_iff_ne] <;> intro e
  · exact h.1 (UInt8.toNat_inj.1 (by show c.toNat = 32; omega))
  · exact h.2 (UInt8.toNat_inj.1 (by show c.toNat = 9; omega))

theorem bl_cases (c : UInt8) : ((((c.toNat : Int) == 32) = true) ∧ Hid (bl c = true)) ∨ (((c.toNat : Int) == 32) = false ∧ ((c.toNat : Int) == 9) = true ∧ Hid (bl c = true)) ∨ (((c.toNat : Int) == 32) = false ∧ ((c.toNat : Int) == 9) = false ∧ Hid (bl c = false)) := by
  by_cases h32 : c = 32
  · subst h32; exact .inl ⟨by decide, (by decide : bl 32 = true)⟩
  · by_cases h9 : c = 9
    · subst h9; exact .inr (.inl ⟨by decide, by decide, (by decide : bl 9 = true)⟩)
    · have hb : bl c = false := by simp [bl, h32, h9]
      exact .inr (.inr ⟨(bl_not hb).1, (bl_not hb).2, hb⟩)

set_option maxHeartbeats 4000000 in
theorem trims_core (s t : ByteArray) (a0 b0 : Int) (a b : Nat) (ha : a0 % 8 = (a : Int)) (hb : b0 % 8 = (b : Int)) (w : World) (hs : s.size ≤ 1000) (hle : t.size ≤ s.size)
    (HT1 : Hid (∀ w, Calls Tryd.prog 6 #[.string s] w fun e w' => e = .returned (.string t) ∧ Below w.heap.size w w'))
    (HT2 : Hid (∀ w, Calls Tryd.prog 6 #[.string t] w fun e w' => e = .returned (.string t) ∧ Below w.heap.size w w'))
    (HT3 : Hid (∀ w, Calls Tryd.prog 6 #[.string (padA.extract 0 a ++ s ++ padB.extract 0 b)] w fun e w' => e = .returned (.string t) ∧ Below w.heap.size w w'))
    (HE : Hid (t.toList.isEmpty = blTo s s.size)) (HN : Hid (∀ h : 0 < t.size, bl (t[0]'h) = false ∧ bl (t[t.size - 1]'(by omega)) = false)) :
    Calls Tryd.prog 3 #[.string s, .int .i64 a0, .int .i64 b0] w fun e w' => e = .returned (.bool true) ∧ Below w.heap.size w w' := by
  have hab : a < 8 := by omega
  have hbb : b < 8 := by omega
  have HA := Lib.hid ha
  have HB := Lib.hid hb
  clear ha hb
  go_enter Tryd.func3, Tryd.ntmps3
  go_wp2_with fail
  refine (fit_any _).mono ?_
  rintro e w1 ⟨rfl, hb1⟩
  go_wp2_with fail
  refine (light_yes _ _ hs).mono ?_
  rintro e w2 ⟨rfl, rfl⟩
  go_wp2_with fail
  rw [i64_and7, i64_and7, HA.out, HB.out]
  refine (HT1.out _).mono ?_
  rintro e w2 ⟨rfl, hb2⟩
  go_wp2_with fail
  refine (HT2.out _).mono ?_
  rintro e w3 ⟨rfl, hb3⟩
  have hd : decide ((s.size : Int) < (t.size : Int)) = false := by simp; omega
  have hd2 : decide (s.size < t.size) = false := by simp; omega
  have hcase : (t.toList.isEmpty = true) ∨ (t.toList.isEmpty = false ∧ 0 < t.size) := by
    cases h : t.toList.isEmpty with
    | true => exact .inl rfl
    | false =>
      refine .inr ⟨rfl, ?_⟩
      rw [Lib.toList_data] at h
      rw [Lib.size_eq]
      cases hl : t.data.toList with
      | nil => rw [hl] at h; cases h
      | cons _ _ => simp
  have hq : ∃ e, Hid (blTo s s.size = e) ∧ (t.toList.isEmpty = e) ∧ (e = false → 0 < t.size) := by
    refine ⟨t.toList.isEmpty, HE.out.symm, rfl, fun h => ?_⟩
    rcases hcase with h' | h'
    · rw [h] at h'; cases h'
    · exact h'.2
  clear hcase HE
  obtain ⟨e, hend, he, hpos⟩ := hq
  cases e with
  | true =>
    clear HN hpos
    go_wp2_with fail
    go_loop [8, 64] (fun v i => ∃ (k : Nat) (q : Bool), k ≤ s.size ∧ i = .int .i64 k ∧ v = .bool q ∧ Hid (blTo s k = q)) (fun _ i => s.size - (intOf i).toNat)
    case atStart => exact ⟨0, true, by omega, rfl, rfl, rfl⟩
    case round =>
      obtain ⟨k, q, hk, rfl, rfl, hq⟩ := hrel
      by_cases hlt : k < s.size
      · have hst := blTo_step s k hlt
        rw [hq.out] at hst
        have hb3 := bl_cases (s[k]'hlt)
        have HST := Lib.hid hst
        clear hst
        rcases hb3 with ⟨h1, hx⟩ | ⟨h1, h2, hx⟩ | ⟨h1, h2, hx⟩
        all_goals
          rw [hx.out] at HST
          cases q with
          | true =>
            go_wp2
            go_round
            case rel => exact ⟨k + 1, _, by omega, by go_num, rfl, HST.out⟩
            case measure => simp [intOf]; omega
          | false =>
            go_wp2
            go_round
            case rel => exact ⟨k + 1, _, by omega, by go_num, rfl, HST.out⟩
            case measure => simp [intOf]; omega
      · obtain rfl : k = s.size := by omega
        have hqe := hq.out.symm.trans hend.out
        subst hqe
        have hsa := pad_size padA a
        have hsb := pad_size padB b
        have k1 := fun wx => run_slice_string_h (P := Tryd.prog) wx 9 padA Tryd.underlying9 .i64 (a : Int) (by omega) (by show (a : Int) ≤ 8; omega)
        have k2 := fun wx => run_slice_string_h (P := Tryd.prog) wx 9 padB Tryd.underlying9 .i64 (b : Int) (by omega) (by show (b : Int) ≤ 8; omega)
        rw [Int.toNat_natCast] at k1 k2
        have k3 := fun wx => run_string_add_sum (P := Tryd.prog) wx (padA.extract 0 a) s (by omega)
        have k4 := fun wx => run_string_add_sum (P := Tryd.prog) wx (padA.extract 0 a ++ s) (padB.extract 0 b) (by rw [ByteArray.size_append]; omega)
        generalize padA.extract 0 a ++ s ++ padB.extract 0 b = q2 at *
        generalize padA.extract 0 a ++ s = q1 at *
        generalize padA.extract 0 a = pa at *
        generalize padB.extract 0 b = pb at *
        unfold padA at k1
        unfold padB at k2
        go_wp2_with fail
        go_region_held3 (fun _ => True) (first | trivial) ((go_at_call 6; refine (HT3.out _).mono ?_; rintro e w5 ⟨rfl, hb5⟩))
        go_wp2
        go_ret
        exact ⟨rfl, bt (bt (bt hb1 hb2) hb3) ((Below.refl _ _).drew.trans hb5)⟩
  | false =>
    have hp := hpos rfl
    obtain ⟨n1, n2⟩ := HN.out hp
    have m1 := (bl_not n1).1
    have m2 := (bl_not n1).2
    have m3 := (bl_not n2).1
    have m4 := (bl_not n2).2
    clear n1 n2 HN hpos
    go_wp2_with fail
    clear m1 m2 m3 m4
    go_loop [8, 64] (fun v i => ∃ (k : Nat) (q : Bool), k ≤ s.size ∧ i = .int .i64 k ∧ v = .bool q ∧ Hid (blTo s k = q)) (fun _ i => s.size - (intOf i).toNat)
    case atStart => exact ⟨0, true, by omega, rfl, rfl, rfl⟩
    case round =>
      obtain ⟨k, q, hk, rfl, rfl, hq⟩ := hrel
      by_cases hlt : k < s.size
      · have hst := blTo_step s k hlt
        rw [hq.out] at hst
        have hb3 := bl_cases (s[k]'hlt)
        have HST := Lib.hid hst
        clear hst
        rcases hb3 with ⟨h1, hx⟩ | ⟨h1, h2, hx⟩ | ⟨h1, h2, hx⟩
        all_goals
          rw [hx.out] at HST
          cases q with
          | true =>
            go_wp2
            go_round
            case rel => exact ⟨k + 1, _, by omega, by go_num, rfl, HST.out⟩
            case measure => simp [intOf]; omega
          | false =>
            go_wp2
            go_round
            case rel => exact ⟨k + 1, _, by omega, by go_num, rfl, HST.out⟩
            case measure => simp [intOf]; omega
      · obtain rfl : k = s.size := by omega
        have hqe := hq.out.symm.trans hend.out
        subst hqe
        have hsa := pad_size padA a
        have hsb := pad_size padB b
        have k1 := fun wx => run_slice_string_h (P := Tryd.prog) wx 9 padA Tryd.underlying9 .i64 (a : Int) (by omega) (by show (a : Int) ≤ 8; omega)
        have k2 := fun wx => run_slice_string_h (P := Tryd.prog) wx 9 padB Tryd.underlying9 .i64 (b : Int) (by omega) (by show (b : Int) ≤ 8; omega)
        rw [Int.toNat_natCast] at k1 k2
        have k3 := fun wx => run_string_add_sum (P := Tryd.prog) wx (padA.extract 0 a) s (by omega)
        have k4 := fun wx => run_string_add_sum (P := Tryd.prog) wx (padA.extract 0 a ++ s) (padB.extract 0 b) (by rw [ByteArray.size_append]; omega)
        generalize padA.extract 0 a ++ s ++ padB.extract 0 b = q2 at *
        generalize padA.extract 0 a ++ s = q1 at *
        generalize padA.extract 0 a = pa at *
        generalize padB.extract 0 b = pb at *
        unfold padA at k1
        unfold padB at k2
        go_wp2_with fail
        go_region_held3 (fun _ => True) (first | trivial) ((go_at_call 6; refine (HT3.out _).mono ?_; rintro e w5 ⟨rfl, hb5⟩))
        go_wp2
        go_ret
        exact ⟨rfl, bt (bt (bt hb1 hb2) hb3) ((Below.refl _ _).drew.trans hb5)⟩

theorem trS_size (s : ByteArray) : (trS s).size ≤ s.size := by
  rw [Lib.size_eq, trS_data, Lib.size_eq s]; exact tr_len _
theorem trS_trS (s : ByteArray) : trS (trS s) = trS s := by
  unfold trS; simp [tr_tr]
theorem trS_pad (s : ByteArray) (a b : Nat) (ha : a < 8) (hb : b < 8) : trS (padA.extract 0 a ++ s ++ padB.extract 0 b) = trS s := by
  have h : (padA.extract 0 a ++ s ++ padB.extract 0 b).data.toList = (padA.extract 0 a).data.toList ++ s.data.toList ++ (padB.extract 0 b).data.toList := by simp
  unfold trS
  rw [h, tr_pad _ _ _ (padA_blank a ha) (padB_blank b hb)]
theorem ends_at (t : ByteArray) (h : Pl.Ends t.data.toList) (hp : 0 < t.size) : bl (t[0]'hp) = false ∧ bl (t[t.size - 1]'(by omega)) = false := by
  have hl : t.data.toList.length = t.size := by simp
  constructor
  · refine h.1 _ ?_
    rw [List.head?_eq_getElem?, List.getElem?_eq_getElem (by omega)]; rfl
  · refine h.2 _ ?_
    rw [List.getLast?_eq_getElem?, List.getElem?_eq_getElem (by omega)]
    congr 1

theorem trims_walk (s : ByteArray) (a0 b0 : Int) (w : World) (hs : s.size ≤ 1000) : Calls Tryd.prog 3 #[.string s, .int .i64 a0, .int .i64 b0] w fun e w' => e = .returned (.bool true) ∧ Below w.heap.size w w' := by
  have hz := trS_size s
  have ha : (a0 % 8).toNat < 8 := by omega
  have hb : (b0 % 8).toNat < 8 := by omega
  refine trims_core s (trS s) a0 b0 (a0 % 8).toNat (b0 % 8).toNat (by omega) (by omega) w hs hz (fun w => trim_any s w (by omega)) (fun w => ?_) (fun w => ?_) ?_ ?_
  · have := trim_any (trS s) w (by omega)
    rwa [trS_trS] at this
  · have h1 := pad_size padA (a0 % 8).toNat
    have h2 := pad_size padB (b0 % 8).toNat
    have := trim_any (padA.extract 0 (a0 % 8).toNat ++ s ++ padB.extract 0 (b0 % 8).toNat) w (by rw [ByteArray.size_append, ByteArray.size_append]; omega)
    rwa [trS_pad s _ _ ha hb] at this
  · show _ = _
    rw [Lib.toList_data, trS_data, tr_empty, blTo, take_all s s.size (Nat.le_refl _)]
  · exact fun h => ends_at (trS s) (by rw [trS_data]; exact tr_ends _) h

theorem trims_any (s : ByteArray) (a0 b0 : Int) (w : World) : Calls Tryd.prog 3 #[.string s, .int .i64 a0, .int .i64 b0] w fun e w' => e = .returned (.bool true) ∧ Below w.heap.size w w' := by
  by_cases hs : s.size ≤ 1000
  · exact trims_walk s a0 b0 w hs
  · go_enter Tryd.func3, Tryd.ntmps3
    go_wp2_with fail
    refine (fit_any _).mono ?_
    rintro e w1 ⟨rfl, hb1⟩
    go_wp2_with fail
    refine (light_no _ _ hs).mono ?_
    rintro e w2 ⟨rfl, rfl⟩
    go_wp2
    go_ret
    exact ⟨rfl, hb1⟩

end Go.Proofs.YteenbddmdoogdaaDoor
