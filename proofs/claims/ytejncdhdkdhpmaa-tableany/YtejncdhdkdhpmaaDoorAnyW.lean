/- The walk of TableAny. -/
import Derived.Test.YtejncdhdkdhpmaaDoorTbFit
import Derived.Test.YtejncdhdkdhpmaaDoorTbSame
import Derived.Test.YtejncdhdkdhpmaaDoorTbLines
namespace Go.Proofs.YtejncdhdkdhpmaaDoor
open Go.RowKit Pl

theorem word_rest (l : List UInt8) : (wordL l).length + (restL l).length ≤ l.length := by
  have h1 := skip_len l
  have h2 := congrArg List.length (List.takeWhile_append_dropWhile (p := fun c => decide (c ≠ 32)) (l := skipL l))
  rw [List.length_append] at h2
  rw [wordL, restL, List.length_drop]
  omega
theorem line_size {x : List UInt8} {r : Rt} (h : lineL x = some (some r)) : sizeR r ≤ x.length := by
  have h1 := word_rest x
  have h2 := word_rest (restL x)
  have h3 := word_rest (restL (restL x))
  unfold lineL at h
  split at h
  · cases h
  · split at h
    · cases h
    · split at h
      · cases h
      · split at h
        · cases h
          show (wordL x).length + (wordL (restL x)).length + (wordL (restL (restL x))).length ≤ _
          omega
        · cases h
theorem lines_size : ∀ (ws : List (List UInt8)) (l : List Rt), linesL ws = some l → sizeL l ≤ (ws.map List.length).sum
  | [], l, h => by cases h; exact Nat.zero_le _
  | x :: ws, l, h => by
    rw [linesL] at h
    cases hx : lineL x with
    | none => rw [hx] at h; cases h
    | some o =>
      rw [hx] at h
      cases o with
      | none =>
        have := lines_size ws l h
        simp only [List.map_cons, List.sum_cons]; omega
      | some q =>
        obtain ⟨l', h', rfl⟩ := Option.map_eq_some_iff.1 h
        have h1 := lines_size ws l' h'
        have h2 := line_size hx
        simp only [List.map_cons, List.sum_cons, sizeL]; omega
theorem wordsGo_sum (b : UInt8) : ∀ (l cur : List UInt8), ((wordsGo b cur l).map List.length).sum ≤ cur.length + l.length
  | [], cur => by simp [wordsGo]
  | c :: l, cur => by
    rw [wordsGo]
    split
    · have := wordsGo_sum b l []
      simp only [List.map_cons, List.sum_cons, List.length_cons, List.length_nil] at this ⊢; omega
    · have := wordsGo_sum b l (cur ++ [c])
      simp only [List.length_append, List.length_cons, List.length_nil] at this ⊢; omega
theorem parse_size (s : List UInt8) : sizeL (parseL s).1 ≤ s.length := by
  unfold parseL
  cases h : linesL (wordsB 10 s) with
  | none => exact Nat.zero_le _
  | some l =>
    simp only
    split
    · have h1 := lines_size _ _ h
      have h2 := wordsGo_sum 10 s []
      have h3 : (wordsB 10 s) = wordsGo 10 [] s := rfl
      rw [h3] at h1
      simp only [List.length_nil] at h2
      show sizeL l ≤ _
      omega
    · exact Nat.zero_le _
theorem parse_small (s : List UInt8) : (parseL s).1.length ≤ s.length + 1 ∧ ∀ r ∈ (parseL s).1, r.m.length ≤ s.length ∧ r.p.length ≤ s.length ∧ r.h.length ≤ s.length := by
  unfold parseL
  cases h : linesL (wordsB 10 s) with
  | none => simp
  | some l =>
    simp only
    split
    · obtain ⟨h1, h2⟩ := lines_small _ _ h
      have h3 := words_many 10 s
      exact ⟨by show l.length ≤ _; omega, h2 s.length (words_small 10 s)⟩
    · simp
set_option maxRecDepth 100000 in
set_option maxHeartbeats 8000000 in
theorem any_walk (s : ByteArray) (w : World) (hw : HB w) : Calls Tryd.prog 5 #[.string s] w fun e w' => e = .returned (.bool true) ∧ Below w.heap.size w w' := by
  have HF := Lib.hid (fit_any w hw)
  have HW := Lib.hid hw
  clear hw
  by_cases h3 : s.size ≤ 3000
  · have HP := Lib.hid (fun w hw => parse_any s w hw (by omega))
    have hps := parse_small s.data.toList
    rw [data_len] at hps
    rcases parse_check s.data.toList with ⟨h0, hc⟩ | ⟨h0, hc⟩
    · rw [h0] at HP
      obtain ⟨l, hl⟩ : ∃ l, (parseL s.data.toList).1 = l := ⟨_, rfl⟩
      rw [hl] at HP hc hps
      obtain ⟨_, h24, _⟩ := check_zero hc
      have h24i : decide ((l.length : Int) ≤ 24) = true := by simp only [decide_eq_true_eq]; omega
      have hsz := parse_size s.data.toList
      rw [hl, data_len] at hsz
      have hpp := parse_print hc
      have HPL : Hid ((mkB (printL l)).size ≤ 10000) := by show _ ≤ _; rw [mkB_size, print_len]; omega
      have HP2 := Lib.hid (fun w hw => parse_any (mkB (printL l)) w hw HPL.out)
      rw [mkB_data, hpp] at HP2
      have HPS : Hid (∀ r ∈ l, r.p.length ≤ 10000) := fun r hr => by have := hps.2 r hr; omega
      have HC := Lib.hid hc
      have HSZ := Lib.hid hsz
      clear h0 hl hpp hc hsz hps
      go_enter Tryd.func5, Tryd.ntmps5
      go_wp2_with fail
      refine HF.out.mono ?_
      rintro e w1 ⟨rfl, hb1⟩
      have HW1 := Lib.hid (HW.out.below hb1)
      have HB1 := Lib.hid hb1
      clear hb1
      go_wp2_with fail
      refine (HP.out _ HW1.out).mono ?_
      rintro e w2 ⟨v2, rfl, ho2, hb2⟩
      obtain ⟨A2, c2, rfl, hr2⟩ := Rd.own ho2
      have HR2 := Lib.hid hr2
      have HW2 := Lib.hid (HW1.out.below hb2)
      have HB2 := Lib.hid (bt HB1.out hb2)
      clear hb2 ho2 hr2
      go_wp2_with fail
      refine (print_any l A2 c2 w2 HR2.out (by omega) (by have := HSZ.out; omega)).mono ?_
      rintro e w3 ⟨rfl, hb3⟩
      have HR3 := Lib.hid ((HR2.out.below hb3 (Nat.le_refl _)).wide hb3.size)
      have HW3 := Lib.hid (HW2.out.below hb3)
      have HB3 := Lib.hid (bt HB2.out hb3)
      clear hb3
      go_wp2_with fail
      refine (HP2.out _ HW3.out).mono ?_
      rintro e w4 ⟨v4, rfl, ho4, hb4⟩
      obtain ⟨A4, c4, rfl, hr4⟩ := Rd.own ho4
      have HR4 := Lib.hid hr4
      have HR5 := Lib.hid ((HR3.out.below hb4 (Nat.le_refl _)).wide hb4.size)
      have HW4 := Lib.hid (HW3.out.below hb4)
      have HB4 := Lib.hid (bt HB3.out hb4)
      clear hb4 ho4 hr4
      have HCK := Lib.hid (check_any l A2 c2 w4 HR5.out HW4.out (by omega) HPS.out)
      rw [HC.out] at HCK
      go_wp2_with fail
      refine HCK.out.mono ?_
      rintro e w5 ⟨rfl, hb5⟩
      have HSM := Lib.hid (same_any l l A2 A4 c2 c4 w5 ((HR5.out.below hb5 (Nat.le_refl _)).wide hb5.size) ((HR4.out.below hb5 (Nat.le_refl _)).wide hb5.size) (by omega) (by omega))
      rw [decide_eq_true rfl] at HSM
      have HB5 := Lib.hid (bt HB4.out hb5)
      clear hb5
      go_wp2_with fail
      refine HSM.out.mono ?_
      rintro e w6 ⟨rfl, hb6⟩
      go_wp2_with fail
      go_ret
      exact ⟨rfl, bt HB5.out hb6⟩
    · rw [h0] at HP
      obtain ⟨q, hq⟩ : ∃ q, (parseL s.data.toList).2 = q := ⟨_, rfl⟩
      rw [hq] at HP hc
      clear hps h0 hq
      rcases hc with rfl | rfl | rfl
      all_goals
        go_enter Tryd.func5, Tryd.ntmps5
        go_wp2_with fail
        refine HF.out.mono ?_
        rintro e w1 ⟨rfl, hb1⟩
        have HW1 := Lib.hid (HW.out.below hb1)
        have HB1 := Lib.hid hb1
        clear hb1
        go_wp2_with fail
        refine (HP.out _ HW1.out).mono ?_
        rintro e w2 ⟨v2, rfl, ho2, hb2⟩
        obtain ⟨A2, c2, rfl, hr2⟩ := Rd.own ho2
        have HB2 := Lib.hid (bt HB1.out hb2)
        clear hb2 ho2 hr2
        go_wp2_with fail
        go_ret
        exact ⟨rfl, HB2.out⟩
  · go_enter Tryd.func5, Tryd.ntmps5
    go_wp2_with fail
    refine HF.out.mono ?_
    rintro e w1 ⟨rfl, hb1⟩
    go_wp2_with fail
    go_ret
    exact ⟨rfl, hb1⟩

theorem any_row (s : ByteArray) (w : World) (_ : s.size ≤ maxLen) (hw : HB w) : Calls Tryd.prog 5 #[.string s] w fun e w' => e = .returned (.bool true) ∧ Below w.heap.size w w' := any_walk s w hw

end Go.Proofs.YtejncdhdkdhpmaaDoor
