/- The contracts of answer.number and answer.statusOf. -/
import Derived.Test.YtkbigfjaaiobfaaDoorAnsWord
import Derived.Test.YtkbigfjaaiobfaaDoorWords
namespace Go.Proofs.YtkbigfjaaiobfaaDoor
open Go.RowKit Pl Go.Shelf

theorem atoi_range {l : List UInt8} {v : Int} (h : Lib.atoiAll l = .ok v) : -9223372036854775808 ≤ v ∧ v ≤ 9223372036854775807 := by
  unfold Lib.atoiAll at h
  split at h
  · cases h
  · simp only at h
    split at h
    · cases h
    · cases h
    · split at h
      · cases h
      · split at h
        · cases h
        · injection h with h
          subst h
          split <;> omega

theorem num_ok {l : List UInt8} {v : Int} (h : Lib.atoiAll l = .ok v) : numL l = if 0 ≤ v ∧ Lib.itoa v = l then some v else none := by
  unfold numL; rw [h]
theorem num_no {l : List UInt8} (h : ∀ v, Lib.atoiAll l ≠ .ok v) : numL l = none := by
  unfold numL
  split
  · rename_i v hv; exact absurd hv (h v)
  · rfl

/-- The number beside an answer: where there is one, it is that. -/
def IsNum (o : Option Int) (v : Int) : Prop := (∀ n, o = some n → v = n) ∧ -9223372036854775808 ≤ v ∧ v ≤ 9223372036854775807

set_option maxHeartbeats 1000000 in
theorem num_any (s : ByteArray) (hs : s.size ≤ 1000000000) (w : World) (hg : GV w) :
    Calls Tryd.prog 35 #[.string s] w fun e w' => ∃ v, e = .returned (.tuple #[.int .i64 v, .bool (numL s.data.toList).isSome]) ∧ IsNum (numL s.data.toList) v ∧ Below w.heap.size w w' := by
  by_cases hx : ∃ v, Lib.atoiAll s.data.toList = .ok v
  · obtain ⟨v, hv⟩ := hx
    have hr := atoi_range hv
    have hn := num_ok hv
    have HC := Lib.hid (atoi_ok s v (by omega) hv w)
    clear hv
    by_cases h0 : 0 ≤ v
    · have HI := Lib.hid (fun w hg => itoa_any v hr.1 hr.2 w hg)
      have hte := eq_test (mkB (Lib.itoa v)) s
      by_cases hq : Lib.itoa v = s.data.toList
      · rw [if_pos ⟨h0, hq⟩] at hn
        have hte2 : ((mkB (Lib.itoa v)).toList == s.toList) = true := by rw [hte]; simp only [decide_eq_true_eq]; exact bytes_ext (by rw [mkB_data]; exact hq)
        rw [hn]
        generalize mkB (Lib.itoa v) = x at *
        have HG := Lib.hid hg
        clear hte hq hn hg
        have hR := Lib.hid hr
        go_enter Tryd.func35, Tryd.ntmps35
        go_wp2_with fail
        refine HC.out.mono ?_
        rintro e w1 ⟨rfl, hb1⟩
        go_wp2_with fail
        refine (HI.out w1 (HG.out.on hb1).toGB).mono ?_
        rintro e w2 ⟨rfl, hb2⟩
        go_wp2_with fail
        go_ret2
        exact ⟨v, rfl, ⟨fun n h => (Option.some.inj h), hR.out⟩, bt hb1 hb2⟩
      · rw [if_neg (fun h => hq h.2)] at hn
        have hte2 : ((mkB (Lib.itoa v)).toList == s.toList) = false := by rw [hte]; simp only [decide_eq_false_iff_not]; intro e; apply hq; rw [← e, mkB_data]
        rw [hn]
        generalize mkB (Lib.itoa v) = x at *
        have HG := Lib.hid hg
        clear hte hq hn hg
        have hR := Lib.hid hr
        go_enter Tryd.func35, Tryd.ntmps35
        go_wp2_with fail
        refine HC.out.mono ?_
        rintro e w1 ⟨rfl, hb1⟩
        go_wp2_with fail
        refine (HI.out w1 (HG.out.on hb1).toGB).mono ?_
        rintro e w2 ⟨rfl, hb2⟩
        go_wp2_with fail
        go_ret2
        exact ⟨v, rfl, ⟨(fun n h => by cases h), hR.out⟩, bt hb1 hb2⟩
    · rw [if_neg (fun h => h0 h.1)] at hn
      rw [hn]
      have hR := Lib.hid hr
      clear hn
      go_enter Tryd.func35, Tryd.ntmps35
      go_wp2_with fail
      refine HC.out.mono ?_
      rintro e w1 ⟨rfl, hb1⟩
      go_wp2_with fail
      go_ret2
      exact ⟨v, rfl, ⟨(fun n h => by cases h), hR.out⟩, hb1⟩
  · have hx2 : ∀ v, Lib.atoiAll s.data.toList ≠ .ok v := fun v h => hx ⟨v, h⟩
    have HC := Lib.hid (atoi_bad s (by omega) hx2 w hg)
    rw [num_no hx2]
    clear hx hx2 hg
    go_enter Tryd.func35, Tryd.ntmps35
    go_wp2_with fail
    refine HC.out.mono ?_
    rintro e w1 ⟨v, t, p, rfl, r1, r2, hb1⟩
    have hR := Lib.hid (And.intro r1 r2)
    clear r1 r2
    go_wp2_with fail
    go_ret2
    exact ⟨v, rfl, ⟨(fun n h => by cases h), hR.out⟩, hb1⟩

theorem add_one_off (a : Addr) : a.add 1 = ⟨a.block, a.off + 1, none⟩ := by unfold Addr.add; simp

theorem status_few {l : List UInt8} (h : (wordsB 32 l).length < 2) : statusL l = none := by
  unfold statusL
  split
  · rename_i h1; rw [h1] at h; simp at h; omega
  · rfl
theorem status_word {l x : List UInt8} (h : (wordsB 32 l)[1]? = some x) : statusL l = match numL x with
    | some n => if 100 ≤ n ∧ n ≤ 999 ∧ l = firstL n then some n else none
    | none => none := by
  unfold statusL
  match hw : wordsB 32 l with
  | [] => rw [hw] at h; cases h
  | [a] => rw [hw] at h; cases h
  | a :: y :: r => rw [hw] at h; simp at h; subst h; rfl

theorem word_short (b : UInt8) (l : List UInt8) : ∀ cur, ∀ x ∈ wordsGo b cur l, x.length ≤ cur.length + l.length := by
  induction l with
  | nil => intro cur x hx; simp [wordsGo] at hx; subst hx; simp
  | cons c l ih =>
    intro cur x hx
    rw [wordsGo] at hx
    split at hx
    · rcases List.mem_cons.1 hx with rfl | hx
      · simp
      · have := ih [] x hx; simp at this ⊢; omega
    · have := ih (cur ++ [c]) x hx; simp at this ⊢; omega

set_option maxHeartbeats 2000000 in
theorem status_any (s : ByteArray) (hs : s.size ≤ 1000000000) (w : World) (hg : GV w) :
    Calls Tryd.prog 24 #[.string s] w fun e w' => ∃ v, e = .returned (.tuple #[.int .i64 v, .bool (statusL s.data.toList).isSome]) ∧ IsNum (statusL s.data.toList) v ∧ Below w.heap.size w w' := by
  have HW := Lib.hid (words_any s 32 w (by omega))
  have HG := Lib.hid hg
  clear hg
  by_cases h2 : (wordsB 32 s.data.toList).length < 2
  · rw [status_few h2]
    go_enter Tryd.func24, Tryd.ntmps24
    go_wp2_with fail
    refine HW.out.mono ?_
    rintro e w1 ⟨v, rfl, hown, hb1⟩
    obtain ⟨A, c, rfl, _⟩ := Rd.own hown
    clear hown HW
    generalize (wordsB 32 s.data.toList).length = n at *
    go_wp2_with fail
    go_ret2
    exact ⟨0, rfl, ⟨(fun n h => by cases h), by decide, by decide⟩, hb1⟩
  · obtain ⟨x, hx⟩ : ∃ x, (wordsB 32 s.data.toList)[1]? = some x := ⟨_, List.getElem?_eq_getElem (by omega)⟩
    have hst := status_word hx
    have hxl := word_short 32 s.data.toList [] x (List.mem_of_getElem? hx)
    simp only [data_len, List.length_nil, Nat.zero_add] at hxl
    have hcell : ((wordsB 32 s.data.toList).map strV)[1]? = some (.string (mkB x)) := by rw [List.getElem?_map, hx]; rfl
    have HN := Lib.hid (fun w hg => num_any (mkB x) (by rw [mkB_size]; omega) w hg)
    simp only [mkB_data] at HN
    rw [hst]
    clear hst
    generalize hws : (wordsB 32 s.data.toList).map strV = ws at *
    generalize hwn : (wordsB 32 s.data.toList).length = n at *
    clear hws hwn hx
    have hn2 : 2 ≤ n := by omega
    clear h2
    generalize mkB x = X at *
    cases hnum : numL x with
    | none =>
      rw [hnum] at HN
      simp only [Option.isSome_none]
      clear hnum
      go_enter Tryd.func24, Tryd.ntmps24
      go_wp2_with fail
      refine HW.out.mono ?_
      rintro e w1 ⟨v, rfl, hown, hb1⟩
      obtain ⟨A, c, rfl, hrd⟩ := Rd.own hown
      obtain ⟨a, rfl, _, hc⟩ := hrd.at (i := 1) (by omega) _ hcell; rw [add_one_off] at hc
      clear hown HW hrd
      go_wp2_with fail
      refine (HN.out w1 (HG.out.on hb1)).mono ?_
      rintro e w2 ⟨v, rfl, hv, hb2⟩
      have HV := Lib.hid hv
      clear hv
      go_wp2_with fail
      go_ret2
      exact ⟨v, rfl, ⟨(fun n h => by cases h), HV.out.2⟩, bt hb1 hb2⟩
    | some m =>
      have hmr := num_some hnum
      have hm0 := hmr.1
      have hm1 := (atoi_range hmr.2.2).2
      rw [hnum] at HN
      simp only
      clear hnum hmr
      have HF := Lib.hid (fun w hg => first_any m (by omega) hm1 w hg)
      have hte := eq_test s (mkB (firstL m))
      have hcase : (m < 100 ∧ (if 100 ≤ m ∧ m ≤ 999 ∧ s.data.toList = firstL m then some m else none) = none) ∨ (100 ≤ m ∧ 999 < m ∧ (if 100 ≤ m ∧ m ≤ 999 ∧ s.data.toList = firstL m then some m else none) = none) ∨ (100 ≤ m ∧ m ≤ 999 ∧ (if 100 ≤ m ∧ m ≤ 999 ∧ s.data.toList = firstL m then some m else none) = if decide (s = mkB (firstL m)) = true then some m else none) := by
        by_cases c1 : m < 100
        · exact .inl ⟨c1, if_neg (by omega)⟩
        · by_cases c2 : 999 < m
          · exact .inr (.inl ⟨by omega, c2, if_neg (by omega)⟩)
          · refine .inr (.inr ⟨by omega, by omega, ?_⟩)
            by_cases c3 : s = mkB (firstL m)
            · rw [if_pos ⟨by omega, by omega, by rw [c3, mkB_data]⟩, if_pos (by simpa using c3)]
            · rw [if_neg (fun h => c3 (bytes_ext (by rw [mkB_data]; exact h.2.2))), if_neg (by simpa using c3)]
      rcases hcase with ⟨c1, c2⟩ | ⟨c1, c2, c3⟩ | ⟨c1, c2, c3⟩
      · rw [c2]
        clear c2 hte HF
        go_enter Tryd.func24, Tryd.ntmps24
        go_wp2_with fail
        refine HW.out.mono ?_
        rintro e w1 ⟨v, rfl, hown, hb1⟩
        obtain ⟨A, c, rfl, hrd⟩ := Rd.own hown
        obtain ⟨a, rfl, _, hc⟩ := hrd.at (i := 1) (by omega) _ hcell; rw [add_one_off] at hc
        clear hown HW hrd
        go_wp2_with fail
        refine (HN.out w1 (HG.out.on hb1)).mono ?_
        rintro e w2 ⟨v, rfl, hv, hb2⟩
        obtain rfl := hv.1 m rfl
        have HV := Lib.hid hv
        clear hv
        go_wp2_with fail
        go_ret2
        exact ⟨v, rfl, ⟨(fun n h => by cases h), HV.out.2⟩, bt hb1 hb2⟩
      · rw [c3]
        clear c3 hte HF
        go_enter Tryd.func24, Tryd.ntmps24
        go_wp2_with fail
        refine HW.out.mono ?_
        rintro e w1 ⟨v, rfl, hown, hb1⟩
        obtain ⟨A, c, rfl, hrd⟩ := Rd.own hown
        obtain ⟨a, rfl, _, hc⟩ := hrd.at (i := 1) (by omega) _ hcell; rw [add_one_off] at hc
        clear hown HW hrd
        go_wp2_with fail
        refine (HN.out w1 (HG.out.on hb1)).mono ?_
        rintro e w2 ⟨v, rfl, hv, hb2⟩
        obtain rfl := hv.1 m rfl
        have HV := Lib.hid hv
        clear hv
        go_wp2_with fail
        go_ret2
        exact ⟨v, rfl, ⟨(fun n h => by cases h), HV.out.2⟩, bt hb1 hb2⟩
      · rw [c3]
        have HIS : Hid (∀ b : Bool, decide (s = mkB (firstL m)) = b → IsNum (if decide (s = mkB (firstL m)) = true then some m else none) m ∧ (if decide (s = mkB (firstL m)) = true then some m else none : Option Int).isSome = b) := by
          intro b hb
          rw [hb]
          cases b
          · exact ⟨⟨(fun n h => by cases h), by omega, hm1⟩, rfl⟩
          · exact ⟨⟨(fun n h => (Option.some.inj h)), by omega, hm1⟩, rfl⟩
        obtain ⟨b, hb⟩ : ∃ b, decide (s = mkB (firstL m)) = b := ⟨_, rfl⟩
        have HI2 := Lib.hid (HIS.out b hb)
        rw [HI2.out.2]
        rw [hb] at hte
        generalize (if decide (s = mkB (firstL m)) = true then some m else none : Option Int) = o at *
        clear c3 hb HIS
        generalize mkB (firstL m) = y at *
        go_enter Tryd.func24, Tryd.ntmps24
        go_wp2_with fail
        refine HW.out.mono ?_
        rintro e w1 ⟨v, rfl, hown, hb1⟩
        obtain ⟨A, c, rfl, hrd⟩ := Rd.own hown
        obtain ⟨a, rfl, _, hc⟩ := hrd.at (i := 1) (by omega) _ hcell; rw [add_one_off] at hc
        clear hown HW hrd
        go_wp2_with fail
        refine (HN.out w1 (HG.out.on hb1)).mono ?_
        rintro e w2 ⟨v, rfl, hv, hb2⟩
        obtain rfl := hv.1 m rfl
        clear hv
        go_wp2_with fail
        refine (HF.out w2 ((HG.out.on hb1).on hb2).toGB).mono ?_
        rintro e w3 ⟨rfl, hb3⟩
        go_wp2_with fail
        go_ret2
        exact ⟨v, rfl, HI2.out.1, bt (bt hb1 hb2) hb3⟩

end Go.Proofs.YtkbigfjaaiobfaaDoor
