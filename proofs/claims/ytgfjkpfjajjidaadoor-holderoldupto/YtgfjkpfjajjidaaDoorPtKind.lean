/- The contracts of path.Kind, named and segments. -/
import Derived.Test.YtgfjkpfjajjidaaDoorPtStr
import Derived.Test.YtgfjkpfjajjidaaDoorWords
namespace Go.Proofs.YtgfjkpfjajjidaaDoor
open Go.RowKit Pl

theorem any_snoc {α : Type} (p : α → Bool) (l : List α) (k : Nat) (h : k < l.length) : (l.take (k + 1)).any p = ((l.take k).any p || p l[k]) := by
  rw [List.take_succ_eq_append_getElem h, List.any_append, List.any_cons, List.any_nil, Bool.or_false]
theorem any_hit {α : Type} (p : α → Bool) (l : List α) (k : Nat) (h : k < l.length) (hp : p l[k] = true) : l.any p = true := by
  rw [List.any_eq_true]; exact ⟨l[k], List.getElem_mem h, hp⟩

theorem kind_hd (s : ByteArray) : kindL s.data.toList = if hd s 58 then 1 else if hd s 42 then 2 else 0 := by
  unfold hd
  cases s.data.toList with
  | nil => rfl
  | cons c l => simp [kindL]
theorem kind_cases (l : List UInt8) : kindL l = 0 ∨ kindL l = 1 ∨ kindL l = 2 := by
  cases l with
  | nil => exact .inl rfl
  | cons c l =>
    simp only [kindL]
    by_cases h : c = 58
    · rw [if_pos h]; exact .inr (.inl rfl)
    · rw [if_neg h]
      by_cases h2 : c = 42
      · rw [if_pos h2]; exact .inr (.inr rfl)
      · rw [if_neg h2]; exact .inl rfl
theorem kind_pos {l : List UInt8} (h : kindL l ≠ 0) : 0 < l.length := by
  cases l with
  | nil => exact absurd rfl h
  | cons c l => simp

set_option maxHeartbeats 1000000 in
theorem kind_any (s : ByteArray) (w : World) : Calls Tryd.prog 36 #[.string s] w fun e w' => e = .returned (.int .i64 (kindL s.data.toList)) ∧ w = w' := by
  have H1 := Lib.hid (fun w => pre_any s 58 w)
  have H2 := Lib.hid (fun w => pre_any s 42 w)
  rw [kind_hd]
  cases h1 : hd s 58 with
  | true =>
    rw [h1] at H1
    go_enter Tryd.func36, Tryd.ntmps36
    go_wp2_with fail
    refine (H1.out _).mono ?_
    rintro e w1 ⟨rfl, rfl⟩
    go_wp2_with fail
    go_ret
    exact ⟨rfl, rfl⟩
  | false =>
    rw [h1] at H1
    cases h2 : hd s 42 with
    | true =>
      rw [h2] at H2
      go_enter Tryd.func36, Tryd.ntmps36
      go_wp2_with fail
      refine (H1.out _).mono ?_
      rintro e w1 ⟨rfl, rfl⟩
      go_wp2_with fail
      refine (H2.out _).mono ?_
      rintro e w1 ⟨rfl, rfl⟩
      go_wp2_with fail
      go_ret
      exact ⟨rfl, rfl⟩
    | false =>
      rw [h2] at H2
      go_enter Tryd.func36, Tryd.ntmps36
      go_wp2_with fail
      refine (H1.out _).mono ?_
      rintro e w1 ⟨rfl, rfl⟩
      go_wp2_with fail
      refine (H2.out _).mono ?_
      rintro e w1 ⟨rfl, rfl⟩
      go_wp2_with fail
      go_ret
      exact ⟨rfl, rfl⟩

def namedP (m : List UInt8) (s : List UInt8) : Bool := decide (kindL s ≠ 0) && decide (s.drop 1 = m)

set_option maxHeartbeats 2000000 in
theorem named_any (xs : List (List UInt8)) (A : Option Addr) (c : Nat) (m : ByteArray) (w : World) (hr : Rd w w.heap.size 1 A xs.length (xs.map strV)) (hn : xs.length ≤ 1000000) (hs : ∀ x ∈ xs, x.length ≤ 1000000) :
    Calls Tryd.prog 46 #[.slice A xs.length c, .string m] w fun e w' => e = .returned (.bool (namedL xs m.data.toList)) ∧ w = w' := by
  have HS := Lib.hid hs
  have HR := Lib.hid hr
  clear hs hr
  show Calls _ _ _ _ fun e w' => e = .returned (.bool (xs.any (namedP m.data.toList))) ∧ w = w'
  go_enter Tryd.func46, Tryd.ntmps46
  go_wp2
  go_loop [9] (fun i => ∃ k : Nat, k ≤ xs.length ∧ i = .int .i64 k ∧ Hid ((xs.take k).any (namedP m.data.toList) = false)) (fun i => xs.length - (intOf i).toNat)
  case atStart => exact ⟨0, by omega, rfl, rfl⟩
  case round =>
    obtain ⟨k, hk, rfl, hinv⟩ := hrel
    by_cases hlt : k < xs.length
    · obtain ⟨a, rfl, hab, hc⟩ := HR.out.at hlt (strV xs[k]) (by simp [hlt])
      have hsz : (mkB xs[k]).size ≤ 1000000 := by rw [mkB_size]; exact HS.out _ (List.getElem_mem hlt)
      have hsn := any_snoc (namedP m.data.toList) xs k hlt
      rw [hinv.out, Bool.false_or] at hsn
      have hhit := any_hit (namedP m.data.toList) xs k hlt
      have hx : namedP m.data.toList xs[k] = (decide (kindL (mkB xs[k]).data.toList ≠ 0) && decide (((mkB xs[k]).extract 1 (mkB xs[k]).size) = m)) := by
        rw [namedP, mkB_data]
        congr 1
        rw [Bool.eq_iff_iff]
        simp only [decide_eq_true_eq]
        have ht := tl_data (mkB xs[k])
        rw [mkB_data, tl] at ht
        rw [← ht]
        exact ⟨fun h => bytes_ext h, fun h => by rw [h]⟩
      have HC := Lib.hid (fun w => kind_any (mkB xs[k]) w)
      rw [strV_mk] at hc
      rw [hx] at hsn hhit
      have hp := @kind_pos (mkB xs[k]).data.toList
      rw [data_len] at hp
      have hkc := kind_cases (mkB xs[k]).data.toList
      clear hx
      generalize mkB xs[k] = s at *
      generalize kindL s.data.toList = q at *
      have HH := Lib.hid hhit; have HN := Lib.hid hsn
      clear hhit hsn
      have hq := eq_test (s.extract 1 s.size) m
      rcases hkc with rfl | rfl | rfl
      · clear hp
        go_wp2_with fail
        refine (HC.out _).mono ?_
        rintro e w1 ⟨rfl, rfl⟩
        go_wp2_with fail
        refine ⟨⟨k + 1, by omega, by go_num, ?_⟩, by simp [intOf]; omega⟩
        rw [HN.out]; rfl
      all_goals
        have hp1 := hp (by decide)
        clear hp
        cases hd : decide (s.extract 1 s.size = m) with
        | true =>
          rw [hd] at hq HH
          have H3 : Hid (xs.any (namedP m.data.toList) = true) := HH.out rfl
          clear hd HH HN
          go_wp2_with fail
          refine (HC.out _).mono ?_
          rintro e w1 ⟨rfl, rfl⟩
          go_wp2_with fail
          go_ret
          exact ⟨ret_bool H3.out.symm, rfl⟩
        | false =>
          rw [hd] at hq HN
          have H3 : Hid ((xs.take (k + 1)).any (namedP m.data.toList) = false) := HN.out
          clear hd HH HN
          go_wp2_with fail
          refine (HC.out _).mono ?_
          rintro e w1 ⟨rfl, rfl⟩
          go_wp2_with fail
          exact ⟨⟨k + 1, by omega, by go_num, H3⟩, by simp [intOf]; omega⟩
    · have HE : Hid (xs.any (namedP m.data.toList) = false) := by
        have := hinv.out
        rw [List.take_of_length_le (by omega)] at this
        exact this
      go_wp2_with fail
      go_ret
      exact ⟨ret_bool HE.out.symm, rfl⟩

theorem segs_hd (s : ByteArray) : segsL s.data.toList = if hd s 47 then (if (tl s).data.toList = [] then some [] else if (wordsB 47 (tl s).data.toList).length ≤ 8 then some (wordsB 47 (tl s).data.toList) else none) else none := by
  rw [tl_data]
  unfold hd
  cases s.data.toList with
  | nil => rfl
  | cons c l => simp [segsL]

set_option maxHeartbeats 2000000 in
theorem segs_any (s : ByteArray) (w : World) (hs : s.size ≤ 1000000) : Calls Tryd.prog 31 #[.string s] w fun e w' => ∃ v, e = .returned (.tuple #[v, .bool (segsL s.data.toList).isSome]) ∧ w'.ownsRow w.heap.size 9 1 v ((segsL s.data.toList).getD []).length (((segsL s.data.toList).getD []).map strV) ∧ Below w.heap.size w w' := by
  have H1 := Lib.hid (fun w => cutp_any s 47 w (by omega))
  rw [segs_hd]
  have htl : (tl s).size ≤ s.size := by rw [← data_len, tl_data, ← data_len]; simp
  cases h1 : hd s 47 with
  | false =>
    rw [h1] at H1
    go_enter Tryd.func31, Tryd.ntmps31
    go_wp2_with fail
    refine (H1.out _).mono ?_
    rintro e w1 ⟨rfl, rfl⟩
    go_wp2_with fail
    go_ret2
    exact ⟨_, rfl, World.ownsRow_nil _ _ _ _, Below.refl _ _⟩
  | true =>
    rw [h1] at H1
    simp only [if_true] at H1
    have heq := eq_list (tl s) []
    have HW := Lib.hid (fun w => words_any (tl s) 47 w (by omega))
    have hwm := words_many 47 (tl s).data.toList
    rw [data_len] at hwm
    generalize tl s = r at *
    by_cases hr : r.data.toList = []
    · rw [decide_eq_true hr] at heq
      have HR := Lib.hid hr
      clear hr
      simp only [HR.out, if_true]
      go_enter Tryd.func31, Tryd.ntmps31
      go_wp2_with fail
      refine (H1.out _).mono ?_
      rintro e w1 ⟨rfl, rfl⟩
      go_wp2_with fail
      go_ret2
      exact ⟨_, rfl, World.ownsRow_nil _ _ _ _, Below.refl _ _⟩
    · rw [decide_eq_false hr] at heq
      have HR := Lib.hid hr
      clear hr
      simp only [if_neg HR.out]
      generalize wordsB 47 r.data.toList = ws at *
      by_cases hl : ws.length ≤ 8
      · simp only [if_true, if_pos hl]
        go_enter Tryd.func31, Tryd.ntmps31
        go_wp2_with fail
        refine (H1.out _).mono ?_
        rintro e w1 ⟨rfl, rfl⟩
        go_wp2_with fail
        refine (HW.out _).mono ?_
        rintro e w1 ⟨v, rfl, ho, hb⟩
        obtain ⟨A, c, rfl, hrd⟩ := Rd.own ho
        have HO := Lib.hid ho
        clear ho hrd
        go_wp2_with fail
        go_ret2
        exact ⟨_, rfl, HO.out, hb⟩
      · simp only [if_true, if_neg hl]
        go_enter Tryd.func31, Tryd.ntmps31
        go_wp2_with fail
        refine (H1.out _).mono ?_
        rintro e w1 ⟨rfl, rfl⟩
        go_wp2_with fail
        refine (HW.out _).mono ?_
        rintro e w1 ⟨v, rfl, ho, hb⟩
        obtain ⟨A, c, rfl, hrd⟩ := Rd.own ho
        have HO := Lib.hid ho
        clear ho hrd
        go_wp2_with fail
        go_ret2
        exact ⟨_, rfl, World.ownsRow_nil _ _ _ _, hb⟩

end Go.Proofs.YtgfjkpfjajjidaaDoor
