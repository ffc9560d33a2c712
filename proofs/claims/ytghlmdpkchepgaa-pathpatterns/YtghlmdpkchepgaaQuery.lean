/- The walk of PathQuery. -/
import Derived.Test.YtghlmdpkchepgaaPtJoin
namespace Go.Proofs.Ytghlmdpkchepgaa
open Go.RowKit Pl

theorem query_eq (s q : ByteArray) : splitL ((s ++ ⟨#[63]⟩) ++ q).data.toList = splitL s.data.toList := by
  have e : ((s ++ ⟨#[63]⟩) ++ q).data.toList = s.data.toList ++ 63 :: q.data.toList := by rw [app_data, app_data]; simp
  rw [e, splitL, ahead_query]; rfl
theorem below_drewN {w w' : World} (h : Below w.heap.size w w') (n : Nat) : Below w.heap.size w (w'.drewN n) := ⟨h.1, h.2, h.3, h.4, h.5⟩

set_option maxRecDepth 100000 in
set_option maxHeartbeats 4000000 in
theorem query_any (s q : ByteArray) (w : World) : Calls Try.prog 7 #[.string s, .string q] w fun e w' => e = .returned (.bool true) ∧ Below w.heap.size w w' := by
  have HF := Lib.hid (fun w => fit_any w)
  have HL1 := Lib.hid (fun w => light_any s w)
  have HL2 := Lib.hid (fun w => light_any q w)
  by_cases h1 : s.size ≤ 600
  · rw [decide_eq_true h1] at HL1
    by_cases h2 : q.size ≤ 600
    · rw [decide_eq_true h2] at HL2
      have d3 : (⟨#[63]⟩ : ByteArray).size = 1 := rfl
      have k1 := add_str s ⟨#[63]⟩ (by omega)
      have k2 := add_str (s ++ ⟨#[63]⟩) q (by rw [app_size]; omega)
      have HS1 := Lib.hid (fun w => split_any s w (by omega))
      have HS2 := Lib.hid (fun w => split_any ((s ++ ⟨#[63]⟩) ++ q) w (by rw [app_size, app_size]; omega))
      rw [query_eq] at HS2
      generalize (s ++ ⟨#[63]⟩) ++ q = T at *
      generalize s ++ ⟨#[63]⟩ = T0 at *
      obtain ⟨ls, hls⟩ : ∃ ls, (splitL s.data.toList).getD [] = ls := ⟨_, rfl⟩
      rw [hls] at HS1 HS2
      have hlen : ls.length ≤ 8 := by
        rw [← hls]
        cases hsp : splitL s.data.toList with
        | none => simp
        | some l =>
          rw [splitL] at hsp
          cases hsg : segsL (aheadL s.data.toList) with
          | none => rw [hsg] at hsp; cases hsp
          | some m => rw [hsg] at hsp; simp only at hsp; have := turns_len hsp; have := segs_len hsg; simp; omega
      clear hls d3
      generalize (splitL s.data.toList).isSome = b at *
      have hbb : (b == b) = true := by simp
      go_enter Try.func7, Try.ntmps7
      go_wp2_with fail
      refine (HF.out _).mono ?_
      rintro e w1 ⟨rfl, hb1⟩
      go_wp2_with fail
      refine (HL1.out _).mono ?_
      rintro e w1 ⟨rfl, rfl⟩
      go_wp2_with fail
      refine (HL2.out _).mono ?_
      rintro e w1 ⟨rfl, rfl⟩
      go_wp2_with fail
      refine (HS1.out _).mono ?_
      rintro e w2 ⟨v2, rfl, ho2, hb2⟩
      obtain ⟨A2, c2, rfl, hr2⟩ := Rd.own ho2
      clear ho2
      go_wp2_with fail
      refine (HS2.out _).mono ?_
      rintro e w3 ⟨v3, rfl, ho3, hb3⟩
      obtain ⟨A3, c3, rfl, hr3⟩ := Rd.own ho3
      have HR2 := Lib.hid (hr2.below hb3 (Nat.le_refl _))
      have HR3 := Lib.hid hr3
      have HB3 := Lib.hid (bt (bt hb1 hb2) hb3)
      clear ho3 hr2 hr3 hb1 hb2 hb3
      go_wp2_with fail
      go_loopw [45] (fun i wr => ∃ k q : Nat, k ≤ ls.length ∧ i = .int .i64 k ∧ wr = w3.drewN q) (fun i _ => ls.length - (intOf i).toNat)
      case atStart => exact ⟨0, 0, by omega, rfl, rfl⟩
      case round =>
        obtain ⟨k, q, hk, rfl, rfl⟩ := hrel
        by_cases hlt : k < ls.length
        · obtain ⟨a2, rfl, _, x2⟩ := HR2.out.at hlt (strV ls[k]) (by simp [hlt])
          obtain ⟨a3, rfl, _, x3⟩ := HR3.out.at hlt (strV ls[k]) (by simp [hlt])
          rw [strV_mk] at x2 x3
          generalize mkB ls[k] = y at *
          have i0 : (0 : Int) ≤ (k : Int) := by omega
          have i1 : (k : Int) < (ls.length : Int) := by omega
          go_wp2_with fail
          go_quiet (fail)
          go_wp2_with fail
          go_roundw
          case rel => exact ⟨k + 1, q + nq, by omega, by go_num, rfl⟩
          case measure => simp [intOf]; omega
        · go_wp2_with fail
          go_ret
          exact ⟨rfl, below_drewN HB3.out _⟩
    · rw [decide_eq_false h2] at HL2
      go_enter Try.func7, Try.ntmps7
      go_wp2_with fail
      refine (HF.out _).mono ?_
      rintro e w1 ⟨rfl, hb1⟩
      go_wp2_with fail
      refine (HL1.out _).mono ?_
      rintro e w1 ⟨rfl, rfl⟩
      go_wp2_with fail
      refine (HL2.out _).mono ?_
      rintro e w1 ⟨rfl, rfl⟩
      go_wp2_with fail
      go_ret
      exact ⟨rfl, hb1⟩
  · rw [decide_eq_false h1] at HL1
    go_enter Try.func7, Try.ntmps7
    go_wp2_with fail
    refine (HF.out _).mono ?_
    rintro e w1 ⟨rfl, hb1⟩
    go_wp2_with fail
    refine (HL1.out _).mono ?_
    rintro e w1 ⟨rfl, rfl⟩
    go_wp2_with fail
    go_ret
    exact ⟨rfl, hb1⟩

theorem query_row (s q : ByteArray) (w : World) (_ : s.size ≤ maxLen) (_ : q.size ≤ maxLen) : Calls Try.prog 7 #[.string s, .string q] w fun e w' => e = .returned (.bool true) ∧ Below w.heap.size w w' := query_any s q w

end Go.Proofs.Ytghlmdpkchepgaa
