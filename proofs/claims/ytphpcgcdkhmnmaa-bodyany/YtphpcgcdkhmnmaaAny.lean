/- The walk of the law BodyAny. -/
import Derived.Test.YtphpcgcdkhmnmaaBits
namespace Go.Proofs.Ytphpcgcdkhmnmaa
open Go.RowKit Pl

set_option maxRecDepth 100000 in
set_option maxHeartbeats 4000000 in
theorem any_walk (s m : ByteArray) (w : World) : Calls Try.prog 4 #[.string s, .string m] w fun e w' => e = .returned (.bool true) ∧ Below w.heap.size w w' := by
  have hcase : s.size > 3000 ∨ (s.size ≤ 3000 ∧ m.size > 300) ∨ (s.size ≤ 3000 ∧ m.size ≤ 300) := by omega
  rcases hcase with hs | ⟨hs, hm⟩ | ⟨hs, hm⟩
  · go_enter Try.func4, Try.ntmps4
    go_wp2_with (go_at_call 7; refine (fit_any _).mono ?_; rintro e w1 ⟨rfl, hb1⟩)
    go_ret
    exact ⟨rfl, hb1⟩
  · go_enter Try.func4, Try.ntmps4
    go_wp2_with (go_at_call 7; refine (fit_any _).mono ?_; rintro e w1 ⟨rfl, hb1⟩)
    go_ret
    exact ⟨rfl, hb1⟩
  · have HC := Lib.hid fun w => lawFeed_any (-1) s w (by omega) (by omega)
    have hok := okb_run (okb_new (-1) (by omega)) s.data.toList
    generalize runB (newB (-1)) s.data.toList = R at *
    obtain ⟨b, k⟩ := R
    simp only at HC hok
    have hdl := hok.data
    have HA := Lib.hid fun base W g (h : BO base W g b) => data_any h
    have hfin : (b.st ≠ 5 ∧ b.status = 0) ∨ (b.st = 5 ∧ (b.status = 0 ∨ b.status = 400 ∨ b.status = 413 ∨ b.status = 431)) := by
      by_cases h5 : b.st = 5
      · exact .inr ⟨h5, hok.stat⟩
      · refine .inl ⟨h5, ?_⟩
        by_cases h0 : b.status = 0
        · exact h0
        · exact absurd (hok.done h0) h5
    have HOK := Lib.hid hok
    clear hok
    rcases hfin with ⟨h5, h0⟩ | ⟨h5, h0⟩
    · have h5f : (b.st == 5) = false := by simpa using h5
      have HS : Hid (∀ base W g, BO base W g b → Calls Try.prog 9 #[.pointer (some ⟨g, 0, none⟩)] W fun e w' => e = .returned (.int .i64 0) ∧ W = w') := fun base W g h => by have := status_any h; rwa [h0] at this
      have HD : Hid (∀ base W g, BO base W g b → Calls Try.prog 11 #[.pointer (some ⟨g, 0, none⟩)] W fun e w' => e = .returned (.bool false) ∧ W = w') := fun base W g h => by have := done_any h; rwa [h5f] at this
      clear h5 h5f h0
      go_enter Try.func4, Try.ntmps4
      go_wp2_with (first | (go_at_call 7; refine (fit_any _).mono ?_; rintro e w1 ⟨rfl, hb1⟩) | (go_at_call 8; refine (HC.out _).mono ?_; rintro e w2 ⟨g, rfl, ho, hb2, hg⟩; have HO := Lib.hid ho; have HG := Lib.hid hg; clear ho hg) | (go_at_call 10; refine (HA.out _ _ _ HO.out).mono ?_; rintro e w3 ⟨rfl, rfl⟩) | (go_at_call 9; refine (HS.out _ _ _ HO.out).mono ?_; rintro e w3 ⟨rfl, rfl⟩) | (go_at_call 11; refine (HD.out _ _ _ HO.out).mono ?_; rintro e w3 ⟨rfl, rfl⟩))
      go_ret
      exact ⟨rfl, bt hb1 hb2⟩
    · have HD : Hid (∀ base W g, BO base W g b → Calls Try.prog 11 #[.pointer (some ⟨g, 0, none⟩)] W fun e w' => e = .returned (.bool true) ∧ W = w') := fun base W g h => by have := done_any h; rwa [show (b.st == 5) = true from by rw [h5]; rfl] at this
      have HF : Hid (∀ base W g c, BO base W g b → Calls Try.prog 12 #[.pointer (some ⟨g, 0, none⟩), .int .u8 ((c : UInt8).toNat : Int)] W fun e w' => e = .returned (.tuple #[]) ∧ BO base w' g b ∧ Fr base g W w') := fun base W g c h => by have := feed_any h HOK.out c; rwa [feed_done h5] at this
      obtain ⟨σ, hσ, h1⟩ : ∃ σ, b.status = σ ∧ (σ = 0 ∨ σ = 400 ∨ σ = 413 ∨ σ = 431) := ⟨_, rfl, h0⟩
      have HS : Hid (∀ base W g, BO base W g b → Calls Try.prog 9 #[.pointer (some ⟨g, 0, none⟩)] W fun e w' => e = .returned (.int .i64 σ) ∧ W = w') := fun base W g h => by have := status_any h; rwa [hσ] at this
      clear h5 h0 hσ
      rcases h1 with rfl | rfl | rfl | rfl
      all_goals
        go_enter Try.func4, Try.ntmps4
        go_wp2_with (first | (go_at_call 7; refine (fit_any _).mono ?_; rintro e w1 ⟨rfl, hb1⟩) | (go_at_call 8; refine (HC.out _).mono ?_; rintro e w2 ⟨g, rfl, ho, hb2, hg⟩; have HO := Lib.hid ho; have HG := Lib.hid hg; clear ho hg) | (go_at_call 10; refine (HA.out _ _ _ HO.out).mono ?_; rintro e w3 ⟨rfl, rfl⟩) | (go_at_call 9; refine (HS.out _ _ _ HO.out).mono ?_; rintro e w3 ⟨rfl, rfl⟩) | (go_at_call 11; refine (HD.out _ _ _ HO.out).mono ?_; rintro e w3 ⟨rfl, rfl⟩))
        have hlow : w1.heap.size ≤ w2.heap.size := hb2.size
        have hgw := Lib.hid HO.out.lt
        have HB := Lib.hid (bt hb1 hb2)
        have HB1 := Lib.hid hb1.size
        clear hb1 hb2
        go_loopw [62] (fun i wr => ∃ k : Nat, k ≤ m.size ∧ i = .int .i64 k ∧ BO w1.heap.size wr g b ∧ Below w.heap.size w wr) (fun i _ => m.size - (intOf i).toNat)
        case atStart => exact ⟨0, by omega, rfl, HO.out, HB.out⟩
        case round =>
          obtain ⟨k, hk, rfl, hbo, hbel⟩ := hrel
          have HBO := Lib.hid hbo; have HBE := Lib.hid hbel
          clear hbo hbel
          by_cases hlt : k < m.size
          · have HX := Lib.hid (HF.out _ _ _ (m[k]'hlt) HBO.out)
            go_wp2_with (first | (go_at_call 12; refine HX.out.mono ?_; rintro e w3 ⟨rfl, ho3, hf3⟩))
            go_roundw
            case rel => exact ⟨k + 1, by omega, by go_num, ho3, HBE.out.trans ((hf3.low HG.out).mono HB1.out)⟩
            case measure => simp [intOf]; omega
          · go_wp2_with (first | (go_at_call 10; refine (HA.out _ _ _ HBO.out).mono ?_; rintro e w3 ⟨rfl, rfl⟩) | (go_at_call 9; refine (HS.out _ _ _ HBO.out).mono ?_; rintro e w3 ⟨rfl, rfl⟩) | (go_at_call 11; refine (HD.out _ _ _ HBO.out).mono ?_; rintro e w3 ⟨rfl, rfl⟩))
            go_ret
            exact ⟨rfl, HBE.out⟩

theorem any_row (s m : ByteArray) (w : World) (_hs : s.size ≤ maxLen) (_hm : m.size ≤ maxLen) : Calls Try.prog 4 #[.string s, .string m] w fun e w' => e = .returned (.bool true) ∧ Below w.heap.size w w' := any_walk s m w

end Go.Proofs.Ytphpcgcdkhmnmaa
