/- The walk of the law BodyLengths. -/
import Derived.Test.YtphpcgcdkhmnmaaBits
import Derived.Test.YtphpcgcdkhmnmaaLenPlain
import Derived.Deep.RegionHeld3
namespace Go.Proofs.Ytphpcgcdkhmnmaa
open Go.RowKit Pl

set_option maxRecDepth 100000 in
set_option maxHeartbeats 4000000 in
theorem lengths_walk (n0 : Int) (s : ByteArray) (w : World) : Calls Try.prog 3 #[.int .i64 n0, .string s] w fun e w' => e = .returned (.bool true) ∧ Below w.heap.size w w' := by
  by_cases hs : s.size > 2000
  · go_enter Try.func3, Try.ntmps3
    go_wp2_with (go_at_call 7; refine (fit_any _).mono ?_; rintro e w1 ⟨rfl, hb1⟩)
    go_ret
    exact ⟨rfl, hb1⟩
  · go_enter Try.func3, Try.ntmps3
    go_wp2_with (first | (go_at_call 7; refine (fit_any _).mono ?_; rintro e w1 ⟨rfl, hb1⟩))
    rw [i64_and65535]
    obtain ⟨n, hn⟩ : ∃ n : Nat, (n0 % 65536).tmod 601 = (n : Int) := ⟨((n0 % 65536).tmod 601).toNat, by
      rw [Int.tmod_eq_emod_of_nonneg (by omega)]; omega⟩
    have hnb : n ≤ 600 := by
      rw [Int.tmod_eq_emod_of_nonneg (by omega)] at hn; omega
    rw [hn]
    generalize n0 % 65536 = z0 at *
    clear hn
    have hL := len_ok n s.data.toList hnb
    have HC := Lib.hid fun w => lawFeed_any (n : Int) s w (by omega) (by omega)
    generalize runB (newB (n : Int)) s.data.toList = R at *
    obtain ⟨b, k⟩ := R
    obtain ⟨e1, e2, e3, e4⟩ := hL
    simp only at e1 e2 e3 e4 HC
    have hsz : s.data.toList.length = s.size := by simp
    rw [hsz] at e2 e4
    have hks : k ≤ s.size := by omega
    have HX : Hid ((⟨b.data.toArray⟩ : ByteArray) = s.extract 0 k) := by
      show _ = _
      rw [e3, Lib.extract_eq]
      simp
    clear e3 hsz
    refine (HC.out _).mono ?_
    rintro e w2 ⟨g, rfl, ho, hb2, _⟩
    have hbo : BO w1.heap.size w2.drew g b := ho.below ((Below.refl _ _).drew)
    have HD := Lib.hid (done_any hbo)
    have HS := Lib.hid (status_any hbo)
    have HA := Lib.hid (data_any hbo)
    rw [HX.out] at HA
    rw [e1] at HS
    rw [e4] at HD
    have hb3 := Lib.hid (bt hb1 hb2).drew
    clear ho hb1 hb2 HC HX e1 e4 hbo
    have c1 : (0 : Int) ≤ ↑k := by omega
    have c2 : (↑k : Int) ≤ ↑s.size := by omega
    have hcase : (n ≤ s.size ∧ k = n) ∨ (s.size < n ∧ k = s.size) := by omega
    clear e2
    rcases hcase with ⟨hc, rfl⟩ | ⟨hc, rfl⟩
    · have hd : decide (k ≤ s.size) = true := decide_eq_true hc
      have hmin : min (k : Int) (s.size : Int) = k := by omega
      rw [hd] at HD
      clear hd
      go_wp2_with fail
      go_region_held3 (fun _ => True) (trivial)
        ((first
          | (go_at_call 9; refine HS.out.mono ?_; rintro e w3 ⟨rfl, rfl⟩)
          | (go_at_call 10; refine HA.out.mono ?_; rintro e w3 ⟨rfl, rfl⟩)
          | (go_at_call 11; refine HD.out.mono ?_; rintro e w3 ⟨rfl, rfl⟩)))
      go_wp2_with fail
      go_ret
      exact ⟨rfl, hb3.out⟩
    · have hd : decide (n ≤ s.size) = false := decide_eq_false (by omega)
      have hmin : min (n : Int) (s.size : Int) = s.size := by omega
      rw [hd] at HD
      clear hd
      go_wp2_with fail
      go_region_held3 (fun _ => True) (trivial)
        ((first
          | (go_at_call 9; refine HS.out.mono ?_; rintro e w3 ⟨rfl, rfl⟩)
          | (go_at_call 10; refine HA.out.mono ?_; rintro e w3 ⟨rfl, rfl⟩)
          | (go_at_call 11; refine HD.out.mono ?_; rintro e w3 ⟨rfl, rfl⟩)))
      go_wp2_with fail
      go_ret
      exact ⟨ret_bool (by simp; omega), hb3.out⟩

theorem lengths_row (n0 : Int) (s : ByteArray) (w : World) (_hn : (Lit.int .i64 n0).wf = true) (_hs : s.size ≤ maxLen) : Calls Try.prog 3 #[.int .i64 n0, .string s] w fun e w' => e = .returned (.bool true) ∧ Below w.heap.size w w' := lengths_walk n0 s w

end Go.Proofs.Ytphpcgcdkhmnmaa
