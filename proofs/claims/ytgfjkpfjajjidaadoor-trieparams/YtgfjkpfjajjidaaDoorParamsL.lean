/- TrieParams, whatever is handed in. -/
import Derived.Test.YtgfjkpfjajjidaaDoorParamsW
namespace Go.Proofs.YtgfjkpfjajjidaaDoor
open Go.RowKit Pl

set_option maxRecDepth 100000 in
set_option maxHeartbeats 4000000 in
theorem params_walk (xs : List Seg) (A : Option Addr) (c : Nat) (rest : Bool) (w : World) (hr : Rd w w.heap.size 1 A xs.length (xs.map strV)) (hxc : xs.length ≤ c) (hm : c ≤ maxLen) (hz : ∀ s ∈ xs, s.length ≤ 140737488355328) (hw : HB w) :
    Calls Tryd.prog 3 #[.slice A xs.length c, .bool rest] w fun e w' => e = .returned (.bool true) ∧ Below w.heap.size w w' := by
  have HF := Lib.hid (fit_any w hw)
  have HLT := Lib.hid (fun wx (h : Below w.heap.size w wx) => light_any xs A c wx ((hr.below h (Nat.le_refl _)).wide h.size) (by unfold maxLen at hm; omega) (fun s hs => by have := hz s hs; omega))
  by_cases h0 : xs.length = 0
  · have g1 : ((xs.length : Int) == 0) = true := by rw [beq_iff_eq]; omega
    clear hr hw HLT
    go_enter Tryd.func3, Tryd.ntmps3
    go_wp2_with fail
    refine HF.out.mono ?_
    rintro e w1 ⟨rfl, hb1⟩
    have HB1 := Lib.hid hb1
    clear hb1
    go_wp2_with fail
    go_ret
    exact ⟨rfl, HB1.out⟩
  · have g1 : ((xs.length : Int) == 0) = false := by rw [beq_eq_false_iff_ne]; omega
    by_cases h7 : xs.length ≤ 7
    · cases hli : lightL xs with
      | true =>
        clear HF HLT g1
        exact params_walk0 xs A c rest (xs.length - 1) w hr hxc hz hw (by omega) h7 hli
      | false =>
        rw [hli] at HLT
        have g2 : decide ((7 : Int) < (xs.length : Int)) = false := by rw [decide_eq_false_iff_not]; omega
        clear hr hw h0 hli
        go_enter Tryd.func3, Tryd.ntmps3
        go_wp2_with fail
        refine HF.out.mono ?_
        rintro e w1 ⟨rfl, hb1⟩
        have HB1 := Lib.hid hb1
        clear hb1
        go_wp2_with fail
        refine (HLT.out w1 HB1.out).mono ?_
        rintro e w2 ⟨rfl, rfl⟩
        go_wp2_with fail
        go_ret
        exact ⟨rfl, HB1.out⟩
    · have g2 : decide ((7 : Int) < (xs.length : Int)) = true := by rw [decide_eq_true_eq]; omega
      have g3 : (7 : Int) < (xs.length : Int) := by omega
      clear hr hw HLT h0
      go_enter Tryd.func3, Tryd.ntmps3
      go_wp2_with fail
      refine HF.out.mono ?_
      rintro e w1 ⟨rfl, hb1⟩
      have HB1 := Lib.hid hb1
      clear hb1
      go_wp2_with fail
      go_ret
      exact ⟨rfl, HB1.out⟩
end Go.Proofs.YtgfjkpfjajjidaaDoor
