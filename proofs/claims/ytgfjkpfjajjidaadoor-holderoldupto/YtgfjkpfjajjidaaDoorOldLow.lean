/- HolderOld, where what is handed in is not too great. -/
import Derived.Test.YtgfjkpfjajjidaaDoorOldW
namespace Go.Proofs.YtgfjkpfjajjidaaDoor
open Go.RowKit Pl

set_option maxRecDepth 100000 in
set_option maxHeartbeats 4000000 in
theorem old_walk (ts : List Seg) (TA : Option Addr) (tc : Nat) (xs : List Seg) (XA : Option Addr) (xc : Nat) (w : World) (ht : Rd w w.heap.size 1 TA ts.length (ts.map strV)) (htc : ts.length ≤ tc) (htm : tc ≤ maxLen) (htb : ∀ t ∈ ts, t.length ≤ 1048576)
    (hx : Rd w w.heap.size 1 XA xs.length (xs.map strV)) (hxc : xs.length ≤ xc) (hxm : xc ≤ maxLen) (hxb : ∀ t ∈ xs, t.length ≤ 1048576) (hw : HB w) :
    Calls Tryd.prog 6 #[.slice TA ts.length tc, .slice XA xs.length xc] w fun e w' => e = .returned (.bool true) ∧ Below w.heap.size w w' := by
  have HF := Lib.hid (fith_any w hw)
  unfold maxLen at htm hxm
  by_cases h1 : ts.length ≤ 12
  · by_cases h2 : xs.length ≤ 12
    · exact old_walk0 ts TA tc xs XA xc w ht h1 (fun t h => Nat.le_trans (htb t h) (by decide)) (Pth.of hx hxc (by omega) (fun t h => Nat.le_trans (hxb t h) (by decide))) h2 hw
    · have g1 : decide ((12 : Int) < (ts.length : Int)) = false := by rw [decide_eq_false_iff_not]; omega
      have g2 : decide ((12 : Int) < (xs.length : Int)) = true := by rw [decide_eq_true_eq]; omega
      have g3 : (12 : Int) < (xs.length : Int) := by omega
      have g4 : (ts.length : Int) ≤ 12 := by omega
      clear ht hx hw
      go_enter Tryd.func6, Tryd.ntmps6
      go_wp2_with fail
      refine HF.out.mono ?_
      rintro e w1 ⟨rfl, hb1⟩
      have HB1 := Lib.hid hb1
      clear hb1
      go_wp2_with fail
      go_ret
      exact ⟨rfl, HB1.out⟩
  · have g1 : decide ((12 : Int) < (ts.length : Int)) = true := by rw [decide_eq_true_eq]; omega
    have g3 : (12 : Int) < (ts.length : Int) := by omega
    clear ht hx hw
    go_enter Tryd.func6, Tryd.ntmps6
    go_wp2_with fail
    refine HF.out.mono ?_
    rintro e w1 ⟨rfl, hb1⟩
    have HB1 := Lib.hid hb1
    clear hb1
    go_wp2_with fail
    go_ret
    exact ⟨rfl, HB1.out⟩
end Go.Proofs.YtgfjkpfjajjidaaDoor
