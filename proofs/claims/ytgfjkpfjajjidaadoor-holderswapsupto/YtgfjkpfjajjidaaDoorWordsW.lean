/- Numbers that a walk asks for. -/
import Derived.Test.YtgfjkpfjajjidaaDoorMatchesW
import Derived.Test.YtgfjkpfjajjidaaDoorKeepsW
namespace Go.Proofs.YtgfjkpfjajjidaaDoor
open Go.RowKit Pl

theorem gt_one (a m : Nat) (h : a = m + 1) : decide ((1 : Int) < (a : Int)) = decide (0 < m) := by
  rw [Bool.eq_iff_iff, decide_eq_true_eq, decide_eq_true_eq]; omega
theorem sub64 (a m : Nat) (h : a = m + 1) (hm : m ≤ 1000) : IntKind.i64.wrap ((a : Int) - 1) = (m : Int) := by rw [IntKind.wrap_i64]; omega
theorem sub64w (a m : Nat) (h : a = m + 1) (hm : m ≤ 1000) : wrap64 ((a : Int) - 1) = (m : Int) := by unfold wrap64; omega
theorem small64 (m : Nat) (h : m ≤ 1000) : wrap64 (m : Int) = (m : Int) := by unfold wrap64; omega
end Go.Proofs.YtgfjkpfjajjidaaDoor
