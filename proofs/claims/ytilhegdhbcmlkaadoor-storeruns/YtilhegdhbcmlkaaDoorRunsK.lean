/- How much the law's map holds. -/
import Derived.Test.YtilhegdhbcmlkaaDoorRunsM
namespace Go.Proofs.YtilhegdhbcmlkaaDoor
open Go.RowKit

theorem SI.lenM {m : Nat → Txs} {M : Txs} (h : SI m M) : M.length ≤ 32 := by
  have h1 := (h.perm []).length_eq
  have e : (mKeys M).filter (preL []) = mKeys M := List.filter_eq_self.2 fun x _ => by unfold preL; simp
  have h2 : (mKeys M).length = M.length := by unfold mKeys; simp
  have h3 : ∀ i, i < 4 → ((mKeys (m i)).filter (preL [])).length ≤ 8 := fun i hi => by
    have a1 := List.length_filter_le (preL []) (mKeys (m i))
    have a2 : (mKeys (m i)).length = (m i).length := by unfold mKeys; simp
    have a3 := h.len i hi
    omega
  have h4 : lkK m [] 0 = [] := by simp [lkK]
  rw [e, lk_succ, lk_succ, lk_succ, lk_succ, h4] at h1
  simp only [List.length_append, List.length_nil] at h1
  have := h3 0 (by decide); have := h3 1 (by decide); have := h3 2 (by decide); have := h3 3 (by decide)
  omega
end Go.Proofs.YtilhegdhbcmlkaaDoor
