/- What light tells. -/
import Derived.Test.YtejncdhdkdhpmaaDoorTbSame
namespace Go.Proofs.YtejncdhdkdhpmaaDoor
open Go.RowKit Pl

theorem light_sizes {l : List Rt} (h : lightL l = true) : l.length ≤ 60 ∧ sizeL l ≤ 4000 := by
  simp only [lightL, Bool.and_eq_true, decide_eq_true_eq] at h
  exact ⟨h.2, h.1⟩
theorem light_pat {l : List Rt} (h : lightL l = true) : ∀ r ∈ l, r.p.length ≤ 10000 := fun r hr => by
  have h1 := (light_sizes h).2
  have h2 := size_mem hr
  unfold sizeR at h2
  omega

end Go.Proofs.YtejncdhdkdhpmaaDoor
