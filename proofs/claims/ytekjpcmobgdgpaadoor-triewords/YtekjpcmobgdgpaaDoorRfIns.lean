/- The document's answer of layer 8: where a method is put in. -/
import Derived.Test.YtekjpcmobgdgpaaDoorRfCut
namespace Go.Proofs.YtekjpcmobgdgpaaDoor
open Go.RowKit Pl

/-- A method put in at the first place whose method is not less. -/
theorem ins_at (m : List UInt8) : ∀ (l : List (List UInt8)) (t : Nat), t ≤ l.length → (∀ j (h : j < l.length), j < t → ltB l[j] m = true) → (∀ h : t < l.length, ltB l[t] m = false) →
    insU m l = if l[t]? = some m then l else l.take t ++ m :: l.drop t
  | [], t, ht, _, _ => by
    have : t = 0 := by simpa using ht
    subst this
    simp [insU]
  | a :: l, 0, _, _, h => by
    have h0 : ltB a m = false := h (by simp)
    rw [insU, if_neg (by rw [h0]; decide)]
    simp
  | a :: l, t + 1, ht, hj, h => by
    have h0 : ltB a m = true := hj 0 (by simp) (by omega)
    have ih := ins_at m l t (by simpa using ht) (fun j hl hlt => hj (j + 1) (by simpa using hl) (by omega)) (fun hl => h (by simpa using hl))
    rw [insU, if_pos h0, ih]
    simp only [List.getElem?_cons_succ, List.take_succ_cons, List.drop_succ_cons, List.cons_append]
    split <;> rfl
/-- The first t of a row of the call's own. -/
theorem own_pre {w : World} {base : Nat} {e : TypeId} {size g n cap : Nat} {xs : List Value} (h : w.ownsRow base e size (.slice (some ⟨g, 0, none⟩) n cap) n xs) (t : Nat) (ht : t ≤ n) : w.ownsRow base e size (.slice (some ⟨g, 0, none⟩) t cap) t (xs.take (t * size)) := by
  have hm : t * size ≤ n * size := Nat.mul_le_mul_right _ ht
  refine ⟨by rw [List.length_take, h.1]; exact Nat.min_eq_left hm, ?_⟩
  rcases h.2 with ⟨h1, _⟩ | ⟨g', cap', cur, h1, hb, hh, hc, hm1, hs, hx⟩
  · cases h1
  · cases h1
    refine .inr ⟨g, cap, cur, rfl, hb, hh, by omega, hm1, hs, ?_⟩
    rw [← hx, List.take_take, Nat.min_eq_left hm]
end Go.Proofs.YtekjpcmobgdgpaaDoor
