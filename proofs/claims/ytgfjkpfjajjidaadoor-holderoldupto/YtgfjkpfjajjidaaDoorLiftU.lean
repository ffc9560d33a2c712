/- A slice of texts that is handed in, and its bulk. -/
import Derived.Test.YtgfjkpfjajjidaaDoorRows
import Derived.Test.YtgfjkpfjajjidaaDoorLifts
namespace Go.Proofs.YtgfjkpfjajjidaaDoor
open Go.ChangeShapes Go.WideShapes Go.ChangeAt Go.RowKit Pl

theorem bulk_in {H : Type} : ∀ (l : List (DataW H)) (d : DataW H), d ∈ l → Rows.uptoBulk d ≤ Rows.uptoBulkAll l
  | x :: l, d, h => by
    rw [Rows.uptoBulkAll]
    rcases List.mem_cons.1 h with rfl | h
    · omega
    · have := bulk_in l d h; omega
theorem bulk_text {H : Type} (b : List UInt8) : b.length ≤ Rows.uptoBulk (DataW.lit (H := H) (.string b)) := by rw [Rows.uptoBulk]; omega
theorem bulk_elems {H : Type} (l m : List (DataW H)) : Rows.uptoBulkAll l ≤ Rows.uptoBulk (.slice l m) := by rw [Rows.uptoBulk]; omega
theorem bulk_two {H : Type} {d e : DataW H} (h : Rows.uptoSmall H [d, e] = true) : Rows.uptoBulk d ≤ 1048576 ∧ Rows.uptoBulk e ≤ 1048576 := by
  have h1 : Rows.uptoBulkAll [d, e] ≤ 1048576 := of_decide_eq_true h
  simp only [Rows.uptoBulkAll] at h1
  omega

section
variable {H : Type} {enc : TypeId × Value → H} {P : Program}
theorem open_segsB {r : Reach} {b0 : Nat} {t e : TypeId} {w : World} {v : Value} {d : DataW H} {p : List MemPlace} (ht : P.underlying t = some (.slice e)) (he : P.underlying e = some .string) (hc : P.cellsOf e = 1)
    (hv : Value.okWide P w r b0 t v) (h : DataW.Trod enc P w 0 (fun _ => true) true t v d p) :
    ∃ (xs : List (List UInt8)) (A : Option Addr) (c : Nat), v = .slice A xs.length c ∧ Rd w w.heap.size 1 A xs.length (xs.map strV) ∧ xs.length ≤ c ∧ c ≤ maxLen ∧ (∀ x ∈ xs, x.length ∈ d.weights P t) ∧ ∀ x ∈ xs, x.length ≤ Rows.uptoBulk d := by
  obtain ⟨a0, len, cap, rfl⟩ := okWide_slice ht hv
  obtain ⟨n, hn⟩ := h
  rcases open_strings ht he hc hn with ⟨hcs, _⟩ | ⟨a, len', cap', zs, hcs, _, hl, hm, hz, hx, hcell, hwz⟩
  · simp [Value.cells] at hcs
    obtain ⟨rfl, rfl, rfl⟩ := hcs
    exact ⟨[], none, 0, rfl, ⟨rfl, fun h => absurd rfl h⟩, by simp, by simp, by simp, by simp⟩
  · simp [Value.cells] at hcs
    obtain ⟨rfl, rfl, rfl⟩ := hcs
    simp only [if_true] at hz
    simp only [Prod.mk.injEq] at hx
    obtain ⟨rfl, _⟩ := hx
    have hlen : ((zs.take len).map fun s => s.data.toList).length = len := by rw [List.length_map, List.length_take]; omega
    refine ⟨(zs.take len).map (fun s => s.data.toList), some a, cap, by rw [hlen], ⟨by simp, fun hne => ⟨a, rfl, ?_, fun j u hu => ?_⟩⟩, by rw [hlen]; exact hl, hm, fun x hx => ?_, fun x hx => ?_⟩
    · rw [hlen] at hne
      have := hcell 0 (by omega)
      simp [Addr.add] at this
      exact cell_lt this
    · rw [List.map_map, List.getElem?_map, Option.map_eq_some_iff] at hu
      obtain ⟨s, hs, rfl⟩ := hu
      rw [List.getElem?_take] at hs
      split at hs
      · rw [hcell j (by omega), List.getD, hs]
        show _ = some (Value.string (mkB s.data.toList))
        rw [mkB_of]; rfl
      · cases hs
    · obtain ⟨s, hs, rfl⟩ := List.mem_map.1 hx
      rw [DataW.weights, ht]
      simp only [List.mem_cons, List.mem_append]
      have := strs_weights (H := H) (P := P) e _ s hs
      rw [data_len]
      exact .inr (.inl this)
    · obtain ⟨s, hs, rfl⟩ := List.mem_map.1 hx
      exact Nat.le_trans (Nat.le_trans (bulk_text _) (bulk_in _ _ (List.mem_map.2 ⟨s, hs, rfl⟩))) (bulk_elems _ _)
end
end Go.Proofs.YtgfjkpfjajjidaaDoor
