/- A slice of slices of texts that is handed in, opened. -/
import Derived.Test.YtekjpcmobgdgpaaDoorMatchesW
import Derived.Test.YtekjpcmobgdgpaaDoorLifts
namespace Go.Proofs.YtekjpcmobgdgpaaDoor
open Go.ChangeShapes Go.WideShapes Go.ChangeAt Go.RowKit Go.Lib Go.Deep Pl

section
variable {H : Type} {enc : TypeId × Value → H} {P : Program}

theorem one_path {n : Nat} {t e : TypeId} {w : World} {cs : List Value} {d : DataW H} {p : List MemPlace} (ht : P.underlying t = some (.slice e)) (he : P.underlying e = some .string) (hc : P.cellsOf e = 1)
    (hn : DataW.trod enc P w 0 (fun _ => true) true n t cs = some (d, p)) :
    ∃ q : Pq, cs = [pqV q] ∧ Rd w w.heap.size 1 q.a q.x.length (q.x.map strV) ∧ q.x.length ≤ q.c ∧ q.c ≤ maxLen ∧ ∀ x ∈ q.x, x.length ∈ d.weights P t := by
  rcases open_strings ht he hc hn with ⟨hcs, _⟩ | ⟨a, len', cap', zs, hcs, _, hl, hm, hz, hx, hcell, hwz⟩
  · exact ⟨⟨none, 0, []⟩, hcs, ⟨rfl, fun h => absurd rfl h⟩, by simp, by simp, by simp⟩
  · simp only [if_true] at hz
    simp only [Prod.mk.injEq] at hx
    obtain ⟨rfl, _⟩ := hx
    have hlen : ((zs.take len').map fun s => s.data.toList).length = len' := by rw [List.length_map, List.length_take]; omega
    refine ⟨⟨some a, cap', (zs.take len').map (fun s => s.data.toList)⟩, ?_, ⟨by simp, fun hne => ⟨a, rfl, ?_, fun j u hu => ?_⟩⟩, ?_, hm, fun x hx => ?_⟩
    · rw [hcs, pqV]; simp only [hlen]
    · simp only [hlen] at hne
      have := hcell 0 (by omega)
      simp [Addr.add] at this
      exact cell_lt this
    · rw [List.map_map, List.getElem?_map, Option.map_eq_some_iff] at hu
      obtain ⟨s, hs, rfl⟩ := hu
      rw [List.getElem?_take] at hs
      split at hs
      · rw [hcell j (by omega), List.getD, hs]
        show _ = some (Value.string (mkB s.data.toList))
        rw [mkB_of]; rfl
      · cases hs
    · simp only [hlen]; exact hl
    · obtain ⟨s, hs, rfl⟩ := List.mem_map.1 hx
      rw [DataW.weights, ht]
      simp only [List.mem_cons, List.mem_append]
      have := strs_weights (H := H) (P := P) e _ s hs
      rw [data_len]
      exact .inr (.inl this)

theorem open_paths {r0 : Reach} {b0 : Nat} {u t e : TypeId} {w : World} {v : Value} {d : DataW H} {p : List MemPlace} (hu : P.underlying u = some (.slice t)) (ht : P.underlying t = some (.slice e)) (he : P.underlying e = some .string) (hC : P.cellsOf t = 1) (hc : P.cellsOf e = 1)
    (hv : Value.okWide P w r0 b0 u v) (h : DataW.Trod enc P w 0 (fun _ => true) true u v d p) :
    ∃ (xs : List Pq) (A : Option Addr) (c : Nat), v = .slice A xs.length c ∧ Rd w w.heap.size 1 A xs.length (xs.map pqV) ∧ xs.length ≤ c ∧ c ≤ maxLen ∧ ∀ q ∈ xs, Rd w w.heap.size 1 q.a q.x.length (q.x.map strV) ∧ q.x.length ≤ q.c ∧ q.c ≤ maxLen ∧ ∀ s ∈ q.x, s.length ∈ d.weights P u := by
  obtain ⟨a0, len, cap, rfl⟩ := okWide_slice hu hv
  obtain ⟨n, hn⟩ := h
  rcases Go.Deep.open_slice hu hn with ⟨hcs, _⟩ | ⟨a, len', cap', m, n', D, Pl, hcs, _, hl, hm, hmm, hx, hi⟩
  · simp [Value.cells] at hcs
    obtain ⟨rfl, rfl, rfl⟩ := hcs
    exact ⟨[], none, 0, rfl, ⟨rfl, fun h => absurd rfl h⟩, by simp, by simp, fun x hx => (by cases hx)⟩
  · simp [Value.cells] at hcs
    obtain ⟨rfl, rfl, rfl⟩ := hcs
    simp only [if_true] at hmm
    have each : ∀ i, i < len → ∃ q : Pq, w.cell? (a.add i) = some (pqV q) ∧ Rd w w.heap.size 1 q.a q.x.length (q.x.map strV) ∧ q.x.length ≤ q.c ∧ q.c ≤ maxLen ∧ ∀ s ∈ q.x, s.length ∈ (D i).weights P t := by
      intro i hil
      obtain ⟨cs', hc', ht'⟩ := hi i (by omega)
      rw [hC] at hc'
      obtain ⟨q, hq, h1, h2, h3, h4⟩ := one_path ht he hc ht'
      obtain ⟨_, hcl, hat⟩ := World.cells?_some hc'
      have h0 := hat 0 (by omega)
      rw [add_add, Nat.mul_one, Nat.add_zero] at h0
      refine ⟨q, ?_, h1, h2, h3, h4⟩
      rw [h0, hq]; rfl
    obtain ⟨xs, hsl, hp⟩ := list_of len _ each
    refine ⟨xs, some a, cap, by rw [hsl], ⟨by simp, fun hne => ⟨a, rfl, ?_, fun j y hy => ?_⟩⟩, by omega, hm, fun q hqm => ?_⟩
    · have := (hp 0 (by omega)).1
      simp [Addr.add] at this
      exact cell_lt this
    · rw [List.getElem?_map, Option.map_eq_some_iff] at hy
      obtain ⟨q, hq, rfl⟩ := hy
      obtain ⟨hj, rfl⟩ := List.getElem?_eq_some_iff.1 hq
      exact (hp j hj).1
    · obtain ⟨i, hi', rfl⟩ := List.getElem_of_mem hqm
      obtain ⟨_, h1, h2, h3, h4⟩ := hp i hi'
      have hmem : D i ∈ (List.range len).map D := List.mem_map.2 ⟨i, List.mem_range.2 (by omega), rfl⟩
      refine ⟨h1, h2, h3, fun s hs => ?_⟩
      have hd : d = .slice ((List.range len).map D) ((List.range (m - len)).map fun j => D (len + j)) := congrArg Prod.fst hx
      rw [hd, DataW.weights, hu]
      simp only [List.mem_cons, List.mem_append]
      exact .inr (.inl (weights_all t _ _ hmem _ (h4 s hs)))
end
end Go.Proofs.YtekjpcmobgdgpaaDoor
