/- A slice of calls that is handed in, opened. -/
import Derived.Test.YtilhegdhbcmlkaaDoorLifts
import Derived.Test.YtilhegdhbcmlkaaDoorCl
namespace Go.Proofs.YtilhegdhbcmlkaaDoor
open Go.ChangeShapes Go.WideShapes Go.ChangeAt Go.RowKit Go.Lib Go.Deep

section
variable {H : Type} {enc : TypeId × Value → H} {P : Program}
theorem open_calls {r0 : Reach} {b0 : Nat} {u t : TypeId} {f0 f1 f2 f3 f4 f5 : Field} {w : World} {v : Value} {d : DataW H} {p : List MemPlace} (hu : P.underlying u = some (.slice t)) (hs : P.underlying t = some (.struct #[f0, f1, f2, f3, f4, f5])) (hone : oneCellFields P #[f0, f1, f2, f3, f4, f5] = true) (hC : P.cellsOf t = 6)
    (h0 : P.underlying f0.type = some (.int .i64)) (h1 : P.underlying f1.type = some (.int .i64)) (h2 : P.underlying f2.type = some (.int .i64)) (h3 : P.underlying f3.type = some .string) (h4 : P.underlying f4.type = some .string) (h5 : P.underlying f5.type = some (.int .i64))
    (hv : Value.okWide P w r0 b0 u v) (h : DataW.Trod enc P w 0 (fun _ => true) true u v d p) :
    ∃ (xs : List Cl) (A : Option Addr) (c : Nat), v = .slice A xs.length c ∧ Rd w w.heap.size 6 A xs.length (clCells xs) ∧ xs.length ≤ c ∧ c ≤ maxLen ∧ ∀ x ∈ xs, x.key.length ∈ d.weights P u ∧ x.val.length ∈ d.weights P u := by
  obtain ⟨a0, len, cap, rfl⟩ := okWide_slice hu hv
  obtain ⟨n, hn⟩ := h
  rcases Go.Deep.open_slice hu hn with ⟨hcs, _⟩ | ⟨a, len', cap', m, n', D, Pl, hcs, _, hl, hm, hmm, hx, hi⟩
  · simp [Value.cells] at hcs
    obtain ⟨rfl, rfl, rfl⟩ := hcs
    exact ⟨[], none, 0, rfl, ⟨rfl, fun h => absurd rfl h⟩, by simp, by simp, fun x hx => (by cases hx)⟩
  · simp [Value.cells] at hcs
    obtain ⟨rfl, rfl, rfl⟩ := hcs
    simp only [if_true] at hmm
    have each : ∀ i, i < len → ∃ x : Cl, (∀ j y, (x.cells)[j]? = some y → w.cell? (a.add (i * 6 + j)) = some y) ∧ x.key.length ∈ (D i).weights P t ∧ x.val.length ∈ (D i).weights P t := by
      intro i hil
      obtain ⟨cs', hc', ht'⟩ := hi i (by omega)
      rw [hC] at hc'
      obtain ⟨xs, k, _, hy, hl6, hlen, hg⟩ := DataW.trod_struct hs ht'
      obtain ⟨_, hcl, hat⟩ := World.cells?_some hc'
      match cs', hcl with
      | [x0, x1, x2, x3, x4, x5], _ =>
        match xs, hlen with
        | [y0, y1, y2, y3, y4, y5], _ =>
          have g0 := hg 0 f0 rfl; have g1 := hg 1 f1 rfl; have g2 := hg 2 f2 rfl; have g3 := hg 3 f3 rfl; have g4 := hg 4 f4 rfl; have g5 := hg 5 f5 rfl
          obtain ⟨o0, k0⟩ := hone_of hone 0 f0 rfl
          obtain ⟨o1, k1⟩ := hone_of hone 1 f1 rfl
          obtain ⟨o2, k2⟩ := hone_of hone 2 f2 rfl
          obtain ⟨o3, k3⟩ := hone_of hone 3 f3 rfl
          obtain ⟨o4, k4⟩ := hone_of hone 4 f4 rfl
          obtain ⟨o5, k5⟩ := hone_of hone 5 f5 rfl
          obtain ⟨z0, e0, d0⟩ := DataW.trod_int h0 (by simpa [o0, k0] using g0)
          obtain ⟨z1, e1, d1⟩ := DataW.trod_int h1 (by simpa [o1, k1] using g1)
          obtain ⟨z2, e2, d2⟩ := DataW.trod_int h2 (by simpa [o2, k2] using g2)
          obtain ⟨z3, e3, d3, _⟩ := DataW.trod_string h3 (by simpa [o3, k3] using g3)
          obtain ⟨z4, e4, d4, _⟩ := DataW.trod_string h4 (by simpa [o4, k4] using g4)
          obtain ⟨z5, e5, d5⟩ := DataW.trod_int h5 (by simpa [o5, k5] using g5)
          obtain rfl := (List.cons.inj e0).1
          obtain rfl := (List.cons.inj e1).1
          obtain rfl := (List.cons.inj e2).1
          obtain rfl := (List.cons.inj e3).1
          obtain rfl := (List.cons.inj e4).1
          obtain rfl := (List.cons.inj e5).1
          have hD1 : D i = .agg [y0.1, y1.1, y2.1, .lit (.string z3.data.toList), .lit (.string z4.data.toList), y5.1] := by
            have e6 : y3 = (.lit (.string z3.data.toList), []) := d3
            have e7 : y4 = (.lit (.string z4.data.toList), []) := d4
            subst e6; subst e7
            exact congrArg Prod.fst hy
          refine ⟨⟨z0, z1, z2, z3.data.toList, z4.data.toList, z5⟩, fun j y hy' => ?_, ?_, ?_⟩
          · have hj : j < 6 := by
              have := (List.getElem?_eq_some_iff.1 hy').1
              simpa [Cl.cells] using this
            have h3 := hat j (by omega)
            rw [add_add] at h3
            rw [h3]
            simp only [Cl.cells, strV, mkB_of] at hy'
            exact hy'
          · rw [hD1, DataW.weights, hs]; simp [DataW.weightsEach, DataW.weights]
          · rw [hD1, DataW.weights, hs]; simp [DataW.weightsEach, DataW.weights]
    obtain ⟨xs, hsl, hp⟩ := list_of len _ each
    refine ⟨xs, some a, cap, by rw [hsl], ⟨cl_len xs, fun hne => ⟨a, rfl, ?_, fun j y hy => ?_⟩⟩, by omega, hm, fun x hxm => ?_⟩
    · have := (hp 0 (by omega)).1 0 _ rfl
      simp [Addr.add] at this
      exact cell_lt this
    · have hj : j < xs.length * 6 := by rw [← cl_len]; exact (List.getElem?_eq_some_iff.1 hy).1
      have e : j = j / 6 * 6 + j % 6 := by omega
      rw [e] at hy ⊢
      rw [cl_at xs (j / 6) (by omega) (j % 6) (Nat.mod_lt _ (by decide))] at hy
      exact (hp (j / 6) (by omega)).1 (j % 6) y hy
    · obtain ⟨i, hi', rfl⟩ := List.getElem_of_mem hxm
      obtain ⟨_, w0, w1⟩ := hp i hi'
      have hmem : D i ∈ (List.range len).map D := List.mem_map.2 ⟨i, List.mem_range.2 (by omega), rfl⟩
      have hin : ∀ n ∈ (D i).weights P t, n ∈ d.weights P u := by
        intro n hn
        have hd : d = .slice ((List.range len).map D) ((List.range (m - len)).map fun j => D (len + j)) := congrArg Prod.fst hx
        rw [hd, DataW.weights, hu]
        simp only [List.mem_cons, List.mem_append]
        exact .inr (.inl (weights_all t _ _ hmem n hn))
      exact ⟨hin _ w0, hin _ w1⟩
end
end Go.Proofs.YtilhegdhbcmlkaaDoor
