/- A slice of routes that is handed in, opened. -/
import Derived.Test.YtejncdhdkdhpmaaDoorLift
import Derived.Test.YtejncdhdkdhpmaaDoorTbRight
import Derived.SizedLaws
import Derived.Lib.LaidTab
import Derived.Lib.SmallJoins
namespace Go.Proofs.YtejncdhdkdhpmaaDoor
open Go.ChangeShapes Go.WideShapes Go.ChangeAt Go.RowKit Go.Lib Go.Deep

theorem list_of {α : Type} (n : Nat) (p : Nat → α → Prop) (h : ∀ i, i < n → ∃ x, p i x) : ∃ l : List α, l.length = n ∧ ∀ i (hi : i < l.length), p i l[i] := by
  induction n with
  | zero => exact ⟨[], rfl, fun i hi => absurd hi (by simp)⟩
  | succ n ih =>
    obtain ⟨l, hl, hp⟩ := ih fun i hi => h i (by omega)
    obtain ⟨x, hx⟩ := h n (by omega)
    refine ⟨l ++ [x], by simp [hl], fun i hi => ?_⟩
    by_cases hin : i < l.length
    · rw [List.getElem_append_left hin]; exact hp i hin
    · have : i = n := by simp at hi; omega
      subst this
      rw [List.getElem_append_right (by omega)]
      simpa [hl] using hx

section
variable {H : Type} {enc : TypeId × Value → H} {P : Program}

theorem weight_le {ts : List TypeId} {ds : List (DataW H)} {j : Nat} {t : TypeId} {d : DataW H} (hR : (DataW.weightsEach P ts ds).all (· ≤ reachBytes) = true) (ht : ts[j]? = some t) (hd : ds[j]? = some d) (n : Nat) (hn : n ∈ d.weights P t) : n ≤ 140737488355328 := by
  have h1 := List.all_eq_true.1 hR _ (DataW.weights_mem_each ht hd n hn)
  have h2 := reachBytes_lt
  simp at h1
  omega

theorem weights_all (e : TypeId) : ∀ (l : List (DataW H)) (d : DataW H), d ∈ l → ∀ n ∈ d.weights P e, n ∈ DataW.weightsAll P e l
  | x :: l, d, hd, n, hn => by
    rw [DataW.weightsAll, List.mem_append]
    rcases List.mem_cons.1 hd with rfl | hd
    · exact .inl hn
    · exact .inr (weights_all e l d hd n hn)

theorem mkB_list (s : ByteArray) : mkB s.data.toList = s := mkB_of s

theorem open_routes {r0 : Reach} {b0 : Nat} {u t : TypeId} {f0 f1 f2 : Field} {w : World} {v : Value} {d : DataW H} {p : List MemPlace} (hu : P.underlying u = some (.slice t)) (hs : P.underlying t = some (.struct #[f0, f1, f2])) (hone : oneCellFields P #[f0, f1, f2] = true) (hC : P.cellsOf t = 3)
    (h0 : P.underlying f0.type = some .string) (h1 : P.underlying f1.type = some .string) (h2 : P.underlying f2.type = some .string)
    (hv : Value.okWide P w r0 b0 u v) (h : DataW.Trod enc P w 0 (fun _ => true) true u v d p) :
    ∃ (xs : List Rt) (A : Option Addr) (c : Nat), v = .slice A xs.length c ∧ Rd w w.heap.size 3 A xs.length (rtCells xs) ∧ xs.length ≤ c ∧ c ≤ maxLen ∧ ∀ x ∈ xs, x.m.length ∈ d.weights P u ∧ x.p.length ∈ d.weights P u ∧ x.h.length ∈ d.weights P u := by
  obtain ⟨a0, len, cap, rfl⟩ := okWide_slice hu hv
  obtain ⟨n, hn⟩ := h
  rcases Go.Deep.open_slice hu hn with ⟨hcs, _⟩ | ⟨a, len', cap', m, n', D, Pl, hcs, _, hl, hm, hmm, hx, hi⟩
  · simp [Value.cells] at hcs
    obtain ⟨rfl, rfl, rfl⟩ := hcs
    exact ⟨[], none, 0, rfl, ⟨rfl, fun h => absurd rfl h⟩, by simp, by simp, fun x hx => (by cases hx)⟩
  · simp [Value.cells] at hcs
    obtain ⟨rfl, rfl, rfl⟩ := hcs
    simp only [if_true] at hmm
    have each : ∀ i, i < len → ∃ x : Rt, (∀ j y, (rtV x)[j]? = some y → w.cell? (a.add (i * 3 + j)) = some y) ∧ x.m.length ∈ (D i).weights P t ∧ x.p.length ∈ (D i).weights P t ∧ x.h.length ∈ (D i).weights P t := by
      intro i hil
      obtain ⟨cs', hc', ht'⟩ := hi i (by omega)
      rw [hC] at hc'
      obtain ⟨xs, k, _, hy, hl3, hlen, hg⟩ := DataW.trod_struct hs ht'
      obtain ⟨_, hcl, hat⟩ := World.cells?_some hc'
      match cs', hcl with
      | [x0, x1, x2], _ =>
        match xs, hlen with
        | [y0, y1, y2], _ =>
          have g0 := hg 0 f0 rfl; have g1 := hg 1 f1 rfl; have g2 := hg 2 f2 rfl
          obtain ⟨o0, k0⟩ := hone_of hone 0 f0 rfl
          obtain ⟨o1, k1⟩ := hone_of hone 1 f1 rfl
          obtain ⟨o2, k2⟩ := hone_of hone 2 f2 rfl
          obtain ⟨z0, e0, d0, _⟩ := DataW.trod_string h0 (by simpa [o0, k0] using g0)
          obtain ⟨z1, e1, d1, _⟩ := DataW.trod_string h1 (by simpa [o1, k1] using g1)
          obtain ⟨z2, e2, d2, _⟩ := DataW.trod_string h2 (by simpa [o2, k2] using g2)
          obtain rfl := (List.cons.inj e0).1
          obtain rfl := (List.cons.inj e1).1
          obtain rfl := (List.cons.inj e2).1
          have hD1 : D i = .agg [.lit (.string z0.data.toList), .lit (.string z1.data.toList), .lit (.string z2.data.toList)] := by
            have e4 : y0 = (.lit (.string z0.data.toList), []) := d0
            have e5 : y1 = (.lit (.string z1.data.toList), []) := d1
            have e6 : y2 = (.lit (.string z2.data.toList), []) := d2
            subst e4; subst e5; subst e6
            exact congrArg Prod.fst hy
          refine ⟨⟨z0.data.toList, z1.data.toList, z2.data.toList⟩, fun j y hy' => ?_, ?_, ?_, ?_⟩
          · have hj : j < 3 := by
              have := (List.getElem?_eq_some_iff.1 hy').1
              simpa [rtV] using this
            have h3 := hat j (by omega)
            rw [add_add] at h3
            rw [h3]
            simp only [rtV, mkB_list] at hy'
            exact hy'
          · rw [hD1, DataW.weights, hs]; simp [DataW.weightsEach, DataW.weights]
          · rw [hD1, DataW.weights, hs]; simp [DataW.weightsEach, DataW.weights]
          · rw [hD1, DataW.weights, hs]; simp [DataW.weightsEach, DataW.weights]
    obtain ⟨xs, hsl, hp⟩ := list_of len _ each
    refine ⟨xs, some a, cap, by rw [hsl], ⟨rt_len xs, fun hne => ⟨a, rfl, ?_, fun j y hy => ?_⟩⟩, by omega, hm, fun x hxm => ?_⟩
    · have := (hp 0 (by omega)).1 0 _ rfl
      simp [Addr.add] at this
      exact cell_lt this
    · have hj : j < xs.length * 3 := by rw [← rt_len]; exact (List.getElem?_eq_some_iff.1 hy).1
      have e : j = j / 3 * 3 + j % 3 := by omega
      rw [e] at hy ⊢
      rw [rt_at xs (j / 3) (by omega) (j % 3) (Nat.mod_lt _ (by decide))] at hy
      exact (hp (j / 3) (by omega)).1 (j % 3) y hy
    · obtain ⟨i, hi', rfl⟩ := List.getElem_of_mem hxm
      obtain ⟨_, w0, w1, w2⟩ := hp i hi'
      have hmem : D i ∈ (List.range len).map D := List.mem_map.2 ⟨i, List.mem_range.2 (by omega), rfl⟩
      have hin : ∀ n ∈ (D i).weights P t, n ∈ d.weights P u := by
        intro n hn
        have hd : d = .slice ((List.range len).map D) ((List.range (m - len)).map fun j => D (len + j)) := congrArg Prod.fst hx
        rw [hd, DataW.weights, hu]
        simp only [List.mem_cons, List.mem_append]
        exact .inr (.inl (weights_all t _ _ hmem n hn))
      exact ⟨hin _ w0, hin _ w1, hin _ w2⟩
end
end Go.Proofs.YtejncdhdkdhpmaaDoor
