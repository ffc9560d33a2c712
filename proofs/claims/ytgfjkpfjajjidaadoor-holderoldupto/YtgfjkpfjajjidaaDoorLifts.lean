/- What a law reads is read behind it as before, where nothing old has turned. A slice of routes that is handed in, opened. Tables of strings, out of a row's list. A slice of texts that is handed in, as lists of bytes, with how great they may be. -/
import Derived.Test.YtgfjkpfjajjidaaDoorProg
import Derived.Below
import Derived.ProofKit
import Derived.ChangeBook
import Derived.ChangeBears
import Derived.ChangeStays
import Derived.ChangeOld
import Derived.OpenShut
import Derived.SliceStrings
import Derived.Deep.Slices
import Derived.ChangeSame
import Derived.Test.YtgfjkpfjajjidaaDoorMem
import Derived.Test.YtgfjkpfjajjidaaDoorTbRight
import Derived.SizedLaws
import Derived.Lib.LaidTab
import Derived.Lib.SmallJoins
import Derived.LaidSub
import Derived.MakeChecks
import Derived.Test.YtgfjkpfjajjidaaDoorPtBase
namespace Go.Proofs.YtgfjkpfjajjidaaDoor
open Go.ChangeShapes Go.WideShapes Go.ChangeAt Go.RowKit

section
variable {H : Type} {enc : TypeId × Value → H} {P : Program}

theorem arg_stays (hl : laidOutB P = true) {t : TypeId} (hr : P.readableRec t = true) (hrow : t < P.types.size) {W W' : World} (hb : Below W.heap.size W W') {v : Value} {d : DataW H} {p : List MemPlace}
    (h : DataW.Trod enc P W 0 (fun _ => true) true t v d p) : DataW.Trod enc P W' 0 (fun b => decide (b < W.heap.size)) true t v d p := by
  obtain ⟨n, hn⟩ := h
  have hlt := DataW.trod_lt n t _ _ hn
  exact ⟨n, DataW.trod_stays (kids_book hl hr) (book_sized hr) (fun h => by cases h) ⟨hrow, book_self t⟩ hn (fun p hp => hb.same (hlt p hp)) (fun p hp => by simpa using hlt p hp)⟩

theorem args_stay (hl : laidOutB P = true) {W W' : World} (hb : Below W.heap.size W W') : ∀ (ts : List TypeId) (vs : List Value) (ds : List (DataW H)) (ps : List MemPlace), (∀ t ∈ ts, P.readableRec t = true ∧ t < P.types.size) →
    DataW.TrodAll enc P W 0 (fun _ => true) true ts vs ds ps → DataW.TrodAll enc P W' 0 (fun b => decide (b < W.heap.size)) true ts vs ds ps
  | [], vs, ds, ps, _, h => by
    obtain ⟨rfl, rfl, rfl⟩ := trodAll_nil h
    exact trodAll_mk0
  | t :: ts, vs, ds, ps, hts, h => by
    obtain ⟨v0, vs0, d0, ds0, p0, q0, rfl, rfl, rfl, h0, r0⟩ := trodAll_cons h
    exact trodAll_cons_mk (arg_stays hl (hts t (by simp)).1 (hts t (by simp)).2 hb h0) (args_stay hl hb ts vs0 ds0 q0 (fun u hu => hts u (by simp [hu])) r0)

theorem cell_lt {w : World} {a : Addr} {v : Value} (h : w.cell? a = some v) : a.block < w.heap.size := by
  rcases Nat.lt_or_ge a.block w.heap.size with hl | hg
  · exact hl
  · have : w.heap[a.block]? = none := Array.getElem?_eq_none hg
    simp [World.cell?, this] at h

theorem add_add (a : Addr) (i j : Nat) : (a.add i).add j = a.add (i + j) := by
  unfold Addr.add
  by_cases hi : i = 0 <;> by_cases hj : j = 0 <;> simp [hi, hj, Nat.add_assoc]

/-- A slice of strings that is handed in. -/
theorem open_strs {r : Reach} {b0 : Nat} {t e : TypeId} {w : World} {v : Value} {d : DataW H} {p : List MemPlace} (ht : P.underlying t = some (.slice e)) (he : P.underlying e = some .string) (hc : P.cellsOf e = 1)
    (hv : Value.okWide P w r b0 t v) (h : DataW.Trod enc P w 0 (fun _ => true) true t v d p) :
    ∃ (A : Option Addr) (ss : List ByteArray) (c : Nat), v = .slice A ss.length c ∧ Rd w w.heap.size 1 A ss.length (ss.map .string) ∧ ss.length ≤ c ∧ c ≤ maxLen ∧ ∀ s ∈ ss, s.size ≤ maxLen := by
  obtain ⟨a0, len, cap, rfl⟩ := okWide_slice ht hv
  obtain ⟨n, hn⟩ := h
  rcases open_strings ht he hc hn with ⟨hcs, _⟩ | ⟨a, len', cap', zs, hcs, _, hl, hm, hz, _, hcell, hwz⟩
  · simp [Value.cells] at hcs
    obtain ⟨rfl, rfl, rfl⟩ := hcs
    exact ⟨none, [], 0, rfl, ⟨rfl, fun h => absurd rfl h⟩, by simp, by simp, by simp⟩
  · simp [Value.cells] at hcs
    obtain ⟨rfl, rfl, rfl⟩ := hcs
    simp only [if_true] at hz
    have hlen : (zs.take len).length = len := by rw [List.length_take]; omega
    refine ⟨some a, zs.take len, cap, by rw [hlen], ⟨by simp, fun hne => ⟨a, rfl, ?_, fun j u hu => ?_⟩⟩, by rw [hlen]; exact hl, hm, fun s hs => hwz s (List.mem_of_mem_take hs)⟩
    · rw [hlen] at hne
      have := hcell 0 (by omega)
      simp [Addr.add] at this
      exact cell_lt this
    · rw [List.getElem?_map, Option.map_eq_some_iff] at hu
      obtain ⟨s, hs, rfl⟩ := hu
      rw [List.getElem?_take] at hs
      split at hs
      · rw [hcell j (by omega), List.getD, hs]; rfl
      · cases hs

end

theorem Tryd.laidOutAll : laidOutB Tryd.prog = true := by kernel_rfl

end Go.Proofs.YtgfjkpfjajjidaaDoor

namespace Go.Proofs.YtgfjkpfjajjidaaDoor
open Go.ChangeShapes Go.WideShapes Go.ChangeAt Go.RowKit Go.Lib Go.Deep

theorem list_of {α : Type} (n : Nat) (p : Nat → α → Prop) (h : ∀ i, i < n → ∃ x, p i x) : ∃ l : List α, l.length = n ∧ ∀ i (hi : i < l.length), p i l[i] := by
  induction n with
  | zero => exact ⟨[], rfl, fun i hi => absurd hi (by simp)⟩
  | succ n ih =>
    obtain ⟨l, hl, hp⟩ := ih fun i hi => h i (by omega)
    obtain ⟨x, hx⟩ := h n (by omega)
    refine ⟨l ++ [x], by simp [hl], fun i hi => ?_⟩
    by_cases hin : i < l.length
    · rw [List.getElem_append_left hin]; exact hp i hin
    · have : i = n := by simp at hi; omega
      subst this
      rw [List.getElem_append_right (by omega)]
      simpa [hl] using hx

section
variable {H : Type} {enc : TypeId × Value → H} {P : Program}

theorem weight_le {ts : List TypeId} {ds : List (DataW H)} {j : Nat} {t : TypeId} {d : DataW H} (hR : (DataW.weightsEach P ts ds).all (· ≤ reachBytes) = true) (ht : ts[j]? = some t) (hd : ds[j]? = some d) (n : Nat) (hn : n ∈ d.weights P t) : n ≤ 140737488355328 := by
  have h1 := List.all_eq_true.1 hR _ (DataW.weights_mem_each ht hd n hn)
  have h2 := reachBytes_lt
  simp at h1
  omega

theorem weights_all (e : TypeId) : ∀ (l : List (DataW H)) (d : DataW H), d ∈ l → ∀ n ∈ d.weights P e, n ∈ DataW.weightsAll P e l
  | x :: l, d, hd, n, hn => by
    rw [DataW.weightsAll, List.mem_append]
    rcases List.mem_cons.1 hd with rfl | hd
    · exact .inl hn
    · exact .inr (weights_all e l d hd n hn)

theorem mkB_list (s : ByteArray) : mkB s.data.toList = s := mkB_of s

theorem open_routes {r0 : Reach} {b0 : Nat} {u t : TypeId} {f0 f1 f2 : Field} {w : World} {v : Value} {d : DataW H} {p : List MemPlace} (hu : P.underlying u = some (.slice t)) (hs : P.underlying t = some (.struct #[f0, f1, f2])) (hone : oneCellFields P #[f0, f1, f2] = true) (hC : P.cellsOf t = 3)
    (h0 : P.underlying f0.type = some .string) (h1 : P.underlying f1.type = some .string) (h2 : P.underlying f2.type = some .string)
    (hv : Value.okWide P w r0 b0 u v) (h : DataW.Trod enc P w 0 (fun _ => true) true u v d p) :
    ∃ (xs : List Rt) (A : Option Addr) (c : Nat), v = .slice A xs.length c ∧ Rd w w.heap.size 3 A xs.length (rtCells xs) ∧ xs.length ≤ c ∧ c ≤ maxLen ∧ ∀ x ∈ xs, x.m.length ∈ d.weights P u ∧ x.p.length ∈ d.weights P u ∧ x.h.length ∈ d.weights P u := by
  obtain ⟨a0, len, cap, rfl⟩ := okWide_slice hu hv
  obtain ⟨n, hn⟩ := h
  rcases Go.Deep.open_slice hu hn with ⟨hcs, _⟩ | ⟨a, len', cap', m, n', D, Pl, hcs, _, hl, hm, hmm, hx, hi⟩
  · simp [Value.cells] at hcs
    obtain ⟨rfl, rfl, rfl⟩ := hcs
    exact ⟨[], none, 0, rfl, ⟨rfl, fun h => absurd rfl h⟩, by simp, by simp, fun x hx => (by cases hx)⟩
  · simp [Value.cells] at hcs
    obtain ⟨rfl, rfl, rfl⟩ := hcs
    simp only [if_true] at hmm
    have each : ∀ i, i < len → ∃ x : Rt, (∀ j y, (rtV x)[j]? = some y → w.cell? (a.add (i * 3 + j)) = some y) ∧ x.m.length ∈ (D i).weights P t ∧ x.p.length ∈ (D i).weights P t ∧ x.h.length ∈ (D i).weights P t := by
      intro i hil
      obtain ⟨cs', hc', ht'⟩ := hi i (by omega)
      rw [hC] at hc'
      obtain ⟨xs, k, _, hy, hl3, hlen, hg⟩ := DataW.trod_struct hs ht'
      obtain ⟨_, hcl, hat⟩ := World.cells?_some hc'
      match cs', hcl with
      | [x0, x1, x2], _ =>
        match xs, hlen with
        | [y0, y1, y2], _ =>
          have g0 := hg 0 f0 rfl; have g1 := hg 1 f1 rfl; have g2 := hg 2 f2 rfl
          obtain ⟨o0, k0⟩ := hone_of hone 0 f0 rfl
          obtain ⟨o1, k1⟩ := hone_of hone 1 f1 rfl
          obtain ⟨o2, k2⟩ := hone_of hone 2 f2 rfl
          obtain ⟨z0, e0, d0, _⟩ := DataW.trod_string h0 (by simpa [o0, k0] using g0)
          obtain ⟨z1, e1, d1, _⟩ := DataW.trod_string h1 (by simpa [o1, k1] using g1)
          obtain ⟨z2, e2, d2, _⟩ := DataW.trod_string h2 (by simpa [o2, k2] using g2)
          obtain rfl := (List.cons.inj e0).1
          obtain rfl := (List.cons.inj e1).1
          obtain rfl := (List.cons.inj e2).1
          have hD1 : D i = .agg [.lit (.string z0.data.toList), .lit (.string z1.data.toList), .lit (.string z2.data.toList)] := by
            have e4 : y0 = (.lit (.string z0.data.toList), []) := d0
            have e5 : y1 = (.lit (.string z1.data.toList), []) := d1
            have e6 : y2 = (.lit (.string z2.data.toList), []) := d2
            subst e4; subst e5; subst e6
            exact congrArg Prod.fst hy
          refine ⟨⟨z0.data.toList, z1.data.toList, z2.data.toList⟩, fun j y hy' => ?_, ?_, ?_, ?_⟩
          · have hj : j < 3 := by
              have := (List.getElem?_eq_some_iff.1 hy').1
              simpa [rtV] using this
            have h3 := hat j (by omega)
            rw [add_add] at h3
            rw [h3]
            simp only [rtV, mkB_list] at hy'
            exact hy'
          · rw [hD1, DataW.weights, hs]; simp [DataW.weightsEach, DataW.weights]
          · rw [hD1, DataW.weights, hs]; simp [DataW.weightsEach, DataW.weights]
          · rw [hD1, DataW.weights, hs]; simp [DataW.weightsEach, DataW.weights]
    obtain ⟨xs, hsl, hp⟩ := list_of len _ each
    refine ⟨xs, some a, cap, by rw [hsl], ⟨rt_len xs, fun hne => ⟨a, rfl, ?_, fun j y hy => ?_⟩⟩, by omega, hm, fun x hxm => ?_⟩
    · have := (hp 0 (by omega)).1 0 _ rfl
      simp [Addr.add] at this
      exact cell_lt this
    · have hj : j < xs.length * 3 := by rw [← rt_len]; exact (List.getElem?_eq_some_iff.1 hy).1
      have e : j = j / 3 * 3 + j % 3 := by omega
      rw [e] at hy ⊢
      rw [rt_at xs (j / 3) (by omega) (j % 3) (Nat.mod_lt _ (by decide))] at hy
      exact (hp (j / 3) (by omega)).1 (j % 3) y hy
    · obtain ⟨i, hi', rfl⟩ := List.getElem_of_mem hxm
      obtain ⟨_, w0, w1, w2⟩ := hp i hi'
      have hmem : D i ∈ (List.range len).map D := List.mem_map.2 ⟨i, List.mem_range.2 (by omega), rfl⟩
      have hin : ∀ n ∈ (D i).weights P t, n ∈ d.weights P u := by
        intro n hn
        have hd : d = .slice ((List.range len).map D) ((List.range (m - len)).map fun j => D (len + j)) := congrArg Prod.fst hx
        rw [hd, DataW.weights, hu]
        simp only [List.mem_cons, List.mem_append]
        exact .inr (.inl (weights_all t _ _ hmem n hn))
      exact ⟨hin _ w0, hin _ w1, hin _ w2⟩
end
end Go.Proofs.YtgfjkpfjajjidaaDoor

namespace Go.Proofs.YtgfjkpfjajjidaaDoor
open Go.ChangeShapes Go.WideShapes Go.ChangeAt Go.RowKit Go.Lib Go.Deep

section
variable {H : Type} {enc : TypeId × Value → H} {P : Program} {w : World} {base : Nat} {sp : Nat → Bool} {held : Bool}

/-- An array that reads as a list of texts holds them, cell for cell. -/
theorem cells_of_texts {fuel : Nat} {t e : TypeId} {n : Nat} {cs : List Value} {ss : List (List UInt8)} {p : List MemPlace}
    (ht : P.underlying t = some (.array n e)) (he : P.underlying e = some .string) (hce : P.cellsOf e = 1) (hct : P.cellsOf t = n)
    (h : DataW.trod enc P w base sp held fuel t cs = some (.agg (ss.map fun s => .lit (.string s)), p)) : cs = ss.map fun s => Value.string ⟨s.toArray⟩ := by
  cases fuel with
  | zero => simp [DataW.trod] at h
  | succ fuel =>
    simp only [DataW.trod, ht, hce, hct, Nat.mul_one] at h
    split at h
    · rename_i hl
      obtain ⟨xs, hm, hx⟩ := Option.map_eq_some_iff.1 h
      have hxs : xs.map (·.1) = ss.map fun s => (DataW.lit (.string s) : DataW H) := by
        have := congrArg Prod.fst hx
        simpa using this
      have hxl : xs.length = n := by simpa using mapM_length hm
      have hzl : ss.length = n := by
        have := congrArg List.length hxs
        simp at this
        omega
      apply List.ext_getElem?
      intro i
      by_cases hi : i < n
      · obtain ⟨b, hb, hf⟩ := mapM_at hm i i (by simp [hi])
        obtain ⟨z, hc, rfl, _⟩ := DataW.trod_string he hf
        have h1 : cs[i]? = some (.string z) := by
          have := congrArg (·[0]?) hc
          simpa [List.getElem?_take, List.getElem?_drop] using this
        have h2 : (xs.map (·.1))[i]? = some (DataW.lit (.string z.data.toList) : DataW H) := by simp [hb]
        rw [hxs] at h2
        simp only [List.getElem?_map, Option.map_eq_some_iff, DataW.lit.injEq, Lit.string.injEq] at h2
        obtain ⟨z', hz', e2⟩ := h2
        rw [h1, List.getElem?_map, hz', e2]
        rfl
      · rw [List.getElem?_eq_none (by omega), List.getElem?_eq_none (by simp; omega)]
    · cases h
end
/-- A table of texts that stands alone on a list: its cells. -/
theorem texts_of_laid {P : Program} {W : World} {name : String} {ss : List (List UInt8)} {g : Nat} {t e : TypeId} {n : Nat}
    (hg : P.globalNamed name = some g) (hty : (P.globals[g]?).map (·.type) = some t) (ht : P.underlying t = some (.array n e)) (he : P.underlying e = some .string) (hce : P.cellsOf e = 1) (hct : P.cellsOf t = n)
    (h : laidMet P [(name, .agg (ss.map fun s => .lit (.string s)))] W) (i : Nat) (hi : i < ss.length) : W.cell? ⟨g, i, none⟩ = some (.string ⟨(ss[i]).toArray⟩) := by
  obtain ⟨ps, ⟨g', t', cs, fuel, p, q, hg', ht', hvar, hd, _, _⟩, _⟩ := h
  obtain rfl := Option.some.inj (hg.symm.trans hg')
  obtain rfl := Option.some.inj (hty.symm.trans ht')
  have e1 := cells_of_texts ht he hce hct hd
  have := World.var?_cell hg hvar i
  rw [this, ← Array.getElem?_toList, e1]
  simp [hi]

end Go.Proofs.YtgfjkpfjajjidaaDoor

namespace Go.Proofs.YtgfjkpfjajjidaaDoor
open Go.ChangeShapes Go.WideShapes Go.ChangeAt Go.RowKit Pl

section
variable {H : Type} {enc : TypeId × Value → H} {P : Program}

theorem strs_weights (e : TypeId) (l : List ByteArray) : ∀ s ∈ l, s.size ∈ DataW.weightsAll P e (strs l : List (DataW H)) := by
  induction l with
  | nil => intro s hs; cases hs
  | cons x l ih =>
    intro s hs
    rw [List.mem_cons] at hs
    have hc : (strs (x :: l) : List (DataW H)) = .lit (.string x.data.toList) :: strs l := by simp [strs]
    rw [hc, DataW.weightsAll, List.mem_append]
    rcases hs with rfl | hs
    · left; simp [DataW.weights]
    · right; exact ih s hs

theorem open_segs {r : Reach} {b0 : Nat} {t e : TypeId} {w : World} {v : Value} {d : DataW H} {p : List MemPlace} (ht : P.underlying t = some (.slice e)) (he : P.underlying e = some .string) (hc : P.cellsOf e = 1)
    (hv : Value.okWide P w r b0 t v) (h : DataW.Trod enc P w 0 (fun _ => true) true t v d p) :
    ∃ (xs : List (List UInt8)) (A : Option Addr) (c : Nat), v = .slice A xs.length c ∧ Rd w w.heap.size 1 A xs.length (xs.map strV) ∧ xs.length ≤ c ∧ c ≤ maxLen ∧ ∀ x ∈ xs, x.length ∈ d.weights P t := by
  obtain ⟨a0, len, cap, rfl⟩ := okWide_slice ht hv
  obtain ⟨n, hn⟩ := h
  rcases open_strings ht he hc hn with ⟨hcs, _⟩ | ⟨a, len', cap', zs, hcs, _, hl, hm, hz, hx, hcell, hwz⟩
  · simp [Value.cells] at hcs
    obtain ⟨rfl, rfl, rfl⟩ := hcs
    exact ⟨[], none, 0, rfl, ⟨rfl, fun h => absurd rfl h⟩, by simp, by simp, by simp⟩
  · simp [Value.cells] at hcs
    obtain ⟨rfl, rfl, rfl⟩ := hcs
    simp only [if_true] at hz
    simp only [Prod.mk.injEq] at hx
    obtain ⟨rfl, _⟩ := hx
    have hlen : ((zs.take len).map fun s => s.data.toList).length = len := by rw [List.length_map, List.length_take]; omega
    refine ⟨(zs.take len).map (fun s => s.data.toList), some a, cap, by rw [hlen], ⟨by simp, fun hne => ⟨a, rfl, ?_, fun j u hu => ?_⟩⟩, by rw [hlen]; exact hl, hm, fun x hx => ?_⟩
    · rw [hlen] at hne
      have := hcell 0 (by omega)
      simp [Addr.add] at this
      exact cell_lt this
    · rw [List.map_map, List.getElem?_map, Option.map_eq_some_iff] at hu
      obtain ⟨s, hs, rfl⟩ := hu
      rw [List.getElem?_take] at hs
      split at hs
      · rw [hcell j (by omega), List.getD, hs]
        show _ = some (Value.string (mkB s.data.toList))
        rw [mkB_of]; rfl
      · cases hs
    · obtain ⟨s, hs, rfl⟩ := List.mem_map.1 hx
      rw [DataW.weights, ht]
      simp only [List.mem_cons, List.mem_append]
      have := strs_weights (H := H) (P := P) e _ s hs
      rw [data_len]
      exact .inr (.inl this)
end
end Go.Proofs.YtgfjkpfjajjidaaDoor
