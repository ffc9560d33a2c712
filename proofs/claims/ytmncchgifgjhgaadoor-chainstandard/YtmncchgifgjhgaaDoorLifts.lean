/- What a law reads is read behind it as before, where nothing old has turned. The table of powers of ten, out of a row's list. -/
import Derived.Below
import Derived.ProofKit
import Derived.ChangeBook
import Derived.ChangeBears
import Derived.ChangeStays
import Derived.ChangeOld
import Derived.OpenShut
import Derived.ChangeSame
import Derived.SizedLaws
import Derived.Lib.LaidTab
import Derived.LaidSub
import Derived.MakeChecks
import Derived.Test.YtmncchgifgjhgaaDoorCy
import Derived.SliceStrings
import Derived.Deep.Slices
namespace Go.Proofs.YtmncchgifgjhgaaDoor
open Go.ChangeShapes Go.WideShapes Go.ChangeAt Go.RowKit Go.Lib Go.Deep

section
variable {H : Type} {enc : TypeId × Value → H} {P : Program}

theorem arg_stays (hl : laidOutB P = true) {t : TypeId} (hr : P.readableRec t = true) (hrow : t < P.types.size) {W W' : World} (hb : Below W.heap.size W W') {v : Value} {d : DataW H} {p : List MemPlace}
    (h : DataW.Trod enc P W 0 (fun _ => true) true t v d p) : DataW.Trod enc P W' 0 (fun b => decide (b < W.heap.size)) true t v d p := by
  obtain ⟨n, hn⟩ := h
  have hlt := DataW.trod_lt n t _ _ hn
  exact ⟨n, DataW.trod_stays (kids_book hl hr) (book_sized hr) (fun h => by cases h) ⟨hrow, book_self t⟩ hn (fun p hp => hb.same (hlt p hp)) (fun p hp => by simpa using hlt p hp)⟩

theorem args_stay (hl : laidOutB P = true) {W W' : World} (hb : Below W.heap.size W W') : ∀ (ts : List TypeId) (vs : List Value) (ds : List (DataW H)) (ps : List MemPlace), (∀ t ∈ ts, P.readableRec t = true ∧ t < P.types.size) →
    DataW.TrodAll enc P W 0 (fun _ => true) true ts vs ds ps → DataW.TrodAll enc P W' 0 (fun b => decide (b < W.heap.size)) true ts vs ds ps
  | [], vs, ds, ps, _, h => by
    obtain ⟨rfl, rfl, rfl⟩ := trodAll_nil h
    exact trodAll_mk0
  | t :: ts, vs, ds, ps, hts, h => by
    obtain ⟨v0, vs0, d0, ds0, p0, q0, rfl, rfl, rfl, h0, r0⟩ := trodAll_cons h
    exact trodAll_cons_mk (arg_stays hl (hts t (by simp)).1 (hts t (by simp)).2 hb h0) (args_stay hl hb ts vs0 ds0 q0 (fun u hu => hts u (by simp [hu])) r0)

end

section
variable {H : Type} {enc : TypeId × Value → H} {P : Program}
theorem cell_lt {w : World} {a : Addr} {v : Value} (h : w.cell? a = some v) : a.block < w.heap.size := by
  rcases Nat.lt_or_ge a.block w.heap.size with hl | hg
  · exact hl
  · have : w.heap[a.block]? = none := Array.getElem?_eq_none hg
    simp [World.cell?, this] at h

theorem add_add (a : Addr) (i j : Nat) : (a.add i).add j = a.add (i + j) := by
  unfold Addr.add
  by_cases hi : i = 0 <;> by_cases hj : j = 0 <;> simp [hi, hj, Nat.add_assoc]

theorem list_of {α : Type} (n : Nat) (p : Nat → α → Prop) (h : ∀ i, i < n → ∃ x, p i x) : ∃ l : List α, l.length = n ∧ ∀ i (hi : i < l.length), p i l[i] := by
  induction n with
  | zero => exact ⟨[], rfl, fun i hi => absurd hi (by simp)⟩
  | succ n ih =>
    obtain ⟨l, hl, hp⟩ := ih fun i hi => h i (by omega)
    obtain ⟨x, hx⟩ := h n (by omega)
    refine ⟨l ++ [x], by simp [hl], fun i hi => ?_⟩
    by_cases hin : i < l.length
    · rw [List.getElem_append_left hin]; exact hp i hin
    · have : i = n := by simp at hi; omega
      subst this
      rw [List.getElem_append_right (by omega)]
      simpa [hl] using hx

theorem weights_all (e : TypeId) : ∀ (l : List (DataW H)) (d : DataW H), d ∈ l → ∀ n ∈ d.weights P e, n ∈ DataW.weightsAll P e l
  | x :: l, d, hd, n, hn => by
    rw [DataW.weightsAll, List.mem_append]
    rcases List.mem_cons.1 hd with rfl | hd
    · exact .inl hn
    · exact .inr (weights_all e l d hd n hn)

/-- A slice of fields, wherever it stands. -/
theorem flds_at {n : Nat} {t e : TypeId} {w : World} {v : Value} {y : DataW H × List MemPlace} {f0 f1 : Field} (ht : P.underlying t = some (.slice e)) (he : P.underlying e = some (.struct #[f0, f1])) (hC : P.cellsOf e = 2)
    (h0 : P.underlying f0.type = some .string) (h1 : P.underlying f1.type = some .string) (ho0 : f0.offset = 0) (ho1 : f1.offset = 1) (hc0 : P.cellsOf f0.type = 1) (hc1 : P.cellsOf f1.type = 1)
    (h : DataW.trod enc P w 0 (fun _ => true) true n t [v] = some y) :
    ∃ (A : Option Addr) (fs : List Fld) (c : Nat), v = .slice A fs.length c ∧ Rd w w.heap.size 2 A fs.length (fldCells fs) ∧ (∀ f ∈ fs, f.1.size ∈ y.1.weights P t ∧ f.2.size ∈ y.1.weights P t) ∧ fs.length ≤ c ∧ (fs = [] ∨ fs.length * P.bytesOf e ∈ y.1.weights P t ∨ ∃ k, (fs.length + k) * P.bytesOf e ∈ y.1.weights P t) := by
  rcases Go.Deep.open_slice ht h with ⟨hcs, _⟩ | ⟨a, len, cap, m, n', D, Pl, hcs, _, hl, hm, hmm, hx, hi⟩
  · obtain rfl := (List.cons.inj hcs).1
    exact ⟨none, [], 0, rfl, ⟨rfl, fun h => absurd rfl h⟩, (fun f hf => (by cases hf)), Nat.le_refl _, .inl rfl⟩
  · obtain rfl := (List.cons.inj hcs).1
    simp only [if_true] at hmm
    have each : ∀ i, i < len → ∃ f : Fld, w.cell? (a.add (i * 2)) = some (.string f.1) ∧ w.cell? (a.add (i * 2 + 1)) = some (.string f.2) ∧ f.1.size ∈ (D i).weights P e ∧ f.2.size ∈ (D i).weights P e := by
      intro i hil
      obtain ⟨cs', hc', ht'⟩ := hi i (by omega)
      rw [hC] at hc'
      obtain ⟨y0, y1, k, hD, hlen, g0, g1⟩ := trod_struct2 he ht'
      obtain ⟨_, hcl, hat⟩ := World.cells?_some hc'
      rw [ho0, hc0] at g0
      rw [ho1, hc1] at g1
      match cs', hcl with
      | [x0, x1], _ =>
        obtain ⟨s0, e0, d0, _⟩ := DataW.trod_string h0 g0
        obtain ⟨s1, e1, d1, _⟩ := DataW.trod_string h1 g1
        simp at e0 e1
        subst e0; subst e1
        have hD1 : D i = .agg [.lit (.string s0.data.toList), .lit (.string s1.data.toList)] := by
          have := congrArg Prod.fst hD
          rw [d0, d1] at this
          exact this
        refine ⟨(s0, s1), ?_, ?_, ?_, ?_⟩
        · have := hat 0 (by omega)
          rw [add_add] at this
          simpa using this
        · have := hat 1 (by omega)
          rw [add_add] at this
          simpa using this
        · rw [hD1, DataW.weights, he]; simp [DataW.weightsEach, DataW.weights]
        · rw [hD1, DataW.weights, he]; simp [DataW.weightsEach, DataW.weights]
    obtain ⟨fs, hfl, hp⟩ := list_of len _ each
    refine ⟨some a, fs, cap, by rw [hfl], ⟨by rw [fldCells_length], fun hne => ⟨a, rfl, ?_, fun j u hu => ?_⟩⟩, (fun f hf => ?_), by rw [hfl]; exact hl, .inr (.inr ⟨m - len, ?_⟩)⟩
    · have := (hp 0 (by omega)).1
      simp [Addr.add] at this
      exact cell_lt this
    · have hj : j < fs.length * 2 := by rw [← fldCells_length]; exact (List.getElem?_eq_some_iff.1 hu).1
      have hjj : j = j / 2 * 2 ∨ j = j / 2 * 2 + 1 := by omega
      have hq : j / 2 < fs.length := by omega
      rcases hjj with e | e
      · rw [e] at hu ⊢
        rw [(fldCells_at fs (j / 2) hq).1] at hu
        injection hu with hu
        subst hu
        exact (hp (j / 2) hq).1
      · rw [e] at hu ⊢
        rw [(fldCells_at fs (j / 2) hq).2] at hu
        injection hu with hu
        subst hu
        exact (hp (j / 2) hq).2.1
    · obtain ⟨i, hi', rfl⟩ := List.getElem_of_mem hf
      obtain ⟨_, _, w1, w2⟩ := hp i hi'
      have hmem : D i ∈ (List.range len).map D := List.mem_map.2 ⟨i, List.mem_range.2 (by omega), rfl⟩
      have hin : ∀ n ∈ (D i).weights P e, n ∈ y.1.weights P t := by
        intro n hn
        rw [hx, DataW.weights, ht]
        simp only [List.mem_cons, List.mem_append]
        exact .inr (.inl (weights_all e _ _ hmem n hn))
      exact ⟨hin _ w1, hin _ w2⟩
    · rw [hx, DataW.weights, ht, hfl]
      simp


theorem strs_at {n : Nat} {t e : TypeId} {w : World} {v : Value} {y : DataW H × List MemPlace} (ht : P.underlying t = some (.slice e)) (he : P.underlying e = some .string) (hC : P.cellsOf e = 1)
    (h : DataW.trod enc P w 0 (fun _ => true) true n t [v] = some y) :
    ∃ (A : Option Addr) (l : List ByteArray) (c : Nat), v = .slice A l.length c ∧ Rd w w.heap.size 1 A l.length (l.map .string) ∧ (∀ x ∈ l, x.size ∈ y.1.weights P t) ∧ l.length ≤ c ∧ (l = [] ∨ ∃ k, (l.length + k) * P.bytesOf e ∈ y.1.weights P t) := by
  rcases Go.Deep.open_slice1 ht hC h with ⟨hcs, _⟩ | ⟨a, len, cap, m, n', V, D, Pl, hcs, _, hl, hm, hmm, hx, hi⟩
  · obtain rfl := (List.cons.inj hcs).1
    exact ⟨none, [], 0, rfl, ⟨rfl, fun h => absurd rfl h⟩, (fun f hf => (by cases hf)), Nat.le_refl _, .inl rfl⟩
  · obtain rfl := (List.cons.inj hcs).1
    simp only [if_true] at hmm
    have each : ∀ i, i < len → ∃ s : ByteArray, w.cell? (a.add i) = some (.string s) ∧ s.size ∈ (D i).weights P e := by
      intro i hil
      obtain ⟨h1, h2⟩ := hi i (by omega)
      obtain ⟨s, e1, d1, _⟩ := DataW.trod_string he h2
      simp at e1
      refine ⟨s, by rw [h1, e1], ?_⟩
      have : D i = .lit (.string s.data.toList) := by simp at d1; exact d1.1
      rw [this]
      simp [DataW.weights]
    obtain ⟨l, hfl, hp⟩ := list_of len _ each
    refine ⟨some a, l, cap, by rw [hfl], ⟨by simp, fun hne => ⟨a, rfl, ?_, fun j u hu => ?_⟩⟩, (fun x hx' => ?_), by rw [hfl]; exact hl, .inr ⟨m - len, ?_⟩⟩
    · have := (hp 0 (by omega)).1
      simp [Addr.add] at this
      exact cell_lt this
    · have hj : j < l.length := by
        have := (List.getElem?_eq_some_iff.1 hu).1
        simpa using this
      rw [List.getElem?_map, List.getElem?_eq_getElem hj] at hu
      injection hu with hu
      subst hu
      exact (hp j hj).1
    · obtain ⟨i, hi', rfl⟩ := List.getElem_of_mem hx'
      obtain ⟨_, w1⟩ := hp i hi'
      have hmem : D i ∈ (List.range len).map D := List.mem_map.2 ⟨i, List.mem_range.2 (by omega), rfl⟩
      rw [hx, DataW.weights, ht]
      simp only [List.mem_cons, List.mem_append]
      exact .inr (.inl (weights_all e _ _ hmem _ w1))
    · rw [hx, DataW.weights, ht, hfl]
      simp

theorem fld_in {t : TypeId} {fs : List Field} {ds : List (DataW H)} (ht : P.underlying t = some (.struct fs.toArray)) {i : Nat} {f : Field} {d : DataW H} (hf : fs[i]? = some f) (hd : ds[i]? = some d) (q : Nat) (hq : q ∈ d.weights P f.type) : q ∈ (DataW.agg ds : DataW H).weights P t := by
  rw [DataW.weights, ht]
  exact DataW.weights_mem_each (by simp [hf]) hd q hq

/-- The cells of a call. -/
def clCells (c : Cl) : List Value := [.string c.m, .string c.tg, .slice c.A c.fs.length c.fc, .string c.bd, .bool c.cc, .int .i64 c.cn, .int .i64 c.sq, .int .i64 c.vs, .string c.hn, c.pv, .slice c.B c.al.length c.ac, .bool c.fd, .string c.tk]
end

theorem Tryd.laidOutAll : laidOutB Tryd.prog = true := by kernel_rfl

theorem pow_of_tab {W : World} {n : String} {zs : List Int} (hn : Tryd.prog.globalNamed n = some 1) (h : Lib.TabIs Tryd.prog W n .u64 zs) (hz : zs = Lib.pow10Tab) : ∃ t fr, W.heap[1]? = some (.cells (Lib.pow10Tab.map fun z => Value.int .u64 z).toArray t fr) := by
  subst hz
  unfold Lib.TabIs World.var? at h
  rw [hn] at h
  simp only [Option.bind_some] at h
  split at h
  · rename_i cs t fr hk
    injection h with h
    exact ⟨t, fr, by rw [hk, h]⟩
  · cases h
theorem heap_lt {w : World} {g : Nat} {o : Obj} (h : w.heap[g]? = some o) : g < w.heap.size := (Array.getElem?_eq_some_iff.1 h).1

end Go.Proofs.YtmncchgifgjhgaaDoor
