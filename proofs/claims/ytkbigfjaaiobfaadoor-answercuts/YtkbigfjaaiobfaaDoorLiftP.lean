/- Responses that are handed in, one or a slice of them, opened. -/
import Derived.Test.YtkbigfjaaiobfaaDoorLift
import Derived.Test.YtkbigfjaaiobfaaDoorAnsUse
import Derived.SizedLaws
import Derived.Lib.LaidTab
import Derived.Lib.SmallJoins
namespace Go.Proofs.YtkbigfjaaiobfaaDoor
open Go.ChangeShapes Go.WideShapes Go.ChangeAt Go.RowKit Go.Lib Go.Deep

section
variable {H : Type} {enc : TypeId × Value → H} {P : Program}

theorem weights_all (e : TypeId) : ∀ (l : List (DataW H)) (d : DataW H), d ∈ l → ∀ n ∈ d.weights P e, n ∈ DataW.weightsAll P e l
  | x :: l, d, hd, n, hn => by
    rw [DataW.weightsAll, List.mem_append]
    rcases List.mem_cons.1 hd with rfl | hd
    · exact .inl hn
    · exact .inr (weights_all e l d hd n hn)

/-- A slice of fields, wherever it stands. -/
theorem flds_at {n : Nat} {t e : TypeId} {w : World} {v : Value} {y : DataW H × List MemPlace} {f0 f1 : Field} (ht : P.underlying t = some (.slice e)) (he : P.underlying e = some (.struct #[f0, f1])) (hC : P.cellsOf e = 2)
    (h0 : P.underlying f0.type = some .string) (h1 : P.underlying f1.type = some .string) (ho0 : f0.offset = 0) (ho1 : f1.offset = 1) (hc0 : P.cellsOf f0.type = 1) (hc1 : P.cellsOf f1.type = 1)
    (h : DataW.trod enc P w 0 (fun _ => true) true n t [v] = some y) :
    ∃ (A : Option Addr) (fs : List Fld) (c : Nat), v = .slice A fs.length c ∧ Rd w w.heap.size 2 A fs.length (fldCells fs) ∧ ∀ f ∈ fs, f.1.size ∈ y.1.weights P t ∧ f.2.size ∈ y.1.weights P t := by
  rcases Go.Deep.open_slice ht h with ⟨hcs, _⟩ | ⟨a, len, cap, m, n', D, Pl, hcs, _, hl, hm, hmm, hx, hi⟩
  · obtain rfl := (List.cons.inj hcs).1
    exact ⟨none, [], 0, rfl, ⟨rfl, fun h => absurd rfl h⟩, fun f hf => (by cases hf)⟩
  · obtain rfl := (List.cons.inj hcs).1
    simp only [if_true] at hmm
    have each : ∀ i, i < len → ∃ f : Fld, w.cell? (a.add (i * 2)) = some (.string f.1) ∧ w.cell? (a.add (i * 2 + 1)) = some (.string f.2) ∧ f.1.size ∈ (D i).weights P e ∧ f.2.size ∈ (D i).weights P e := by
      intro i hil
      obtain ⟨cs', hc', ht'⟩ := hi i (by omega)
      rw [hC] at hc'
      obtain ⟨y0, y1, k, hD, hlen, g0, g1⟩ := trod_struct2 he ht'
      obtain ⟨_, hcl, hat⟩ := World.cells?_some hc'
      rw [ho0, hc0] at g0
      rw [ho1, hc1] at g1
      match cs', hcl with
      | [x0, x1], _ =>
        obtain ⟨s0, e0, d0, _⟩ := DataW.trod_string h0 g0
        obtain ⟨s1, e1, d1, _⟩ := DataW.trod_string h1 g1
        simp at e0 e1
        subst e0; subst e1
        have hD1 : D i = .agg [.lit (.string s0.data.toList), .lit (.string s1.data.toList)] := by
          have := congrArg Prod.fst hD
          rw [d0, d1] at this
          exact this
        refine ⟨(s0, s1), ?_, ?_, ?_, ?_⟩
        · have := hat 0 (by omega)
          rw [add_add] at this
          simpa using this
        · have := hat 1 (by omega)
          rw [add_add] at this
          simpa using this
        · rw [hD1, DataW.weights, he]; simp [DataW.weightsEach, DataW.weights]
        · rw [hD1, DataW.weights, he]; simp [DataW.weightsEach, DataW.weights]
    obtain ⟨fs, hfl, hp⟩ := list_of len _ each
    refine ⟨some a, fs, cap, by rw [hfl], ⟨by rw [fldCells_length], fun hne => ⟨a, rfl, ?_, fun j u hu => ?_⟩⟩, fun f hf => ?_⟩
    · have := (hp 0 (by omega)).1
      simp [Addr.add] at this
      exact cell_lt this
    · have hj : j < fs.length * 2 := by rw [← fldCells_length]; exact (List.getElem?_eq_some_iff.1 hu).1
      have hjj : j = j / 2 * 2 ∨ j = j / 2 * 2 + 1 := by omega
      have hq : j / 2 < fs.length := by omega
      rcases hjj with e | e
      · rw [e] at hu ⊢
        rw [(fldCells_at fs (j / 2) hq).1] at hu
        injection hu with hu
        subst hu
        exact (hp (j / 2) hq).1
      · rw [e] at hu ⊢
        rw [(fldCells_at fs (j / 2) hq).2] at hu
        injection hu with hu
        subst hu
        exact (hp (j / 2) hq).2.1
    · obtain ⟨i, hi', rfl⟩ := List.getElem_of_mem hf
      obtain ⟨_, _, w1, w2⟩ := hp i hi'
      have hmem : D i ∈ (List.range len).map D := List.mem_map.2 ⟨i, List.mem_range.2 (by omega), rfl⟩
      have hin : ∀ n ∈ (D i).weights P e, n ∈ y.1.weights P t := by
        intro n hn
        rw [hx, DataW.weights, ht]
        simp only [List.mem_cons, List.mem_append]
        exact .inr (.inl (weights_all e _ _ hmem n hn))
      exact ⟨hin _ w1, hin _ w2⟩

/-- What is asked of the program's types of responses. -/
structure RspT (P : Program) (t s e : TypeId) (f0 f1 f2 f3 g0 g1 : Field) : Prop where
  str : P.underlying t = some (.struct #[f0, f1, f2, f3])
  one : oneCellFields P #[f0, f1, f2, f3] = true
  cells : P.cellsOf t = 4
  t0 : P.underlying f0.type = some (.int .i64)
  t1 : f1.type = s
  t2 : P.underlying f2.type = some .string
  t3 : P.underlying f3.type = some .bool
  sl : P.underlying s = some (.slice e)
  el : P.underlying e = some (.struct #[g0, g1])
  ec : P.cellsOf e = 2
  g0t : P.underlying g0.type = some .string
  g1t : P.underlying g1.type = some .string
  o0 : g0.offset = 0
  o1 : g1.offset = 1
  c0 : P.cellsOf g0.type = 1
  c1 : P.cellsOf g1.type = 1

/-- The cells of one response. -/
def rspCells (r : Rsp) (A : Option Addr) (c : Nat) : List Value := [.int .i64 r.st, .slice A r.fs.length c, .string r.body, .bool r.cl]

theorem rsp_at {n : Nat} {t s e : TypeId} {f0 f1 f2 f3 g0 g1 : Field} {w : World} {cs : List Value} {y : DataW H × List MemPlace} (T : RspT P t s e f0 f1 f2 f3 g0 g1)
    (h : DataW.trod enc P w 0 (fun _ => true) true n t cs = some y) :
    ∃ (r : Rsp) (A : Option Addr) (c : Nat), cs = rspCells r A c ∧ Rd w w.heap.size 2 A r.fs.length (fldCells r.fs) ∧ ∀ f ∈ r.fs, f.1.size ∈ y.1.weights P t ∧ f.2.size ∈ y.1.weights P t := by
  obtain ⟨xs, k, _, hy, hl4, hlen, hg⟩ := DataW.trod_struct T.str h
  rw [T.cells] at hl4
  match cs, hl4 with
  | [x0, x1, x2, x3], _ =>
    match xs, hlen with
    | [y0, y1, y2, y3], _ =>
      have q0 := hg 0 f0 rfl; have q1 := hg 1 f1 rfl; have q2 := hg 2 f2 rfl; have q3 := hg 3 f3 rfl
      obtain ⟨o0, k0⟩ := hone_of T.one 0 f0 rfl
      obtain ⟨o1, k1⟩ := hone_of T.one 1 f1 rfl
      obtain ⟨o2, k2⟩ := hone_of T.one 2 f2 rfl
      obtain ⟨o3, k3⟩ := hone_of T.one 3 f3 rfl
      obtain ⟨z0, e0, _⟩ := DataW.trod_int T.t0 (by simpa [o0, k0] using q0)
      obtain ⟨z2, e2, _⟩ := DataW.trod_string T.t2 (by simpa [o2, k2] using q2)
      obtain ⟨z3, e3, _⟩ := DataW.trod_bool T.t3 (by simpa [o3, k3] using q3)
      obtain rfl := (List.cons.inj e0).1
      obtain rfl := (List.cons.inj e2).1
      obtain rfl := (List.cons.inj e3).1
      have q1' : DataW.trod enc P w 0 (fun _ => true) true k f1.type [x1] = some y1 := by simpa [o1, k1] using q1
      obtain ⟨A, fs, c, rfl, hr, hw⟩ := flds_at (by rw [T.t1]; exact T.sl) T.el T.ec T.g0t T.g1t T.o0 T.o1 T.c0 T.c1 q1'
      refine ⟨⟨z0, fs, z2, z3⟩, A, c, rfl, hr, fun f hf => ?_⟩
      have hin : ∀ n ∈ y1.1.weights P f1.type, n ∈ y.1.weights P t := by
        intro n hn
        rw [hy, DataW.weights, T.str]
        simp only [List.map_cons, List.map_nil, DataW.weightsEach, List.mem_append]
        exact .inr (.inl hn)
      exact ⟨hin _ (hw f hf).1, hin _ (hw f hf).2⟩

/-- One response, by value. -/
theorem open_rsp {r0 : Reach} {b0 : Nat} {t s e : TypeId} {f0 f1 f2 f3 g0 g1 : Field} {w : World} {v : Value} {d : DataW H} {p : List MemPlace} (T : RspT P t s e f0 f1 f2 f3 g0 g1)
    (hv : Value.okWide P w r0 b0 t v) (h : DataW.Trod enc P w 0 (fun _ => true) true t v d p) :
    ∃ (r : Rsp) (A : Option Addr) (c : Nat), v = .agg #[.int .i64 r.st, .slice A r.fs.length c, .string r.body, .bool r.cl] ∧ Rd w w.heap.size 2 A r.fs.length (fldCells r.fs) ∧ ∀ f ∈ r.fs, f.1.size ∈ d.weights P t ∧ f.2.size ∈ d.weights P t := by
  obtain ⟨cs, rfl, hsz⟩ := okWide_struct T.str hv
  obtain ⟨fuel, hf⟩ := h
  obtain ⟨r, A, c, hcs, hr, hw⟩ := rsp_at T hf
  refine ⟨r, A, c, ?_, hr, hw⟩
  obtain ⟨l⟩ := cs
  have : l = rspCells r A c := by simpa [Value.cells] using hcs
  rw [this]
  rfl
end

theorem rspT : ∃ f0 f1 f2 f3 g0 g1, RspT Tryd.prog 24 22 35 f0 f1 f2 f3 g0 g1 :=
  ⟨_, _, _, _, _, _, { str := Tryd.underlying24, one := by kernel_rfl, cells := by kernel_rfl, t0 := Tryd.underlying3, t1 := rfl, t2 := Tryd.underlying9, t3 := Tryd.underlying4, sl := Tryd.underlying22, el := Tryd.underlying35, ec := by kernel_rfl, g0t := Tryd.underlying9, g1t := Tryd.underlying9, o0 := rfl, o1 := rfl, c0 := by kernel_rfl, c1 := by kernel_rfl }⟩

end Go.Proofs.YtkbigfjaaiobfaaDoor
