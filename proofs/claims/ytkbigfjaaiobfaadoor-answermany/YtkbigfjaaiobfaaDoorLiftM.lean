/- A slice of responses that is handed in, opened. -/
import Derived.Test.YtkbigfjaaiobfaaDoorLiftP
namespace Go.Proofs.YtkbigfjaaiobfaaDoor
open Go.ChangeShapes Go.WideShapes Go.ChangeAt Go.RowKit Go.Lib Go.Deep

/-- One response of a slice: what it is, where its fields lie. -/
structure Rv where
  r : Rsp
  A : Option Addr
  c : Nat
def Rv.cells (x : Rv) : List Value := rspCells x.r x.A x.c
def rvCells (l : List Rv) : List Value := l.flatMap Rv.cells
theorem rv_len (l : List Rv) : (rvCells l).length = l.length * 4 := by
  induction l with
  | nil => rfl
  | cons a l ih =>
    have : rvCells (a :: l) = a.cells ++ rvCells l := rfl
    rw [this, List.length_append, ih]
    simp [Rv.cells, rspCells]
    omega
theorem rv_at : ∀ (l : List Rv) (i : Nat) (hi : i < l.length) (j : Nat), j < 4 → (rvCells l)[i * 4 + j]? = (l[i]).cells[j]?
  | a :: l, 0, _, j, hj => by
    have : rvCells (a :: l) = a.cells ++ rvCells l := rfl
    rw [this, Nat.zero_mul, Nat.zero_add, List.getElem?_append_left (by simp [Rv.cells, rspCells]; omega)]
    rfl
  | a :: l, i + 1, hi, j, hj => by
    have : rvCells (a :: l) = a.cells ++ rvCells l := rfl
    have hl : a.cells.length = 4 := rfl
    rw [this, List.getElem?_append_right (by rw [hl]; omega), hl]
    have e : (i + 1) * 4 + j - 4 = i * 4 + j := by omega
    rw [e, rv_at l i (by simpa using hi) j hj]
    rfl

section
variable {H : Type} {enc : TypeId × Value → H} {P : Program}
theorem open_rsps {r0 : Reach} {b0 : Nat} {u t s e : TypeId} {f0 f1 f2 f3 g0 g1 : Field} {w : World} {v : Value} {d : DataW H} {p : List MemPlace} (hu : P.underlying u = some (.slice t)) (T : RspT P t s e f0 f1 f2 f3 g0 g1)
    (hv : Value.okWide P w r0 b0 u v) (h : DataW.Trod enc P w 0 (fun _ => true) true u v d p) :
    ∃ (xs : List Rv) (A : Option Addr) (c : Nat), v = .slice A xs.length c ∧ Rd w w.heap.size 4 A xs.length (rvCells xs) ∧ ∀ x ∈ xs, Rd w w.heap.size 2 x.A x.r.fs.length (fldCells x.r.fs) ∧ ∀ f ∈ x.r.fs, f.1.size ∈ d.weights P u ∧ f.2.size ∈ d.weights P u := by
  obtain ⟨a0, len, cap, rfl⟩ := okWide_slice hu hv
  obtain ⟨n, hn⟩ := h
  rcases Go.Deep.open_slice hu hn with ⟨hcs, _⟩ | ⟨a, len', cap', m, n', D, Pl, hcs, _, hl, hm, hmm, hx, hi⟩
  · simp [Value.cells] at hcs
    obtain ⟨rfl, rfl, rfl⟩ := hcs
    exact ⟨[], none, 0, rfl, ⟨rfl, fun h => absurd rfl h⟩, fun x hx => (by cases hx)⟩
  · simp [Value.cells] at hcs
    obtain ⟨rfl, rfl, rfl⟩ := hcs
    simp only [if_true] at hmm
    have each : ∀ i, i < len → ∃ x : Rv, (∀ j y, x.cells[j]? = some y → w.cell? (a.add (i * 4 + j)) = some y) ∧ Rd w w.heap.size 2 x.A x.r.fs.length (fldCells x.r.fs) ∧ ∀ f ∈ x.r.fs, f.1.size ∈ (D i).weights P t ∧ f.2.size ∈ (D i).weights P t := by
      intro i hil
      obtain ⟨cs', hc', ht'⟩ := hi i (by omega)
      rw [T.cells] at hc'
      obtain ⟨r, A, c, rfl, hr, hw⟩ := rsp_at T ht'
      obtain ⟨_, hcl, hat⟩ := World.cells?_some hc'
      refine ⟨⟨r, A, c⟩, fun j y hy => ?_, hr, hw⟩
      have hj : j < 4 := by
        have := (List.getElem?_eq_some_iff.1 hy).1
        simpa [Rv.cells, rspCells] using this
      have := hat j (by omega)
      rw [add_add] at this
      rw [this]
      exact hy
    obtain ⟨xs, hsl, hp⟩ := list_of len _ each
    refine ⟨xs, some a, cap, by rw [hsl], ⟨rv_len xs, fun hne => ⟨a, rfl, ?_, fun j y hy => ?_⟩⟩, fun x hxm => ?_⟩
    · have := (hp 0 (by omega)).1 0 _ rfl
      simp [Addr.add] at this
      exact cell_lt this
    · have hj : j < xs.length * 4 := by rw [← rv_len]; exact (List.getElem?_eq_some_iff.1 hy).1
      have e : j = j / 4 * 4 + j % 4 := by omega
      rw [e] at hy ⊢
      rw [rv_at xs (j / 4) (by omega) (j % 4) (Nat.mod_lt _ (by decide))] at hy
      exact (hp (j / 4) (by omega)).1 (j % 4) y hy
    · obtain ⟨i, hi', rfl⟩ := List.getElem_of_mem hxm
      obtain ⟨_, hr, hw⟩ := hp i hi'
      refine ⟨hr, fun f hf => ?_⟩
      have hmem : D i ∈ (List.range len).map D := List.mem_map.2 ⟨i, List.mem_range.2 (by omega), rfl⟩
      have hin : ∀ n ∈ (D i).weights P t, n ∈ d.weights P u := by
        intro n hn
        have hd : d = .slice ((List.range len).map D) ((List.range (m - len)).map fun j => D (len + j)) := congrArg Prod.fst hx
        rw [hd, DataW.weights, hu]
        simp only [List.mem_cons, List.mem_append]
        exact .inr (.inl (weights_all t _ _ hmem n hn))
      exact ⟨hin _ (hw f hf).1, hin _ (hw f hf).2⟩
end

end Go.Proofs.YtkbigfjaaiobfaaDoor
