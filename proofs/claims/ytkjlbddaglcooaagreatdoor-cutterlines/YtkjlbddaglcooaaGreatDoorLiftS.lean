/- A slice of seeds, opened. -/
import Derived.Test.YtkjlbddaglcooaaGreatDoorLift
import Derived.Test.YtkjlbddaglcooaaGreatDoorLiftZ
namespace Go.Proofs.YtkjlbddaglcooaaGreatDoor
open Go.ChangeShapes Go.WideShapes Go.ChangeAt Go.RowKit Go.Lib Go.Deep

/-- A seed as it is handed in. -/
structure Sv where
  m : Int
  t : Int
  b : Int
  k : Int
  c : Int
  cl : Bool
  wr : Int
def Sv.cells (s : Sv) : List Value := [.int .i64 s.m, .int .i64 s.t, .int .i64 s.b, .int .i64 s.k, .int .i64 s.c, .bool s.cl, .int .i64 s.wr]
def svCells (l : List Sv) : List Value := l.flatMap Sv.cells
theorem sv_len (l : List Sv) : (svCells l).length = l.length * 7 := by
  induction l with
  | nil => rfl
  | cons a l ih =>
    have : svCells (a :: l) = a.cells ++ svCells l := rfl
    rw [this, List.length_append, ih]
    simp [Sv.cells]
    omega
theorem sv_at : ∀ (l : List Sv) (i : Nat) (hi : i < l.length) (j : Nat), j < 7 → (svCells l)[i * 7 + j]? = (l[i]).cells[j]?
  | a :: l, 0, _, j, hj => by
    have : svCells (a :: l) = a.cells ++ svCells l := rfl
    rw [this, Nat.zero_mul, Nat.zero_add, List.getElem?_append_left (by simp [Sv.cells]; omega)]
    rfl
  | a :: l, i + 1, hi, j, hj => by
    have : svCells (a :: l) = a.cells ++ svCells l := rfl
    have hl : a.cells.length = 7 := rfl
    rw [this, List.getElem?_append_right (by rw [hl]; omega), hl]
    have e : (i + 1) * 7 + j - 7 = i * 7 + j := by omega
    rw [e, sv_at l i (by simpa using hi) j hj]
    rfl

section
variable {H : Type} {enc : TypeId × Value → H} {P : Program}
theorem open_seeds {r : Reach} {b0 : Nat} {t e : TypeId} {w : World} {v : Value} {d : DataW H} {p : List MemPlace} {f0 f1 f2 f3 f4 f5 f6 : Field} (ht : P.underlying t = some (.slice e)) (he : P.underlying e = some (.struct #[f0, f1, f2, f3, f4, f5, f6])) (hone : oneCellFields P #[f0, f1, f2, f3, f4, f5, f6] = true) (hC : P.cellsOf e = 7)
    (h0 : P.underlying f0.type = some (.int .i64)) (h1 : P.underlying f1.type = some (.int .i64)) (h2 : P.underlying f2.type = some (.int .i64)) (h3 : P.underlying f3.type = some (.int .i64)) (h4 : P.underlying f4.type = some (.int .i64)) (h5 : P.underlying f5.type = some .bool) (h6 : P.underlying f6.type = some (.int .i64))
    (hv : Value.okWide P w r b0 t v) (h : DataW.Trod enc P w 0 (fun _ => true) true t v d p) :
    ∃ (A : Option Addr) (ss : List Sv) (c : Nat), v = .slice A ss.length c ∧ Rd w w.heap.size 7 A ss.length (svCells ss) ∧ ss.length ≤ c ∧ c ≤ maxLen := by
  obtain ⟨a0, len, cap, rfl⟩ := okWide_slice ht hv
  obtain ⟨n, hn⟩ := h
  rcases Go.Deep.open_slice ht hn with ⟨hcs, _⟩ | ⟨a, len', cap', m, n', D, Pl, hcs, _, hl, hm, hmm, _, hi⟩
  · simp [Value.cells] at hcs
    obtain ⟨rfl, rfl, rfl⟩ := hcs
    exact ⟨none, [], 0, rfl, ⟨rfl, fun h => absurd rfl h⟩, by simp, by simp⟩
  · simp [Value.cells] at hcs
    obtain ⟨rfl, rfl, rfl⟩ := hcs
    simp only [if_true] at hmm
    have each : ∀ i, i < len → ∃ s : Sv, ∀ j u, s.cells[j]? = some u → w.cell? (a.add (i * 7 + j)) = some u := by
      intro i hil
      obtain ⟨cs', hc', ht'⟩ := hi i (by omega)
      rw [hC] at hc'
      obtain ⟨xs, k, _, _, hl7, hlen, hg⟩ := DataW.trod_struct he ht'
      obtain ⟨_, hcl, hat⟩ := World.cells?_some hc'
      match cs', hcl with
      | [x0, x1, x2, x3, x4, x5, x6], _ =>
        match xs, hlen with
        | [y0, y1, y2, y3, y4, y5, y6], _ =>
          have g0 := hg 0 f0 rfl; have g1 := hg 1 f1 rfl; have g2 := hg 2 f2 rfl; have g3 := hg 3 f3 rfl; have g4 := hg 4 f4 rfl; have g5 := hg 5 f5 rfl; have g6 := hg 6 f6 rfl
          obtain ⟨o0, k0⟩ := hone_of hone 0 f0 rfl
          obtain ⟨o1, k1⟩ := hone_of hone 1 f1 rfl
          obtain ⟨o2, k2⟩ := hone_of hone 2 f2 rfl
          obtain ⟨o3, k3⟩ := hone_of hone 3 f3 rfl
          obtain ⟨o4, k4⟩ := hone_of hone 4 f4 rfl
          obtain ⟨o5, k5⟩ := hone_of hone 5 f5 rfl
          obtain ⟨o6, k6⟩ := hone_of hone 6 f6 rfl
          obtain ⟨z0, e0, _⟩ := DataW.trod_int h0 (by simpa [o0, k0] using g0)
          obtain ⟨z1, e1, _⟩ := DataW.trod_int h1 (by simpa [o1, k1] using g1)
          obtain ⟨z2, e2, _⟩ := DataW.trod_int h2 (by simpa [o2, k2] using g2)
          obtain ⟨z3, e3, _⟩ := DataW.trod_int h3 (by simpa [o3, k3] using g3)
          obtain ⟨z4, e4, _⟩ := DataW.trod_int h4 (by simpa [o4, k4] using g4)
          obtain ⟨z5, e5, _⟩ := DataW.trod_bool h5 (by simpa [o5, k5] using g5)
          obtain ⟨z6, e6, _⟩ := DataW.trod_int h6 (by simpa [o6, k6] using g6)
          obtain rfl := (List.cons.inj e0).1
          obtain rfl := (List.cons.inj e1).1
          obtain rfl := (List.cons.inj e2).1
          obtain rfl := (List.cons.inj e3).1
          obtain rfl := (List.cons.inj e4).1
          obtain rfl := (List.cons.inj e5).1
          obtain rfl := (List.cons.inj e6).1
          refine ⟨⟨z0, z1, z2, z3, z4, z5, z6⟩, fun j u hu => ?_⟩
          have hj : j < 7 := by
            have := (List.getElem?_eq_some_iff.1 hu).1
            simpa [Sv.cells] using this
          have := hat j (by omega)
          rw [add_add] at this
          rw [this]
          exact hu
    obtain ⟨ss, hsl, hp⟩ := list_of len _ each
    refine ⟨some a, ss, cap, by rw [hsl], ⟨sv_len ss, fun hne => ⟨a, rfl, ?_, fun j u hu => ?_⟩⟩, by omega, hm⟩
    · have := hp 0 (by omega) 0 _ rfl
      simp [Addr.add] at this
      exact cell_lt this
    · have hj : j < ss.length * 7 := by rw [← sv_len]; exact (List.getElem?_eq_some_iff.1 hu).1
      have e : j = j / 7 * 7 + j % 7 := by omega
      rw [e] at hu ⊢
      rw [sv_at ss (j / 7) (by omega) (j % 7) (Nat.mod_lt _ (by decide))] at hu
      exact hp (j / 7) (by omega) (j % 7) u hu
end
end Go.Proofs.YtkjlbddaglcooaaGreatDoor
