/- The walk of TrieKeeps. -/
import Derived.Test.YtgfjkpfjajjidaaDoorLws
import Derived.Deep.RegionHeld3
import Derived.BigQuiet
import Derived.Deep.DrawnRows
namespace Go.Proofs.YtgfjkpfjajjidaaDoor
open Go.RowKit Pl

theorem i64_and16 (n : Int) : bits .and .i64 n 65535 = n % 65536 := by
  have h : (BitVec.ofInt 64 65535).toNat = 2 ^ 16 - 1 := by decide
  have key : (BitVec.ofInt 64 n &&& BitVec.ofInt 64 65535).toNat = (n % ((2 ^ 64 : Nat) : Int)).toNat % 2 ^ 16 := by
    rw [BitVec.toNat_and, BitVec.toNat_ofInt, h, Nat.and_two_pow_sub_one_eq_mod]
  show IntKind.i64.wrap ((BitVec.ofInt 64 n &&& BitVec.ofInt 64 65535).toNat : Nat) = n % 65536
  rw [key, IntKind.wrap_i64]
  omega
theorem add_add3 (a : Addr) (m j : Nat) : (a.add m).add j = a.add (m + j) := by
  unfold Addr.add
  by_cases hm : m = 0
  · simp [hm]
  · by_cases hj : j = 0
    · simp [hj, hm]
    · simp [hm, hj, Nat.add_assoc]
theorem rt_drop : ∀ (l : List Rt) (k : Nat), rtCells (l.drop k) = (rtCells l).drop (k * 3)
  | l, 0 => by simp
  | [], k + 1 => by simp [rtCells]
  | r :: l, k + 1 => by
    have e : (k + 1) * 3 = 3 + k * 3 := by omega
    rw [List.drop_succ_cons, rt_drop l k, rt_cons, e, ← List.drop_drop]
    rfl
theorem rt_take (l : List Rt) (k j : Nat) (u : Value) (hu : (rtCells (l.take k))[j]? = some u) : (rtCells l)[j]? = some u := by
  have e : rtCells l = rtCells (l.take k) ++ rtCells (l.drop k) := by rw [← rt_app, List.take_append_drop]
  rw [e, List.getElem?_append_left (List.getElem?_eq_some_iff.1 hu).1]
  exact hu
theorem rdt_take {w : World} {B : Nat} {A : Option Addr} {l : List Rt} (h : Rd w B 3 A l.length (rtCells l)) (k : Nat) : Rd w B 3 A (l.take k).length (rtCells (l.take k)) := by
  refine ⟨by rw [rt_len], fun h0 => ?_⟩
  obtain ⟨b, e, hb, hc⟩ := h.2 (by rw [List.length_take] at h0; omega)
  exact ⟨b, e, hb, fun j u hu => hc _ _ (rt_take l k j u hu)⟩
theorem rdt_drop {w : World} {B : Nat} {a : Addr} {l : List Rt} (h : Rd w B 3 (some a) l.length (rtCells l)) (k : Nat) : Rd w B 3 (some (a.add (k * 3))) (l.drop k).length (rtCells (l.drop k)) := by
  refine ⟨by rw [rt_len], fun h0 => ?_⟩
  obtain ⟨b, e, hb, hc⟩ := h.2 (by rw [List.length_drop] at h0; omega)
  cases e
  refine ⟨_, rfl, by rw [show (a.add (k * 3)).block = a.block from by unfold Addr.add; split <;> rfl]; exact hb, fun j u hu => ?_⟩
  rw [add_add3]
  refine hc _ _ ?_
  rw [rt_drop, List.getElem?_drop] at hu
  exact hu
theorem rdt_none {w : World} {B : Nat} (A : Option Addr) : Rd w B 3 A ([] : List Rt).length (rtCells []) := ⟨rfl, fun h => absurd rfl h⟩

/-- Three cells of a block. -/
def C3 (w : World) (g : Nat) (u0 u1 u2 : Value) : Prop := g < w.heap.size ∧ w.cell? ⟨g, 0, none⟩ = some u0 ∧ w.cell? ⟨g, 1, none⟩ = some u1 ∧ w.cell? ⟨g, 2, none⟩ = some u2
theorem C3.new (w : World) (u0 u1 u2 : Value) : C3 (w.alloc (.cells #[u0, u1, u2] 34)) w.heap.size u0 u1 u2 := by
  refine ⟨by simp, ?_, ?_, ?_⟩ <;> rw [new_cell4] <;> rfl
theorem C3.on {w w' : World} {g : Nat} {u0 u1 u2 : Value} (h : C3 w g u0 u1 u2) (hb : Below w.heap.size w w') : C3 w' g u0 u1 u2 :=
  ⟨Nat.lt_of_lt_of_le h.1 hb.size, (hb.cell (p := ⟨g, 0, none⟩) h.1).trans h.2.1, (hb.cell (p := ⟨g, 1, none⟩) h.1).trans h.2.2.1, (hb.cell (p := ⟨g, 2, none⟩) h.1).trans h.2.2.2⟩