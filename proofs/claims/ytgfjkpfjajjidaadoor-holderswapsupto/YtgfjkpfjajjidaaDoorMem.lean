/- Words for memory: a slice that reads as a list of cells; rows of the call's own. -/
import Derived.Below
import Derived.Laws.OwnMore
import Derived.Deep.AppendLies
import Derived.Deep.Draws
import Derived.Lib.Hide
import Derived.Test.YtgfjkpfjajjidaaDoorPlains
namespace Go.Proofs.YtgfjkpfjajjidaaDoor
open Go.RowKit Pl

theorem bt {w w1 w2 : World} (h : Below w.heap.size w w1) (k : Below w1.heap.size w1 w2) : Below w.heap.size w w2 := h.trans (k.mono h.size)

theorem add_block (a : Addr) (n : Nat) : (a.add n).block = a.block := by unfold Addr.add; split <;> rfl
theorem add_zero_own (g j : Nat) : (⟨g, 0, none⟩ : Addr).add j = ⟨g, j, none⟩ := by
  unfold Addr.add
  split
  · rename_i h; rw [h]
  · simp

theorem add_next (a : Addr) (m : Nat) : (⟨(a.add m).block, (a.add m).off + 1, none⟩ : Addr) = a.add (m + 1) := by
  unfold Addr.add
  by_cases h : m = 0
  · simp [h]
  · simp [h, Nat.add_assoc]

/-- The slice A of n elements, k cells each, holds the cells xs, and lies in a block below B. -/
def Rd (w : World) (B k : Nat) (A : Option Addr) (n : Nat) (xs : List Value) : Prop :=
  xs.length = n * k ∧ (n ≠ 0 → ∃ a : Addr, A = some a ∧ a.block < B ∧ ∀ j u, xs[j]? = some u → w.cell? (a.add j) = some u)

theorem Rd.block {w w' : World} {B k n : Nat} {A : Option Addr} {xs : List Value} (h : Rd w B k A n xs) (hb : ∀ j, j < B → w'.heap[j]? = w.heap[j]?) : Rd w' B k A n xs := by
  refine ⟨h.1, fun hn => ?_⟩
  obtain ⟨a, e, hl, hc⟩ := h.2 hn
  exact ⟨a, e, hl, fun j u hu => (World.cell?_of_block (hb _ (by rw [add_block]; exact hl))).trans (hc j u hu)⟩
theorem Rd.below {w w' : World} {B C k n : Nat} {A : Option Addr} {xs : List Value} (h : Rd w B k A n xs) (hb : Below C w w') (hB : B ≤ C) : Rd w' B k A n xs :=
  h.block fun j hj => hb.block j (by omega)
theorem Rd.wide {w : World} {B C k n : Nat} {A : Option Addr} {xs : List Value} (h : Rd w B k A n xs) (hB : B ≤ C) : Rd w C k A n xs := by
  refine ⟨h.1, fun hn => ?_⟩
  obtain ⟨a, e, hl, hc⟩ := h.2 hn
  exact ⟨a, e, by omega, hc⟩
theorem Rd.at {w : World} {B n i : Nat} {A : Option Addr} {xs : List Value} (h : Rd w B 1 A n xs) (hi : i < n) (u : Value) (hu : xs[i]? = some u) : ∃ a : Addr, A = some a ∧ a.block < B ∧ w.cell? (a.add i) = some u := by
  obtain ⟨a, e, hl, hc⟩ := h.2 (by omega)
  exact ⟨a, e, hl, hc i u hu⟩
theorem Rd.own {w : World} {base k n : Nat} {e : TypeId} {v : Value} {xs : List Value} (h : w.ownsRow base e k v n xs) : ∃ A c, v = .slice A n c ∧ Rd w w.heap.size k A n xs := by
  rcases h.2 with ⟨rfl, rfl⟩ | ⟨g, cap, cur, rfl, _, hh, _⟩
  · exact ⟨none, 0, rfl, h.1, fun hn => absurd rfl hn⟩
  · refine ⟨_, _, rfl, h.1, fun _ => ⟨_, rfl, (Array.getElem?_eq_some_iff.1 hh).1, fun j u hu => h.cells (g := g) rfl j u hu⟩⟩

end Go.Proofs.YtgfjkpfjajjidaaDoor
