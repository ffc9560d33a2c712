/- The walk of TrieMatches. -/
import Derived.Test.YtgfjkpfjajjidaaDoorLws
namespace Go.Proofs.YtgfjkpfjajjidaaDoor
open Go.RowKit Pl

/-- A path among many: where it lies. -/
structure Pq where
  a : Option Addr
  c : Nat
  x : List Seg
def pqV (p : Pq) : Value := .slice p.a p.x.length p.c
def PqAt (w : World) (B : Nat) (p : Pq) : Prop := Rd w B 1 p.a p.x.length (p.x.map strV) ∧ p.x.length ≤ p.c ∧ p.c ≤ maxLen ∧ ∀ s ∈ p.x, s.length ≤ 140737488355328
theorem pq_in {w : World} {B n : Nat} {A : Option Addr} {l : List Pq} (h : Rd w B 1 A n (l.map pqV)) (hn : n = l.length) (k : Nat) (hk : k < l.length) : ∃ a : Addr, A = some a ∧ a.block < B ∧ w.cell? (a.add k) = some (.slice l[k].a l[k].x.length l[k].c) := by
  subst hn
  obtain ⟨a, e, h1, h2⟩ := h.at hk (pqV l[k]) (by simp [hk])
  exact ⟨a, e, h1, h2⟩
theorem mt_al (m : List UInt8) (x : List Seg) (l : List Rt) : (matchL m x l).ok = true → (matchL m x l).al = [] := by
  unfold matchL
  cases bestL cutL m x l with
  | none => intro h; cases h
  | some r => intro _; rfl

theorem rd_set {w : World} {B k n : Nat} {A : Option Addr} {xs : List Value} (h : Rd w B k A n xs) (p : Addr) (u v : Value) (hp : w.cell? p = some u) (hu : ∀ y ∈ xs, y ≠ u) : Rd (w.setCell p v) B k A n xs := by
  refine ⟨h.1, fun hn => ?_⟩
  obtain ⟨a, e, hl, hc⟩ := h.2 hn
  refine ⟨a, e, hl, fun j y hy => ?_⟩
  refine (World.cell?_setCell_other w p (a.add j) v (fun e2 => by
    have h1 := hc j y hy
    rw [← e2, hp] at h1
    exact hu y (List.mem_of_getElem? hy) (Option.some.inj h1).symm)).trans (hc j y hy)
theorem pl_not (l : List PL) (Q : Option Addr) (m d : Nat) : ∀ y ∈ plCells l, y ≠ .slice Q m d := by
  intro y hy
  obtain ⟨z, _, hy⟩ := List.mem_flatMap.1 hy
  simp only [plV, List.mem_cons, List.not_mem_nil, or_false] at hy
  rcases hy with rfl | rfl <;> exact fun h => by cases h
theorem mt_cut {w : World} {t : Mt} {hb : ByteArray} {P : Option Addr} {n c : Nat} {Q : Option Addr} {m d : Nat} (h : MtAt w t hb P n c Q m d) (hal : t.al = []) (p : Addr) (Q' : Option Addr) (m' d' : Nat) (hp : w.cell? p = some (.slice Q' m' d')) (v : Value) : MtAt (w.setCell p v) t hb P n c none 0 0 := by
  obtain ⟨h1, h2, h3, _, _⟩ := h
  have hz : (w.setCell p v).heap.size = w.heap.size := by simp [World.setCell]
  refine ⟨h1, h2, ?_, by rw [hal]; rfl, by rw [hal]; exact rd_zero _ _ _ _⟩
  rw [hz]
  exact rd_set h3 p _ v hp (pl_not _ _ _ _)