/- A store in memory; the contracts of of, Free, Lock. -/
import Derived.Test.YtilhegdhbcmlkaaDoorMp
import Derived.Test.YtilhegdhbcmlkaaDoorTgTag
namespace Go.Proofs.YtilhegdhbcmlkaaDoor
open Go.RowKit

abbrev Txs := List (Bytes × Bytes)
def eV (v : Bytes) : Value := .agg #[strV v]
def upd {α : Type} (f : Nat → α) (i : Nat) (v : α) : Nat → α := fun j => if j = i then v else f j
def cellsS (o : Nat → Int) (b : Nat → Nat) : Array Value := #[.int .i64 (o 0), .map (some (b 0)), .int .i64 (o 1), .map (some (b 1)), .int .i64 (o 2), .map (some (b 2)), .int .i64 (o 3), .map (some (b 3))]

/-- The store in block G, whose maps lie in the blocks b: whose each shard is, and what each has. -/
structure StAt (W : World) (G : Nat) (b : Nat → Nat) (o : Nat → Int) (m : Nat → Txs) : Prop where
  blk : W.heap[G]? = some (.cells (cellsS o b) 61 (0, 0))
  maps : ∀ i, i < 4 → MA W (b i) (vMap eV (m i))
  ne : ∀ i j, i < 4 → j < 4 → b i = b j → i = j
theorem StAt.lt {W : World} {G : Nat} {b : Nat → Nat} {o : Nat → Int} {m : Nat → Txs} (h : StAt W G b o m) : G < W.heap.size := blk_lt h.blk
theorem StAt.block {W W' : World} {G : Nat} {b : Nat → Nat} {o : Nat → Int} {m : Nat → Txs} (h : StAt W G b o m) (h1 : W'.heap[G]? = W.heap[G]?) (h2 : ∀ i, i < 4 → W'.heap[b i]? = W.heap[b i]?) : StAt W' G b o m :=
  ⟨h1.trans h.blk, fun i hi => (h.maps i hi).block (h2 i hi), h.ne⟩
theorem StAt.on {W W' : World} {G : Nat} {b : Nat → Nat} {o : Nat → Int} {m : Nat → Txs} (h : StAt W G b o m) (hb : Below W.heap.size W W') : StAt W' G b o m :=
  h.block (hb.block _ h.lt) fun i hi => hb.block _ (h.maps i hi).lt
theorem StAt.neG {W : World} {G : Nat} {b : Nat → Nat} {o : Nat → Int} {m : Nat → Txs} (h : StAt W G b o m) (i : Nat) (hi : i < 4) : b i ≠ G := fun e => by
  obtain ⟨es, c, h1, _⟩ := h.maps i hi
  rw [e, h.blk] at h1
  cases h1
theorem four {P : Nat → Prop} (h0 : P 0) (h1 : P 1) (h2 : P 2) (h3 : P 3) : ∀ i, i < 4 → P i
  | 0, _ => h0
  | 1, _ => h1
  | 2, _ => h2
  | 3, _ => h3
  | i + 4, h => by omega
theorem StAt.own {W : World} {G : Nat} {b : Nat → Nat} {o : Nat → Int} {m : Nat → Txs} (h : StAt W G b o m) (i : Nat) (hi : i < 4) : W.cell? ⟨G, i * 2, none⟩ = some (.int .i64 (o i)) := by
  rw [blk_cell h.blk]
  exact four (P := fun i => (cellsS o b)[i * 2]? = some (.int .i64 (o i))) rfl rfl rfl rfl i hi
theorem StAt.ent {W : World} {G : Nat} {b : Nat → Nat} {o : Nat → Int} {m : Nat → Txs} (h : StAt W G b o m) (i : Nat) (hi : i < 4) : W.cell? ⟨G, i * 2 + 1, none⟩ = some (.map (some (b i))) := by
  rw [blk_cell h.blk]
  exact four (P := fun i => (cellsS o b)[i * 2 + 1]? = some (.map (some (b i)))) rfl rfl rfl rfl i hi
theorem StAt.free {W : World} {G : Nat} {b : Nat → Nat} {o : Nat → Int} {m : Nat → Txs} (h : StAt W G b o m) (i : Nat) : W.frozen? ⟨G, i, none⟩ = false := blk_free h.blk i
theorem cells_upd (o : Nat → Int) (b : Nat → Nat) (v : Int) : ∀ i, i < 4 → (cellsS o b).setIfInBounds (i * 2) (.int .i64 v) = cellsS (upd o i v) b := four rfl rfl rfl rfl
theorem StAt.put {W : World} {G : Nat} {b : Nat → Nat} {o : Nat → Int} {m : Nat → Txs} (h : StAt W G b o m) (i : Nat) (hi : i < 4) (v : Int) : StAt (W.setCell ⟨G, i * 2, none⟩ (.int .i64 v)) G b (upd o i v) m :=
  ⟨by rw [set_same (i * 2) h.blk, cells_upd o b v i hi], fun j hj => (h.maps j hj).block (set_oth W _ _ _ (h.neG j hj)), h.ne⟩
theorem StAt.same {W : World} {G : Nat} {b : Nat → Nat} {o o' : Nat → Int} {m m' : Nat → Txs} (h : StAt W G b o m) (ho : ∀ i, i < 4 → o' i = o i) (hm : ∀ i, i < 4 → m' i = m i) : StAt W G b o' m' := by
  have e : cellsS o' b = cellsS o b := by unfold cellsS; rw [ho 0 (by decide), ho 1 (by decide), ho 2 (by decide), ho 3 (by decide)]
  exact ⟨by rw [e]; exact h.blk, fun i hi => by rw [hm i hi]; exact h.maps i hi, h.ne⟩

/-- What a store's call turns: the store's own blocks. -/
structure SFr (G : Nat) (b : Nat → Nat) (w w' : World) : Prop where
  os : w'.os = w.os
  tape : w'.tape = w.tape
  output : w'.output = w.output
  size : w.heap.size ≤ w'.heap.size
  block : ∀ j, j < w.heap.size → j ≠ G → (∀ i, i < 4 → j ≠ b i) → w'.heap[j]? = w.heap[j]?
theorem SFr.refl (G : Nat) (b : Nat → Nat) (w : World) : SFr G b w w := ⟨rfl, rfl, rfl, Nat.le_refl _, fun _ _ _ _ => rfl⟩
theorem SFr.of {G : Nat} {b : Nat → Nat} {w w' : World} (h : Below w.heap.size w w') : SFr G b w w' := ⟨h.os, h.tape, h.output, h.size, fun j hj _ _ => h.block j hj⟩
theorem SFr.trans {G : Nat} {b : Nat → Nat} {w w1 w2 : World} (h : SFr G b w w1) (k : SFr G b w1 w2) : SFr G b w w2 :=
  ⟨k.os.trans h.os, k.tape.trans h.tape, k.output.trans h.output, Nat.le_trans h.size k.size, fun j hj a c => (k.block j (Nat.lt_of_lt_of_le hj h.size) a c).trans (h.block j hj a c)⟩
theorem SFr.below {G : Nat} {b : Nat → Nat} {w w' : World} (h : SFr G b w w') {B : Nat} (hB : B ≤ w.heap.size) (hG : B ≤ G) (hb : ∀ i, i < 4 → B ≤ b i) : Below B w w' :=
  ⟨h.os, h.tape, h.output, h.size, fun j hj => h.block j (by omega) (by omega) fun i hi => by have := hb i hi; omega⟩
theorem SFr.set {G : Nat} {b : Nat → Nat} {w w' : World} (h : SFr G b w w') (i : Nat) (v : Value) : SFr G b w (w'.setCell ⟨G, i, none⟩ v) :=
  ⟨h.os, h.tape, h.output, by rw [set_size]; exact h.size, fun j hj hG hb => (set_oth w' _ v j hG).trans (h.block j hj hG hb)⟩

def ofL (oi owner : Int) : Bool := decide (0 < owner) && (oi == owner)
def freeL (o : Nat → Int) (owner i : Int) : Bool := decide (0 < owner) && decide (0 ≤ i) && decide (i < 4) && (o i.toNat == 0 || o i.toNat == owner)
def lockL (o : Nat → Int) (owner i : Int) : Nat → Int := if freeL o owner i then upd o i.toNat owner else o

theorem of_any (G k : Nat) (oi owner : Int) (w : World) (hc : w.cell? ⟨G, k, none⟩ = some (.int .i64 oi)) : Calls Tryd.prog 31 #[.pointer (some ⟨G, k, none⟩), .int .i64 owner] w fun e w' => e = .returned (.bool (ofL oi owner)) ∧ w = w' := by
  unfold ofL
  by_cases h : 0 < owner
  · rw [decide_eq_true h, Bool.true_and]
    go_enter Tryd.func31, Tryd.ntmps31
    go_wp2_with fail
    go_ret
    exact ⟨rfl, rfl⟩
  · rw [decide_eq_false h, Bool.false_and]
    go_enter Tryd.func31, Tryd.ntmps31
    go_wp2_with fail
    go_ret
    exact ⟨rfl, rfl⟩

theorem free_any (G : Nat) (b : Nat → Nat) (o : Nat → Int) (m : Nat → Txs) (owner i : Int) (w : World) (h : StAt w G b o m) : Calls Tryd.prog 23 #[.pointer (some ⟨G, 0, none⟩), .int .i64 owner, .int .i64 i] w fun e w' => e = .returned (.bool (freeL o owner i)) ∧ w = w' := by
  unfold freeL
  by_cases h1 : 0 < owner
  · by_cases h2 : 0 ≤ i
    · by_cases h3 : i < 4
      · obtain ⟨k, rfl⟩ : ∃ k : Nat, i = (k : Int) := ⟨i.toNat, by omega⟩
        have hk : k < 4 := by omega
        have hc := h.own k hk
        simp only [Int.toNat_natCast]
        generalize o k = ok at *
        rw [decide_eq_true h1, decide_eq_true h2, decide_eq_true h3, Bool.true_and, Bool.true_and, Bool.true_and]
        clear h
        by_cases h4 : ok = 0
        · have h4b : (ok == 0) = true := by simpa using h4
          rw [h4b]
          go_enter Tryd.func23, Tryd.ntmps23
          go_wp2_with fail
          go_ret
          exact ⟨rfl, rfl⟩
        · have h4b : (ok == 0) = false := by simpa using h4
          rw [h4b]
          go_enter Tryd.func23, Tryd.ntmps23
          go_wp2_with fail
          go_ret
          exact ⟨rfl, rfl⟩
      · rw [decide_eq_false h3, Bool.and_false, Bool.false_and]
        go_enter Tryd.func23, Tryd.ntmps23
        go_wp2_with fail
        go_ret
        exact ⟨rfl, rfl⟩
    · rw [decide_eq_false h2, Bool.and_false, Bool.false_and, Bool.false_and]
      go_enter Tryd.func23, Tryd.ntmps23
      go_wp2_with fail
      go_ret
      exact ⟨rfl, rfl⟩
  · rw [decide_eq_false h1, Bool.false_and, Bool.false_and, Bool.false_and]
    go_enter Tryd.func23, Tryd.ntmps23
    go_wp2_with fail
    go_ret
    exact ⟨rfl, rfl⟩

set_option maxHeartbeats 1000000 in
theorem lock_any (G : Nat) (b : Nat → Nat) (o : Nat → Int) (m : Nat → Txs) (owner i : Int) (w : World) (h : StAt w G b o m) : Calls Tryd.prog 16 #[.pointer (some ⟨G, 0, none⟩), .int .i64 owner, .int .i64 i] w fun e w' => e = .returned (.bool (freeL o owner i)) ∧ StAt w' G b (lockL o owner i) m ∧ SFr G b w w' := by
  have HF := Lib.hid (free_any G b o m owner i w h)
  unfold lockL
  cases hf : freeL o owner i with
  | false =>
    rw [hf] at HF
    have HST := Lib.hid h
    clear h hf
    go_enter Tryd.func16, Tryd.ntmps16
    go_wp2_with fail
    refine HF.out.mono ?_
    rintro e w1 ⟨rfl, rfl⟩
    go_wp2_with fail
    go_ret
    exact ⟨rfl, HST.out, SFr.refl _ _ _⟩
  | true =>
    rw [hf] at HF
    have h0 : 0 ≤ i ∧ i < 4 := by
      unfold freeL at hf
      simp only [Bool.and_eq_true, decide_eq_true_eq] at hf
      exact ⟨hf.1.1.2, hf.1.2⟩
    obtain ⟨k, rfl⟩ : ∃ k : Nat, i = (k : Int) := ⟨i.toNat, by omega⟩
    have hk : k < 4 := by omega
    have hc := h.own k hk
    have hz := h.free (k * 2)
    have HST := Lib.hid (h.put k hk owner)
    clear h hf h0
    go_enter Tryd.func16, Tryd.ntmps16
    go_wp2_with fail
    refine HF.out.mono ?_
    rintro e w1 ⟨rfl, rfl⟩
    go_wp2_with fail
    go_ret
    exact ⟨rfl, HST.out, (SFr.refl _ _ _).set _ _⟩
end Go.Proofs.YtilhegdhbcmlkaaDoor
