/- A body in memory: its block, the rows of its line and of its data. -/
import Derived.Test.YtkjlbddaglcooaaGreatDoorMem
import Derived.Test.YtkjlbddaglcooaaGreatDoorPlains
import Derived.Lib.UnsafeStr
import Derived.OneCell
import Derived.Laws.IdiomStrings
import Derived.Laws.BytesArg
import Derived.Test.YtkjlbddaglcooaaGreatDoorLeaf
namespace Go.Proofs.YtkjlbddaglcooaaGreatDoor
open Go.RowKit Pl
open Go.Lib (byteCells)

theorem blk_cell {w : World} {g : Nat} {cs : Array Value} {t : TypeId} (h : w.heap[g]? = some (.cells cs t (0, 0))) (i : Nat) : w.cell? ⟨g, i, none⟩ = cs[i]? := by simp [World.cell?, h]
theorem blk_free {w : World} {g : Nat} {cs : Array Value} {t : TypeId} (h : w.heap[g]? = some (.cells cs t (0, 0))) (i : Nat) : w.frozen? ⟨g, i, none⟩ = false := by simp [World.frozen?, h]
theorem blk_lt {w : World} {g : Nat} {o : Obj} (h : w.heap[g]? = some o) : g < w.heap.size := (Array.getElem?_eq_some_iff.1 h).1
theorem own_below {B : Nat} {e : TypeId} {k : Nat} {v : Value} {n : Nat} {xs : List Value} {w w' : World} (h : w.ownsRow B e k v n xs) (hb : Below w.heap.size w w') : w'.ownsRow B e k v n xs :=
  h.kept (row := none) ⟨hb.os, hb.tape, hb.output, hb.size, fun k hk _ => hb.block k hk⟩ (by cases v.ownBlock <;> simp)

theorem set_same {w : World} {g : Nat} {cs : Array Value} {t : TypeId} {v : Value} (i : Nat) (h : w.heap[g]? = some (.cells cs t (0, 0))) : (w.setCell ⟨g, i, none⟩ v).heap[g]? = some (.cells (cs.setIfInBounds i v) t (0, 0)) := heap_setCell_same w g i cs t v h

theorem le_set {B : Nat} {w : World} {a : Addr} {v : Value} (h : B ≤ w.heap.size) : B ≤ (w.setCell a v).heap.size := by simpa [World.setCell] using h

/-- Nothing of P is turned, but for the block g. -/
structure Fr (P : Nat → Prop) (g : Nat) (w w' : World) : Prop where
  os : w'.os = w.os
  tape : w'.tape = w.tape
  output : w'.output = w.output
  size : w.heap.size ≤ w'.heap.size
  block : ∀ k, P k → k ≠ g → w'.heap[k]? = w.heap[k]?
theorem Fr.refl (P : Nat → Prop) (g : Nat) (w : World) : Fr P g w w := ⟨rfl, rfl, rfl, Nat.le_refl _, fun _ _ _ => rfl⟩
theorem Fr.trans {P : Nat → Prop} {g : Nat} {a b c : World} (h : Fr P g a b) (k : Fr P g b c) : Fr P g a c :=
  ⟨k.os.trans h.os, k.tape.trans h.tape, k.output.trans h.output, Nat.le_trans h.size k.size, fun i hi hne => (k.block i hi hne).trans (h.block i hi hne)⟩
theorem Fr.setCell {P : Nat → Prop} {g : Nat} {a w : World} (h : Fr P g a w) (i : Nat) (u : Value) : Fr P g a (w.setCell ⟨g, i, none⟩ u) :=
  h.trans ⟨rfl, rfl, rfl, by simp [World.setCell], fun k _ hne => Below.heap_setCell _ _ _ _ (by simpa using hne)⟩
theorem Fr.of {P : Nat → Prop} {g C : Nat} {a b : World} (hP : ∀ k, P k → k < C) (h : Below C a b) : Fr P g a b := ⟨h.os, h.tape, h.output, h.size, fun k hk _ => h.block k (hP k hk)⟩
theorem Fr.low {P : Nat → Prop} {g B : Nat} {a b : World} (h : Fr P g a b) (hB : ∀ k, k < B → P k ∧ k ≠ g) : Below B a b := ⟨h.os, h.tape, h.output, h.size, fun k hk => h.block k (hB k hk).1 (hB k hk).2⟩
theorem Fr.grown {P : Nat → Prop} {g : Nat} {a w w5 : World} {row : Option Nat} (h : Fr P g a w) (hg : w.grownBy w5 row) (hP : ∀ k, P k → k < w.heap.size) (hrow : ∀ k, row = some k → ¬ P k) : Fr P g a w5 :=
  h.trans ⟨hg.os, hg.tape, hg.output, hg.size, fun k hk _ => hg.block k (hP k hk) (fun e => hrow k e.symm hk)⟩
theorem Fr.weak {P Q : Nat → Prop} {g : Nat} {a b : World} (h : Fr P g a b) (hQ : ∀ k, Q k → P k) : Fr Q g a b := ⟨h.os, h.tape, h.output, h.size, fun k hk hne => h.block k (hQ k hk) hne⟩

def bdCells (b : Bst) (lv dv : Value) : Array Value := #[.int .i64 b.st, .int .i64 b.left, .int .i64 b.status, lv, dv]

/-- The body b lies in block g; its two rows lie apart, and none of P. -/
structure BV (P : Nat → Prop) (w : World) (g : Nat) (b : Bst) (lv dv : Value) : Prop where
  blk : w.heap[g]? = some (.cells (bdCells b lv dv) 72 (0, 0))
  ln : w.ownsRow 0 5 1 lv b.line.length (byteCells b.line)
  dt : w.ownsRow 0 5 1 dv b.data.length (byteCells b.data)
  lo : ∀ k, P k → k < w.heap.size
  ap : ∀ k, lv.ownBlock = some k → dv.ownBlock ≠ some k
  lnP : ∀ k, lv.ownBlock = some k → ¬ P k
  dtP : ∀ k, dv.ownBlock = some k → ¬ P k

def BO (P : Nat → Prop) (w : World) (g : Nat) (b : Bst) : Prop := ∃ lv dv, BV P w g b lv dv

theorem own_ne {w : World} {base n : Nat} {v : Value} {xs : List Value} {g : Nat} {cs : Array Value} (h : w.ownsRow base 5 1 v n xs) (hb : w.heap[g]? = some (.cells cs 72 (0, 0))) : v.ownBlock ≠ some g := by
  rcases h.2 with ⟨rfl, _⟩ | ⟨g', cap, cur, rfl, _, hh, _⟩
  · simp [Value.ownBlock]
  · intro e
    have e' : g' = g := by simpa [Value.ownBlock] using e
    subst e'
    rw [hb] at hh
    injection hh with hh
    injection hh with _ ht
    cases ht

section
variable {base : Nat} {P : Nat → Prop} {w w' : World} {g : Nat} {b : Bst} {lv dv : Value}
theorem BV.lt (h : BV P w g b lv dv) : g < w.heap.size := blk_lt h.blk
theorem BV.neL (h : BV P w g b lv dv) : lv.ownBlock ≠ some g := own_ne h.ln h.blk
theorem BV.neD (h : BV P w g b lv dv) : dv.ownBlock ≠ some g := own_ne h.dt h.blk
theorem BV.below (h : BV P w g b lv dv) (k : Below w.heap.size w w') : BV P w' g b lv dv :=
  ⟨(k.block g h.lt).trans h.blk, own_below h.ln k, own_below h.dt k, fun i hi => Nat.lt_of_lt_of_le (h.lo i hi) k.size, h.ap, h.lnP, h.dtP⟩
theorem BO.below (h : BO P w g b) (k : Below w.heap.size w w') : BO P w' g b := by
  obtain ⟨lv, dv, h⟩ := h
  exact ⟨lv, dv, h.below k⟩
theorem BO.lt (h : BO P w g b) : g < w.heap.size := by
  obtain ⟨lv, dv, h⟩ := h
  exact h.lt
theorem BV.cell (h : BV P w g b lv dv) (i : Nat) : w.cell? ⟨g, i, none⟩ = (bdCells b lv dv)[i]? := blk_cell h.blk i
theorem BV.free (h : BV P w g b lv dv) (i : Nat) : w.frozen? ⟨g, i, none⟩ = false := blk_free h.blk i
theorem BV.set0 (h : BV P w g b lv dv) (x : Int) : BV P (w.setCell ⟨g, 0, none⟩ (.int .i64 x)) g ⟨x, b.left, b.status, b.line, b.data⟩ lv dv :=
  ⟨by rw [set_same 0 h.blk]; rfl, ownsRow_setCell_other h.ln h.neL _, ownsRow_setCell_other h.dt h.neD _, fun i hi => le_set (h.lo i hi), h.ap, h.lnP, h.dtP⟩
theorem BV.set1 (h : BV P w g b lv dv) (x : Int) : BV P (w.setCell ⟨g, 1, none⟩ (.int .i64 x)) g ⟨b.st, x, b.status, b.line, b.data⟩ lv dv :=
  ⟨by rw [set_same 1 h.blk]; rfl, ownsRow_setCell_other h.ln h.neL _, ownsRow_setCell_other h.dt h.neD _, fun i hi => le_set (h.lo i hi), h.ap, h.lnP, h.dtP⟩
theorem BV.set2 (h : BV P w g b lv dv) (x : Int) : BV P (w.setCell ⟨g, 2, none⟩ (.int .i64 x)) g ⟨b.st, b.left, x, b.line, b.data⟩ lv dv :=
  ⟨by rw [set_same 2 h.blk]; rfl, ownsRow_setCell_other h.ln h.neL _, ownsRow_setCell_other h.dt h.neD _, fun i hi => le_set (h.lo i hi), h.ap, h.lnP, h.dtP⟩
theorem BV.set3n (h : BV P w g b lv dv) : BV P (w.setCell ⟨g, 3, none⟩ (.slice none 0 0)) g (clearB b) (.slice none 0 0) dv :=
  ⟨by rw [set_same 3 h.blk]; rfl, World.ownsRow_nil _ _ _ _, ownsRow_setCell_other h.dt h.neD _, fun i hi => le_set (h.lo i hi), fun k hk => (by cases hk), fun k hk => (by cases hk), h.dtP⟩
theorem own_cut {n cap gl : Nat} {xs : List Value} (h : w.ownsRow base 5 1 (.slice (some ⟨gl, 0, none⟩) n cap) n xs) : w.ownsRow base 5 1 (.slice (some ⟨gl, 0, none⟩) 0 cap) 0 [] := by
  rcases h.2 with ⟨h1, _⟩ | ⟨g', cap', cur, hv, hb, hh, hc, hm, hsz, _⟩
  · cases h1
  · injection hv with h1 h2 h3
    injection h1 with h1
    injection h1 with h1
    subst h1; subst h3
    exact ⟨by simp, .inr ⟨gl, cap, cur, rfl, hb, hh, by omega, hm, hsz, by simp⟩⟩
theorem BV.set3c {n cap gl : Nat} (h : BV P w g b (.slice (some ⟨gl, 0, none⟩) n cap) dv) (hn : n = b.line.length) : BV P (w.setCell ⟨g, 3, none⟩ (.slice (some ⟨gl, 0, none⟩) 0 cap)) g (clearB b) (.slice (some ⟨gl, 0, none⟩) 0 cap) dv := by
  subst hn
  exact ⟨by rw [set_same 3 h.blk]; rfl, ownsRow_setCell_other (a := ⟨g, 3, none⟩) (own_cut h.ln) h.neL _, ownsRow_setCell_other h.dt h.neD _, fun i hi => le_set (h.lo i hi), h.ap, h.lnP, h.dtP⟩
theorem BV.addL {w5 : World} {g2 cap : Nat} {c : UInt8} {v : Value} (h : BV P w g b lv dv) (hv : v = .int .u8 (c.toNat : Int)) (hg : w.grownBy w5 lv.ownBlock) (hat : lv.ownBlock = some g2 ∨ g2 = w.heap.size)
    (ho : w5.ownsRow 0 5 1 (.slice (some ⟨g2, 0, none⟩) (b.line.length + 1) cap) (b.line.length + 1) (byteCells b.line ++ [v])) :
    BV P (w5.setCell ⟨g, 3, none⟩ (.slice (some ⟨g2, 0, none⟩) (b.line.length + 1) cap)) g ⟨b.st, b.left, b.status, b.line ++ [c], b.data⟩ (.slice (some ⟨g2, 0, none⟩) (b.line.length + 1) cap) dv := by
  subst hv
  have e : w5.heap[g]? = _ := (hg.block g h.lt (fun e => h.neL e.symm)).trans h.blk
  have hne2 : g2 ≠ g := by
    intro e
    subst e
    rcases hat with h1 | h1
    · exact h.neL h1
    · have := h.lt; omega
  have hd : dv.ownBlock = none ∨ dv.ownBlock ≠ lv.ownBlock := by
    cases hdv : dv.ownBlock with
    | none => exact .inl rfl
    | some k => exact .inr fun e => h.ap k e.symm hdv
  refine ⟨by rw [set_same 3 e]; rfl, ?_, ownsRow_setCell_other (h.dt.kept hg hd) h.neD _, fun i hi => le_set (Nat.lt_of_lt_of_le (h.lo i hi) hg.size), ?_, ?_, h.dtP⟩
  · refine ownsRow_setCell_other ?_ (by simpa [Value.ownBlock] using hne2) _
    simpa [byteCells] using ho
  · intro k hk
    have : g2 = k := by simpa [Value.ownBlock] using hk
    subst this
    rcases hat with h1 | h1
    · exact h.ap _ h1
    · intro hd2
      have := (h.dt.lt _ hd2).2
      omega
  · intro k hk hP
    have : g2 = k := by simpa [Value.ownBlock] using hk
    subst this
    rcases hat with h1 | h1
    · exact h.lnP _ h1 hP
    · have := h.lo _ hP
      omega
theorem BV.addD {w5 : World} {g2 cap : Nat} {c : UInt8} {v : Value} (h : BV P w g b lv dv) (hv : v = .int .u8 (c.toNat : Int)) (hg : w.grownBy w5 dv.ownBlock) (hat : dv.ownBlock = some g2 ∨ g2 = w.heap.size)
    (ho : w5.ownsRow 0 5 1 (.slice (some ⟨g2, 0, none⟩) (b.data.length + 1) cap) (b.data.length + 1) (byteCells b.data ++ [v])) :
    BV P (w5.setCell ⟨g, 4, none⟩ (.slice (some ⟨g2, 0, none⟩) (b.data.length + 1) cap)) g ⟨b.st, b.left, b.status, b.line, b.data ++ [c]⟩ lv (.slice (some ⟨g2, 0, none⟩) (b.data.length + 1) cap) := by
  subst hv
  have e : w5.heap[g]? = _ := (hg.block g h.lt (fun e => h.neD e.symm)).trans h.blk
  have hne2 : g2 ≠ g := by
    intro e
    subst e
    rcases hat with h1 | h1
    · exact h.neD h1
    · have := h.lt; omega
  have hd : lv.ownBlock = none ∨ lv.ownBlock ≠ dv.ownBlock := by
    cases hdv : lv.ownBlock with
    | none => exact .inl rfl
    | some k => exact .inr fun e => h.ap k hdv e.symm
  refine ⟨by rw [set_same 4 e]; rfl, ownsRow_setCell_other (h.ln.kept hg hd) h.neL _, ?_, fun i hi => le_set (Nat.lt_of_lt_of_le (h.lo i hi) hg.size), ?_, h.lnP, ?_⟩
  · refine ownsRow_setCell_other ?_ (by simpa [Value.ownBlock] using hne2) _
    simpa [byteCells] using ho
  · intro k hk hd2
    have : g2 = k := by simpa [Value.ownBlock] using hd2
    subst this
    rcases hat with h1 | h1
    · exact h.ap _ hk h1
    · have := (h.ln.lt _ hk).2
      omega
  · intro k hk hP
    have : g2 = k := by simpa [Value.ownBlock] using hk
    subst this
    rcases hat with h1 | h1
    · exact h.dtP _ h1 hP
    · have := h.lo _ hP
      omega
theorem own_byte {n : Nat} {l : List UInt8} {v : Value} (h : w.ownsRow base 5 1 v n (byteCells l)) (i : Nat) (hi : i < l.length) : ∃ a : Addr, (∃ c, v = .slice (some a) n c) ∧ w.cell? (a.add i) = some (.int .u8 (l[i].toNat : Int)) := by
  have hn : l.length = n := by have := h.1; simpa [byteCells] using this
  rcases h.2 with ⟨_, h0⟩ | ⟨g, cap, cur, rfl, _⟩
  · omega
  · exact ⟨_, ⟨_, rfl⟩, h.cells (g := g) rfl i _ (by simp [byteCells, hi])⟩
/-- A row of bytes as a text. -/
theorem own_string {n : Nat} {l : List UInt8} {v : Value} (h : w.ownsRow base 5 1 v n (byteCells l)) : (convert 46 9 v).run Tryz.prog w = .ok (.string ⟨l.toArray⟩) w := by
  have hn : l.length = n := by have := h.1; simpa [byteCells] using this
  subst hn
  rcases h.2 with ⟨rfl, h0⟩ | ⟨g, cap, cur, rfl, _⟩
  · have : l = [] := List.length_eq_zero_iff.1 h0
    subst this
    exact run_convert_bytes_nil w 46 5 Tryz.underlying46 Tryz.underlying5 0 0 9 Tryz.underlying9
  · exact run_convert_bytes_back w 46 9 5 ⟨g, 0, none⟩ cap l Tryz.underlying46 Tryz.underlying5 Tryz.underlying9 (fun j hj => h.cells (g := g) rfl j _ (by simp [byteCells, hj]))
end

end Go.Proofs.YtkjlbddaglcooaaGreatDoor
