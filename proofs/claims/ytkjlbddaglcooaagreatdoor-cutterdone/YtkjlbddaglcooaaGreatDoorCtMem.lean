/- A cutter in memory: its block, the bytes that wait, the lines, the fields, the body. -/
import Derived.Test.YtkjlbddaglcooaaGreatDoorPlains
import Derived.Test.YtkjlbddaglcooaaGreatDoorBodyMem
import Derived.Lib.AppendStr
namespace Go.Proofs.YtkjlbddaglcooaaGreatDoor
open Go.RowKit Pl
open Go.Lib (byteCells strCells)

theorem own_ne2 {w : World} {base n k : Nat} {e t : TypeId} {v : Value} {xs : List Value} {g : Nat} {cs : Array Value} {fr : Nat × Nat} (h : w.ownsRow base e k v n xs) (hb : w.heap[g]? = some (.cells cs t fr)) (hne : e ≠ t) : v.ownBlock ≠ some g := by
  rcases h.2 with ⟨rfl, _⟩ | ⟨g', cap, cur, rfl, _, hh, _⟩
  · simp [Value.ownBlock]
  · intro e
    have e' : g' = g := by simpa [Value.ownBlock] using e
    subst e'
    rw [hb] at hh
    injection hh with hh
    injection hh with _ ht
    exact hne ht.symm

/-- The bytes l wait in v: a part of a block of bytes that has room behind it, or none. -/
def Wt (w : World) (v : Value) (l : List UInt8) : Prop :=
  ∃ A cap, v = .slice A l.length cap ∧ l.length ≤ cap ∧ cap ≤ maxLen ∧
    ((A = none ∧ cap = 0) ∨ ∃ g o cur, A = some ⟨g, o, none⟩ ∧ w.heap[g]? = some (.cells cur 5 (0, 0)) ∧ o + cap ≤ cur.size ∧ ∀ (j : Nat) (b : UInt8), l[j]? = some b → cur[o + j]? = some (.int .u8 (b.toNat : Int)))

theorem wt_nil (w : World) : Wt w (.slice none 0 0) [] := ⟨none, 0, rfl, Nat.le_refl _, Nat.zero_le _, .inl ⟨rfl, rfl⟩⟩
theorem Wt.block {w w' : World} {v : Value} {l : List UInt8} (h : Wt w v l) (hb : ∀ k, v.ownBlock = some k → w'.heap[k]? = w.heap[k]?) : Wt w' v l := by
  obtain ⟨A, cap, rfl, h1, h2, h3⟩ := h
  refine ⟨A, cap, rfl, h1, h2, ?_⟩
  rcases h3 with h3 | ⟨g, o, cur, rfl, h4, h5, h6⟩
  · exact .inl h3
  · exact .inr ⟨g, o, cur, rfl, (hb g rfl).trans h4, h5, h6⟩
theorem Wt.lt {w : World} {v : Value} {l : List UInt8} (h : Wt w v l) (k : Nat) (hk : v.ownBlock = some k) : k < w.heap.size := by
  obtain ⟨A, cap, rfl, h1, h2, h3⟩ := h
  rcases h3 with ⟨rfl, _⟩ | ⟨g, o, cur, rfl, h4, _⟩
  · cases hk
  · have : g = k := by simpa [Value.ownBlock] using hk
    subst this
    exact blk_lt h4
theorem Wt.ne {w : World} {v : Value} {l : List UInt8} {g : Nat} {cs : Array Value} {t : TypeId} {fr : Nat × Nat} (h : Wt w v l) (hb : w.heap[g]? = some (.cells cs t fr)) (hne : t ≠ 5) : v.ownBlock ≠ some g := by
  obtain ⟨A, cap, rfl, h1, h2, h3⟩ := h
  rcases h3 with ⟨rfl, _⟩ | ⟨g', o, cur, rfl, h4, _⟩
  · simp [Value.ownBlock]
  · intro e
    have e' : g' = g := by simpa [Value.ownBlock] using e
    subst e'
    rw [hb] at h4
    injection h4 with h4
    injection h4 with _ ht
    exact hne ht

def ctCells (c : Cst) (wv lv fv bv : Value) : Array Value := #[wv, lv, .string c.rq.m, .string c.rq.t, fv, .string c.rq.body, .bool c.rq.close, bv, .bool c.done, .int .i64 c.status]

/-- What a body may not touch. -/
def PB (P : Nat → Prop) (g : Nat) (wv fv : Value) : Nat → Prop := fun k => P k ∨ k = g ∨ wv.ownBlock = some k ∨ fv.ownBlock = some k

structure CV (P : Nat → Prop) (w : World) (g : Nat) (c : Cst) (l : List UInt8) (wv lv fv bv : Value) : Prop where
  blk : w.heap[g]? = some (.cells (ctCells c wv lv fv bv) 59 (0, 0))
  wt : Wt w wv l
  ln : w.ownsRow 0 5 1 lv c.lines.length (byteCells c.lines)
  fl : w.ownsRow 0 64 2 fv c.rq.fs.length (fldCells c.rq.fs)
  lo : ∀ k, P k → k < w.heap.size
  ng : ¬ P g
  wtP : ∀ k, wv.ownBlock = some k → ¬ P k
  lnP : ∀ k, lv.ownBlock = some k → ¬ P k
  ap : ∀ k, wv.ownBlock = some k → lv.ownBlock ≠ some k
  nl : c.lines = [] → lv = .slice none 0 0
  bn : c.bd = none → bv = .pointer none
  bs : ∀ d, c.bd = some d → ∃ gb, bv = .pointer (some ⟨gb, 0, none⟩) ∧ ¬ P gb ∧ BO (PB P g wv fv) w gb d

def CO (P : Nat → Prop) (w : World) (g : Nat) (c : Cst) (l : List UInt8) : Prop := ∃ wv lv fv bv, CV P w g c l wv lv fv bv

theorem BO.weak {P Q : Nat → Prop} {w : World} {g : Nat} {b : Bst} (h : BO P w g b) (hQ : ∀ k, Q k → P k) : BO Q w g b := by
  obtain ⟨lv, dv, h⟩ := h
  exact ⟨lv, dv, h.blk, h.ln, h.dt, fun k hk => h.lo k (hQ k hk), h.ap, fun k hk hq => h.lnP k hk (hQ k hq), fun k hk hq => h.dtP k hk (hQ k hq)⟩
/-- A store into a block that is none of the body's. -/
theorem BO.far {P : Nat → Prop} {w : World} {g : Nat} {b : Bst} {k i : Nat} {u : Value} (h : BO P w g b) (hk : P k) (hg : k ≠ g) : BO P (w.setCell ⟨k, i, none⟩ u) g b := by
  obtain ⟨lv, dv, h⟩ := h
  exact ⟨lv, dv, (Below.heap_setCell _ _ _ _ (fun e => hg e.symm)).trans h.blk, ownsRow_setCell_other h.ln (fun e => h.lnP _ e hk) _, ownsRow_setCell_other h.dt (fun e => h.dtP _ e hk) _, fun i hi => le_set (h.lo i hi), h.ap, h.lnP, h.dtP⟩

section
variable {P : Nat → Prop} {w w' : World} {g : Nat} {c : Cst} {l : List UInt8} {wv lv fv bv : Value}
theorem CV.lt (h : CV P w g c l wv lv fv bv) : g < w.heap.size := blk_lt h.blk
theorem CV.neL (h : CV P w g c l wv lv fv bv) : lv.ownBlock ≠ some g := own_ne2 h.ln h.blk (by decide)
theorem CV.neF (h : CV P w g c l wv lv fv bv) : fv.ownBlock ≠ some g := own_ne2 h.fl h.blk (by decide)
theorem CV.neW (h : CV P w g c l wv lv fv bv) : wv.ownBlock ≠ some g := h.wt.ne h.blk (by decide)
theorem CV.below (h : CV P w g c l wv lv fv bv) (k : Below w.heap.size w w') : CV P w' g c l wv lv fv bv :=
  ⟨(k.block g h.lt).trans h.blk, h.wt.block (fun i hi => k.block i (h.wt.lt i hi)), own_below h.ln k, own_below h.fl k, fun i hi => Nat.lt_of_lt_of_le (h.lo i hi) k.size, h.ng, h.wtP, h.lnP, h.ap, h.nl, h.bn, fun d hd => by
    obtain ⟨gb, e, h1, h2⟩ := h.bs d hd
    exact ⟨gb, e, h1, h2.below k⟩⟩
theorem CO.below (h : CO P w g c l) (k : Below w.heap.size w w') : CO P w' g c l := by
  obtain ⟨wv, lv, fv, bv, h⟩ := h
  exact ⟨wv, lv, fv, bv, h.below k⟩
theorem CV.cell (h : CV P w g c l wv lv fv bv) (i : Nat) : w.cell? ⟨g, i, none⟩ = (ctCells c wv lv fv bv)[i]? := blk_cell h.blk i
theorem CV.free (h : CV P w g c l wv lv fv bv) (i : Nat) : w.frozen? ⟨g, i, none⟩ = false := blk_free h.blk i
theorem CV.gb_ne (h : CV P w g c l wv lv fv bv) {d : Bst} {gb : Nat} {Q : Nat → Prop} (hb : BO Q w gb d) : g ≠ gb := by
  obtain ⟨lv', dv', hb⟩ := hb
  intro e
  have h1 := h.blk
  rw [e, hb.blk] at h1
  injection h1 with h1
  injection h1 with _ ht
  cases ht

/-- The bytes that wait, anew: in the same block, or in a new one, or none. -/
theorem CV.setW {l' : List UInt8} {v : Value} (h : CV P w g c l wv lv fv bv) (hw : Wt w v l') (hb : v.ownBlock = wv.ownBlock) : CV P (w.setCell ⟨g, 0, none⟩ v) g c l' v lv fv bv := by
  refine ⟨by rw [set_same 0 h.blk]; rfl, hw.block fun k hk => Below.heap_setCell _ _ _ _ fun e => h.neW (by rw [← hb, hk, e]), ownsRow_setCell_other h.ln h.neL _, ownsRow_setCell_other h.fl h.neF _, fun i hi => le_set (h.lo i hi), h.ng, by rw [hb]; exact h.wtP, h.lnP, by rw [hb]; exact h.ap, h.nl, h.bn, fun d hd => ?_⟩
  obtain ⟨gb, e, h1, h2⟩ := h.bs d hd
  refine ⟨gb, e, h1, ?_⟩
  have h3 : BO (PB P g v fv) w gb d := by unfold PB; rw [hb]; exact h2
  exact h3.far (.inr (.inl rfl)) (h.gb_ne h2)
/-- Nothing but its own block is left: it is done. -/
theorem cv_stop {s : Int} (h : w.heap[g]? = some (.cells (ctCells (stopC s) (.slice none 0 0) (.slice none 0 0) (.slice none 0 0) (.pointer none)) 59 (0, 0))) (hl : ∀ k, P k → k < w.heap.size) (hg : ¬ P g) : CV P w g (stopC s) [] (.slice none 0 0) (.slice none 0 0) (.slice none 0 0) (.pointer none) :=
  ⟨h, wt_nil w, World.ownsRow_nil _ _ _ _, World.ownsRow_nil _ _ _ _, hl, hg, fun k hk => (by cases hk), fun k hk => (by cases hk), fun k hk => (by cases hk), fun _ => rfl, fun _ => rfl, fun d hd => (by simp [stopC] at hd)⟩
theorem CV.noLines (h : CV P w g c l wv lv fv bv) (hb : c.bd = none) : CV P (w.setCell ⟨g, 1, none⟩ (.slice none 0 0)) g ⟨[], c.rq, c.bd, c.done, c.status⟩ l wv (.slice none 0 0) fv bv :=
  ⟨by rw [set_same 1 h.blk]; rfl, h.wt.block fun k hk => Below.heap_setCell _ _ _ _ fun e => h.neW (by rw [hk, e]), World.ownsRow_nil _ _ _ _, ownsRow_setCell_other h.fl h.neF _, fun i hi => le_set (h.lo i hi), h.ng, h.wtP, fun k hk => (by cases hk), fun k _ hk => (by cases hk), fun _ => rfl, h.bn, fun d hd => by rw [hb] at hd; cases hd⟩
theorem CV.addL {w5 : World} {g2 cap : Nat} {b : UInt8} {v : Value} (h : CV P w g c l wv lv fv bv) (hbn : c.bd = none) (hv : v = .int .u8 (b.toNat : Int)) (hg : w.grownBy w5 lv.ownBlock) (hat : lv.ownBlock = some g2 ∨ g2 = w.heap.size)
    (ho : w5.ownsRow 0 5 1 (.slice (some ⟨g2, 0, none⟩) (c.lines.length + 1) cap) (c.lines.length + 1) (byteCells c.lines ++ [v])) :
    CV P (w5.setCell ⟨g, 1, none⟩ (.slice (some ⟨g2, 0, none⟩) (c.lines.length + 1) cap)) g ⟨c.lines ++ [b], c.rq, c.bd, c.done, c.status⟩ l wv (.slice (some ⟨g2, 0, none⟩) (c.lines.length + 1) cap) fv bv := by
  subst hv
  have e : w5.heap[g]? = _ := (hg.block g h.lt (fun e => h.neL e.symm)).trans h.blk
  have hne2 : g2 ≠ g := by
    intro e
    subst e
    rcases hat with h1 | h1
    · exact h.neL h1
    · have := h.lt; omega
  have hf : fv.ownBlock = none ∨ fv.ownBlock ≠ lv.ownBlock := by
    rcases h.ln.2 with ⟨rfl, _⟩ | ⟨g', cap', cur, rfl, _, hh, _⟩
    · cases fv.ownBlock <;> simp [Value.ownBlock]
    · exact .inr (own_ne2 h.fl hh (by decide))
  refine ⟨by rw [set_same 1 e]; rfl, ?_, ?_, ownsRow_setCell_other (h.fl.kept hg hf) h.neF _, fun i hi => le_set (Nat.lt_of_lt_of_le (h.lo i hi) hg.size), h.ng, h.wtP, ?_, ?_, fun h => ?_, h.bn, fun d hd => by rw [hbn] at hd; cases hd⟩
  · refine h.wt.block fun k hk => ?_
    rw [Below.heap_setCell _ _ _ _ (fun e => h.neW (by rw [hk, e]))]
    exact hg.block k (h.wt.lt k hk) (fun e => h.ap k hk e.symm)
  · refine ownsRow_setCell_other ?_ (by simpa [Value.ownBlock] using hne2) _
    simpa [byteCells] using ho
  · intro k hk hP
    have : g2 = k := by simpa [Value.ownBlock] using hk
    subst this
    rcases hat with h1 | h1
    · exact h.lnP _ h1 hP
    · have := h.lo _ hP; omega
  · intro k hk hk2
    have : g2 = k := by simpa [Value.ownBlock] using hk2
    subst this
    rcases hat with h1 | h1
    · exact h.ap _ hk h1
    · have := h.wt.lt _ hk; omega
  · simp at h
end

end Go.Proofs.YtkjlbddaglcooaaGreatDoor
