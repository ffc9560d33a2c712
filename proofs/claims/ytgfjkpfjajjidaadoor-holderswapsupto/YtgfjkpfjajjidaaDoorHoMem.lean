/- A holder, and a table that it handed out, in memory. -/
import Derived.Test.YtgfjkpfjajjidaaDoorHoPlain
import Derived.Test.YtgfjkpfjajjidaaDoorMatchesW
namespace Go.Proofs.YtgfjkpfjajjidaaDoor
open Go.RowKit Pl

/-- A table as it was handed out: its tree does not lie in the holder's block. -/
structure SnAt (w : World) (G : Nat) (v A : Option Addr) (n c : Nat) (l : List Rt) : Prop where
  tr : Tr w w.heap.size v l
  ne : ∀ a, v = some a → a.block ≠ G
  rd : Rd w w.heap.size 3 A n (rtCells l)
  len : n = l.length
  cap : n ≤ c
  ty : ∀ a, v = some a → ∃ cs fr, w.heap[a.block]? = some (.cells cs 60 fr)
  tr2 : Ty w 31 A n
theorem blk_sz {W : World} {M : Nat} {o : Obj} (h : W.heap[M]? = some o) : M < W.heap.size := (Array.getElem?_eq_some_iff.1 h).1
theorem SnAt.on {w w' : World} {G : Nat} {v A : Option Addr} {n c : Nat} {l : List Rt} (h : SnAt w G v A n c l) (hb : Below w.heap.size w w') : SnAt w' G v A n c l :=
  ⟨h.tr.on hb, h.ne, (h.rd.below hb (Nat.le_refl _)).wide hb.size, h.len, h.cap, fun a e => by
    obtain ⟨cs, fr, h1⟩ := h.ty a e
    exact ⟨cs, fr, (hb.block _ (blk_sz h1)).trans h1⟩, fun h0 a e => by
    obtain ⟨cs, fr, h1⟩ := h.tr2 h0 a e
    exact ⟨cs, fr, (hb.block _ (blk_sz h1)).trans h1⟩⟩
/-- What is turned in a block of another type turns no table that was handed out. -/
theorem SnAt.far {w W : World} {G R : Nat} {t : TypeId} {v A : Option Addr} {n c : Nat} {l : List Rt} (h : SnAt w G v A n c l) (hR : ∃ cs fr, w.heap[R]? = some (.cells cs t fr)) (h9 : 9 ≠ t) (h67 : 67 ≠ t) (h88 : 88 ≠ t) (h107 : 107 ≠ t) (h60 : 60 ≠ t) (h31 : 31 ≠ t)
    (hW : ∀ j, j ≠ R → W.heap[j]? = w.heap[j]?) (hs : W.heap.size = w.heap.size) : SnAt W G v A n c l := by
  have hr := RdT.far ⟨h.rd, h.tr2⟩ hR h31 hW
  have hv : ∀ a, v = some a → a.block ≠ R := fun a e hb => by
    obtain ⟨cs, fr, h1⟩ := h.ty a e
    obtain ⟨cs', fr', h2⟩ := hR
    rw [hb, h2] at h1
    cases h1
    exact h60 rfl
  refine ⟨?_, h.ne, by rw [hs]; exact hr.1, h.len, h.cap, fun a e => ?_, hr.2⟩
  · rcases h.tr with ⟨h1, h2⟩ | ⟨g, rv, e, hg, c0, c1, hn⟩
    · exact .inl ⟨h1, h2⟩
    · have hb := hW g (hv _ e)
      refine .inr ⟨g, rv, e, by rw [hs]; exact hg, (World.cell?_of_block (a := ⟨g, 0, none⟩) hb).trans c0, (World.cell?_of_block (a := ⟨g, 1, none⟩) hb).trans c1, ?_⟩
      rw [hs]
      exact hn.far hR h9 h67 h88 h107 hW
  · obtain ⟨cs, fr, h1⟩ := h.ty a e
    exact ⟨cs, fr, (hW _ (hv a e)).trans h1⟩
/-- A block of a pointer, a number and a list; T is 77: a holder's own block. -/
def HoBk (w : World) (G : Nat) (T : TypeId) (v A : Option Addr) (n c : Nat) (k : Int) : Prop := w.heap[G]? = some (.cells #[.pointer v, .int .i64 k, .slice A n c] T (0, 0))
theorem HoBk.lt {w : World} {G : Nat} {T : TypeId} {v A : Option Addr} {n c : Nat} {k : Int} (h : HoBk w G T v A n c k) : G < w.heap.size := (Array.getElem?_eq_some_iff.1 h).1
theorem HoBk.on {w w' : World} {G : Nat} {T : TypeId} {v A : Option Addr} {n c : Nat} {k : Int} (h : HoBk w G T v A n c k) (hb : Below w.heap.size w w') : HoBk w' G T v A n c k := (hb.block G h.lt).trans h
structure HoAt (w : World) (G : Nat) (v A : Option Addr) (n c : Nat) (l : List Rt) (k : Nat) : Prop where
  bk : HoBk w G 77 v A n c k
  sn : SnAt w G v A n c l
theorem HoAt.on {w w' : World} {G : Nat} {v A : Option Addr} {n c : Nat} {l : List Rt} {k : Nat} (h : HoAt w G v A n c l k) (hb : Below w.heap.size w w') : HoAt w' G v A n c l k := ⟨h.bk.on hb, h.sn.on hb⟩
/-- Routes do not lie in a holder's block. -/
theorem rt_far {w : World} {B n m c G : Nat} {T : TypeId} {k : Int} {A v X : Option Addr} {l : List Rt} (h : Rd w B 3 A n (rtCells l)) (hn : n = l.length) (hG : HoBk w G T v X m c k) : n ≠ 0 → ∀ a, A = some a → a.block ≠ G := by
  intro h0 a ha hb
  obtain ⟨a', e, _, h2⟩ := h.2 h0
  rw [ha] at e; cases e
  match l, hn with
  | [], hn => exact h0 hn
  | r :: l, _ =>
    have c0 := h2 0 (.string (mkB r.m)) rfl
    obtain ⟨b, o, sp⟩ := a
    simp only at hb
    subst hb
    have hsp := World.cell?_spot c0
    simp [Addr.add] at hsp
    subst hsp
    rw [show (⟨b, o, none⟩ : Addr).add 0 = ⟨b, o, none⟩ from rfl, Lib.cell_of_heap hG] at c0
    match o with
    | 0 => simp at c0
    | 1 => simp at c0
    | 2 => simp at c0
    | o + 3 => simp at c0
theorem put3_oth {W : World} {G : Nat} {u0 u1 u2 : Value} : ∀ j, j ≠ G → (put3 W G u0 u1 u2).heap[j]? = W.heap[j]? := fun j hj => by
  unfold put3
  rw [heap_setCell_other _ _ j u2 hj, heap_setCell_other _ _ j u1 hj, heap_setCell_other _ _ j u0 hj]
theorem put3_size {W : World} {G : Nat} {u0 u1 u2 : Value} : (put3 W G u0 u1 u2).heap.size = W.heap.size := by simp [put3, World.setCell]
theorem tr_put {W : World} {G : Nat} {T : TypeId} {v v' A' : Option Addr} {m d : Nat} {k : Int} {l : List Rt} (h : Tr W W.heap.size v l) (hne : ∀ a, v = some a → a.block ≠ G) (hG : HoBk W G T v' A' m d k) (h9 : 9 ≠ T) (h67 : 67 ≠ T) (h88 : 88 ≠ T) (h107 : 107 ≠ T) (u0 u1 u2 : Value) : Tr (put3 W G u0 u1 u2) (put3 W G u0 u1 u2).heap.size v l := by
  rcases h with ⟨h1, h2⟩ | ⟨g, rv, e, hg, c0, c1, hn⟩
  · exact .inl ⟨h1, h2⟩
  · have hne := hne _ e
    refine .inr ⟨g, rv, e, by rw [put3_size]; exact hg, (put3_cell ⟨g, 0, none⟩ hne u0 u1 u2).trans c0, (put3_cell ⟨g, 1, none⟩ hne u0 u1 u2).trans c1, ?_⟩
    rw [put3_size]
    exact hn.far ⟨_, _, hG⟩ h9 h67 h88 h107 put3_oth
theorem rd_put {W : World} {G : Nat} {T : TypeId} {A v' A' : Option Addr} {n m d : Nat} {k : Int} {l : List Rt} (h : Rd W W.heap.size 3 A n (rtCells l)) (hn : n = l.length) (hG : HoBk W G T v' A' m d k) (u0 u1 u2 : Value) : Rd (put3 W G u0 u1 u2) (put3 W G u0 u1 u2).heap.size 3 A n (rtCells l) := by
  rw [put3_size]
  refine ⟨h.1, fun h0 => ?_⟩
  obtain ⟨a, e, hb, hc⟩ := h.2 h0
  exact ⟨a, e, hb, fun j u hu => (put3_cell _ (by rw [add_block]; exact rt_far h hn hG h0 a e) u0 u1 u2).trans (hc j u hu)⟩
/-- A store into the holder turns no table that was handed out. -/
theorem SnAt.put {W : World} {G : Nat} {T : TypeId} {v A v' A' : Option Addr} {n c m d : Nat} {k : Int} {l : List Rt} (h : SnAt W G v A n c l) (hG : HoBk W G T v' A' m d k) (h9 : 9 ≠ T) (h67 : 67 ≠ T) (h88 : 88 ≠ T) (h107 : 107 ≠ T) (h60 : 60 ≠ T) (h31 : 31 ≠ T) (u0 u1 u2 : Value) : SnAt (put3 W G u0 u1 u2) G v A n c l :=
  h.far ⟨_, _, hG⟩ h9 h67 h88 h107 h60 h31 put3_oth put3_size
/-- What a Swap turns: the holder's block, and what it makes itself. -/
def Swp (G : Nat) (w w' : World) : Prop := ∃ W, Below w.heap.size w W ∧ (w' = W ∨ ∃ u0 u1 u2, w' = put3 W G u0 u1 u2)
theorem Swp.below {G : Nat} {w w' : World} (h : Swp G w w') {B : Nat} (hB : B ≤ w.heap.size) (hG : B ≤ G) : Below B w w' := by
  obtain ⟨W, hb, rfl | ⟨u0, u1, u2, rfl⟩⟩ := h
  · exact hb.mono hB
  · exact put3_below (hb.mono hB) hG _ _ _
theorem SnAt.swp {w w' : World} {G : Nat} {v A v' A' : Option Addr} {n c m d : Nat} {k : Int} {l : List Rt} (h : SnAt w G v A n c l) (hG : HoBk w G 77 v' A' m d k) (hs : Swp G w w') : SnAt w' G v A n c l := by
  obtain ⟨W, hb, rfl | ⟨u0, u1, u2, rfl⟩⟩ := hs
  · exact h.on hb
  · exact (h.on hb).put (hG.on hb) (by decide) (by decide) (by decide) (by decide) (by decide) (by decide) u0 u1 u2
theorem Swp.size {G : Nat} {w w' : World} (h : Swp G w w') : w.heap.size ≤ w'.heap.size := by
  obtain ⟨W, hb, rfl | ⟨u0, u1, u2, rfl⟩⟩ := h
  · exact hb.size
  · rw [put3_size]; exact hb.size
/-- Cells of a block that is none of the holder's. -/
theorem Swp.cell {G : Nat} {w w' : World} (h : Swp G w w') {p : Addr} (hp : p.block < w.heap.size) (hG : p.block ≠ G) : w'.cell? p = w.cell? p := by
  obtain ⟨W, hb, rfl | ⟨u0, u1, u2, rfl⟩⟩ := h
  · exact hb.cell hp
  · exact (put3_cell p hG u0 u1 u2).trans (hb.cell hp)
theorem Swp.block {G : Nat} {w w' : World} (h : Swp G w w') {j : Nat} (hp : j < w.heap.size) (hG : j ≠ G) : w'.heap[j]? = w.heap[j]? := by
  obtain ⟨W, hb, rfl | ⟨u0, u1, u2, rfl⟩⟩ := h
  · exact hb.block j hp
  · exact (put3_oth j hG).trans (hb.block j hp)
end Go.Proofs.YtgfjkpfjajjidaaDoor
