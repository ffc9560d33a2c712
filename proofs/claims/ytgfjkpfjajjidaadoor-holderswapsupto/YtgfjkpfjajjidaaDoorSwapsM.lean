/- The tables that HolderSwaps keeps, in memory. -/
import Derived.Test.YtgfjkpfjajjidaaDoorHoFit
import Derived.Test.YtgfjkpfjajjidaaDoorKeepsW
namespace Go.Proofs.YtgfjkpfjajjidaaDoor
open Go.RowKit Pl

/-- A table that was handed out, as it lies in a row. -/
structure SnR where
  v : Option Addr
  A : Option Addr
  n : Nat
  c : Nat
  k : Nat
  l : List Rt
def snV (x : SnR) : List Value := [.pointer x.v, .int .i64 x.k, .slice x.A x.n x.c]
def snCells (l : List SnR) : List Value := l.flatMap snV
theorem sn_cons (a : SnR) (l : List SnR) : snCells (a :: l) = snV a ++ snCells l := rfl
theorem sn_app (a b : List SnR) : snCells (a ++ b) = snCells a ++ snCells b := List.flatMap_append
theorem sn_len (l : List SnR) : (snCells l).length = l.length * 3 := by
  induction l with
  | nil => rfl
  | cons a l ih => rw [sn_cons, List.length_append, ih]; simp [snV]; omega
theorem sn_at : ∀ (l : List SnR) (i : Nat) (hi : i < l.length) (j : Nat), j < 3 → (snCells l)[i * 3 + j]? = (snV l[i])[j]?
  | a :: l, 0, _, j, hj => by
    rw [sn_cons, Nat.zero_mul, Nat.zero_add, List.getElem?_append_left (by simp [snV]; omega)]
    rfl
  | a :: l, i + 1, hi, j, hj => by
    have hl : (snV a).length = 3 := rfl
    rw [sn_cons, List.getElem?_append_right (by rw [hl]; omega), hl]
    have := sn_at l i (by simpa using hi) j hj
    rw [show (i + 1) * 3 + j - 3 = i * 3 + j by omega, this]
    rfl
theorem sn_one (l : List SnR) : ∀ u ∈ snCells l, u.oneCell' = true := by
  intro u hu
  obtain ⟨x, _, hx⟩ := List.mem_flatMap.1 hu
  simp only [snV, List.mem_cons, List.not_mem_nil, or_false] at hx
  rcases hx with rfl | rfl | rfl <;> rfl
theorem sn_in {w : World} {B n : Nat} {A : Option Addr} {l : List SnR} (h : Rd w B 3 A n (snCells l)) (hn : n = l.length) (k : Nat) (hk : k < l.length) : ∃ a : Addr, A = some a ∧ a.block < B ∧
    w.cell? (a.add (k * 3)) = some (.pointer l[k].v) ∧ w.cell? ⟨(a.add (k * 3)).block, (a.add (k * 3)).off + 1, none⟩ = some (.int .i64 l[k].k) ∧ w.cell? ⟨(a.add (k * 3)).block, (a.add (k * 3)).off + 2, none⟩ = some (.slice l[k].A l[k].n l[k].c) := by
  obtain ⟨a, e, hl, hc⟩ := h.2 (by omega)
  refine ⟨a, e, hl, hc (k * 3 + 0) _ (sn_at l k hk 0 (by decide)), ?_, ?_⟩
  · rw [add_off2 _ _ _ (by decide)]; exact hc (k * 3 + 1) _ (sn_at l k hk 1 (by decide))
  · rw [add_off2 _ _ _ (by decide)]; exact hc (k * 3 + 2) _ (sn_at l k hk 2 (by decide))
theorem Tryd.info49 : (Tryd.prog.info? 49).map (fun i => (i.zero, i.size, i.bytes)) = some (some (.agg #[.pointer none, .int .i64 0, .slice none 0 0]), 3, 40) := by kernel_rfl

/-- An append turns one block of the row's own type, and makes new ones. -/
theorem grown_split {w w' : World} {R : Nat} (hg : w.grownBy w' (some R)) (hR : R < w.heap.size) : ∃ W : World, (∀ j, j ≠ R → W.heap[j]? = w.heap[j]?) ∧ W.heap.size = w.heap.size ∧ Below W.heap.size W w' := by
  have hR' : R < w'.heap.size := Nat.lt_of_lt_of_le hR hg.size
  refine ⟨{ w with heap := w.heap.setIfInBounds R w'.heap[R] }, fun j hj => ?_, by simp, ⟨hg.os, hg.tape, hg.output, by simpa using hg.size, fun j hj => ?_⟩⟩
  · simp only [Array.getElem?_setIfInBounds]
    rw [if_neg (Ne.symm hj)]
  · simp only [Array.size_setIfInBounds] at hj
    simp only [Array.getElem?_setIfInBounds]
    by_cases e : R = j
    · subst e
      rw [if_pos rfl, if_pos hj, Array.getElem?_eq_getElem hR']
    · rw [if_neg e]
      exact hg.block j hj (fun h => e (Option.some.inj h).symm)
theorem own_cases {w : World} {base m : Nat} {sv : Value} {xs : List Value} (ho : w.ownsRow base 49 3 sv m xs) : sv.ownBlock = none ∨ ∃ R cs fr, sv.ownBlock = some R ∧ R < w.heap.size ∧ base ≤ R ∧ w.heap[R]? = some (.cells cs 49 fr) := by
  rcases ho.2 with ⟨h, _⟩ | ⟨g, cap, cur, h, hb, hh, _⟩
  · exact .inl (by rw [h]; rfl)
  · exact .inr ⟨g, cur, (0, 0), by rw [h]; rfl, blk_sz hh, hb, hh⟩
theorem grown_none {w w' : World} (hg : w.grownBy w' none) : Below w.heap.size w w' := ⟨hg.os, hg.tape, hg.output, hg.size, fun j hj => hg.block j hj (fun h => by cases h)⟩
theorem SnAt.grown {w w' : World} {G base m : Nat} {sv : Value} {xs : List Value} {v A : Option Addr} {n c : Nat} {l : List Rt} (h : SnAt w G v A n c l) (ho : w.ownsRow base 49 3 sv m xs) (hg : w.grownBy w' sv.ownBlock) : SnAt w' G v A n c l := by
  rcases own_cases ho with e | ⟨R, cs, fr, e, hR, _, hc⟩
  · rw [e] at hg; exact h.on (grown_none hg)
  · rw [e] at hg
    obtain ⟨W, hW, hs, hb⟩ := grown_split hg hR
    exact (h.far ⟨_, _, hc⟩ (by decide) (by decide) (by decide) (by decide) (by decide) (by decide) hW hs).on hb
theorem RdT.grown {w w' : World} {base m k n : Nat} {sv : Value} {xs ys : List Value} {e : TypeId} {A : Option Addr} (h : RdT w w.heap.size k e A n ys) (he : e ≠ 49) (ho : w.ownsRow base 49 3 sv m xs) (hg : w.grownBy w' sv.ownBlock) : RdT w' w'.heap.size k e A n ys := by
  rcases own_cases ho with e1 | ⟨R, cs, fr, e1, hR, _, hc⟩
  · rw [e1] at hg; exact (h.below (grown_none hg) (Nat.le_refl _)).wide (grown_none hg).size
  · rw [e1] at hg
    obtain ⟨W, hW, hs, hb⟩ := grown_split hg hR
    have h2 := h.far ⟨_, _, hc⟩ he hW
    rw [← hs] at h2
    exact (h2.below hb (Nat.le_refl _)).wide hb.size
theorem RdT.on {w w' : World} {k n : Nat} {ys : List Value} {e : TypeId} {A : Option Addr} (h : RdT w w.heap.size k e A n ys) (hb : Below w.heap.size w w') : RdT w' w'.heap.size k e A n ys := (h.below hb (Nat.le_refl _)).wide hb.size
theorem RdT.swp {w w' : World} {G m d k n : Nat} {q : Int} {ys : List Value} {e : TypeId} {A v' A' : Option Addr} (h : RdT w w.heap.size k e A n ys) (he : e ≠ 77) (hG : HoBk w G 77 v' A' m d q) (hs : Swp G w w') : RdT w' w'.heap.size k e A n ys := by
  obtain ⟨W, hb, rfl | ⟨u0, u1, u2, rfl⟩⟩ := hs
  · exact h.on hb
  · obtain ⟨r1, r2⟩ := rdt_put (h.on hb).1 (h.on hb).2 (hG.on hb) he u0 u1 u2
    exact ⟨r1, r2⟩
theorem HoBk.grown {w w' : World} {G base m n c : Nat} {k : Int} {sv : Value} {xs : List Value} {v A : Option Addr} (h : HoBk w G 77 v A n c k) (ho : w.ownsRow base 49 3 sv m xs) (hg : w.grownBy w' sv.ownBlock) : HoBk w' G 77 v A n c k := by
  refine (hg.block G h.lt fun e => ?_).trans h
  rcases own_cases ho with e1 | ⟨R, cs, fr, e1, hR, _, hc⟩
  · rw [e1] at e; cases e
  · rw [e1] at e; cases e
    unfold HoBk at h
    rw [hc] at h; cases h
/-- A table of which a new holder makes the same. -/
def Lc (l : List Rt) : Prop := checkL l = 0 ∧ ∀ r ∈ l, r.p.length ≤ 10000
theorem Lc.law {l : List Rt} (h : Lc l) : Law l := law_check h.1 h.2
theorem Lc.new {l : List Rt} (h : Lc l) : newL l = l := if_pos h.1
theorem Lc.swap {l : List Rt} (h : Lc l) (s : List UInt8) (hs : s.length ≤ 10000) : Lc (swapL s l) := by
  unfold swapL
  split
  · next h0 =>
    rcases parse_check s with ⟨_, h2⟩ | ⟨h2, _⟩
    · exact ⟨h2, fun r hr => by have := ((parse_small s).2 r hr).2.1; omega⟩
    · rw [h2]; exact ⟨by decide +kernel, fun _ h => by cases h⟩
  · exact h
theorem own_swp {w w' : World} {G base k n : Nat} {e : TypeId} {v : Value} {xs : List Value} (h : w.ownsRow base e k v n xs) (hG : G < base) (hs : Swp G w w') : w'.ownsRow base e k v n xs := by
  obtain ⟨W, hb, rfl | ⟨u0, u1, u2, rfl⟩⟩ := hs
  · exact own_below h hb
  · exact put3_own (own_below h hb) hG u0 u1 u2

/-- What stands between two texts: the holder, and the tables that it handed out. -/
structure Inv (w : World) (G base m : Nat) (L : List Rt) (sv : Value) (os : List SnR) : Prop where
  ho : ∃ v A c, HoAt w G v A L.length c L m
  lc : Lc L
  row : w.ownsRow base 49 3 sv os.length (snCells os)
  sns : ∀ x ∈ os, SnAt w G x.v x.A x.n x.c x.l ∧ Lc x.l ∧ x.k ≤ m
  ver : ∀ i (h : i + 1 < os.length), os[i].k ≤ os[i + 1].k
theorem Inv.on {w w' : World} {G base m : Nat} {L : List Rt} {sv : Value} {os : List SnR} (h : Inv w G base m L sv os) (hb : Below w.heap.size w w') : Inv w' G base m L sv os := by
  obtain ⟨v, A, c, hh⟩ := h.ho
  exact ⟨⟨v, A, c, hh.on hb⟩, h.lc, own_below h.row hb, fun x hx => ⟨(h.sns x hx).1.on hb, (h.sns x hx).2⟩, h.ver⟩
/-- One table more. -/
theorem Inv.push {w w' : World} {G base m : Nat} {L : List Rt} {sv sv' : Value} {os : List SnR} (h : Inv w G base m L sv os) (x : SnR) (hx : SnAt w G x.v x.A x.n x.c x.l) (hl : Lc x.l) (hm : x.k = m)
    (ho : w'.ownsRow base 49 3 sv' (os.length + 1) (snCells os ++ snV x)) (hg : w.grownBy w' sv.ownBlock) : Inv w' G base m L sv' (os ++ [x]) := by
  obtain ⟨v, A, c, hh⟩ := h.ho
  refine ⟨⟨v, A, c, hh.bk.grown h.row hg, hh.sn.grown h.row hg⟩, h.lc, ?_, fun y hy => ?_, fun i hi => ?_⟩
  · rw [List.length_append, sn_app]
    have e : snCells [x] = snV x := by simp [snCells]
    rw [e]
    exact ho
  · rcases List.mem_append.1 hy with hy | hy
    · exact ⟨(h.sns y hy).1.grown h.row hg, (h.sns y hy).2⟩
    · simp at hy; subst hy
      exact ⟨hx.grown h.row hg, hl, by omega⟩
  · rw [List.length_append] at hi
    simp only [List.length_cons, List.length_nil, Nat.zero_add] at hi
    by_cases e : i + 1 < os.length
    · rw [List.getElem_append_left (by omega), List.getElem_append_left e]
      exact h.ver i e
    · have e2 : i + 1 = os.length := by omega
      rw [List.getElem_append_left (by omega), List.getElem_append_right (by omega)]
      have := (h.sns os[i] (List.getElem_mem _)).2.2
      simp only [List.getElem_singleton]
      omega
theorem Inv.swp {w w' : World} {G base m m' : Nat} {L L' : List Rt} {sv : Value} {os : List SnR} (h : Inv w G base m L sv os) (hG : G < base) (hs : Swp G w w') (hh : ∃ v A c, HoAt w' G v A L'.length c L' m') (hl : Lc L') (hm : m ≤ m') : Inv w' G base m' L' sv os := by
  obtain ⟨v, A, c, h0⟩ := h.ho
  exact ⟨hh, hl, own_swp h.row hG hs, fun x hx => ⟨(h.sns x hx).1.swp h0.bk hs, (h.sns x hx).2.1, Nat.le_trans (h.sns x hx).2.2 hm⟩, h.ver⟩
end Go.Proofs.YtgfjkpfjajjidaaDoor
