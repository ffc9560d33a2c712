/- The contract of the laws' own helper cut: a text's requests, fed in parts. -/
import Derived.Test.YtkjlbddaglcooaaDoorCtAll
namespace Go.Proofs.YtkjlbddaglcooaaDoor
open Go.RowKit Pl
open Go.Lib (byteCells)

/-- What has been cut is not touched any more. -/
structure PR (w : World) (P : Nat → Prop) (v : Value) (acc : List (Rq × Value)) : Prop where
  low : ∀ k, k < w.heap.size → P k
  row : ∀ k, v.ownBlock = some k → P k
  fld : ∀ p ∈ acc, ∀ k, p.2.ownBlock = some k → P k
theorem RQ.fr {P : Nat → Prop} {w w1 w2 : World} {g : Nat} {v : Value} {acc : List (Rq × Value)} (h : RQ w1 v acc) (hp : PR w P v acc) (hf : Fr P g w1 w2) (hg : ¬ P g) : RQ w2 v acc :=
  ⟨kept_block h.row fun k hk => hf.block k (hp.row k hk) (fun e => hg (e ▸ hp.row k hk)), fun p hq => kept_block (h.fld p hq) fun k hk => hf.block k (hp.fld p hq k hk) (fun e => hg (e ▸ hp.fld p hq k hk))⟩

theorem run_next {c : Cst} {l : List UInt8} (hok : Okc c) (N : Option Rq × Cst × List UInt8) (hN : nextC c l = N) (rest : List UInt8) :
    Okc N.2.1 ∧ (N.2.1.done = true → N.2.2 = []) ∧
    (N.1.isSome = true → runC c (l ++ rest) = ((runC N.2.1 (N.2.2 ++ rest)).1, N.1.getD nilRq :: (runC N.2.1 (N.2.2 ++ rest)).2) ∧ N.2.1.lines = [] ∧ N.2.1.bd = none) ∧
    (N.1.isSome = false → N.2.2 = [] ∧ runC c (l ++ rest) = runC N.2.1 rest) ∧ N.2.2.length + (if N.1.isSome then 1 else 0) ≤ l.length := by
  obtain ⟨k1, k2, k3, k4, k5⟩ := nexted_facts hok hN
  refine ⟨k1, k2, fun hs => ?_, fun hs => ?_, k5⟩
  · obtain ⟨m1, m2, m3⟩ := k3 hs
    refine ⟨?_, m2, m3⟩
    rw [runC_app, m1, runC_app]
    simp
  · have h1 := k4 hs
    refine ⟨?_, by rw [runC_app, h1]; simp⟩
    subst hN
    rcases hx : nextC c l with ⟨o, c1, r⟩
    rw [hx] at hs
    cases o with
    | none => exact (next_none l c1 r hx).2
    | some r => cases hs

/-- Where the inner loop stands. -/
structure CS (w : World) (g : Nat) (n : Nat) (R : Cst × List Rq) (rest : List UInt8) (v5 : Value) (rb : Nat) (ok : Bool) (W : World) (acc : List (Rq × Value)) (o : Rq) (fv : Value) (c1 : Cst) (l1 : List UInt8) : Prop where
  req : RQ W v5 acc
  blk : W.heap[rb]? = some (.cells #[.string o.m, .string o.t, fv, .string o.body, .bool o.close] 33 (0, 0))
  fl : W.ownsRow 0 49 2 fv o.fs.length (fldCells o.fs)
  ap : v5.ownBlock ≠ some rb
  co : ∃ P, CO P W g c1 l1 ∧ PR w P v5 acc
  okc : Okc c1
  dl : c1.done = true → l1 = []
  bel : Below w.heap.size w W
  rlo : w.heap.size ≤ rb
  vlo : ∀ k, v5.ownBlock = some k → w.heap.size ≤ k
  more : ok = true → R = ((runC c1 (l1 ++ rest)).1, acc.map Prod.fst ++ o :: (runC c1 (l1 ++ rest)).2) ∧ c1.lines = [] ∧ c1.bd = none
  last : ok = false → l1 = [] ∧ R = ((runC c1 rest).1, acc.map Prod.fst ++ (runC c1 rest).2)
  len : acc.length + (l1.length + rest.length) + (if ok then 1 else 0) ≤ n

/-- Next may be called. -/
structure CN (w : World) (g : Nat) (n : Nat) (R : Cst × List Rq) (rest : List UInt8) (v5 : Value) (W : World) (acc : List (Rq × Value)) (c1 : Cst) (l1 : List UInt8) (P : Nat → Prop) : Prop where
  req : RQ W v5 acc
  co : CO P W g c1 l1
  pr : PR w P v5 acc
  okc : Okc c1
  dl : c1.done = true → l1 = []
  bel : Below w.heap.size w W
  vlo : ∀ k, v5.ownBlock = some k → w.heap.size ≤ k
  more : R = ((runC c1 (l1 ++ rest)).1, acc.map Prod.fst ++ (runC c1 (l1 ++ rest)).2)
  len : acc.length + (l1.length + rest.length) ≤ n
theorem CN.ng {w : World} {g n : Nat} {R : Cst × List Rq} {rest : List UInt8} {v5 : Value} {W : World} {acc : List (Rq × Value)} {c1 : Cst} {l1 : List UInt8} {P : Nat → Prop} (h : CN w g n R rest v5 W acc c1 l1 P) : ¬ P g := by
  obtain ⟨wv, lv, fv, bv, hv⟩ := h.co
  exact hv.ng
theorem CN.call {w : World} {g n : Nat} {R : Cst × List Rq} {rest : List UInt8} {v5 : Value} {W : World} {acc : List (Rq × Value)} {c1 : Cst} {l1 : List UInt8} {P : Nat → Prop} (h : CN w g n R rest v5 W acc c1 l1 P) (hm : MX w) :
    Calls Tryd.prog 18 #[.pointer (some ⟨g, 0, none⟩)] W fun e w' => Nexted P W g (nextC c1 l1) e w' :=
  cnext_any h.co h.okc h.dl (hm.below h.bel) (h.pr.low 0 hm.lt) _ (Lib.hid rfl)

theorem CS.next {w : World} {g n : Nat} {R : Cst × List Rq} {rest : List UInt8} {v5 v5' : Value} {rb : Nat} {W w5 : World} {acc : List (Rq × Value)} {o : Rq} {fv : Value} {c1 : Cst} {l1 : List UInt8} {cs0 : Array Value} {x0 x1 x2 x3 x4 : Value} {g2 cap2 : Nat} (h : CS w g n R rest v5 rb true W acc o fv c1 l1)
    (hown : w5.ownsRow 0 33 5 v5' (acc.length + 1) (rqCells acc ++ [.string o.m, .string o.t, fv, .string o.body, .bool o.close])) (hgr : (W.alloc (.cells cs0 33)).grownBy w5 v5.ownBlock) (hv5 : v5' = .slice (some ⟨g2, 0, none⟩) (acc.length + 1) cap2) (hat : v5.ownBlock = some g2 ∨ g2 = (W.alloc (.cells cs0 33)).heap.size) :
    v5'.ownBlock ≠ some w5.heap.size ∧ w.heap.size ≤ w5.heap.size ∧ ∃ P, P w5.heap.size ∧ CN w g n R rest v5' (w5.alloc (.cells #[x0, x1, x2, x3, x4] 33)) (acc ++ [(o, fv)]) c1 l1 P := by
  have hb1 : Below W.heap.size W (W.alloc (.cells cs0 33)) := (Below.refl _ _).alloc (Nat.le_refl _) _
  have hb6 : Below w5.heap.size w5 (w5.alloc (.cells #[x0, x1, x2, x3, x4] 33)) := (Below.refl _ _).alloc (Nat.le_refl _) _
  have ho5 : O33 W w5 := (O33.below hb1).trans (O33.grown hgr fun k hk => by
    rcases (own_below h.req.row hb1).2 with ⟨e, _⟩ | ⟨g', cap', cur, e, _, hh, _⟩
    · rw [e] at hk; cases hk
    · rw [e] at hk
      have : g' = k := by simpa [Value.ownBlock] using hk
      subst this
      exact ⟨_, _, hh⟩)
  have ho6 := ho5.trans (O33.below hb6)
  obtain ⟨hR, hl, hbd⟩ := h.more rfl
  obtain ⟨P0, hco0, hpr0⟩ := h.co
  obtain ⟨wv, lv, fv1, bv, hv⟩ := hco0.o33 ho6
  have hWs : W.heap.size ≤ w5.heap.size := ho5.size
  have hwsz : w.heap.size ≤ W.heap.size := h.bel.size
  have hb5 : Below w.heap.size w w5 := (h.bel.trans (hb1.mono hwsz)).grown hgr (Nat.le_trans hwsz hb1.size) (fun k hk => h.vlo k hk)
  have hg2 : g2 < w5.heap.size := (hown.lt g2 (by rw [hv5]; rfl)).2
  have hrow6 := own_below hown hb6
  have hsz6 : (w5.alloc (.cells #[x0, x1, x2, x3, x4] 33)).heap.size = w5.heap.size + 1 := by simp
  have hfl6 : ∀ p ∈ acc ++ [(o, fv)], (w5.alloc (.cells #[x0, x1, x2, x3, x4] 33)).ownsRow 0 49 2 p.2 p.1.fs.length (fldCells p.1.fs) := fun p hp => by
    rw [List.mem_append, List.mem_singleton] at hp
    rcases hp with hp | rfl
    · exact own_o33 (h.req.fld p hp) ho6 (by decide)
    · exact own_o33 h.fl ho6 (by decide)
  have typed : ∀ {k nn : Nat} {e : TypeId} {v : Value} {xs : List Value}, (w5.alloc (.cells #[x0, x1, x2, x3, x4] 33)).ownsRow 0 e k v nn xs → (e = 33 ∨ e = 49) → ∀ i, v.ownBlock = some i → i < (w5.alloc (.cells #[x0, x1, x2, x3, x4] 33)).heap.size ∧ i ≠ g ∧ wv.ownBlock ≠ some i := fun {k nn e v xs} hr he i hi => by
    rcases hr.2 with ⟨ev, _⟩ | ⟨g', cap', cur, ev, _, hh, _⟩
    · rw [ev] at hi; cases hi
    · rw [ev] at hi
      have : g' = i := by simpa [Value.ownBlock] using hi
      subst this
      refine ⟨blk_lt hh, fun e2 => ?_, ?_⟩
      · have h1 := hv.blk
        rw [← e2, hh] at h1
        injection h1 with h1
        injection h1 with _ ht
        rcases he with rfl | rfl <;> cases ht
      · rcases he with rfl | rfl
        · exact hv.wt.ne hh (by decide)
        · exact hv.wt.ne hh (by decide)
  have hvg : v5'.ownBlock ≠ some w5.heap.size := by
    rw [hv5]
    intro e
    have : g2 = w5.heap.size := by simpa [Value.ownBlock] using e
    omega
  refine ⟨hvg, hb5.size, fun k => k < (w5.alloc (.cells #[x0, x1, x2, x3, x4] 33)).heap.size ∧ k ≠ g ∧ wv.ownBlock ≠ some k, ⟨by omega, fun e => ?_, hv.wt.ne (heap_alloc_new w5 _) (by decide)⟩, ⟨by rw [List.length_append, rqCells_snoc]; exact hrow6, hfl6⟩, ⟨wv, lv, fv1, bv, hv.loose hl hbd fun k hk => hk⟩, ⟨fun k hk => ?_, typed hrow6 (.inl rfl), fun p hp => typed (hfl6 p hp) (.inr rfl)⟩, h.okc, h.dl, hb5.trans (hb6.mono hb5.size), fun k hk => ?_, ?_, ?_⟩
  · have h1 := hv.blk
    rw [← e] at h1
    have h2 := heap_alloc_new w5 (.cells #[x0, x1, x2, x3, x4] 33)
    rw [h2] at h1
    injection h1 with h1
    injection h1 with _ ht
    cases ht
  · have hP := hpr0.low k hk
    refine ⟨by omega, fun e => hv.ng (e ▸ hP), fun e => hv.wtP k e hP⟩
  · rw [hv5] at hk
    have : g2 = k := by simpa [Value.ownBlock] using hk
    subst this
    rcases hat with h1 | h1
    · exact h.vlo _ h1
    · rw [h1]; exact Nat.le_trans hwsz hb1.size
  · rw [hR]; simp
  · have := h.len
    simp at this ⊢
    omega

/-- Behind Next, its answer in block rb (which it did not touch). -/
theorem CN.done {w : World} {g n : Nat} {R : Cst × List Rq} {rest : List UInt8} {v5 : Value} {rb : Nat} {W w7 : World} {acc : List (Rq × Value)} {c1 : Cst} {l1 : List UInt8} {P : Nat → Prop} {fv : Value} {N : Option Rq × Cst × List UInt8} {x0 x1 x2 x3 x4 : Value} (h : CN w g n R rest v5 W acc c1 l1 P) (hN : nextC c1 l1 = N) (hrl : w.heap.size ≤ rb) (hap : v5.ownBlock ≠ some rb)
    (hrow : w7.ownsRow 0 49 2 fv (N.1.getD nilRq).fs.length (fldCells (N.1.getD nilRq).fs)) (ho : CO P w7 g N.2.1 N.2.2) (hf : Fr P g W w7) (hrb : w7.heap[rb]? = some (.cells #[x0, x1, x2, x3, x4] 33 (0, 0))) :
    CS w g n R rest v5 rb N.1.isSome (put5 w7 rb (.string (N.1.getD nilRq).m) (.string (N.1.getD nilRq).t) fv (.string (N.1.getD nilRq).body) (.bool (N.1.getD nilRq).close)) acc (N.1.getD nilRq) fv N.2.1 N.2.2 := by
  obtain ⟨k1, k2, k3, k4, k5⟩ := run_next h.okc N hN rest
  have hrq := h.req.fr h.pr hf h.ng
  have hbel7 : Below w.heap.size w w7 := h.bel.trans (hf.low fun k hk => ⟨h.pr.low k hk, fun e => h.ng (e ▸ h.pr.low k hk)⟩)
  have ho5 : O33 w7 (put5 w7 rb (.string (N.1.getD nilRq).m) (.string (N.1.getD nilRq).t) fv (.string (N.1.getD nilRq).body) (.bool (N.1.getD nilRq).close)) := O33.put5 hrb _ _ _ _ _
  refine ⟨⟨put5_own hrq.row hap _ _ _ _ _, fun p hp => own_o33 (hrq.fld p hp) ho5 (by decide)⟩, put5_blk hrb _ _ _ _ _, own_o33 hrow ho5 (by decide), hap, ⟨P, ho.o33 ho5, h.pr⟩, k1, k2, put5_lo hbel7 hrl _ _ _ _ _, hrl, h.vlo, fun hs => ?_, fun hs => ?_, ?_⟩
  · obtain ⟨m1, m2, m3⟩ := k3 hs
    exact ⟨by rw [h.more, m1], m2, m3⟩
  · obtain ⟨m1, m2⟩ := k4 hs
    exact ⟨m1, by rw [h.more, m2]⟩
  · have := h.len; omega
/-- The same where its answer comes into a new block. -/
theorem CN.doneNew {w : World} {g n : Nat} {R : Cst × List Rq} {rest : List UInt8} {v5 : Value} {W w7 : World} {acc : List (Rq × Value)} {c1 : Cst} {l1 : List UInt8} {P : Nat → Prop} {fv : Value} {N : Option Rq × Cst × List UInt8} (h : CN w g n R rest v5 W acc c1 l1 P) (hN : nextC c1 l1 = N)
    (hrow : w7.ownsRow 0 49 2 fv (N.1.getD nilRq).fs.length (fldCells (N.1.getD nilRq).fs)) (ho : CO P w7 g N.2.1 N.2.2) (hf : Fr P g W w7) :
    CS w g n R rest v5 w7.heap.size N.1.isSome (w7.alloc (.cells #[.string (N.1.getD nilRq).m, .string (N.1.getD nilRq).t, fv, .string (N.1.getD nilRq).body, .bool (N.1.getD nilRq).close] 33)) acc (N.1.getD nilRq) fv N.2.1 N.2.2 := by
  obtain ⟨k1, k2, k3, k4, k5⟩ := run_next h.okc N hN rest
  have hrq := h.req.fr h.pr hf h.ng
  have hbel7 : Below w.heap.size w w7 := h.bel.trans (hf.low fun k hk => ⟨h.pr.low k hk, fun e => h.ng (e ▸ h.pr.low k hk)⟩)
  have hb8 : Below w7.heap.size w7 (w7.alloc (.cells #[.string (N.1.getD nilRq).m, .string (N.1.getD nilRq).t, fv, .string (N.1.getD nilRq).body, .bool (N.1.getD nilRq).close] 33)) := (Below.refl _ _).alloc (Nat.le_refl _) _
  refine ⟨hrq.below hb8, heap_alloc_new w7 _, own_below hrow hb8, fun e => ?_, ⟨P, ho.below hb8, h.pr⟩, k1, k2, hbel7.trans (hb8.mono hbel7.size), hbel7.size, h.vlo, fun hs => ?_, fun hs => ?_, ?_⟩
  · have := (hrq.row.lt _ e).2; omega
  · obtain ⟨m1, m2, m3⟩ := k3 hs
    exact ⟨by rw [h.more, m1], m2, m3⟩
  · obtain ⟨m1, m2⟩ := k4 hs
    exact ⟨m1, by rw [h.more, m2]⟩
  · have := h.len; omega

theorem cfeed_done {P : Nat → Prop} {w : World} {g : Nat} {c : Cst} {l : List UInt8} (h : CO P w g c l) (hd : c.done = true) (s : ByteArray) : Calls Tryd.prog 19 #[.pointer (some ⟨g, 0, none⟩), .string s] w fun e w' => e = .returned (.tuple #[]) ∧ w = w' := by
  obtain ⟨wv, lv, fv, bv, h⟩ := h
  have c8 := h.cell 8
  simp [ctCells, hd] at c8
  have H := Lib.hid h
  clear h hd
  go_enter Tryd.func19, Tryd.ntmps19
  go_wp2
  go_end0
  exact ⟨rfl, rfl⟩
/-- Feed, behind the inner loop. -/
theorem CS.feed {w : World} {g n : Nat} {R : Cst × List Rq} {rest : List UInt8} {v5 : Value} {rb : Nat} {W : World} {acc : List (Rq × Value)} {o : Rq} {fv : Value} {c1 : Cst} {l1 : List UInt8} (h : CS w g n R rest v5 rb false W acc o fv c1 l1) (s : ByteArray) (rest2 : List UInt8) (hs : rest = s.data.toList ++ rest2) (hn : n ≤ 100000000) :
    Calls Tryd.prog 19 #[.pointer (some ⟨g, 0, none⟩), .string s] W fun e w' => e = .returned (.tuple #[]) ∧ ∃ l2 P, CN w g n R rest2 v5 w' acc c1 l2 P := by
  obtain ⟨hl, hR⟩ := h.last rfl
  subst hl
  obtain ⟨P, hco, hpr⟩ := h.co
  have hlen := h.len
  have hsl : s.data.toList.length = s.size := data_len s
  rw [hs] at hlen
  simp only [List.length_nil, List.length_append, hsl] at hlen
  cases hd : c1.done with
  | true =>
    refine (cfeed_done hco hd s).mono fun e w' ⟨he, hw⟩ => ⟨he, [], P, ?_⟩
    subst hw
    refine ⟨h.req, hco, hpr, h.okc, fun _ => rfl, h.bel, h.vlo, ?_, by simp at hlen ⊢; omega⟩
    rw [hR, run_over hd, run_over hd]
  | false =>
    refine (cfeed_any hco hd s (by simp; omega)).mono fun e w' ⟨he, ho, hf⟩ => ⟨he, s.data.toList, P, ?_⟩
    have hng : ¬ P g := by
      obtain ⟨a, b, c, d, hv⟩ := hco
      exact hv.ng
    refine ⟨h.req.fr hpr hf hng, by simpa using ho, hpr, h.okc, fun hx => (by rw [hd] at hx; cases hx), h.bel.trans (hf.low fun k hk => ⟨hpr.low k hk, fun e => hng (e ▸ hpr.low k hk)⟩), h.vlo, ?_, by simp at hlen ⊢; omega⟩
    rw [hR, hs]

end Go.Proofs.YtkjlbddaglcooaaDoor
