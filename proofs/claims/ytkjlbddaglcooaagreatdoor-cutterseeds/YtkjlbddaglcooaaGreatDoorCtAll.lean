/- The contract of cutter.All: the requests of a whole text. -/
import Derived.Test.YtkjlbddaglcooaaGreatDoorCtLoop
namespace Go.Proofs.YtkjlbddaglcooaaGreatDoor
open Go.RowKit Pl
open Go.Lib (byteCells)

/-- No block but such of requests is turned. -/
structure O33 (w w' : World) : Prop where
  size : w.heap.size ≤ w'.heap.size
  block : ∀ (k : Nat) (cs : Array Value) (t : TypeId) (fr : Nat × Nat), w.heap[k]? = some (Obj.cells cs t fr) → t ≠ 33 → w'.heap[k]? = some (Obj.cells cs t fr)
theorem O33.refl (w : World) : O33 w w := ⟨Nat.le_refl _, fun _ _ _ _ h _ => h⟩
theorem O33.trans {a b c : World} (h : O33 a b) (k : O33 b c) : O33 a c := ⟨Nat.le_trans h.size k.size, fun i cs t fr hi ht => k.block i cs t fr (h.block i cs t fr hi ht) ht⟩
theorem O33.below {w w' : World} (h : Below w.heap.size w w') : O33 w w' := ⟨h.size, fun k cs t fr hk _ => (h.block k (blk_lt hk)).trans hk⟩
theorem O33.grown {w w' : World} {row : Option Nat} (h : w.grownBy w' row) (hr : ∀ k, row = some k → ∃ cs fr, w.heap[k]? = some (.cells cs 33 fr)) : O33 w w' :=
  ⟨h.size, fun k cs t fr hk ht => (h.block k (blk_lt hk) (fun e => by
    obtain ⟨cs2, fr2, h2⟩ := hr k e.symm
    rw [hk] at h2
    injection h2 with h2
    injection h2 with _ h3
    exact ht h3)).trans hk⟩
theorem O33.put5 {w : World} {R : Nat} {cs : Array Value} (h : w.heap[R]? = some (.cells cs 33 (0, 0))) (u0 u1 u2 u3 u4 : Value) : O33 w (put5 w R u0 u1 u2 u3 u4) :=
  ⟨by rw [put5_size]; exact Nat.le_refl _, fun k cs2 t fr hk ht => by
    have hne : k ≠ R := fun e => by
      rw [e, h] at hk
      injection hk with hk
      injection hk with _ h3
      exact ht h3.symm
    rw [put5_other hne]; exact hk⟩
theorem own_o33 {w w' : World} {base n k : Nat} {e : TypeId} {v : Value} {xs : List Value} (h : w.ownsRow base e k v n xs) (ho : O33 w w') (he : e ≠ 33) : w'.ownsRow base e k v n xs := by
  rcases h.2 with ⟨rfl, h0⟩ | ⟨g, cap, cur, rfl, h1, hh, h2⟩
  · exact ⟨h.1, .inl ⟨rfl, h0⟩⟩
  · exact ⟨h.1, .inr ⟨g, cap, cur, rfl, h1, ho.block _ _ _ _ hh he, h2⟩⟩
theorem BO.o33 {P : Nat → Prop} {w w' : World} {g : Nat} {d : Bst} (h : BO P w g d) (ho : O33 w w') : BO P w' g d := by
  obtain ⟨lv, dv, h⟩ := h
  exact ⟨lv, dv, ho.block _ _ _ _ h.blk (by decide), own_o33 h.ln ho (by decide), own_o33 h.dt ho (by decide), fun k hk => Nat.lt_of_lt_of_le (h.lo k hk) ho.size, h.ap, h.lnP, h.dtP⟩
theorem CV.o33 {P : Nat → Prop} {w w' : World} {g : Nat} {c : Cst} {l : List UInt8} {wv lv fv bv : Value} (h : CV P w g c l wv lv fv bv) (ho : O33 w w') : CV P w' g c l wv lv fv bv := by
  refine ⟨ho.block _ _ _ _ h.blk (by decide), ?_, own_o33 h.ln ho (by decide), own_o33 h.fl ho (by decide), fun k hk => Nat.lt_of_lt_of_le (h.lo k hk) ho.size, h.ng, h.wtP, h.lnP, h.ap, h.nl, h.bn, fun d hd => ?_⟩
  · obtain ⟨A, cap, rfl, h1, h2, h3⟩ := h.wt
    refine ⟨A, cap, rfl, h1, h2, ?_⟩
    rcases h3 with h3 | ⟨g', o, cur, rfl, h4, h5, h6⟩
    · exact .inl h3
    · exact .inr ⟨g', o, cur, rfl, ho.block _ _ _ _ h4 (by decide), h5, h6⟩
  · obtain ⟨gb, e, h1, h2⟩ := h.bs d hd
    exact ⟨gb, e, h1, h2.o33 ho⟩
theorem CO.o33 {P : Nat → Prop} {w w' : World} {g : Nat} {c : Cst} {l : List UInt8} (h : CO P w g c l) (ho : O33 w w') : CO P w' g c l := by
  obtain ⟨wv, lv, fv, bv, h⟩ := h
  exact ⟨wv, lv, fv, bv, h.o33 ho⟩

def rqCells (xs : List (Rq × Value)) : List Value := xs.flatMap fun p => [.string p.1.m, .string p.1.t, p.2, .string p.1.body, .bool p.1.close]
theorem rqCells_snoc (xs : List (Rq × Value)) (r : Rq) (v : Value) : rqCells (xs ++ [(r, v)]) = rqCells xs ++ [.string r.m, .string r.t, v, .string r.body, .bool r.close] := by simp [rqCells]
/-- The slice v holds these requests, each with its fields. -/
structure RQ (w : World) (v : Value) (xs : List (Rq × Value)) : Prop where
  row : w.ownsRow 0 33 5 v xs.length (rqCells xs)
  fld : ∀ p ∈ xs, w.ownsRow 0 64 2 p.2 p.1.fs.length (fldCells p.1.fs)
theorem RQ.below {w w' : World} {v : Value} {xs : List (Rq × Value)} (h : RQ w v xs) (k : Below w.heap.size w w') : RQ w' v xs := ⟨own_below h.row k, fun p hp => own_below (h.fld p hp) k⟩

theorem next_idle {c : Cst} (hok : Okc c) (l : List UInt8) (r : Rq) (c1 : Cst) (rest : List UInt8) (h : nextC c l = (some r, c1, rest)) : c1.lines = [] ∧ c1.bd = none := by
  induction l generalizing c with
  | nil => simp [nextC] at h
  | cons b l ih =>
    have hk := okc_step hok b
    have hs : ∀ c2 r2, stepC c b = (c2, some r2) → c2.lines = [] ∧ c2.bd = none := by
      intro c2 r2 e
      unfold stepC at e
      split at e
      · cases e
      · have ha := oka_look hok b
        unfold emitC at e
        split at e
        · cases e
        · rename_i d hd
          obtain ⟨h1, _⟩ := ha.amid d hd
          split at e
          · injection e with e1 e2
            subst e1
            unfold wholeC
            split
            · exact ⟨rfl, rfl⟩
            · exact ⟨h1, rfl⟩
          · cases e
    rw [nextC] at h
    split at h
    · rename_i c2 r2 e
      injection h with h1 h2
      injection h2 with h2 h3
      subst h2
      exact hs c2 r2 e
    · rename_i c2 e
      rw [e] at hk
      split at h
      · cases h
      · exact ih hk h

/-- Where All stands: the requests so far, the next one in a block of its own (or none), the cutter. -/
structure AS (w : World) (g : Nat) (n : Nat) (R : Cst × List Rq) (v5 : Value) (rb : Nat) (ok : Bool) (W : World) (acc : List (Rq × Value)) (o : Rq) (fv : Value) (c1 : Cst) (l1 : List UInt8) : Prop where
  req : RQ W v5 acc
  blk : W.heap[rb]? = some (.cells #[.string o.m, .string o.t, fv, .string o.body, .bool o.close] 33 (0, 0))
  fl : W.ownsRow 0 64 2 fv o.fs.length (fldCells o.fs)
  ap : v5.ownBlock ≠ some rb
  co : CO (fun k => k < w.heap.size) W g c1 l1
  okc : Okc c1
  dl : c1.done = true → l1 = []
  mx : MX W
  bel : Below w.heap.size w W
  rlo : w.heap.size ≤ rb
  vlo : ∀ k, v5.ownBlock = some k → w.heap.size ≤ k
  more : ok = true → R = ((runC c1 l1).1, acc.map Prod.fst ++ o :: (runC c1 l1).2) ∧ c1.lines = [] ∧ c1.bd = none
  last : ok = false → R = (c1, acc.map Prod.fst)
  len : acc.length + l1.length + (if ok then 1 else 0) ≤ n

theorem nexted_facts {c : Cst} {l : List UInt8} (hok : Okc c) {N : Option Rq × Cst × List UInt8} (hN : nextC c l = N) :
    Okc N.2.1 ∧ (N.2.1.done = true → N.2.2 = []) ∧
    (N.1.isSome = true → runC c l = ((runC N.2.1 N.2.2).1, N.1.getD nilRq :: (runC N.2.1 N.2.2).2) ∧ N.2.1.lines = [] ∧ N.2.1.bd = none) ∧
    (N.1.isSome = false → runC c l = (N.2.1, [])) ∧ N.2.2.length + (if N.1.isSome then 1 else 0) ≤ l.length := by
  subst hN
  have hk := okc_next hok l
  rcases hx : nextC c l with ⟨o, c1, rest⟩
  rw [hx] at hk
  cases o with
  | none =>
    obtain ⟨h1, h2⟩ := next_none l c1 rest hx
    subst h2
    exact ⟨hk, fun _ => rfl, fun h => (by cases h), fun _ => h1, by simp⟩
  | some r =>
    obtain ⟨h1, h2, h3⟩ := next_some l r c1 rest hx
    obtain ⟨h4, h5⟩ := next_idle hok l r c1 rest hx
    exact ⟨hk, h3, fun _ => ⟨h1, h4, h5⟩, fun h => (by cases h), by simp; omega⟩

theorem Tryz.info33 : (Tryz.prog.info? 33).map (fun i => (i.zero, i.size, i.bytes)) = some (some (.agg #[.string ⟨#[]⟩, .string ⟨#[]⟩, .slice none 0 0, .string ⟨#[]⟩, .bool false]), 5, 80) := by kernel_rfl

theorem AS.bel0 {w : World} {g n : Nat} {R : Cst × List Rq} {v5 : Value} {rb : Nat} {ok : Bool} {W : World} {acc : List (Rq × Value)} {o : Rq} {fv : Value} {c1 : Cst} {l1 : List UInt8} (h : AS w g n R v5 rb ok W acc o fv c1 l1) : O33 W W := O33.refl W

/-- Behind the append and the new block: Next may be called. -/
structure AN (w : World) (g : Nat) (n : Nat) (R : Cst × List Rq) (v5 : Value) (rb : Nat) (W : World) (acc : List (Rq × Value)) (c1 : Cst) (l1 : List UInt8) (wv : Value) : Prop where
  req : RQ W v5 acc
  blk : ∃ x0 x1 x2 x3 x4, W.heap[rb]? = some (.cells #[x0, x1, x2, x3, x4] 33 (0, 0))
  ap : v5.ownBlock ≠ some rb
  co : ∃ lv fv bv, CV (fun k => k < W.heap.size ∧ k ≠ g ∧ wv.ownBlock ≠ some k) W g c1 l1 wv lv fv bv
  okc : Okc c1
  dl : c1.done = true → l1 = []
  bel : Below w.heap.size w W
  rlo : w.heap.size ≤ rb
  glo : w.heap.size ≤ g
  wlo : ∀ k, wv.ownBlock = some k → w.heap.size ≤ k
  vlo : ∀ k, v5.ownBlock = some k → w.heap.size ≤ k
  more : R = ((runC c1 l1).1, acc.map Prod.fst ++ (runC c1 l1).2)
  len : acc.length + l1.length ≤ n

theorem AS.next {w : World} {g n : Nat} {R : Cst × List Rq} {v5 v5' : Value} {rb : Nat} {W w5 : World} {acc : List (Rq × Value)} {o : Rq} {fv : Value} {c1 : Cst} {l1 : List UInt8} {cs0 : Array Value} {x0 x1 x2 x3 x4 : Value} {g2 cap2 : Nat} (h : AS w g n R v5 rb true W acc o fv c1 l1)
    (hown : w5.ownsRow 0 33 5 v5' (acc.length + 1) (rqCells acc ++ [.string o.m, .string o.t, fv, .string o.body, .bool o.close])) (hgr : (W.alloc (.cells cs0 33)).grownBy w5 v5.ownBlock) (hv5 : v5' = .slice (some ⟨g2, 0, none⟩) (acc.length + 1) cap2) (hat : v5.ownBlock = some g2 ∨ g2 = (W.alloc (.cells cs0 33)).heap.size) :
    ∃ wv, AN w g n R v5' w5.heap.size (w5.alloc (.cells #[x0, x1, x2, x3, x4] 33)) (acc ++ [(o, fv)]) c1 l1 wv := by
  have hb1 : Below W.heap.size W (W.alloc (.cells cs0 33)) := (Below.refl _ _).alloc (Nat.le_refl _) _
  have hb6 : Below w5.heap.size w5 (w5.alloc (.cells #[x0, x1, x2, x3, x4] 33)) := (Below.refl _ _).alloc (Nat.le_refl _) _
  have ho5 : O33 W w5 := (O33.below hb1).trans (O33.grown hgr fun k hk => by
    rcases (own_below h.req.row hb1).2 with ⟨e, _⟩ | ⟨g', cap', cur, e, _, hh, _⟩
    · rw [e] at hk; cases hk
    · rw [e] at hk
      have : g' = k := by simpa [Value.ownBlock] using hk
      subst this
      exact ⟨_, _, hh⟩)
  have ho6 := ho5.trans (O33.below hb6)
  obtain ⟨hR, hl, hbd⟩ := h.more rfl
  obtain ⟨wv, lv, fv1, bv, hv⟩ := h.co.o33 ho6
  have hWs : W.heap.size ≤ w5.heap.size := ho5.size
  have hwsz : w.heap.size ≤ W.heap.size := h.bel.size
  have hb5 : Below w.heap.size w w5 := (h.bel.trans (hb1.mono hwsz)).grown hgr (Nat.le_trans hwsz hb1.size) (fun k hk => h.vlo k hk)
  have hg2 : g2 < w5.heap.size := by
    have := hown.lt g2 (by rw [hv5]; rfl)
    exact this.2
  refine ⟨wv, ⟨⟨own_below (by rw [List.length_append, rqCells_snoc]; exact hown) hb6, fun p hp => ?_⟩, ⟨_, _, _, _, _, heap_alloc_new w5 _⟩, ?_, ⟨lv, fv1, bv, hv.loose hl hbd fun k hk => hk⟩, h.okc, h.dl, hb5.trans (hb6.mono hb5.size), hb5.size, Nat.le_of_not_lt hv.ng, fun k hk => Nat.le_of_not_lt (hv.wtP k hk), fun k hk => ?_, ?_, ?_⟩⟩
  · rw [List.mem_append, List.mem_singleton] at hp
    rcases hp with hp | rfl
    · exact own_o33 (h.req.fld p hp) ho6 (by decide)
    · exact own_o33 h.fl ho6 (by decide)
  · rw [hv5]
    intro e
    have : g2 = w5.heap.size := by simpa [Value.ownBlock] using e
    omega
  · rw [hv5] at hk
    have : g2 = k := by simpa [Value.ownBlock] using hk
    subst this
    rcases hat with h1 | h1
    · exact h.vlo _ h1
    · rw [h1]; exact Nat.le_trans hwsz hb1.size
  · rw [hR]; simp
  · have := h.len
    simp at this ⊢
    omega

theorem AN.call {w : World} {g n : Nat} {R : Cst × List Rq} {v5 : Value} {rb : Nat} {W : World} {acc : List (Rq × Value)} {c1 : Cst} {l1 : List UInt8} {wv : Value} (h : AN w g n R v5 rb W acc c1 l1 wv) (hm : MX w) :
    Calls Tryz.prog 14 #[.pointer (some ⟨g, 0, none⟩)] W fun e w' => Nexted (fun k => k < W.heap.size ∧ k ≠ g ∧ wv.ownBlock ≠ some k) W g (nextC c1 l1) e w' := by
  obtain ⟨lv, fv, bv, hv⟩ := h.co
  have h0 := hm.lt
  refine cnext_any ⟨_, _, _, _, hv⟩ h.okc h.dl (hm.below h.bel) ⟨?_, ?_, ?_⟩ _ (Lib.hid rfl)
  · have := h.bel.size; omega
  · have := h.glo; omega
  · intro e; have := h.wlo _ e; omega

theorem put5_lo {B : Nat} {a W : World} {R : Nat} (h : Below B a W) (hR : B ≤ R) (u0 u1 u2 u3 u4 : Value) : Below B a (put5 W R u0 u1 u2 u3 u4) := by
  unfold put5
  exact ((((h.setCell hR _).setCell hR _).setCell hR _).setCell hR _).setCell hR _
theorem AN.done {w : World} {g n : Nat} {R : Cst × List Rq} {v5 : Value} {rb : Nat} {W w7 : World} {acc : List (Rq × Value)} {c1 : Cst} {l1 : List UInt8} {wv fv : Value} {N : Option Rq × Cst × List UInt8} (h : AN w g n R v5 rb W acc c1 l1 wv) (hm : MX w) (hN : nextC c1 l1 = N)
    (hrow : w7.ownsRow 0 64 2 fv (N.1.getD nilRq).fs.length (fldCells (N.1.getD nilRq).fs)) (ho : CO (fun k => k < W.heap.size ∧ k ≠ g ∧ wv.ownBlock ≠ some k) w7 g N.2.1 N.2.2) (hf : Fr (fun k => k < W.heap.size ∧ k ≠ g ∧ wv.ownBlock ≠ some k) g W w7) :
    (∃ x0 x1 x2 x3 x4, w7.heap[rb]? = some (.cells #[x0, x1, x2, x3, x4] 33 (0, 0))) ∧
    AS w g n R v5 rb N.1.isSome (put5 w7 rb (.string (N.1.getD nilRq).m) (.string (N.1.getD nilRq).t) fv (.string (N.1.getD nilRq).body) (.bool (N.1.getD nilRq).close)) acc (N.1.getD nilRq) fv N.2.1 N.2.2 := by
  obtain ⟨x0, x1, x2, x3, x4, hblk⟩ := h.blk
  obtain ⟨lv1, fv1, bv1, hv⟩ := h.co
  have h33 : ∀ (k : Nat) (x : Array Value) (fr : Nat × Nat), W.heap[k]? = some (.cells x 33 fr) → k < W.heap.size ∧ k ≠ g ∧ wv.ownBlock ≠ some k := fun k x fr hk => by
    refine ⟨blk_lt hk, fun e => ?_, hv.wt.ne hk (by decide)⟩
    have h1 := hv.blk
    rw [← e, hk] at h1
    injection h1 with h1
    injection h1 with _ ht
    cases ht
  have h49 : ∀ (k : Nat) (x : Array Value) (fr : Nat × Nat), W.heap[k]? = some (.cells x 64 fr) → k < W.heap.size ∧ k ≠ g ∧ wv.ownBlock ≠ some k := fun k x fr hk => by
    refine ⟨blk_lt hk, fun e => ?_, hv.wt.ne hk (by decide)⟩
    have h1 := hv.blk
    rw [← e, hk] at h1
    injection h1 with h1
    injection h1 with _ ht
    cases ht
  have hrb := (hf.block rb (h33 _ _ _ hblk) (h33 _ _ _ hblk).2.1).trans hblk
  obtain ⟨k1, k2, k3, k4, k5⟩ := nexted_facts h.okc hN
  have kept : ∀ {k nn : Nat} {e : TypeId} {v : Value} {xs : List Value}, W.ownsRow 0 e k v nn xs → (e = 33 ∨ e = 64) → w7.ownsRow 0 e k v nn xs := fun {k nn e v xs} hr he => by
    refine kept_block hr fun i hi => ?_
    rcases hr.2 with ⟨ev, _⟩ | ⟨g', cap', cur, ev, _, hh, _⟩
    · rw [ev] at hi; cases hi
    · rw [ev] at hi
      have : g' = i := by simpa [Value.ownBlock] using hi
      subst this
      rcases he with rfl | rfl
      · exact hf.block _ (h33 _ _ _ hh) (h33 _ _ _ hh).2.1
      · exact hf.block _ (h49 _ _ _ hh) (h49 _ _ _ hh).2.1
  have hlow : ∀ k, k < w.heap.size → (k < W.heap.size ∧ k ≠ g ∧ wv.ownBlock ≠ some k) ∧ k ≠ g := fun k hk => by
    have h1 := h.bel.size
    have h2 := h.glo
    exact ⟨⟨by omega, by omega, fun e => by have := h.wlo _ e; omega⟩, by omega⟩
  have hbel7 : Below w.heap.size w w7 := h.bel.trans (hf.low hlow)
  have ho5 : O33 w7 (put5 w7 rb (.string (N.1.getD nilRq).m) (.string (N.1.getD nilRq).t) fv (.string (N.1.getD nilRq).body) (.bool (N.1.getD nilRq).close)) := O33.put5 hrb _ _ _ _ _
  have hco : CO (fun k => k < w.heap.size) w7 g N.2.1 N.2.2 := by
    obtain ⟨a, b, c, d, hh⟩ := ho
    exact ⟨a, b, c, d, hh.weak fun k hk => (hlow k hk).1⟩
  refine ⟨⟨_, _, _, _, _, hrb⟩, ⟨put5_own (kept h.req.row (.inl rfl)) h.ap _ _ _ _ _, fun p hp => own_o33 (kept (h.req.fld p hp) (.inr rfl)) ho5 (by decide)⟩, put5_blk hrb _ _ _ _ _, own_o33 hrow ho5 (by decide), h.ap, hco.o33 ho5, k1, k2, ?_, ?_, h.rlo, h.vlo, fun hs => ?_, fun hs => ?_, ?_⟩
  · exact (hm.below hbel7).of (put5_other (fun e => by have := h.rlo; have := hm.lt; omega) _ _ _ _ _)
  · exact put5_lo hbel7 h.rlo _ _ _ _ _
  · obtain ⟨m1, m2, m3⟩ := k3 hs
    exact ⟨by rw [h.more, m1], m2, m3⟩
  · rw [h.more, k4 hs]; simp
  · have := h.len; omega

def okLen (v : Value) : Nat := match v with | .bool true => 1 | _ => 0

set_option maxRecDepth 10000 in
set_option maxHeartbeats 4000000 in
theorem call_all (s : ByteArray) (w : World) (hm : MX w) (hs : s.size ≤ 100000000) (R : Cst × List Rq) (hR : Hid (runC newC s.data.toList = R)) :
    Calls Tryz.prog 11 #[.string s] w fun e w' => ∃ v xs, e = .returned (.tuple #[v, .int .i64 R.1.status]) ∧ xs.map Prod.fst = R.2 ∧ RQ w' v xs ∧ Below w.heap.size w w' := by
  obtain ⟨i0, hi, hz0, hz1, hz2⟩ := info_parts Tryz.info33
  have HI := Lib.hid hi; have HZ0 := Lib.hid hz0; have HZ1 := Lib.hid hz1; have HZ2 := Lib.hid hz2
  have HM := Lib.hid hm
  clear hi hz0 hz1 hz2 hm
  go_enter Tryz.func11, Tryz.ntmps11
  go_wp2_with fail
  refine (cnew_any _).mono ?_
  rintro e w1 ⟨rfl, ho1, hb1⟩
  go_wp2_with fail
  refine (cfeed_any ho1 rfl s (by simp; omega)).mono ?_
  rintro e w2 ⟨rfl, ho2, hf2⟩
  have hb2 : Below w.heap.size w w2 := hb1.trans (hf2.low fun k hk => ⟨hk, by omega⟩)
  rw [List.nil_append] at ho2
  clear ho1 hf2 hb1
  have h0 := HM.out.lt
  have HNX := Lib.hid (cnext_any ho2 okc_new (fun h => (by cases h)) (HM.out.below hb2) h0 _ (Lib.hid rfl))
  have hfx := nexted_facts okc_new (rfl : nextC newC s.data.toList = _)
  generalize nextC newC s.data.toList = N at *
  rw [hR.out] at hfx
  go_wp2_with fail
  refine HNX.out.mono ?_
  rintro e w3 ⟨fv, rfl, hrow3, ho3, hf3⟩
  have hb3 : Below w.heap.size w w3 := hb2.trans (hf3.low fun k hk => ⟨hk, by omega⟩)
  have has : AS w w.heap.size s.size R (.slice none 0 0) w3.heap.size N.1.isSome (w3.alloc (.cells #[.string (N.1.getD nilRq).m, .string (N.1.getD nilRq).t, fv, .string (N.1.getD nilRq).body, .bool (N.1.getD nilRq).close] 33)) [] (N.1.getD nilRq) fv N.2.1 N.2.2 := by
    have hb4 : Below w3.heap.size w3 (w3.alloc (.cells #[.string (N.1.getD nilRq).m, .string (N.1.getD nilRq).t, fv, .string (N.1.getD nilRq).body, .bool (N.1.getD nilRq).close] 33)) := (Below.refl _ _).alloc (Nat.le_refl _) _
    have hb5 := hb3.trans (hb4.mono hb3.size)
    obtain ⟨k1, k2, k3, k4, k5⟩ := hfx
    refine ⟨⟨World.ownsRow_nil _ _ _ _, fun p hp => (by cases hp)⟩, heap_alloc_new w3 _, own_below hrow3 hb4, (by simp [Value.ownBlock]), ho3.below hb4, k1, k2, HM.out.below hb5, hb5, hb3.size, fun k hk => (by cases hk), fun hs => ?_, fun hs => ?_, ?_⟩
    · obtain ⟨m1, m2, m3⟩ := k3 hs
      exact ⟨m1, m2, m3⟩
    · exact k4 hs
    · simpa using k5
  obtain ⟨Af, cf, rfl, _⟩ := Rd.own hrow3
  have HAS := Lib.hid has
  unfold rqVal
  clear hrow3 ho3 hf3 hb3 hfx HNX ho2 hb2 has hR
  generalize N.1.getD nilRq = o0 at *
  generalize N.1.isSome = ok0 at *
  generalize N.2.1 = c0 at *
  generalize N.2.2 = l0 at *
  go_wp2_with fail
  go_loopw [5, 6, 7] (fun v5 v6 v7 wr => ∃ (rb : Nat) (ok : Bool) (acc : List (Rq × Value)) (o : Rq) (fv : Value) (c1 : Cst) (l1 : List UInt8), v6 = .pointer (some ⟨rb, 0, none⟩) ∧ v7 = .bool ok ∧ AS w w.heap.size s.size R v5 rb ok wr acc o fv c1 l1) (fun _ _ v7 wr => waitLen wr w.heap.size * 2 + okLen v7)
  case atStart => exact ⟨_, _, _, _, _, _, _, rfl, rfl, HAS.out⟩
  case round =>
    obtain ⟨rb, ok, acc, o, fv, c1, l1, rfl, rfl, has⟩ := hrel
    clear HAS
    cases ok with
    | false =>
      have HST := Lib.hid (cstatus_any has.co)
      have HA := Lib.hid has
      clear has
      go_wp2_with fail
      refine HST.out.mono ?_
      rintro e w4 ⟨rfl, rfl⟩
      go_wp2
      go_ret2
      have hl := HA.out.last rfl
      exact ⟨_, acc, by rw [hl]; rfl, by rw [hl], HA.out.req, HA.out.bel⟩
    | true =>
      obtain ⟨Av, cv, rfl, _⟩ := Rd.own has.req.row
      obtain ⟨Ag, cg, rfl, _⟩ := Rd.own has.fl
      have hlen := has.len
      simp only [if_true] at hlen
      have t0 := blk_cell has.blk 0; have t1 := blk_cell has.blk 1; have t2 := blk_cell has.blk 2; have t3 := blk_cell has.blk 3; have t4 := blk_cell has.blk 4
      simp at t0 t1 t2 t3 t4
      have hb1 : Below wr.heap.size wr (wr.alloc (.cells #[.string o.m, .string o.t, .slice Ag o.fs.length cg, .string o.body, .bool o.close] 33)) := (Below.refl _ _).alloc (Nat.le_refl _) _
      have HROW := Lib.hid (own_below has.req.row hb1)
      have HBLK : Hid ((wr.alloc (.cells #[.string o.m, .string o.t, .slice Ag o.fs.length cg, .string o.body, .bool o.close] 33)).heap[rb]? = some (.cells #[.string o.m, .string o.t, .slice Ag o.fs.length cg, .string o.body, .bool o.close] 33 (0, 0))) := (hb1.block rb (blk_lt has.blk)).trans has.blk
      have HA := Lib.hid has
      have HWL := Lib.hid (co_wait has.co)
      clear has hb1
      go_wp2_with (first | (at_builtin; refine wpList_append_lies _ rfl _ _ 28 rfl 0 33 i0 (.agg #[.string ⟨#[]⟩, .string ⟨#[]⟩, .slice none 0 0, .string ⟨#[]⟩, .bool false]) 5 80 Tryz.underlying28 HI.out HZ0.out HZ1.out HZ2.out rfl (by decide) _ acc.length _ rfl HROW.out ⟨wr.heap.size, 0, none⟩ 1 1 [.string o.m, .string o.t, .slice Ag o.fs.length cg, .string o.body, .bool o.close] rfl rfl ?c1 ?c2 (by decide) ?c3 ?c4 ?c5 (wr.heap.size + 1) ?c6 ?_))
      try (case c1 => exact World.news_of_block (heap_alloc_new wr _))
      case c2 => first | rfl | (intro u hu; simp at hu; rcases hu with rfl | rfl | rfl | rfl | rfl <;> rfl)
      case c3 => unfold maxLen; omega
      case c4 => omega
      try (case c5 => first | omega | (simp; omega))
      try (case c6 => simp)
      intro g2 cap2 w5 hown5 hgr5 hat5 hlt5
      have hblk5 := (hgr5.block rb (blk_lt HBLK.out) (fun e => HA.out.ap e.symm)).trans HBLK.out
      have t0 := blk_cell hblk5 0; have t1 := blk_cell hblk5 1; have t2 := blk_cell hblk5 2; have t3 := blk_cell hblk5 3; have t4 := blk_cell hblk5 4
      simp at t0 t1 t2 t3 t4
      obtain ⟨wv, hAN⟩ := HA.out.next (x0 := .string o.m) (x1 := .string o.t) (x2 := .slice Ag o.fs.length cg) (x3 := .string o.body) (x4 := .bool o.close) hown5 hgr5 rfl (by simpa using hat5)
      have HAN := Lib.hid hAN
      have HNX := Lib.hid (hAN.call HM.out)
      have hfin := fun w7 fv => hAN.done (w7 := w7) (fv := fv) HM.out rfl
      have hlx := (nexted_facts hAN.okc (rfl : nextC c1 l1 = _)).2.2.2.2
      generalize nextC c1 l1 = N2 at *
      have HFIN := Lib.hid hfin; have HLX := Lib.hid hlx
      clear hAN hfin hlx hblk5 hown5 hgr5 hat5 hlt5 HROW HBLK HA
      go_wp2_with fail
      refine HNX.out.mono ?_
      rintro e w7 ⟨fv7, rfl, hrow7, ho7, hf7⟩
      obtain ⟨⟨y0, y1, y2, y3, y4, hrb7⟩, hAS7⟩ := HFIN.out w7 fv7 hrow7 ho7 hf7
      obtain ⟨Ah, ch, rfl, _⟩ := Rd.own hrow7
      have t0 := blk_cell hrb7 0; have t1 := blk_cell hrb7 1; have t2 := blk_cell hrb7 2; have t3 := blk_cell hrb7 3; have t4 := blk_cell hrb7 4
      have s0 := blk_free hrb7 0; have s1 := blk_free hrb7 1; have s2 := blk_free hrb7 2; have s3 := blk_free hrb7 3; have s4 := blk_free hrb7 4
      simp at t0 t1 t2 t3 t4
      unfold rqVal
      have HAS7 := Lib.hid hAS7
      clear hAS7 hrb7 hrow7 ho7 hf7 HFIN HNX HAN
      generalize N2.1.getD nilRq = o7 at *
      generalize N2.1.isSome = ok7 at *
      generalize N2.2.1 = c7 at *
      generalize N2.2.2 = l7 at *
      go_wp2_with fail
      go_roundw
      case rel => exact ⟨_, _, _, _, _, _, _, rfl, rfl, HAS7.out⟩
      case measure =>
        have e1 := co_wait HAS7.out.co
        unfold put5 at e1
        rw [e1, HWL.out]
        have := HLX.out
        cases ok7 <;> simp [okLen] at this ⊢ <;> omega

end Go.Proofs.YtkjlbddaglcooaaGreatDoor
