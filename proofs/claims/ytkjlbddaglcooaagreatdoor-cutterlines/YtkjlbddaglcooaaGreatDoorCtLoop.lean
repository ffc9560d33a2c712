/- The contract of (*Cutter).Next. -/
import Derived.Test.YtkjlbddaglcooaaGreatDoorCtNext
import Derived.ScopeJumps
import Derived.WalkMore
namespace Go.Proofs.YtkjlbddaglcooaaGreatDoor
open Go.RowKit Pl
open Go.Lib (byteCells)

theorem below_grown0 {a b : World} (h : Below a.heap.size a b) : a.grownBy b none := ⟨h.os, h.tape, h.output, h.size, fun i hi _ => h.block i hi⟩
theorem CV.grow {P Q : Nat → Prop} {w w' : World} {g : Nat} {c : Cst} {l : List UInt8} {wv lv fv bv : Value} (h : CV P w g c l wv lv fv bv) (k : Below w.heap.size w w') (hQ : ∀ k, Q k → (P k ∨ w.heap.size ≤ k) ∧ k < w'.heap.size) : CV Q w' g c l wv lv fv bv := by
  have h2 := h.below k
  refine ⟨h2.blk, h2.wt, h2.ln, h2.fl, fun k hk => (hQ k hk).2, fun hq => ?_, fun i hi hq => ?_, fun i hi hq => ?_, h.ap, h.nl, h.bn, fun d hd => ?_⟩
  · rcases (hQ g hq).1 with h3 | h3
    · exact h.ng h3
    · have := h.lt; omega
  · rcases (hQ i hq).1 with h3 | h3
    · exact h.wtP i hi h3
    · have := h.wt.lt i hi; omega
  · rcases (hQ i hq).1 with h3 | h3
    · exact h.lnP i hi h3
    · have := (h.ln.lt i hi).2; omega
  · obtain ⟨gb, e, h3, h4⟩ := h.bs d hd
    refine ⟨gb, e, fun hq => ?_, h4.move (below_grown0 k) (fun _ e => (by cases e)) (by simp) fun i hi => ?_⟩
    · rcases (hQ gb hq).1 with h5 | h5
      · exact h3 h5
      · have := h4.lt; omega
    · rcases hi with hi | hi | hi | hi
      · rcases (hQ i hi).1 with h5 | h5
        · exact ⟨.inl (.inl h5), (hQ i hi).2⟩
        · exact ⟨.inr h5, (hQ i hi).2⟩
      · exact ⟨.inl (.inr (.inl hi)), by rw [hi]; exact Nat.lt_of_lt_of_le h.lt k.size⟩
      · exact ⟨.inl (.inr (.inr (.inl hi))), Nat.lt_of_lt_of_le (h.wt.lt i hi) k.size⟩
      · exact ⟨.inl (.inr (.inr (.inr hi))), Nat.lt_of_lt_of_le (h.fl.lt i hi).2 k.size⟩

theorem ret18 {V : World} {R : Nat} {a : Act} {X : Ending → World → Prop} {u0 u1 u2 u3 u4 : Value} {b : Value} (hb : V.heap[R]? = some (.cells #[u0, u1, u2, u3, u4] 33 (0, 0))) (ha : a.tmps.getD 2 undef = .pointer (some ⟨R, 0, none⟩)) (hb3 : a.tmps.getD 3 undef = b) (hd : a.defers = [])
    (hQ : X (.returned (.tuple #[.agg #[u0, u1, u2, u3, u4], b])) V) : bodyPost Tryz.prog Tryz.f14 X .ret a V := by
  have c0 := blk_cell hb 0
  have c1 := blk_cell hb 1
  have c2 := blk_cell hb 2
  have c3 := blk_cell hb 3
  have c4 := blk_cell hb 4
  simp at c0 c1 c2 c3 c4
  simp at ha hb3
  exact bodyPost_ret (v := .tuple #[.agg #[u0, u1, u2, u3, u4], b]) (by simp [results, Tryz.results14, go_sem, ha, hb3, c0, c1, c2, c3, c4]) hd hQ

/-- What Next leaves. -/
def Nexted (P : Nat → Prop) (w : World) (g : Nat) (N : Option Rq × Cst × List UInt8) (e : Ending) (w' : World) : Prop :=
  ∃ fv, e = .returned (.tuple #[rqVal (N.1.getD nilRq) fv, .bool N.1.isSome]) ∧ w'.ownsRow 0 64 2 fv (N.1.getD nilRq).fs.length (fldCells (N.1.getD nilRq).fs) ∧ CO P w' g N.2.1 N.2.2 ∧ Fr P g w w'

/-- How many bytes wait, by the memory. -/
def waitLen (w : World) (g : Nat) : Nat := match w.cell? ⟨g, 0, none⟩ with | some (.slice _ n _) => n | _ => 0

/-- Where Next stands. -/
structure NS (P : Nat → Prop) (w : World) (g : Nat) (N : Option Rq × Cst × List UInt8) (c1 : Cst) (l1 : List UInt8) (w1 : World) : Prop where
  co : CO (fun k => P k ∨ k = w.heap.size) w1 g c1 l1
  res : w1.heap[w.heap.size]? = some (.cells zero5 33 (0, 0))
  fr : Fr P g w w1
  ok : Okc c1
  dl : c1.done = true → l1 = []
  mx : MX w1
  p0 : P 4 ∨ 4 = w.heap.size
  p1 : P 4
  nx : nextC c1 l1 = N
  lo : ∀ k, P k → k < w.heap.size
theorem NS.ng {P : Nat → Prop} {w w1 : World} {g : Nat} {N : Option Rq × Cst × List UInt8} {c1 : Cst} {l1 : List UInt8} (h : NS P w g N c1 l1 w1) : ¬ (P g ∨ g = w.heap.size) := by
  obtain ⟨wv, lv, fv, bv, hv⟩ := h.co
  exact hv.ng
theorem NS.live {P : Nat → Prop} {w w1 : World} {g : Nat} {N : Option Rq × Cst × List UInt8} {c1 : Cst} {b : UInt8} {l1 : List UInt8} (h : NS P w g N c1 (b :: l1) w1) : c1.done = false := by
  cases hd : c1.done with
  | false => rfl
  | true => cases h.dl hd
theorem co_wait {P : Nat → Prop} {w : World} {g : Nat} {c : Cst} {l : List UInt8} (h : CO P w g c l) : waitLen w g = l.length := by
  obtain ⟨wv, lv, fv, bv, hv⟩ := h
  obtain ⟨A, cap, rfl, _⟩ := hv.wt
  have k0 := hv.cell 0
  simp [ctCells] at k0
  unfold waitLen
  rw [k0]
theorem NS.start {P : Nat → Prop} {w : World} {g : Nat} {N : Option Rq × Cst × List UInt8} {c : Cst} {l : List UInt8} (h : CO P w g c l) (hok : Okc c) (hdl : c.done = true → l = []) (hm : MX w) (h0 : P 4) (hN : Hid (nextC c l = N)) : NS P w g N c l (w.alloc (.cells zero5 33)) := by
  obtain ⟨wv, lv, fv, bv, hv⟩ := h
  have hb : Below w.heap.size w (w.alloc (.cells zero5 33)) := (Below.refl _ _).alloc (Nat.le_refl _) _
  refine ⟨⟨_, _, _, _, hv.grow hb fun k hk => ?_⟩, heap_alloc_new w _, Fr.of hv.lo hb, hok, hdl, hm.below hb, .inl h0, h0, hN.out, hv.lo⟩
  have hsz : (w.alloc (.cells zero5 33)).heap.size = w.heap.size + 1 := by simp
  rcases hk with hk | hk
  · exact ⟨.inl hk, by have := hv.lo k hk; omega⟩
  · exact ⟨.inr (by omega), by omega⟩
theorem NS.res_fr {P : Nat → Prop} {w w1 w2 : World} {g : Nat} {N : Option Rq × Cst × List UInt8} {c1 : Cst} {l1 : List UInt8} (h : NS P w g N c1 l1 w1) (hf : Fr (fun k => P k ∨ k = w.heap.size) g w1 w2) : w2.heap[w.heap.size]? = some (.cells zero5 33 (0, 0)) :=
  (hf.block _ (.inr rfl) (fun e => h.ng (.inr e.symm))).trans h.res
theorem next_step {c : Cst} {b : UInt8} {l : List UInt8} (hd : c.done = false) :
    ((lookC c b).bd = none → nextC c (b :: l) = nextC (lookC c b) (restC (lookC c b) l)) ∧
    (∀ d, (lookC c b).bd = some d → d.st ≠ 5 → nextC c (b :: l) = nextC (lookC c b) (restC (lookC c b) l)) ∧
    (∀ d, (lookC c b).bd = some d → d.st = 5 → nextC c (b :: l) = (some (wholeRq (lookC c b) d), wholeC (lookC c b), restC (wholeC (lookC c b)) l)) := by
  have hs : stepC c b = emitC (lookC c b) := by unfold stepC; rw [if_neg (by simp [hd])]
  have key : emitC (lookC c b) = (lookC c b, none) → nextC c (b :: l) = nextC (lookC c b) (restC (lookC c b) l) := fun he => by
    rw [nextC, hs, he]
    show (if (lookC c b).done = true then _ else _) = _
    unfold restC
    by_cases hx : (lookC c b).done = true
    · rw [if_pos hx, if_pos hx]; rfl
    · rw [if_neg hx, if_neg hx]
  refine ⟨fun h => key ?_, fun d h h5 => key ?_, fun d h h5 => ?_⟩
  · unfold emitC; rw [h]
  · unfold emitC; rw [h]; exact if_neg h5
  · have he : emitC (lookC c b) = (wholeC (lookC c b), some (wholeRq (lookC c b) d)) := by unfold emitC; rw [h]; exact if_pos h5
    rw [nextC, hs, he]
    rfl
theorem NS.step {P : Nat → Prop} {w w1 w2 : World} {g : Nat} {N : Option Rq × Cst × List UInt8} {c1 : Cst} {b : UInt8} {l2 : List UInt8} (h : NS P w g N c1 (b :: l2) w1) (hd : c1.done = false) (ho : CO (fun k => P k ∨ k = w.heap.size) w2 g (lookC c1 b) (restC (lookC c1 b) l2)) (hf : Fr (fun k => P k ∨ k = w.heap.size) g w1 w2) :
    ((lookC c1 b).bd = none → NS P w g N (lookC c1 b) (restC (lookC c1 b) l2) w2) ∧ (∀ d, (lookC c1 b).bd = some d → d.st ≠ 5 → NS P w g N (lookC c1 b) (restC (lookC c1 b) l2) w2) ∧
    (∀ d, (lookC c1 b).bd = some d → d.st = 5 → N = (some (wholeRq (lookC c1 b) d), wholeC (lookC c1 b), restC (wholeC (lookC c1 b)) l2)) := by
  have hn := next_step (b := b) (l := l2) hd
  have hs : stepC c1 b = emitC (lookC c1 b) := by unfold stepC; rw [if_neg (by simp [hd])]
  have hok2 := okc_step h.ok b
  rw [hs] at hok2
  have mk : nextC c1 (b :: l2) = nextC (lookC c1 b) (restC (lookC c1 b) l2) → emitC (lookC c1 b) = (lookC c1 b, none) → NS P w g N (lookC c1 b) (restC (lookC c1 b) l2) w2 := fun e he => by
    rw [he] at hok2
    exact ⟨ho, h.res_fr hf, h.fr.trans (hf.weak fun k hk => .inl hk), hok2, fun hx => by unfold restC; rw [if_pos hx], h.mx.fr hf h.p0 h.ng, h.p0, h.p1, by rw [← e]; exact h.nx, h.lo⟩
  refine ⟨fun hb => mk (hn.1 hb) ?_, fun d hb h5 => mk (hn.2.1 d hb h5) ?_, fun d hb h5 => ?_⟩
  · unfold emitC; rw [hb]
  · unfold emitC; rw [hb]; exact if_neg h5
  · rw [← h.nx]; exact hn.2.2 d hb h5
theorem rest_le (c : Cst) (l : List UInt8) : (restC c l).length ≤ l.length := by unfold restC; split <;> simp
theorem NS.mu {P : Nat → Prop} {w w1 : World} {g : Nat} {N : Option Rq × Cst × List UInt8} {c1 : Cst} {b : UInt8} {l2 : List UInt8} (h : NS P w g N c1 (b :: l2) w1) : waitLen w1 g = l2.length + 1 := by rw [co_wait h.co]; rfl
theorem mu_lt {P : Nat → Prop} {w w1 w2 : World} {g : Nat} {N : Option Rq × Cst × List UInt8} {c2 : Cst} {l2 : List UInt8} (HM : Hid (waitLen w1 g = l2.length + 1)) (h : NS P w g N c2 (restC c2 l2) w2) : waitLen w2 g < waitLen w1 g := by
  rw [co_wait h.co, HM.out]
  have := rest_le c2 l2
  omega
theorem NS.put_none {P : Nat → Prop} {w w1 : World} {g : Nat} {N : Option Rq × Cst × List UInt8} {c1 : Cst} (h : NS P w g N c1 [] w1) :
    Nexted P w g N (.returned (.tuple #[.agg #[.string ⟨#[]⟩, .string ⟨#[]⟩, .slice none 0 0, .string ⟨#[]⟩, .bool false], .bool false])) (put5 w1 w.heap.size (.string ⟨#[]⟩) (.string ⟨#[]⟩) (.slice none 0 0) (.string ⟨#[]⟩) (.bool false)) := by
  have e : N = (none, c1, []) := h.nx.symm
  subst e
  have hnp : ¬ P w.heap.size := fun hp => by have := h.lo _ hp; omega
  obtain ⟨wv, lv, fv, bv, hv⟩ := h.co
  refine ⟨.slice none 0 0, rfl, World.ownsRow_nil _ _ _ _, ⟨_, _, _, _, (hv.put5 (k := w.heap.size) (.inr rfl) (own_ne2 hv.fl h.res (by decide)) _ _ _ _ _).weak fun k hk => .inl hk⟩, put5_fr h.fr hnp _ _ _ _ _⟩
theorem NS.put_some {P : Nat → Prop} {w w1 w4 : World} {g : Nat} {N : Option Rq × Cst × List UInt8} {c1 c2 : Cst} {b : UInt8} {d : Bst} {l1 l2 : List UInt8} {Af : Option Addr} {cf : Nat} (h : NS P w g N c1 (b :: l1) w1) (hf : Fr (fun k => P k ∨ k = w.heap.size) g w1 w4) (hN : N = (some (wholeRq c2 d), wholeC c2, restC (wholeC c2) l2))
    (hrow : w4.ownsRow 0 64 2 (.slice Af c2.rq.fs.length cf) c2.rq.fs.length (fldCells c2.rq.fs)) (ho : CO (fun k => P k ∨ k = w.heap.size) w4 g (wholeC c2) (restC (wholeC c2) l2)) :
    Nexted P w g N (.returned (.tuple #[.agg #[.string (wholeRq c2 d).m, .string (wholeRq c2 d).t, .slice Af c2.rq.fs.length cf, .string (wholeRq c2 d).body, .bool (wholeRq c2 d).close], .bool true])) (put5 w4 w.heap.size (.string (wholeRq c2 d).m) (.string (wholeRq c2 d).t) (.slice Af c2.rq.fs.length cf) (.string (wholeRq c2 d).body) (.bool (wholeRq c2 d).close)) := by
  subst hN
  have hnp : ¬ P w.heap.size := fun hp => by have := h.lo _ hp; omega
  obtain ⟨wv, lv, fv, bv, hv⟩ := ho
  have hr := h.res_fr hf
  exact ⟨.slice Af c2.rq.fs.length cf, rfl, put5_own hrow (own_ne2 hrow hr (by decide)) _ _ _ _ _, ⟨_, _, _, _, (hv.put5 (k := w.heap.size) (.inr rfl) (own_ne2 hv.fl hr (by decide)) _ _ _ _ _).weak fun k hk => .inl hk⟩, put5_fr (h.fr.trans (hf.weak fun k hk => .inl hk)) hnp _ _ _ _ _⟩

set_option maxRecDepth 10000 in
set_option maxHeartbeats 4000000 in
theorem cnext_any {P : Nat → Prop} {w : World} {g : Nat} {c : Cst} {l : List UInt8} (h : CO P w g c l) (hok : Okc c) (hdl : c.done = true → l = []) (hm : MX w) (h0 : P 4) (N : Option Rq × Cst × List UInt8) (hN : Hid (nextC c l = N)) :
    Calls Tryz.prog 14 #[.pointer (some ⟨g, 0, none⟩)] w fun e w' => Nexted P w g N e w' := by
  have HNS0 := Lib.hid (NS.start h hok hdl hm h0 hN)
  clear h hok hdl hm h0 hN
  unfold zero5 at HNS0
  go_enter Tryz.func14, Tryz.ntmps14
  go_wp2
  refine wp_scope_jumps 0 (fun a' w' => ∃ (c1 : Cst) (l1 : List UInt8) (u4 u5 u6 u7 u8 u9 u10 u11 u12 u13 u14 u15 u16 u17 u18 u19 u20 u21 u22 u23 u24 u25 u26 u27 u28 u29 : Value), a' = { tmps := #[.pointer (some ⟨g, 0, none⟩), undef, .pointer (some ⟨w.heap.size, 0, none⟩), .bool false, u4, u5, u6, u7, u8, u9, u10, u11, u12, u13, u14, u15, u16, u17, u18, u19, u20, u21, u22, u23, u24, u25, u26, u27, u28, u29], defers := [] } ∧ NS P w g N c1 l1 w') (fun _ w' => waitLen w' g) rfl ?_ ?_
  · go_wp2
    go_step3
    have hns := HNS0.out
    clear HNS0
    generalize w.alloc (.cells #[.string ⟨#[]⟩, .string ⟨#[]⟩, .slice none 0 0, .string ⟨#[]⟩, .bool false] 33) = w1 at *
    revert hns
    generalize c = c1
    generalize l = l1
    intro hns
    have HNS := Lib.hid hns
    cases l1 with
    | nil =>
      obtain ⟨wv, lv, fv, bv, hv⟩ := hns.co
      obtain ⟨A, cap, rfl, _⟩ := hv.wt
      have k0 := hv.cell 0
      simp [ctCells] at k0
      have r0 := hns.res
      have t0 := blk_cell r0 0; have t1 := blk_cell r0 1; have t2 := blk_cell r0 2; have t3 := blk_cell r0 3; have t4 := blk_cell r0 4
      have s0 := blk_free r0 0; have s1 := blk_free r0 1; have s2 := blk_free r0 2; have s3 := blk_free r0 3; have s4 := blk_free r0 4
      simp [zero5] at t0 t1 t2 t3 t4
      have HO := Lib.hid (hns.put_none)
      have HRB := Lib.hid (put5_blk r0 (.string ⟨#[]⟩) (.string ⟨#[]⟩) (.slice none 0 0) (.string ⟨#[]⟩) (.bool false))
      clear hns hv r0
      go_wp2_with fail
      simp only [Exit.jump]
      refine ret18 (V := put5 w1 w.heap.size (.string ⟨#[]⟩) (.string ⟨#[]⟩) (.slice none 0 0) (.string ⟨#[]⟩) (.bool false)) HRB.out rfl rfl rfl ?_
      exact HO.out
    | cons b l2 =>
      have hdn := hns.live
      obtain ⟨wv, lv, fv, bv, hv⟩ := hns.co
      obtain ⟨A, cap, hwv, _⟩ := hv.wt
      have k0 := hv.cell 0
      simp [ctCells, hwv] at k0
      have HT := Lib.hid (ctake_any hns.co)
      have HMU := Lib.hid (hns.mu)
      clear hns hv hwv
      go_wp2_with fail
      refine HT.out.mono ?_
      rintro e w2 ⟨rfl, ho2, hf2⟩
      have HK := Lib.hid (clook_any ho2 HNS.out.ok hdn b (HNS.out.mx.fr hf2 HNS.out.p0 HNS.out.ng) HNS.out.p0)
      have HF2 := Lib.hid hf2
      clear hf2 ho2 HT k0
      go_wp2_with fail
      refine HK.out.mono ?_
      rintro e w3 ⟨rfl, ho3, hf3⟩
      have HST := Lib.hid (HNS.out.step hdn ho3 (HF2.out.trans hf3))
      have hoka := oka_look HNS.out.ok b
      have HF3 := Lib.hid (HF2.out.trans hf3)
      clear HF2 hf3 HK
      obtain ⟨wv3, lv3, fv3, bv3, hv3⟩ := ho3
      have k7 := hv3.cell 7
      simp [ctCells] at k7
      cases hb3 : (lookC c1 b).bd with
      | none =>
        have hbv := hv3.bn hb3
        subst hbv
        have HN2 := Lib.hid (HST.out.1 hb3)
        clear hv3 hoka hb3
        go_wp2_with fail
        go_step3
        refine ⟨rfl, ⟨_, _, _, _, _, _, _, _, _, _, _, _, _, _, _, _, _, _, _, _, _, _, _, _, _, _, _, _, rfl, HN2.out⟩⟩
      | some d =>
        obtain ⟨gb, rfl, hgp, hbo⟩ := hv3.bs d hb3
        obtain ⟨m1, m2, m3, m4⟩ := hoka.amid d hb3
        have HDO := Lib.hid (done_any hbo)
        by_cases h5 : d.st = 5
        · have h5t : (d.st == 5) = true := by rw [h5]; rfl
          rw [h5t] at HDO
          have HWH := Lib.hid (cwhole_any ⟨_, _, _, _, hv3⟩ m4 (hoka.stat m4) hb3 m1)
          have HEM := Lib.hid (HST.out.2.2 d hb3 h5)
          have HRL : Hid (restC (lookC c1 b) l2 = l2) := by unfold restC; rw [if_neg (by simp [m4])]; rfl
          clear hv3 hoka hb3 hbo hgp m1 m2 m3 m4 h5 h5t
          go_wp2_with fail
          refine HDO.out.mono ?_
          rintro e w4 ⟨rfl, rfl⟩
          clear HDO k7
          go_wp2_with fail
          refine HWH.out.mono ?_
          rintro e w4 ⟨fv4, rfl, hrow4, ho4, hf4⟩
          obtain ⟨Af, cf, rfl, _⟩ := Rd.own hrow4
          rw [HRL.out] at ho4
          have r0 := HNS.out.res_fr (HF3.out.trans hf4)
          have t0 := blk_cell r0 0; have t1 := blk_cell r0 1; have t2 := blk_cell r0 2; have t3 := blk_cell r0 3; have t4 := blk_cell r0 4
          have s0 := blk_free r0 0; have s1 := blk_free r0 1; have s2 := blk_free r0 2; have s3 := blk_free r0 3; have s4 := blk_free r0 4
          simp [zero5] at t0 t1 t2 t3 t4
          have HO := Lib.hid (HNS.out.put_some (HF3.out.trans hf4) HEM.out hrow4 ho4)
          unfold rqVal
          generalize wholeRq (lookC c1 b) d = rr at *
          have HRB := Lib.hid (put5_blk r0 (.string rr.m) (.string rr.t) (.slice Af (lookC c1 b).rq.fs.length cf) (.string rr.body) (.bool rr.close))
          clear hrow4 ho4 hf4 r0 HWH HEM
          go_wp2_with fail
          simp only [Exit.jump]
          refine ret18 (V := put5 w4 w.heap.size (.string rr.m) (.string rr.t) (.slice Af (lookC c1 b).rq.fs.length cf) (.string rr.body) (.bool rr.close)) HRB.out rfl rfl rfl ?_
          exact HO.out
        · have h5t : (d.st == 5) = false := by simpa using h5
          rw [h5t] at HDO
          have HN2 := Lib.hid (HST.out.2.1 d hb3 h5)
          clear hv3 hoka hb3 hbo hgp m1 m2 m3 m4 h5 h5t
          go_wp2_with fail
          refine HDO.out.mono ?_
          rintro e w4 ⟨rfl, rfl⟩
          go_wp2_with fail
          go_step3
          refine ⟨rfl, ⟨_, _, _, _, _, _, _, _, _, _, _, _, _, _, _, _, _, _, _, _, _, _, _, _, _, _, _, _, rfl, HN2.out⟩⟩
  · rintro a1 w1 ⟨c1, l1, u4, u5, u6, u7, u8, u9, u10, u11, u12, u13, u14, u15, u16, u17, u18, u19, u20, u21, u22, u23, u24, u25, u26, u27, u28, u29, rfl, hns⟩
    clear HNS0
    have HNS := Lib.hid hns
    cases l1 with
    | nil =>
      obtain ⟨wv, lv, fv, bv, hv⟩ := hns.co
      obtain ⟨A, cap, rfl, _⟩ := hv.wt
      have k0 := hv.cell 0
      simp [ctCells] at k0
      have r0 := hns.res
      have t0 := blk_cell r0 0; have t1 := blk_cell r0 1; have t2 := blk_cell r0 2; have t3 := blk_cell r0 3; have t4 := blk_cell r0 4
      have s0 := blk_free r0 0; have s1 := blk_free r0 1; have s2 := blk_free r0 2; have s3 := blk_free r0 3; have s4 := blk_free r0 4
      simp [zero5] at t0 t1 t2 t3 t4
      have HO := Lib.hid (hns.put_none)
      have HRB := Lib.hid (put5_blk r0 (.string ⟨#[]⟩) (.string ⟨#[]⟩) (.slice none 0 0) (.string ⟨#[]⟩) (.bool false))
      clear hns hv r0
      go_wp2_with fail
      simp only [Exit.jump]
      refine ret18 (V := put5 w1 w.heap.size (.string ⟨#[]⟩) (.string ⟨#[]⟩) (.slice none 0 0) (.string ⟨#[]⟩) (.bool false)) HRB.out rfl rfl rfl ?_
      exact HO.out
    | cons b l2 =>
      have hdn := hns.live
      obtain ⟨wv, lv, fv, bv, hv⟩ := hns.co
      obtain ⟨A, cap, hwv, _⟩ := hv.wt
      have k0 := hv.cell 0
      simp [ctCells, hwv] at k0
      have HT := Lib.hid (ctake_any hns.co)
      have HMU := Lib.hid (hns.mu)
      clear hns hv hwv
      go_wp2_with fail
      refine HT.out.mono ?_
      rintro e w2 ⟨rfl, ho2, hf2⟩
      have HK := Lib.hid (clook_any ho2 HNS.out.ok hdn b (HNS.out.mx.fr hf2 HNS.out.p0 HNS.out.ng) HNS.out.p0)
      have HF2 := Lib.hid hf2
      clear hf2 ho2 HT k0
      go_wp2_with fail
      refine HK.out.mono ?_
      rintro e w3 ⟨rfl, ho3, hf3⟩
      have HST := Lib.hid (HNS.out.step hdn ho3 (HF2.out.trans hf3))
      have hoka := oka_look HNS.out.ok b
      have HF3 := Lib.hid (HF2.out.trans hf3)
      clear HF2 hf3 HK
      obtain ⟨wv3, lv3, fv3, bv3, hv3⟩ := ho3
      have k7 := hv3.cell 7
      simp [ctCells] at k7
      cases hb3 : (lookC c1 b).bd with
      | none =>
        have hbv := hv3.bn hb3
        subst hbv
        have HN2 := Lib.hid (HST.out.1 hb3)
        clear hv3 hoka hb3
        go_wp2_with fail
        go_step3
        refine ⟨rfl, ⟨_, _, _, _, _, _, _, _, _, _, _, _, _, _, _, _, _, _, _, _, _, _, _, _, _, _, _, _, rfl, HN2.out⟩, mu_lt HMU HN2.out⟩
      | some d =>
        obtain ⟨gb, rfl, hgp, hbo⟩ := hv3.bs d hb3
        obtain ⟨m1, m2, m3, m4⟩ := hoka.amid d hb3
        have HDO := Lib.hid (done_any hbo)
        by_cases h5 : d.st = 5
        · have h5t : (d.st == 5) = true := by rw [h5]; rfl
          rw [h5t] at HDO
          have HWH := Lib.hid (cwhole_any ⟨_, _, _, _, hv3⟩ m4 (hoka.stat m4) hb3 m1)
          have HEM := Lib.hid (HST.out.2.2 d hb3 h5)
          have HRL : Hid (restC (lookC c1 b) l2 = l2) := by unfold restC; rw [if_neg (by simp [m4])]; rfl
          clear hv3 hoka hb3 hbo hgp m1 m2 m3 m4 h5 h5t
          go_wp2_with fail
          refine HDO.out.mono ?_
          rintro e w4 ⟨rfl, rfl⟩
          clear HDO k7
          go_wp2_with fail
          refine HWH.out.mono ?_
          rintro e w4 ⟨fv4, rfl, hrow4, ho4, hf4⟩
          obtain ⟨Af, cf, rfl, _⟩ := Rd.own hrow4
          rw [HRL.out] at ho4
          have r0 := HNS.out.res_fr (HF3.out.trans hf4)
          have t0 := blk_cell r0 0; have t1 := blk_cell r0 1; have t2 := blk_cell r0 2; have t3 := blk_cell r0 3; have t4 := blk_cell r0 4
          have s0 := blk_free r0 0; have s1 := blk_free r0 1; have s2 := blk_free r0 2; have s3 := blk_free r0 3; have s4 := blk_free r0 4
          simp [zero5] at t0 t1 t2 t3 t4
          have HO := Lib.hid (HNS.out.put_some (HF3.out.trans hf4) HEM.out hrow4 ho4)
          unfold rqVal
          generalize wholeRq (lookC c1 b) d = rr at *
          have HRB := Lib.hid (put5_blk r0 (.string rr.m) (.string rr.t) (.slice Af (lookC c1 b).rq.fs.length cf) (.string rr.body) (.bool rr.close))
          clear hrow4 ho4 hf4 r0 HWH HEM
          go_wp2_with fail
          simp only [Exit.jump]
          refine ret18 (V := put5 w4 w.heap.size (.string rr.m) (.string rr.t) (.slice Af (lookC c1 b).rq.fs.length cf) (.string rr.body) (.bool rr.close)) HRB.out rfl rfl rfl ?_
          exact HO.out
        · have h5t : (d.st == 5) = false := by simpa using h5
          rw [h5t] at HDO
          have HN2 := Lib.hid (HST.out.2.1 d hb3 h5)
          clear hv3 hoka hb3 hbo hgp m1 m2 m3 m4 h5 h5t
          go_wp2_with fail
          refine HDO.out.mono ?_
          rintro e w4 ⟨rfl, rfl⟩
          go_wp2_with fail
          go_step3
          refine ⟨rfl, ⟨_, _, _, _, _, _, _, _, _, _, _, _, _, _, _, _, _, _, _, _, _, _, _, _, _, _, _, _, rfl, HN2.out⟩, mu_lt HMU HN2.out⟩

end Go.Proofs.YtkjlbddaglcooaaGreatDoor
