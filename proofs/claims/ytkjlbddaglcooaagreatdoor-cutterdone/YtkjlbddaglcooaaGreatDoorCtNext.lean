/- The contract of (*Cutter).whole. -/
import Derived.Test.YtkjlbddaglcooaaGreatDoorCtLook
namespace Go.Proofs.YtkjlbddaglcooaaGreatDoor
open Go.RowKit Pl
open Go.Lib (byteCells)

def rqVal (r : Rq) (fv : Value) : Value := .agg #[.string r.m, .string r.t, fv, .string r.body, .bool r.close]
def zero5 : Array Value := #[.string ⟨#[]⟩, .string ⟨#[]⟩, .slice none 0 0, .string ⟨#[]⟩, .bool false]

section
variable {P Q : Nat → Prop} {w w' : World} {g : Nat} {c : Cst} {l : List UInt8} {wv lv fv bv : Value}
/-- Between two requests: what it may not touch is all but its block and the bytes that wait. -/
theorem CV.loose (h : CV P w g c l wv lv fv bv) (hl : c.lines = []) (hb : c.bd = none) (hQ : ∀ k, Q k → k < w.heap.size ∧ k ≠ g ∧ wv.ownBlock ≠ some k) : CV Q w g c l wv lv fv bv :=
  ⟨h.blk, h.wt, h.ln, h.fl, fun k hk => (hQ k hk).1, fun hq => (hQ g hq).2.1 rfl, fun k hk hq => (hQ k hq).2.2 hk, fun k hk => (by rw [h.nl hl] at hk; cases hk), h.ap, h.nl, h.bn, fun d hd => (by rw [hb] at hd; cases hd)⟩
theorem CV.weak (h : CV P w g c l wv lv fv bv) (hQ : ∀ k, Q k → P k) : CV Q w g c l wv lv fv bv :=
  ⟨h.blk, h.wt, h.ln, h.fl, fun k hk => h.lo k (hQ k hk), fun hq => h.ng (hQ g hq), fun k hk hq => h.wtP k hk (hQ k hq), fun k hk hq => h.lnP k hk (hQ k hq), h.ap, h.nl, h.bn, fun d hd => by
    obtain ⟨gb, e, h1, h2⟩ := h.bs d hd
    exact ⟨gb, e, fun hq => h1 (hQ gb hq), h2.weak fun k hk => hk.elim (fun x => .inl (hQ k x)) .inr⟩⟩
theorem CV.far (h : CV P w g c l wv lv fv bv) {k i : Nat} {u : Value} (hk : P k) (hf : fv.ownBlock ≠ some k) : CV P (w.setCell ⟨k, i, none⟩ u) g c l wv lv fv bv := by
  have hgk : g ≠ k := fun e => h.ng (e ▸ hk)
  refine ⟨(Below.heap_setCell _ _ _ _ hgk).trans h.blk, h.wt.block fun j hj => Below.heap_setCell _ _ _ _ fun e => h.wtP j hj (e ▸ hk), ownsRow_setCell_other h.ln (fun e => h.lnP k e hk) _, ownsRow_setCell_other h.fl hf _, fun j hj => le_set (h.lo j hj), h.ng, h.wtP, h.lnP, h.ap, h.nl, h.bn, fun d hd => ?_⟩
  obtain ⟨gb, e, h1, h2⟩ := h.bs d hd
  exact ⟨gb, e, h1, h2.far (.inl hk) (fun e => h1 (e ▸ hk))⟩
theorem CV.clearBody (h : CV P w g c l wv lv fv bv) (hl : c.lines = []) :
    CV P ((((((w.setCell ⟨g, 2, none⟩ (.string ⟨#[]⟩)).setCell ⟨g, 3, none⟩ (.string ⟨#[]⟩)).setCell ⟨g, 4, none⟩ (.slice none 0 0)).setCell ⟨g, 5, none⟩ (.string ⟨#[]⟩)).setCell ⟨g, 6, none⟩ (.bool false)).setCell ⟨g, 7, none⟩ (.pointer none)) g ⟨c.lines, nilRq, none, c.done, c.status⟩ l wv lv (.slice none 0 0) (.pointer none) := by
  have e0 : w.heap[g]? = some (.cells #[wv, lv, .string c.rq.m, .string c.rq.t, fv, .string c.rq.body, .bool c.rq.close, bv, .bool c.done, .int .i64 c.status] 59 (0, 0)) := h.blk
  have e2 : (w.setCell ⟨g, 2, none⟩ (.string ⟨#[]⟩)).heap[g]? = some (.cells #[wv, lv, .string ⟨#[]⟩, .string c.rq.t, fv, .string c.rq.body, .bool c.rq.close, bv, .bool c.done, .int .i64 c.status] 59 (0, 0)) := set_same 2 e0
  have e3 : ((w.setCell ⟨g, 2, none⟩ (.string ⟨#[]⟩)).setCell ⟨g, 3, none⟩ (.string ⟨#[]⟩)).heap[g]? = some (.cells #[wv, lv, .string ⟨#[]⟩, .string ⟨#[]⟩, fv, .string c.rq.body, .bool c.rq.close, bv, .bool c.done, .int .i64 c.status] 59 (0, 0)) := set_same 3 e2
  have e4 := set_same (v := .slice none 0 0) 4 e3
  have e5 := set_same (v := .string ⟨#[]⟩) 5 e4
  have e6 := set_same (v := .bool false) 6 e5
  have e7 := set_same (v := .pointer none) 7 e6
  have hlv := h.nl hl
  refine ⟨e7.trans rfl, h.wt.block fun k hk => ?_, ?_, World.ownsRow_nil _ _ _ _, fun k hk => le_set (le_set (le_set (le_set (le_set (le_set (h.lo k hk)))))), h.ng, h.wtP, h.lnP, h.ap, h.nl, fun _ => rfl, fun d hd => (by cases hd)⟩
  · have hkg : k ≠ g := fun e => h.neW (by rw [hk, e])
    rw [Below.heap_setCell _ _ _ _ hkg, Below.heap_setCell _ _ _ _ hkg, Below.heap_setCell _ _ _ _ hkg, Below.heap_setCell _ _ _ _ hkg, Below.heap_setCell _ _ _ _ hkg, Below.heap_setCell _ _ _ _ hkg]
  · show World.ownsRow _ _ _ _ lv c.lines.length (byteCells c.lines)
    rw [hlv, hl]
    exact World.ownsRow_nil _ _ _ _
end

def put5 (W : World) (R : Nat) (u0 u1 u2 u3 u4 : Value) : World :=
  ((((W.setCell ⟨R, 0, none⟩ u0).setCell ⟨R, 1, none⟩ u1).setCell ⟨R, 2, none⟩ u2).setCell ⟨R, 3, none⟩ u3).setCell ⟨R, 4, none⟩ u4
theorem put5_blk {W : World} {R : Nat} {x0 x1 x2 x3 x4 : Value} (h : W.heap[R]? = some (.cells #[x0, x1, x2, x3, x4] 33 (0, 0))) (u0 u1 u2 u3 u4 : Value) : (put5 W R u0 u1 u2 u3 u4).heap[R]? = some (.cells #[u0, u1, u2, u3, u4] 33 (0, 0)) := by
  have e0 : (W.setCell ⟨R, 0, none⟩ u0).heap[R]? = some (.cells #[u0, x1, x2, x3, x4] 33 (0, 0)) := set_same 0 h
  have e1 : ((W.setCell ⟨R, 0, none⟩ u0).setCell ⟨R, 1, none⟩ u1).heap[R]? = some (.cells #[u0, u1, x2, x3, x4] 33 (0, 0)) := set_same 1 e0
  have e2 := set_same (v := u2) 2 e1
  have e3 := set_same (v := u3) 3 e2
  exact set_same (v := u4) 4 e3
theorem ret28 {V : World} {R : Nat} {a : Act} {X : Ending → World → Prop} {u0 u1 u2 u3 u4 : Value} (hb : V.heap[R]? = some (.cells #[u0, u1, u2, u3, u4] 33 (0, 0))) (ha : a.tmps.getD 2 undef = .pointer (some ⟨R, 0, none⟩)) (hd : a.defers = [])
    (hQ : X (.returned (.agg #[u0, u1, u2, u3, u4])) V) : bodyPost Tryz.prog Tryz.f27 X .ret a V := by
  have c0 := blk_cell hb 0
  have c1 := blk_cell hb 1
  have c2 := blk_cell hb 2
  have c3 := blk_cell hb 3
  have c4 := blk_cell hb 4
  simp at c0 c1 c2 c3 c4
  simp at ha
  exact bodyPost_ret (v := .agg #[u0, u1, u2, u3, u4]) (by simp [results, Tryz.results27, go_sem, ha, c0, c1, c2, c3, c4]) hd hQ
theorem CV.put5 {P : Nat → Prop} {w : World} {g : Nat} {c : Cst} {l : List UInt8} {wv lv fv bv : Value} (h : CV P w g c l wv lv fv bv) {k : Nat} (hk : P k) (hf : fv.ownBlock ≠ some k) (u0 u1 u2 u3 u4 : Value) : CV P (put5 w k u0 u1 u2 u3 u4) g c l wv lv fv bv := by
  unfold YtkjlbddaglcooaaGreatDoor.put5
  exact ((((h.far hk hf).far hk hf).far hk hf).far hk hf).far hk hf
theorem put5_own {w : World} {base n k R : Nat} {e : TypeId} {v : Value} {xs : List Value} (h : w.ownsRow base e k v n xs) (hR : v.ownBlock ≠ some R) (u0 u1 u2 u3 u4 : Value) : (put5 w R u0 u1 u2 u3 u4).ownsRow base e k v n xs := by
  unfold put5
  exact ownsRow_setCell_other (ownsRow_setCell_other (ownsRow_setCell_other (ownsRow_setCell_other (ownsRow_setCell_other h hR _) hR _) hR _) hR _) hR _
theorem put5_other {W : World} {R k : Nat} (hk : k ≠ R) (u0 u1 u2 u3 u4 : Value) : (put5 W R u0 u1 u2 u3 u4).heap[k]? = W.heap[k]? := by
  unfold put5
  rw [Below.heap_setCell _ _ _ _ (by simpa using hk), Below.heap_setCell _ _ _ _ (by simpa using hk), Below.heap_setCell _ _ _ _ (by simpa using hk), Below.heap_setCell _ _ _ _ (by simpa using hk), Below.heap_setCell _ _ _ _ (by simpa using hk)]
theorem put5_fr {P : Nat → Prop} {g : Nat} {a W : World} {R : Nat} (h : Fr P g a W) (hR : ¬ P R) (u0 u1 u2 u3 u4 : Value) : Fr P g a (put5 W R u0 u1 u2 u3 u4) :=
  h.trans ⟨by simp [put5, World.setCell], by simp [put5, World.setCell], by simp [put5, World.setCell], by simp [put5, World.setCell], fun k hk _ => put5_other (fun e => hR (by rw [← e]; exact hk)) _ _ _ _ _⟩
theorem put5_size {W : World} {R : Nat} (u0 u1 u2 u3 u4 : Value) : (put5 W R u0 u1 u2 u3 u4).heap.size = W.heap.size := by simp [put5, World.setCell]

theorem whole_close {c : Cst} (h : c.rq.close = true) : wholeC c = stopC 0 := by unfold wholeC; rw [if_pos h]
theorem whole_open {c : Cst} (h : c.rq.close = false) : wholeC c = ⟨c.lines, nilRq, none, false, 0⟩ := by unfold wholeC; rw [if_neg (by simp [h])]

set_option maxRecDepth 10000 in
set_option maxHeartbeats 2000000 in
theorem cwhole_any {P : Nat → Prop} {w : World} {g : Nat} {c : Cst} {l : List UInt8} {d : Bst} (h : CO P w g c l) (hd : c.done = false) (hst : c.status = 0) (hbd : c.bd = some d) (hln : c.lines = []) :
    Calls Tryz.prog 27 #[.pointer (some ⟨g, 0, none⟩)] w fun e w' => ∃ fv, e = .returned (rqVal (wholeRq c d) fv) ∧ w'.ownsRow 0 64 2 fv c.rq.fs.length (fldCells c.rq.fs) ∧ CO P w' g (wholeC c) (restC (wholeC c) l) ∧ Fr P g w w' := by
  obtain ⟨wv, lv, fv, bv, h⟩ := h
  obtain ⟨gb, rfl, hnP, hbo⟩ := h.bs d hbd
  obtain ⟨Af, cf, rfl, _⟩ := Rd.own h.fl
  have hb1 : Below w.heap.size w (w.alloc (.cells zero5 33)) := (Below.refl _ _).alloc (Nat.le_refl _) _
  have hb2 : Below w.heap.size w ((w.alloc (.cells zero5 33)).alloc (.cells #[.string c.rq.m, .string c.rq.t, .slice Af c.rq.fs.length cf, .string c.rq.body, .bool c.rq.close] 33)) := hb1.alloc (by simp) _
  have h1 := h.below hb1
  have h2 := h.below hb2
  have a2 := h1.cell 2; have a3 := h1.cell 3; have a4 := h1.cell 4; have a5 := h1.cell 5; have a6 := h1.cell 6
  have e7 := h2.cell 7
  have k2 := h.cell 2; have k3 := h.cell 3; have k4 := h.cell 4; have k5 := h.cell 5; have k6 := h.cell 6; have k7 := h.cell 7
  have f2 := h.free 2; have f3 := h.free 3; have f4 := h.free 4; have f5 := h.free 5; have f6 := h.free 6; have f7 := h.free 7
  simp [ctCells] at a2 a3 a4 a5 a6 e7 k2 k3 k4 k5 k6 k7
  have HDA := Lib.hid (data_any (hbo.below hb2))
  have hgl := h.lt
  have hV := h.clearBody hln
  have hFV : Fr P g w ((((((w.setCell ⟨g, 2, none⟩ (.string ⟨#[]⟩)).setCell ⟨g, 3, none⟩ (.string ⟨#[]⟩)).setCell ⟨g, 4, none⟩ (.slice none 0 0)).setCell ⟨g, 5, none⟩ (.string ⟨#[]⟩)).setCell ⟨g, 6, none⟩ (.bool false)).setCell ⟨g, 7, none⟩ (.pointer none)) := ((((((Fr.refl _ _ _).setCell _ _).setCell _ _).setCell _ _).setCell _ _).setCell _ _).setCell _ _
  have hne := h.neF
  have hfV := ownsRow_setCell_other (a := ⟨g, 7, none⟩) (ownsRow_setCell_other (a := ⟨g, 6, none⟩) (ownsRow_setCell_other (a := ⟨g, 5, none⟩) (ownsRow_setCell_other (a := ⟨g, 4, none⟩) (ownsRow_setCell_other (a := ⟨g, 3, none⟩) (ownsRow_setCell_other (a := ⟨g, 2, none⟩) h.fl hne (.string ⟨#[]⟩)) hne (.string ⟨#[]⟩)) hne (.slice none 0 0)) hne (.string ⟨#[]⟩)) hne (.bool false)) hne (.pointer none)
  have hszV : ((((((w.setCell ⟨g, 2, none⟩ (.string ⟨#[]⟩)).setCell ⟨g, 3, none⟩ (.string ⟨#[]⟩)).setCell ⟨g, 4, none⟩ (.slice none 0 0)).setCell ⟨g, 5, none⟩ (.string ⟨#[]⟩)).setCell ⟨g, 6, none⟩ (.bool false)).setCell ⟨g, 7, none⟩ (.pointer none)).heap.size = w.heap.size := by simp [World.setCell]
  have HWF : Hid (∀ k, (Value.slice Af c.rq.fs.length cf).ownBlock = some k → wv.ownBlock ≠ some k) := fun k hk => by
    rcases h.fl.2 with ⟨e, _⟩ | ⟨g', cap', cur, e, _, hh, _⟩
    · rw [e] at hk; cases hk
    · rw [e] at hk
      have : g' = k := by simpa [Value.ownBlock] using hk
      subst this
      exact h.wt.ne hh (by decide)
  have HWLT := Lib.hid fun k hk => h.wt.lt k hk
  have HFLT := Lib.hid fun k hk => (h.fl.lt k hk).2
  have HV := Lib.hid hV; have HFV := Lib.hid hFV; have HFW := Lib.hid hfV; have HSZ := Lib.hid hszV; have HNE := Lib.hid hne
  have HD := Lib.hid hd; have HST := Lib.hid hst; have HLN := Lib.hid hln
  have HLO := Lib.hid h.lo
  clear hb1 hb2 h1 h2 hV hFV hfV hszV hne hd hst hln hbo hnP hbd h
  unfold zero5 at *
  have hg0 : ¬ (g = w.heap.size) := by omega
  have hg0' : ¬ (w.heap.size = g) := by omega
  have hg1 : ¬ (g = w.heap.size + 1) := by omega
  have hg1' : ¬ (w.heap.size + 1 = g) := by omega
  cases hcl : c.rq.close with
  | true =>
    have HW := Lib.hid (whole_close hcl)
    have HR : Hid (restC (wholeC c) l = []) := by rw [HW.out]; rfl
    have HRQ : Hid (wholeRq c d = ⟨c.rq.m, c.rq.t, c.rq.fs, ⟨d.data.toArray⟩, true⟩) := by unfold wholeRq; rw [hcl]; rfl
    rw [hcl] at k6 a6
    simp only [hcl] at HDA e7
    clear hcl
    go_enter Tryz.func27, Tryz.ntmps27
    go_wp2_with fail
    refine HDA.out.mono ?_
    rintro e w3 ⟨rfl, rfl⟩
    clear HDA e7 a2 a3 a4 a5 a6
    go_wp2_with fail
    generalize (((((w.setCell ⟨g, 2, none⟩ (.string ⟨#[]⟩)).setCell ⟨g, 3, none⟩ (.string ⟨#[]⟩)).setCell ⟨g, 4, none⟩ (.slice none 0 0)).setCell ⟨g, 5, none⟩ (.string ⟨#[]⟩)).setCell ⟨g, 6, none⟩ (.bool false)).setCell ⟨g, 7, none⟩ (.pointer none) = V at *
    have hbv : Below V.heap.size V ((V.alloc (.cells zero5 33)).alloc (.cells #[.string c.rq.m, .string c.rq.t, .slice Af c.rq.fs.length cf, .string ⟨d.data.toArray⟩, .bool true] 33)) := ((Below.refl _ _).alloc (Nat.le_refl _) _).alloc (by simp) _
    have hq0 : ((V.alloc (.cells zero5 33)).alloc (.cells #[.string c.rq.m, .string c.rq.t, .slice Af c.rq.fs.length cf, .string ⟨d.data.toArray⟩, .bool true] 33)).heap[w.heap.size]? = some (.cells zero5 33 (0, 0)) := by
      rw [Below.heap_alloc _ _ _ (by simp [HSZ.out]), ← HSZ.out]; exact heap_alloc_new V _
    have hq1 : ((V.alloc (.cells zero5 33)).alloc (.cells #[.string c.rq.m, .string c.rq.t, .slice Af c.rq.fs.length cf, .string ⟨d.data.toArray⟩, .bool true] 33)).heap[w.heap.size + 1]? = some (.cells #[.string c.rq.m, .string c.rq.t, .slice Af c.rq.fs.length cf, .string ⟨d.data.toArray⟩, .bool true] 33 (0, 0)) := by
      have := heap_alloc_new (V.alloc (.cells zero5 33)) (.cells #[.string c.rq.m, .string c.rq.t, .slice Af c.rq.fs.length cf, .string ⟨d.data.toArray⟩, .bool true] 33)
      simpa [HSZ.out] using this
    have hv2 := HV.out.below hbv
    have hfr2 : Fr P g w ((V.alloc (.cells zero5 33)).alloc (.cells #[.string c.rq.m, .string c.rq.t, .slice Af c.rq.fs.length cf, .string ⟨d.data.toArray⟩, .bool true] 33)) := HFV.out.trans (Fr.of HV.out.lo hbv)
    have hfw2 := own_below HFW.out hbv
    have hsz2 : ((V.alloc (.cells zero5 33)).alloc (.cells #[.string c.rq.m, .string c.rq.t, .slice Af c.rq.fs.length cf, .string ⟨d.data.toArray⟩, .bool true] 33)).heap.size = w.heap.size + 2 := by simp [HSZ.out]
    unfold zero5 at *
    generalize (V.alloc (.cells #[.string ⟨#[]⟩, .string ⟨#[]⟩, .slice none 0 0, .string ⟨#[]⟩, .bool false] 33)).alloc (.cells #[.string c.rq.m, .string c.rq.t, .slice Af c.rq.fs.length cf, .string ⟨d.data.toArray⟩, .bool true] 33) = V2 at *
    have hvl := hv2.loose (Q := fun k => k < V2.heap.size ∧ k ≠ g ∧ wv.ownBlock ≠ some k) HLN.out rfl (fun k hk => hk)
    refine (cstop_any ⟨_, _, _, _, hvl⟩ 0).mono ?_
    rintro e w4 ⟨rfl, ⟨wv4, lv4, fv4, bv4, h4⟩, hf4⟩
    have hw0 : wv.ownBlock ≠ some w.heap.size := fun e => by have := HWLT.out _ e; omega
    have hw1 : wv.ownBlock ≠ some (w.heap.size + 1) := fun e => by have := HWLT.out _ e; omega
    have r0 := (hf4.block w.heap.size ⟨by omega, by omega, hw0⟩ hg0').trans hq0
    have r1 := (hf4.block (w.heap.size + 1) ⟨by omega, by omega, hw1⟩ hg1').trans hq1
    have u0 := blk_cell r1 0; have u1 := blk_cell r1 1; have u2 := blk_cell r1 2; have u3 := blk_cell r1 3; have u4 := blk_cell r1 4
    have t0 := blk_cell r0 0; have t1 := blk_cell r0 1; have t2 := blk_cell r0 2; have t3 := blk_cell r0 3; have t4 := blk_cell r0 4
    have s0 := blk_free r0 0; have s1 := blk_free r0 1; have s2 := blk_free r0 2; have s3 := blk_free r0 3; have s4 := blk_free r0 4
    simp at u0 u1 u2 u3 u4 t0 t1 t2 t3 t4
    have hnp : ¬ P w.heap.size := fun hp => by have := HLO.out _ hp; omega
    have HO4 : Hid (CO P (put5 w4 w.heap.size (.string c.rq.m) (.string c.rq.t) (.slice Af c.rq.fs.length cf) (.string ⟨d.data.toArray⟩) (.bool true)) g (stopC 0) []) := by
      refine ⟨_, _, _, _, (h4.put5 ?_ ?_ _ _ _ _ _).weak fun k hk => ⟨?_, ?_, ?_⟩⟩
      · exact ⟨by omega, by omega, hw0⟩
      · rcases h4.fl.2 with ⟨e, _⟩ | ⟨g', cap', cur, e, _, hh, hx, _⟩
        · rw [e]; simp [Value.ownBlock]
        · intro e2
          exact absurd (e2) (own_ne2 h4.fl r0 (by decide))
      · have := hv2.lo k hk; omega
      · intro e; exact hv2.ng (e ▸ hk)
      · exact fun e => hv2.wtP k e hk
    have HFR : Hid (Fr P g w (put5 w4 w.heap.size (.string c.rq.m) (.string c.rq.t) (.slice Af c.rq.fs.length cf) (.string ⟨d.data.toArray⟩) (.bool true))) :=
      put5_fr (hfr2.trans (hf4.weak fun k hk => ⟨hv2.lo k hk, fun e => hv2.ng (e ▸ hk), fun e => hv2.wtP k e hk⟩)) hnp _ _ _ _ _
    have HOW : Hid ((put5 w4 w.heap.size (.string c.rq.m) (.string c.rq.t) (.slice Af c.rq.fs.length cf) (.string ⟨d.data.toArray⟩) (.bool true)).ownsRow 0 64 2 (.slice Af c.rq.fs.length cf) c.rq.fs.length (fldCells c.rq.fs)) := by
      refine put5_own (kept_block hfw2 fun k hk => hf4.block k ⟨(hfw2.lt k hk).2, fun e => HNE.out (e ▸ hk), HWF.out k hk⟩ (fun e => HNE.out (e ▸ hk))) (fun e => ?_) _ _ _ _ _
      have := HFLT.out _ e
      omega
    have HRB := Lib.hid (put5_blk r0 (.string c.rq.m) (.string c.rq.t) (.slice Af c.rq.fs.length cf) (.string ⟨d.data.toArray⟩) (.bool true))
    clear h4 hf4 hvl hv2 hfr2 hfw2 hq0 hq1 hbv r0 r1
    go_wp2_with fail
    refine ret28 (V := put5 w4 w.heap.size (.string c.rq.m) (.string c.rq.t) (.slice Af c.rq.fs.length cf) (.string ⟨d.data.toArray⟩) (.bool true)) HRB.out rfl rfl ?_
    exact ⟨_, by rw [HRQ.out]; rfl, HOW.out, by rw [HR.out, HW.out]; exact HO4.out, HFR.out⟩
  | false =>
    have HW := Lib.hid (whole_open hcl)
    have HR : Hid (restC (wholeC c) l = l) := by rw [HW.out]; rfl
    have HRQ : Hid (wholeRq c d = ⟨c.rq.m, c.rq.t, c.rq.fs, ⟨d.data.toArray⟩, false⟩) := by unfold wholeRq; rw [hcl]; rfl
    rw [hcl] at k6 a6
    simp only [hcl] at HDA e7
    clear hcl
    go_enter Tryz.func27, Tryz.ntmps27
    go_wp2_with fail
    refine HDA.out.mono ?_
    rintro e w3 ⟨rfl, rfl⟩
    clear HDA e7 a2 a3 a4 a5 a6
    go_wp2_with fail
    generalize (((((w.setCell ⟨g, 2, none⟩ (.string ⟨#[]⟩)).setCell ⟨g, 3, none⟩ (.string ⟨#[]⟩)).setCell ⟨g, 4, none⟩ (.slice none 0 0)).setCell ⟨g, 5, none⟩ (.string ⟨#[]⟩)).setCell ⟨g, 6, none⟩ (.bool false)).setCell ⟨g, 7, none⟩ (.pointer none) = V at *
    have hbv : Below V.heap.size V ((V.alloc (.cells #[.string c.rq.m, .string c.rq.t, .slice Af c.rq.fs.length cf, .string ⟨d.data.toArray⟩, .bool false] 33)).alloc (.cells #[.string c.rq.m, .string c.rq.t, .slice Af c.rq.fs.length cf, .string ⟨d.data.toArray⟩, .bool false] 33)) := ((Below.refl _ _).alloc (Nat.le_refl _) _).alloc (by simp) _
    have hq0 : ((V.alloc (.cells #[.string c.rq.m, .string c.rq.t, .slice Af c.rq.fs.length cf, .string ⟨d.data.toArray⟩, .bool false] 33)).alloc (.cells #[.string c.rq.m, .string c.rq.t, .slice Af c.rq.fs.length cf, .string ⟨d.data.toArray⟩, .bool false] 33)).heap[w.heap.size]? = some (.cells #[.string c.rq.m, .string c.rq.t, .slice Af c.rq.fs.length cf, .string ⟨d.data.toArray⟩, .bool false] 33 (0, 0)) := by
      rw [Below.heap_alloc _ _ _ (by simp [HSZ.out]), ← HSZ.out]; exact heap_alloc_new V _
    refine ret28 hq0 rfl rfl ?_
    have h2 := HV.out.below hbv
    rw [HD.out, HST.out] at h2
    exact ⟨_, by rw [HRQ.out]; rfl, own_below HFW.out hbv, by rw [HR.out, HW.out]; exact ⟨_, _, _, _, h2⟩, HFV.out.trans (Fr.of HV.out.lo hbv)⟩
end Go.Proofs.YtkjlbddaglcooaaGreatDoor
