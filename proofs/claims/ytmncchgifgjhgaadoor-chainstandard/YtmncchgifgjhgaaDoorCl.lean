/- slices.Backward over links; All: the links from the last one to the first. -/
import Derived.RangeFuncNested
import Derived.RangeFuncBound
import Derived.RangeFuncCalls
import Derived.RangeFuncLeaves
import Derived.Shelf.Abstract
import Derived.WalkKit
import Derived.OwnWalkIn
import Derived.TacticsInMore
import Derived.LoopNIn
import Derived.LoopIn
import Derived.Test.YtmncchgifgjhgaaDoorCm
namespace Go.Proofs.YtmncchgifgjhgaaDoor
open Go.RowKit Go.Shelf
attribute [local go_sem] Oper.semAt_some

/-- A link, and what it makes. -/
abbrev Lk := { p : Value × Nat × Array Value // LinkOf p.1 p.2.1 p.2.2 }
def lvs (ls : List Lk) : List Value := ls.map fun x => x.1.1
def kes (ls : List Lk) : List (Nat × Array Value) := ls.map fun x => x.1.2
/-- What a round keeps: what lay below B but for H. -/
def Kp (B H : Nat) (W W' : World) : Prop := ∀ j, j < B → j ≠ H → W'.heap[j]? = W.heap[j]?
theorem Kp.trans {B H : Nat} {a b c : World} (h : Kp B H a b) (k : Kp B H b c) : Kp B H a c := fun j hj hn => (k j hj hn).trans (h j hj hn)

set_option maxRecDepth 100000 in
set_option maxHeartbeats 2000000 in
theorem back1_in (F : Fence) (n : Nat) (h47 : F.fn 47) (hro : F.round = none) (hn : 1 ≤ n) (l Bs B H : Nat) (A : Option Addr) (c : Nat) (ls : List Lk) (J Jx : List (Nat × Lk) → World → Prop)
    (hY : ∀ pre x W, J pre W → pre.length < ls.length → YieldAt F (n - 1) Tryd.prog l #[.int .i64 (x.1 : Int), x.2.1.1] W fun e W' =>
      (e = .returned (.bool true) ∧ J (pre ++ [x]) W' ∧ Kp B H W W') ∨ (e = .returned (.bool false) ∧ Jx (pre ++ [x]) W'))
    (W : World) (hBs : Bs < B) (hBH : Bs ≠ H) (hb : W.cell? ⟨Bs, 0, none⟩ = some (.slice A ls.length c)) (hm : ls.length ≤ 1000)
    (hc : ls.length ≠ 0 → ∃ a : Addr, A = some a ∧ a.block < B ∧ a.block ≠ H ∧ ∀ (j : Nat) u, (lvs ls)[j]? = some u → W.cell? (a.add j) = some u) (h0 : J [] W) :
    CallsIn F n Tryd.prog 47 #[.func (.yield l) #[] #[], .pointer (some ⟨Bs, 0, none⟩)] W fun e W' => (∃ v, e = .returned v) ∧
      ((∃ ys : List (Nat × Lk), ys.map (fun x => x.2) = ls.reverse ∧ J ys W') ∨ (∃ pre, True ∧ Jx pre W')) := by
  refine callsIn_of_wp Tryd.func47 rfl h47 ?_ hro
  simp only [Tryd.ntmps47, List.size_toArray, List.length_cons, List.length_nil, Nat.reduceAdd, Nat.reduceSub, Array.replicate_succ, Array.replicate_zero, List.push_toArray, List.append_toArray, List.nil_append, List.cons_append]
  have hw1 : wrap64 ((ls.length : Int) - 1) = (ls.length : Int) - 1 := by unfold wrap64; omega
  gi_wp2
  gi_loopw [3] (fun i wr => ∃ (r : Nat) (pre : List (Nat × Lk)), r ≤ ls.length ∧ i = .int .i64 ((r : Int) - 1) ∧ pre.map (fun x => x.2) = (ls.drop r).reverse ∧ J pre wr ∧ Kp B H W wr)
    (fun i _ => (intOf i + 1).toNat)
  case atStart => exact ⟨ls.length, [], Nat.le_refl _, rfl, by simp, h0, fun _ _ _ => rfl⟩
  case round =>
    obtain ⟨r, pre, hr, rfl, hpm, hJs, hkp⟩ := hrel
    have hb' : wr.cell? ⟨Bs, 0, none⟩ = some (.slice A ls.length c) := (World.cell?_of_block (hkp Bs hBs hBH)).trans hb
    match r, hr, hpm with
    | 0, _, hpm =>
      have e0 : ((0 : Nat) : Int) - 1 = -1 := rfl
      rw [e0]
      gi_wp2
      go_end0
      exact ⟨⟨_, rfl⟩, .inl ⟨pre, by simpa using hpm, hJs⟩⟩
    | j + 1, hr, hpm =>
      have ej : ((j + 1 : Nat) : Int) - 1 = (j : Int) := by omega
      rw [ej]
      have hjl : j < ls.length := by omega
      obtain ⟨a, rfl, hab, haH, hca⟩ := hc (by omega)
      have hcj : wr.cell? (a.add j) = some (ls[j]).1.1 := (World.cell?_of_block (hkp _ (by rw [add_block]; exact hab) (by rw [add_block]; exact haH))).trans (hca j _ (by simp [lvs, hjl]))
      have hpl : pre.length = ls.length - (j + 1) := by have := congrArg List.length hpm; simpa using this
      obtain ⟨fn, tmps, assign, body, hy, hR⟩ := hY pre (j, ls[j]) wr hJs (by omega)
      dsimp only at hy
      have hsn : (pre ++ [(j, ls[j])]).map (fun x => x.2) = (ls.drop j).reverse := by
        have hd : ls.drop j = ls[j] :: ls.drop (j + 1) := List.drop_eq_getElem_cons hjl
        rw [hd, List.reverse_cons, List.map_append, hpm]
        rfl
      have i0 : (0 : Int) ≤ (j : Int) := by omega
      have i1 : (j : Int) < (ls.length : Int) := by omega
      have HS := Lib.hid hsn
      have HH := Lib.hid hc
      clear hsn hpm hc hca hw1
      generalize (ls[j]).1.1 = lv at *
      gi_wp2
      refine hR.mono ?_
      rintro e W3 (⟨rfl, hJ3, hk3⟩ | ⟨rfl, hJx3⟩)
      · gi_wp2
        go_roundw
        case rel => exact ⟨j, pre ++ [(j, ls[j])], by omega, by go_num, HS.out, hJ3, hkp.trans hk3⟩
        case measure => simp [intOf] <;> omega
      · gi_wp2
        refine bodyPost_ret (results_none rfl _ _ _) rfl ?_
        exact ⟨⟨_, rfl⟩, .inr ⟨_, trivial, hJx3⟩⟩

theorem back_stops (F : Fence) (n : Nat) (h47 : F.fn 47) (hro : F.round = none) (hn : 1 ≤ n) (Bs B H : Nat) (A : Option Addr) (c : Nat) (ls : List Lk) (w : World) (hm : ls.length ≤ 1000) (hBs : Bs < B) (hBH : Bs ≠ H) (hBw : B ≤ w.heap.size)
    (hb : w.cell? ⟨Bs, 0, none⟩ = some (.slice A ls.length c))
    (hc : ls.length ≠ 0 → ∃ a : Addr, A = some a ∧ a.block < B ∧ a.block ≠ H ∧ ∀ (j : Nat) u, (lvs ls)[j]? = some u → w.cell? (a.add j) = some u) :
    SeqStopsK F n Tryd.prog 47 #[.pointer (some ⟨Bs, 0, none⟩)] (fun x : Nat × Lk => #[Value.int .i64 (x.1 : Int), x.2.1.1]) (Kp B H) (fun ys => ys.map (fun x => x.2) = ls.reverse) (fun _ => True) ls.length w := fun l J Jx W hW _ _ hY h0 =>
  back1_in F n h47 hro hn l Bs B H A c ls J Jx hY W hBs hBH ((hW.cell (p := ⟨Bs, 0, none⟩) (Nat.lt_of_lt_of_le hBs hBw)).trans hb) hm (fun h => by
    obtain ⟨a, e, h1, h2, h3⟩ := hc h
    exact ⟨a, e, h1, h2, fun j u hu => (hW.cell (p := a.add j) (by rw [add_block]; omega)).trans (h3 j u hu)⟩) h0

set_option maxHeartbeats 1000000 in
theorem back_in (F : Fence) (n : Nat) (h31 : F.fn 31) (hro : F.round = none) (A : Option Addr) (len cap : Nat) (w : World) :
    CallsIn F n Tryd.prog 31 #[.slice A len cap] w fun e w' => e = .returned (.func (.func 47) #[] #[.pointer (some ⟨w.heap.size, 0, none⟩)]) ∧ w' = w.alloc (.cells #[.slice A len cap] 38) := by
  refine callsIn_of_wp Tryd.func31 rfl h31 ?_ hro
  simp only [Tryd.ntmps31, List.size_toArray, List.length_cons, List.length_nil, Nat.reduceAdd, Nat.reduceSub, Array.replicate_succ, Array.replicate_zero, List.push_toArray, List.append_toArray, List.nil_append, List.cons_append]
  gi_wp2
  go_ret
  exact ⟨rfl, rfl⟩

/-- Where the loop stands: the box H holds the handle behind the links that came. -/
def Inv (w : World) (x0 : Value) (pre : List (Nat × Lk)) (W : World) : Prop :=
  (∃ v, W.heap[w.heap.size]? = some (.cells #[v] 36 (0, 0)) ∧ IsFn v ∧ Chn W w.heap.size x0 (kes (pre.map (fun x => x.2)).reverse) v) ∧ Below w.heap.size w W ∧ w.heap.size + 2 ≤ W.heap.size

theorem inv_own (w : World) (x0 : Value) (B : Nat) (hB : w.heap.size < B) : OwnFrom B (Inv w x0) := by
  intro pre W W' row ⟨⟨v, hk, hf, hc⟩, hb, hsw⟩ hg hr
  have key : ∀ (b : Nat) (cs : Array Value) (t : TypeId) (fr : Nat × Nat), W.heap[b]? = some (Obj.cells cs t fr) → W'.heap[b]? = W.heap[b]? := fun b cs t fr h => hg.block b (blk_lt h) fun e => by
    obtain ⟨_, o, ho, hcc⟩ := hr b e.symm
    rw [h] at ho
    cases ho
    cases hcc
  refine ⟨⟨v, (key _ _ _ _ hk).trans hk, hf, hc.mono fun b x _ h => key _ _ _ _ h⟩, hb.grown hg hb.size fun k e => by have := (hr k e).1; omega, Nat.le_trans hsw hg.size⟩

set_option maxRecDepth 100000 in
set_option maxHeartbeats 2000000 in
theorem all_in (ls : List Lk) (x0 : Value) (hx : IsFn x0) (A : Option Addr) (c : Nat) (w : World) (hm : ls.length ≤ 1000) (hr : Rd w w.heap.size 1 A ls.length (lvs ls)) :
    CallsIn Fence.wide 3 Tryd.prog 11 #[x0, .slice A ls.length c] w fun e W' => e = .returned (.func (.func 33) #[] #[.pointer (some ⟨w.heap.size, 0, none⟩)]) ∧ (∃ v, W'.heap[w.heap.size]? = some (.cells #[v] 36 (0, 0)) ∧ IsFn v ∧ Chn W' w.heap.size x0 (kes ls) v) ∧ Below w.heap.size w W' := by
  obtain ⟨k0, cc, rfl, hen0⟩ := hx
  refine callsIn_of_wp_marks Tryd.func11 rfl trivial ?_ rfl
  simp only [Tryd.ntmps11, List.size_toArray, List.length_cons, List.length_nil, Nat.reduceAdd, Nat.reduceSub, Array.replicate_succ, Array.replicate_zero, List.push_toArray, List.append_toArray, List.nil_append, List.cons_append]
  gi_wp2_with (refine ⟨trivial, ?_⟩; gi_at_call 31; refine (back_in Fence.wide 2 trivial rfl _ _ _ _).mono ?_; rintro e w' ⟨rfl, rfl⟩)
  have hB0 : Below w.heap.size w ((w.alloc (.cells #[.func (.func k0) #[] cc] 36)).alloc (.cells #[.slice A ls.length c] 38)) := ((Below.refl _ w).alloc (Nat.le_refl _) _).alloc (by simp) _
  have hk0 : ((w.alloc (.cells #[.func (.func k0) #[] cc] 36)).alloc (.cells #[.slice A ls.length c] 38)).heap[w.heap.size]? = some (.cells #[.func (.func k0) #[] cc] 36 (0, 0)) := (Below.heap_alloc _ _ _ (by simp)).trans (heap_alloc_new w _)
  have hk1 : ((w.alloc (.cells #[.func (.func k0) #[] cc] 36)).alloc (.cells #[.slice A ls.length c] 38)).heap[w.heap.size + 1]? = some (.cells #[.slice A ls.length c] 38 (0, 0)) := by
    have := heap_alloc_new (w.alloc (.cells #[.func (.func k0) #[] cc] 36)) (.cells #[.slice A ls.length c] 38)
    simpa using this
  have hsz : ((w.alloc (.cells #[.func (.func k0) #[] cc] 36)).alloc (.cells #[.slice A ls.length c] 38)).heap.size = w.heap.size + 2 := by simp
  generalize (w.alloc (.cells #[.func (.func k0) #[] cc] 36)).alloc (.cells #[.slice A ls.length c] 38) = w2 at *
  refine wpIn_rangeFunc_ownG rfl (by decide) (gf := 47) (lb := #[.pointer (some ⟨w.heap.size + 1, 0, none⟩)]) rfl trivial (enters_of Tryd.func47 (by kernel_rfl) rfl)
    (back_stops Fence.wide 2 trivial rfl (by decide) (w.heap.size + 1) w2.heap.size w.heap.size A c ls w2 hm (by omega) (by omega) (Nat.le_refl _) (blk_cell hk1 0) (fun h => by
      obtain ⟨a, e, hb, hc⟩ := hr.2 h
      exact ⟨a, e, by omega, by omega, fun j u hu => (hB0.cell (p := a.add j) (by rw [add_block]; exact hb)).trans (hc j u hu)⟩))
    (fun h k => h.trans k) (fun W l o o' hl h _ _ j hj hn => World.putObj_heap_other (fun e => by omega)) (Below.refl _ _) (fun _ => rfl)
    (Inv w (.func (.func k0) #[] cc)) (fun _ _ _ => False) (inv_own w _ _ (by omega)) (fun _ _ _ _ _ hs _ _ => hs)
    ⟨⟨_, hk0, ⟨_, _, rfl, hen0⟩, .nil⟩, hB0, by omega⟩
    (fun x => { tmps := #[.func (.func k0) #[] cc, .slice A ls.length c, .pointer (some ⟨w.heap.size, 0, none⟩), undef, .nilFunc, undef, x.2.1.1, .slice A ls.length c, .func (.func 47) #[] #[.pointer (some ⟨w.heap.size + 1, 0, none⟩)], .int .i64 (x.1 : Int), x.2.1.1, undef, undef, undef, undef, undef, undef], defers := [] }) ?assign ?body ?done ?stop
  case assign =>
    intro l x W K hK
    gi_wp2
    exact hK
  case body =>
    rintro l pre ⟨i, ⟨⟨lv, K, ex⟩, hlk⟩⟩ W ⟨⟨v, hk, hf, hc⟩, hB, hsW⟩ _
    dsimp only at hlk ⊢
    have hlk' := hlk
    obtain ⟨m, mc, rfl, hen, henK, _⟩ := hlk'
    have hfe := fn_ne m mc
    have c0 := blk_cell hk 0
    have f0 := blk_free hk 0
    simp only [List.getElem?_toArray, List.getElem?_cons_zero] at c0
    have HBH := Lib.hid (behind_any hlk v hf W)
    have HX := Lib.hid (And.intro hk (And.intro hc (And.intro hB hsW)))
    have HP : Hid (kes ((pre ++ [(i, (⟨(.func (.func m) #[] mc, K, ex), hlk⟩ : Lk))]).map (fun x => x.2)).reverse = (K, ex) :: kes (pre.map (fun x => x.2)).reverse) := by show _ = _; simp [kes]
    generalize (pre ++ [(i, (⟨(.func (.func m) #[] mc, K, ex), hlk⟩ : Lk))]) = pre' at *
    clear hk hc hB hlk hsW
    gi_wp2_with (refine ⟨trivial, ?_⟩; gi_at_call 32; refine (CallsIn.inRound l (callsIn_wide.2 HBH.out)).mono ?_; rintro e W1 ⟨rfl, hk1', hb1⟩; have d0 := (hb1.cell (p := ⟨w.heap.size, 0, none⟩) (blk_lt HX.out.1)).trans c0; have g0 := (hb1.frozen (p := ⟨w.heap.size, 0, none⟩) (blk_lt HX.out.1)).trans f0)
    obtain ⟨hk, hc, hB, hsW⟩ := HX.out
    have hkn := (hb1.block _ (blk_lt hk)).trans hk
    have hset := set_same (v := .func (.func K) #[] (#[.pointer (some ⟨W.heap.size + 1, 0, none⟩)] ++ ex)) 0 hkn
    have hw0 := blk_lt hk
    have hsz1 := hb1.size
    have hks : KeepsFrom w2.heap.size W (W1.setCell ⟨w.heap.size, 0, none⟩ (.func (.func K) #[] (#[.pointer (some ⟨W.heap.size + 1, 0, none⟩)] ++ ex))) :=
      ⟨by rw [set_size]; exact hb1.size, fun j o h1 h2 h3 => (set_oth _ ⟨w.heap.size, 0, none⟩ _ _ (by show j ≠ w.heap.size; omega)).trans ((hb1.block j (blk_lt h2)).trans h2)⟩
    refine ⟨hks, fun j hj hn => (set_oth _ _ _ _ hn).trans (hb1.block j (by omega)), ⟨_, hset, ⟨K, _, rfl, henK⟩, ?_⟩, (hB.trans (hb1.mono hB.size)).setCell (p := ⟨w.heap.size, 0, none⟩) (Nat.le_refl _) _, by rw [set_size]; omega⟩
    rw [HP.out]
    refine .cons (by omega) ((set_oth _ _ _ _ (by show W.heap.size + 1 ≠ w.heap.size; omega)).trans hk1') (hc.mono fun b x hb h => (set_oth _ _ _ _ (by show b ≠ w.heap.size; omega)).trans (hb1.block b (blk_lt h)))
  case done =>
    rintro D ys W hD hys ⟨⟨v, hk, hf, hc⟩, hB, hsW⟩ hK
    have hmf : ∀ (fn : Fn) (first cap : Array Value) (w : World), (Instr.makeFunc fn first cap).run Tryd.prog w = .ok (.func fn first cap) w := fun _ _ _ _ => rfl
    gi_wp2
    refine ⟨by simp, .inl ⟨_, _, rfl, run_takeDeferred hK, ?_⟩⟩
    have hne : ∀ b (cs : Array Value) (t : TypeId), W.heap[b]? = some (Obj.cells cs t (0, 0)) → b ≠ D := fun b cs t h e => by
      rw [e, hK] at h
      cases h
    have hys' : kes (ys.map (fun x => x.2)).reverse = kes ls := by rw [hys, List.reverse_reverse]
    rw [hys'] at hc
    refine ⟨_, results_tmp rfl _ _ _, rfl, ⟨v, (World.putObj_heap_other (hne _ _ _ hk)).trans hk, hf, hc.mono fun b x _ h => World.putObj_heap_other (hne _ _ _ h)⟩, ?_⟩
    exact (hB.grown (grownBy_putObj' W D _) hB.size fun k e => by cases e; omega)
  case stop =>
    rintro D c pre W _ _ h _
    exact h.elim

theorem all_any12 (ls : List Lk) (x0 : Value) (hx : IsFn x0) (A : Option Addr) (c : Nat) (w : World) (hm : ls.length ≤ 1000) (hr : Rd w w.heap.size 1 A ls.length (lvs ls)) :
    Calls Tryd.prog 11 #[x0, .slice A ls.length c] w fun e W' => e = .returned (.func (.func 33) #[] #[.pointer (some ⟨w.heap.size, 0, none⟩)]) ∧ (∃ v, W'.heap[w.heap.size]? = some (.cells #[v] 36 (0, 0)) ∧ IsFn v ∧ Chn W' w.heap.size x0 (kes ls) v) ∧ Below w.heap.size w W' :=
  callsIn_wide.1 (all_in ls x0 hx A c w hm hr)
end Go.Proofs.YtmncchgifgjhgaaDoor
