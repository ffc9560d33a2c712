/- The contract of a node's twin, of the branch behind a word, and of the changes' making. The contracts of the changes' making: ending, behind, adding. -/
import Derived.Test.YtgfjkpfjajjidaaDoorTrMem
import Derived.Test.YtgfjkpfjajjidaaDoorPtKind
import Derived.Deep.RegionHeld3
namespace Go.Proofs.YtgfjkpfjajjidaaDoor
open Go.RowKit Pl

theorem new_cell4 (w : World) (cs : Array Value) (t : TypeId) (j : Nat) : (w.alloc (.cells cs t)).cell? ⟨w.heap.size, j, none⟩ = cs[j]? := by
  have h : (w.alloc (.cells cs t)).heap[w.heap.size]? = some (.cells cs t) := by show (w.heap.push _)[w.heap.size]? = _; simp
  rw [Lib.cell_of_heap h]
theorem twin_ret {W : World} {R : Nat} {a : Act} {X : Ending → World → Prop} {u0 u1 u2 u3 : Value} (c0 : W.cell? ⟨R, 0, none⟩ = some u0) (c1 : W.cell? ⟨R, 1, none⟩ = some u1) (c2 : W.cell? ⟨R, 2, none⟩ = some u2) (c3 : W.cell? ⟨R, 3, none⟩ = some u3)
    (ha : a.tmps.getD 2 undef = .pointer (some ⟨R, 0, none⟩)) (hd : a.defers = []) (hQ : X (.returned (.agg #[u0, u1, u2, u3])) W) : bodyPost Tryd.prog Tryd.f49 X .ret a W := by
  simp at ha
  exact bodyPost_ret (v := .agg #[u0, u1, u2, u3]) (by simp [results, Tryd.results49, go_sem, ha, c0, c1, c2, c3]) hd hQ

set_option maxRecDepth 100000 in
set_option maxHeartbeats 2000000 in
theorem twin_any (B : Nat) (v : Option Addr) (L : List It) (w : World) (h : Nd w B v L) : Calls Tryd.prog 49 #[.pointer v] w fun e w' => ∃ EA WA en wn ec wc pv rv es ws,
    e = .returned (.agg #[.slice EA en ec, .slice WA wn wc, .pointer pv, .pointer rv]) ∧ Nn w B EA WA en wn ec wc pv rv es ws L ∧ Below w.heap.size w w' := by
  rcases h.opened with ⟨rfl, rfl⟩ | ⟨g, EA, WA, en, wn, ec, wc, pv, rv, es, ws, rfl, hg, c0, c1, c2, c3, hn⟩
  · clear h
    have hb : Below w.heap.size w (w.alloc (.cells #[.slice none 0 0, .slice none 0 0, .pointer none, .pointer none] 88)) := (Below.refl _ _).alloc (Nat.le_refl _) _
    have HB := Lib.hid hb
    have HV := Lib.hid (Nn.void w B)
    clear hb
    go_enter Tryd.func49, Tryd.ntmps49
    go_wp2_with fail
    refine twin_ret (R := w.heap.size) (new_cell4 _ _ _ 0) (new_cell4 _ _ _ 1) (new_cell4 _ _ _ 2) (new_cell4 _ _ _ 3) rfl rfl ?_
    exact ⟨none, none, 0, 0, 0, 0, none, none, [], [], rfl, HV.out, HB.out⟩
  · have HN := Lib.hid hn
    have hgs : g < w.heap.size := World.block_lt_of_cell? _ _ c0
    have hb : Below w.heap.size w (w.alloc (.cells #[.slice EA en ec, .slice WA wn wc, .pointer pv, .pointer rv] 88)) := (Below.refl _ _).alloc (Nat.le_refl _) _
    have HB := Lib.hid hb
    clear h hn hb
    go_enter Tryd.func49, Tryd.ntmps49
    go_wp2_with fail
    refine twin_ret (R := w.heap.size) (new_cell4 _ _ _ 0) (new_cell4 _ _ _ 1) (new_cell4 _ _ _ 2) (new_cell4 _ _ _ 3) rfl rfl ?_
    exact ⟨_, _, _, _, _, _, _, _, _, _, rfl, HN.out, HB.out⟩

theorem br_in {w : World} {B n : Nat} {A : Option Addr} {l : List BrR} (h : Rd w B 2 A n (brCells l)) (hn : n = l.length) (k : Nat) (hk : k < l.length) : ∃ a : Addr, A = some a ∧ a.block < B ∧
    w.cell? (a.add (k * 2)) = some (.string (mkB l[k].1)) ∧ w.cell? ⟨(a.add (k * 2)).block, (a.add (k * 2)).off + 1, none⟩ = some (.pointer l[k].2) := by
  obtain ⟨a, e, hl, hc⟩ := h.2 (by omega)
  refine ⟨a, e, hl, hc (k * 2 + 0) _ (br_at l k hk 0 (by decide)), ?_⟩
  rw [add_next]; exact hc (k * 2 + 1) _ (br_at l k hk 1 (by decide))

/-- The branch of a word. -/
def goL (ws : List BrR) (s : Seg) : Option Addr := ((ws.find? fun x => decide (x.1 = s)).map (·.2)).getD none
theorem go_found {ws : List BrR} {s : Seg} {k : Nat} (h : k < ws.length) (he : ws[k].1 = s) (hn : ∀ j (hj : j < ws.length), j < k → ws[j].1 ≠ s) : goL ws s = ws[k].2 := by
  have : ws.find? (fun x => decide (x.1 = s)) = some ws[k] := by
    rw [List.find?_eq_some_iff_getElem]
    refine ⟨by simp [he], k, h, rfl, fun j hj => ?_⟩
    simpa using hn j (by omega) hj
  rw [goL, this]; rfl
theorem go_none {ws : List BrR} {s : Seg} (hn : ∀ j (hj : j < ws.length), ws[j].1 ≠ s) : goL ws s = none := by
  have : ws.find? (fun x => decide (x.1 = s)) = none := by
    rw [List.find?_eq_none]
    intro x hx
    obtain ⟨i, hi, rfl⟩ := List.getElem_of_mem hx
    simpa using hn i hi
  rw [goL, this]; rfl
theorem go_nd {w : World} {B : Nat} {ws : List BrR} {L : List It} (h : BrOk w B ws L) (s : Seg) : Nd w B (goL ws s) (wsub s L) := by
  unfold goL
  cases hf : ws.find? fun x => decide (x.1 = s) with
  | none =>
    have : wsub s L = [] := Classical.byContradiction fun hne => by
      obtain ⟨x, hx, e⟩ := List.mem_map.1 (h.2.2.1 s hne)
      have := List.find?_eq_none.1 hf x hx
      simp [e] at this
    rw [this]; exact .nil
  | some x =>
    have h1 := List.find?_some hf
    have h2 := List.mem_of_find?_eq_some hf
    simp at h1
    have := h.2.2.2 x h2
    rw [h1] at this
    exact this

set_option maxRecDepth 100000 in
set_option maxHeartbeats 4000000 in
theorem word_any (g : Nat) (WA : Option Addr) (wn wc : Nat) (ws : List BrR) (s : ByteArray) (w : World) (c1 : w.cell? ⟨g, 1, none⟩ = some (.slice WA wn wc)) (hr : Rd w w.heap.size 2 WA wn (brCells ws)) (hn : wn = ws.length) (hm : wn ≤ 1000000) :
    Calls Tryd.prog 35 #[.pointer (some ⟨g, 0, none⟩), .string s] w fun e w' => e = .returned (.pointer (goL ws s.data.toList)) ∧ Below w.heap.size w w' := by
  have HR := Lib.hid hr
  subst hn
  clear hr
  have HE := Lib.hid (fun a : ByteArray => eq_test a s)
  go_enter Tryd.func35, Tryd.ntmps35
  go_wp2_with fail
  go_loopw [12] (fun i wr => ∃ k : Nat, k ≤ ws.length ∧ i = .int .i64 k ∧ Hid (Below w.heap.size w wr) ∧ Hid (∀ j (hj : j < ws.length), j < k → ws[j].1 ≠ s.data.toList)) (fun i _ => ws.length - (intOf i).toNat)
  case atStart => exact ⟨0, by omega, rfl, Below.refl _ _, fun j _ hj => absurd hj (by omega)⟩
  case round =>
    obtain ⟨k, hk, rfl, HB, HN⟩ := hrel
    by_cases hlt : k < ws.length
    · obtain ⟨a, rfl, hab, k0, k1⟩ := br_in (HR.out.below HB.out (Nat.le_refl _)) rfl k hlt
      have hq := HE.out (mkB ws[k].1)
      have HA := Lib.hid (fun v : Value => (Below.refl wr.heap.size wr).alloc (Nat.le_refl _) (.cells #[.string (mkB ws[k].1), v] 107))
      have hiff : mkB ws[k].1 = s ↔ ws[k].1 = s.data.toList := ⟨fun h => by rw [← h, mkB_data], fun h => by rw [h, mkB_of]⟩
      by_cases he : ws[k].1 = s.data.toList
      · rw [decide_eq_true (hiff.2 he)] at hq
        have HG := Lib.hid (go_found hlt he HN.out)
        clear he hiff
        generalize ws[k].2 = p at *
        generalize mkB ws[k].1 = x at *
        go_wp2_with fail
        go_ret
        refine ⟨by rw [HG.out]; rfl, bt HB.out (HA.out _)⟩
      · rw [decide_eq_false (fun h => he (hiff.1 h))] at hq
        have HG : Hid (∀ j (hj : j < ws.length), j < k + 1 → ws[j].1 ≠ s.data.toList) := fun j hj hjk => by
          by_cases e : j = k
          · subst e; exact he
          · exact HN.out j hj (by omega)
        clear he hiff
        generalize ws[k].2 = p at *
        generalize mkB ws[k].1 = x at *
        go_wp2_with fail
        go_roundw
        case rel => exact ⟨k + 1, by omega, by go_num, bt HB.out (HA.out _), HG⟩
        case measure => simp [intOf]; omega
    · have HG : Hid (goL ws s.data.toList = none) := go_none fun j hj => HN.out j hj (by omega)
      go_wp2_with fail
      go_ret
      exact ⟨by rw [HG.out]; rfl, HB.out⟩
end Go.Proofs.YtgfjkpfjajjidaaDoor

namespace Go.Proofs.YtgfjkpfjajjidaaDoor
open Go.RowKit Pl

set_option maxRecDepth 100000 in
set_option maxHeartbeats 2000000 in
theorem ending_any (x : En) (A : Option Addr) (c : Nat) (w : World) (h : EnAt w w.heap.size (x, .slice A x.s.length c)) : Calls Tryd.prog 33 #[.agg #[.string (mkB x.m), .string (mkB x.h), .slice A x.s.length c]] w fun e w' => ∃ v,
    e = .returned v ∧ Chg w' w'.heap.size v [] x ∧ Below w.heap.size w w' := by
  have hmf : ∀ (fn : Fn) (first cap : Array Value) (w : World), (Instr.makeFunc fn first cap).run Tryd.prog w = .ok (.func fn first cap) w := fun _ _ _ _ => rfl
  have hb : Below w.heap.size w (w.alloc (.cells #[.string (mkB x.m), .string (mkB x.h), .slice A x.s.length c] 67)) := (Below.refl _ _).alloc (Nat.le_refl _) _
  have HB := Lib.hid hb
  have HC : Hid (Chg (w.alloc (.cells #[.string (mkB x.m), .string (mkB x.h), .slice A x.s.length c] 67)) (w.alloc (.cells #[.string (mkB x.m), .string (mkB x.h), .slice A x.s.length c] 67)).heap.size (.func (.func 48) #[] #[.pointer (some ⟨w.heap.size, 0, none⟩)]) [] x) :=
    .ending w.heap.size x (.slice A x.s.length c) (by simp) (new_cell4 _ _ _ 0) (new_cell4 _ _ _ 1) (new_cell4 _ _ _ 2) ((h.below hb (Nat.le_refl _)).wide hb.size)
  clear hb h
  go_enter Tryd.func33, Tryd.ntmps33
  go_wp2_with fail
  go_ret
  exact ⟨_, rfl, HC.out, HB.out⟩

set_option maxRecDepth 100000 in
set_option maxHeartbeats 2000000 in
theorem behind_any (s : Seg) (v : Value) (ss : List Seg) (e0 : En) (w : World) (h : Chg w w.heap.size v ss e0) : Calls Tryd.prog 34 #[.string (mkB s), v] w fun e w' => ∃ u,
    e = .returned u ∧ Chg w' w'.heap.size u (s :: ss) e0 ∧ Below w.heap.size w w' := by
  have hmf : ∀ (fn : Fn) (first cap : Array Value) (w : World), (Instr.makeFunc fn first cap).run Tryd.prog w = .ok (.func fn first cap) w := fun _ _ _ _ => rfl
  obtain ⟨fn, cap, hv⟩ : ∃ fn cap, v = .func fn #[] cap := by
    cases h with
    | ending => exact ⟨_, _, rfl⟩
    | behind => exact ⟨_, _, rfl⟩
  have hb1 : Below w.heap.size w (w.alloc (.cells #[.string (mkB s)] 9)) := (Below.refl _ _).alloc (Nat.le_refl _) _
  have hb2 : Below w.heap.size w ((w.alloc (.cells #[.string (mkB s)] 9)).alloc (.cells #[v] 64)) := hb1.alloc hb1.size _
  have HB := Lib.hid hb2
  have HC : Hid (Chg ((w.alloc (.cells #[.string (mkB s)] 9)).alloc (.cells #[v] 64)) ((w.alloc (.cells #[.string (mkB s)] 9)).alloc (.cells #[v] 64)).heap.size (.func (.func 50) #[] #[.pointer (some ⟨w.heap.size, 0, none⟩), .pointer (some ⟨w.heap.size + 1, 0, none⟩)]) (s :: ss) e0) := by
    refine .behind w.heap.size (w.heap.size + 1) s v ss e0 (by simp; omega) (by simp) ?_ ?_ (h.on hb2)
    · have h1 : (w.alloc (.cells #[.string (mkB s)] 9)).cell? ⟨w.heap.size, 0, none⟩ = some (.string (mkB s)) := new_cell4 w #[.string (mkB s)] 9 0
      exact (((Below.refl (w.alloc (.cells #[.string (mkB s)] 9)).heap.size _).alloc (Nat.le_refl _) (.cells #[v] 64)).cell (p := ⟨w.heap.size, 0, none⟩) (by simp)).trans h1
    · exact (congrArg (fun z => ((w.alloc (.cells #[.string (mkB s)] 9)).alloc (.cells #[v] 64)).cell? ⟨z, 0, none⟩) (by simp : w.heap.size + 1 = (w.alloc (.cells #[.string (mkB s)] 9)).heap.size)).trans (new_cell4 (w.alloc (.cells #[.string (mkB s)] 9)) #[v] 64 0)
  clear hb1 hb2 h
  subst hv
  go_enter Tryd.func34, Tryd.ntmps34
  go_wp2_with fail
  go_ret
  exact ⟨_, rfl, HC.out, HB.out⟩

set_option maxRecDepth 100000 in
set_option maxHeartbeats 4000000 in
theorem adding_any (x : En) (A : Option Addr) (c : Nat) : ∀ (m n : Nat) (_ : n + m = x.s.length) (w : World) (_ : EnAt w w.heap.size (x, .slice A x.s.length c)), Calls Tryd.prog 20 #[.agg #[.string (mkB x.m), .string (mkB x.h), .slice A x.s.length c], .int .i64 n] w fun e w' => ∃ v,
    e = .returned v ∧ Chg w' w'.heap.size v (x.s.drop n) x ∧ Below w.heap.size w w'
  | 0, n, hn, w, h => by
    have hb : Below w.heap.size w (w.alloc (.cells #[.string (mkB x.m), .string (mkB x.h), .slice A x.s.length c] 67)) := (Below.refl _ _).alloc (Nat.le_refl _) _
    have HB := Lib.hid hb
    have HE := Lib.hid (ending_any x A c (w.alloc (.cells #[.string (mkB x.m), .string (mkB x.h), .slice A x.s.length c] 67)) ((h.below hb (Nat.le_refl _)).wide hb.size))
    have hd : x.s.drop n = [] := List.drop_of_length_le (by omega)
    rw [hd]
    have HL : n = x.s.length := by omega
    obtain ⟨_, _, _, hmax, _⟩ := h
    simp only at hmax
    clear hb hd hn
    generalize x.s.length = q at *
    subst HL
    generalize mkB x.m = xm at *
    generalize mkB x.h = xh at *
    go_enter Tryd.func20, Tryd.ntmps20
    go_wp2_with fail
    refine HE.out.mono ?_
    rintro e w1 ⟨v, rfl, hc, hb1⟩
    have HC := Lib.hid hc
    have HB1 := Lib.hid hb1
    have hfc : ∃ fn cap, v = .func fn #[] cap := by
      cases hc with
      | ending => exact ⟨_, _, rfl⟩
    obtain ⟨fn, cap, rfl⟩ := hfc
    clear hc hb1
    go_wp2_with fail
    go_ret
    exact ⟨_, rfl, HC.out, HB.out.trans (HB1.out.mono (by simp))⟩
  | m + 1, n, hn, w, h => by
    have hb : Below w.heap.size w (w.alloc (.cells #[.string (mkB x.m), .string (mkB x.h), .slice A x.s.length c] 67)) := (Below.refl _ _).alloc (Nat.le_refl _) _
    have HB := Lib.hid hb
    have hlt : n < x.s.length := by omega
    have HI := Lib.hid (fun w h => adding_any x A c m (n + 1) (by omega) w h)
    have hsp : x.s.drop n = x.s[n] :: x.s.drop (n + 1) := List.drop_eq_getElem_cons hlt
    have HBE := Lib.hid (fun v w h => behind_any x.s[n] v (x.s.drop (n + 1)) x w h)
    rw [← hsp] at HBE
    clear hsp
    obtain ⟨A', c', hA, hmax, hrd⟩ := h
    simp only at hA hmax hrd
    have ha := hA
    cases ha
    have hrd2 := hrd
    obtain ⟨a, ea, hab, hcs⟩ := hrd.1.2 (by omega)
    have HEA : Hid (EnAt w w.heap.size (x, .slice A x.s.length c)) := ⟨_, _, rfl, hmax, hrd2⟩
    subst ea
    have hs0 : w.cell? (a.add n) = some (.string (mkB x.s[n])) := hcs n _ (by simp [strV_mk, hlt])
    have hS : ∀ w', Below (w.alloc (.cells #[.string (mkB x.m), .string (mkB x.h), .slice (some a) x.s.length c] 67)).heap.size (w.alloc (.cells #[.string (mkB x.m), .string (mkB x.h), .slice (some a) x.s.length c] 67)) w' →
        w'.cell? ⟨w.heap.size, 0, none⟩ = some (.string (mkB x.m)) ∧ w'.cell? ⟨w.heap.size, 1, none⟩ = some (.string (mkB x.h)) ∧ w'.cell? ⟨w.heap.size, 2, none⟩ = some (.slice (some a) x.s.length c) ∧ w'.cell? (a.add n) = some (.string (mkB x.s[n])) := fun w' h => by
      have h0 : ∀ j, w'.cell? ⟨w.heap.size, j, none⟩ = (#[.string (mkB x.m), .string (mkB x.h), .slice (some a) x.s.length c] : Array Value)[j]? := fun j => (h.cell (p := ⟨w.heap.size, j, none⟩) (by simp)).trans (new_cell4 _ _ _ j)
      have hbb : (a.add n).block < w.heap.size := by rw [add_block]; exact hab
      exact ⟨h0 0, h0 1, h0 2, (h.cell (p := a.add n) (by simp; omega)).trans ((HB.out.cell (p := a.add n) hbb).trans hs0)⟩
    have HS := Lib.hid hS
    have HEB := Lib.hid (fun w' (h' : Below w.heap.size w w') => (HEA.out.below h' (Nat.le_refl _)).wide h'.size)
    have HD : Hid (Below (w.alloc (.cells #[.string (mkB x.m), .string (mkB x.h), .slice (some a) x.s.length c] 67)).heap.size (w.alloc (.cells #[.string (mkB x.m), .string (mkB x.h), .slice (some a) x.s.length c] 67)) (w.alloc (.cells #[.string (mkB x.m), .string (mkB x.h), .slice (some a) x.s.length c] 67)).drew) := (Below.refl _ _).drew
    have hi2 := HI.out _ (HEB.out _ hb.drew)
    rw [show ((n + 1 : Nat) : Int) = (n : Int) + 1 from rfl] at hi2
    have HI2 := Lib.hid hi2
    have hw1 : IntKind.i64.wrap ((n : Int) + 1) = (n : Int) + 1 := by rw [IntKind.wrap_i64]; omega
    have i0 : (0 : Int) ≤ (n : Int) := by omega
    have i1 : (n : Int) < (x.s.length : Int) := by omega
    clear hb hS hs0 hcs hrd hrd2 hA HI hn hi2
    have n1 : ¬ (n : Int) = (x.s.length : Int) := by omega
    generalize x.s.drop n = D at *
    generalize x.s.drop (n + 1) = D1 at *
    generalize x.s[n] = sn at *
    generalize x.s.length = q at *
    generalize mkB x.m = xm at *
    generalize mkB x.h = xh at *
    generalize mkB sn = bn at *
    go_enter Tryd.func20, Tryd.ntmps20
    go_wp2_with fail
    generalize w.alloc (.cells #[.string xm, .string xh, .slice (some a) q c] 67) = w0 at *
    obtain ⟨k0, k1, k2, k3⟩ := HS.out _ (Below.refl _ _)
    clear HEA HEB hab
    have HBW := Lib.hid (fun w6 (h : Below w0.heap.size w0 w6) => HB.out.trans (h.mono HB.out.size))
    go_region_held3 (fun W => W.cell? ⟨w.heap.size, 0, none⟩ = some (.string xm) ∧ W.cell? ⟨w.heap.size, 1, none⟩ = some (.string xh) ∧ W.cell? ⟨w.heap.size, 2, none⟩ = some (.slice (some a) q c) ∧ W.cell? (a.add n) = some (.string bn)) ((refine HS.out _ ?_; first | (exact bt (HD.out.trans hb5) hb6) | (exact HD.out.trans hb5) | (exact HD.out))) ((first | (go_at_call 34; refine (HBE.out v5 w5 hc5).mono ?_; rintro e w6 ⟨v6, rfl, hc6, hb6⟩) | (go_at_call 20; refine HI2.out.mono ?_; rintro e w5 ⟨v5, rfl, hc5, hb5⟩)))
    go_wp2_with fail
    go_ret
    exact ⟨_, rfl, hc6, HBW.out _ (bt (HD.out.trans hb5) hb6)⟩
end Go.Proofs.YtgfjkpfjajjidaaDoor
