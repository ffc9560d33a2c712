/- The contract of (*Trie).With. -/
import Derived.Test.YtgfjkpfjajjidaaDoorTrMat
import Derived.Test.YtgfjkpfjajjidaaDoorTbRight
namespace Go.Proofs.YtgfjkpfjajjidaaDoor
open Go.RowKit Pl

theorem items_snoc (k l : List Rt) (j : Nat) (h : j < l.length) : itemsL (k ++ l.take j) ++ [(cutL l[j].p, enOf l[j])] = itemsL (k ++ l.take (j + 1)) := by
  rw [List.take_succ_eq_append_getElem h, ← List.append_assoc]; exact (items_app (k ++ l.take j) [l[j]]).symm
theorem two_far {w : World} {G : Nat} {a b u v : Value} (h : w.heap[G]? = some (.cells #[a, b] 60 (0, 0))) : ((w.setCell ⟨G, 0, none⟩ u).setCell ⟨G, 1, none⟩ v).heap[G]? = some (.cells #[u, v] 60 (0, 0)) := by
  rw [heap_setCell_same _ G 1 _ 60 v (heap_setCell_same _ G 0 _ 60 u h)]; rfl
theorem two_oth {w : World} {G : Nat} {u v : Value} : ∀ j, j ≠ G → ((w.setCell ⟨G, 0, none⟩ u).setCell ⟨G, 1, none⟩ v).heap[j]? = w.heap[j]? := fun j hj => by
  rw [heap_setCell_other _ _ j v hj, heap_setCell_other _ _ j u hj]
theorem two_size {w : World} {G : Nat} {u v : Value} : ((w.setCell ⟨G, 0, none⟩ u).setCell ⟨G, 1, none⟩ v).heap.size = w.heap.size := by simp [World.setCell]

set_option maxRecDepth 100000 in
set_option maxHeartbeats 4000000 in
theorem with_new (v : Option Addr) (k l : List Rt) (A : Option Addr) (c : Nat) (w : World) (ht : Tr w w.heap.size v k) (hr : Rd w w.heap.size 3 A l.length (rtCells l)) (hp : ∀ r ∈ l, (patL r.p).isSome = true ∧ r.p.length ≤ 10000) (hl : k.length + l.length ≤ 100000) :
    Calls Tryd.prog 9 #[.pointer v, .slice A l.length c] w fun e w' => ∃ g, e = .returned (.pointer (some ⟨g, 0, none⟩)) ∧ Tr w' w'.heap.size (some ⟨g, 0, none⟩) (k ++ l) ∧ Below w.heap.size w w' ∧ w.heap.size ≤ g ∧ ∃ cs fr, w'.heap[g]? = some (.cells cs 60 fr) := by
  have HR := Lib.hid hr
  have HP := Lib.hid hp
  have HL := Lib.hid hl
  have hll : l.length ≤ 100000 := by omega
  clear hr hp
  rcases ht with ⟨rfl, rfl⟩ | ⟨g, rv0, rfl, hgb, c0, c1, hn⟩
  · have HB1 : Hid (Below w.heap.size w (w.alloc (.cells #[.pointer none, .int .i64 0] 60))) := (Below.refl _ _).alloc (Nat.le_refl _) _
    have HK1 : Hid ((w.alloc (.cells #[.pointer none, .int .i64 0] 60)).heap[w.heap.size]? = some (.cells #[.pointer none, .int .i64 0] 60 (0, 0))) := heap_alloc_new w _
    have HN1 : Hid (Nd (w.alloc (.cells #[.pointer none, .int .i64 0] 60)) (w.alloc (.cells #[.pointer none, .int .i64 0] 60)).heap.size none []) := .nil
    go_enter Tryd.func9, Tryd.ntmps9
    go_wp2_with fail
    generalize hGG : w.heap.size = G at *
    have HG : Hid (G = w.heap.size) := hGG.symm
    clear hGG
    go_loopw [18] (fun i wr => ∃ (j : Nat) (rv : Option Addr), j ≤ l.length ∧ i = .int .i64 j ∧ Hid (wr.heap[G]? = some (.cells #[.pointer rv, .int .i64 ((([] : List Rt).length + j : Nat) : Int)] 60 (0, 0))) ∧ Hid (Nd wr wr.heap.size rv (itemsL (([] : List Rt) ++ l.take j))) ∧ Hid (Below G w wr)) (fun i _ => l.length - (intOf i).toNat)
    case atStart => exact ⟨0, none, by omega, rfl, HK1.out, HN1.out, HB1.out⟩
    case round =>
      obtain ⟨j, rv, hj, rfl, HK, HN, HB⟩ := hrel
      by_cases hlt : j < l.length
      · obtain ⟨a, rfl, hab, k0, k1, k2⟩ := rt_in (HR.out.below HB.out (Nat.le_refl _)) rfl j hlt
        obtain ⟨hps, hpl⟩ := HP.out _ (List.getElem_mem hlt)
        obtain ⟨q, hq⟩ := Option.isSome_iff_exists.1 hps
        have hcut := cut_pat hq
        have hq8 := segs_len (pat_segs hq).1
        have HIT := Lib.hid (items_snoc ([] : List Rt) l j hlt)
        have hA2 : Below wr.heap.size wr (wr.alloc (.cells #[.string (mkB l[j].m), .string (mkB l[j].p), .string (mkB l[j].h)] 31)) := (Below.refl _ _).alloc (Nat.le_refl _) _
        have HA2 := Lib.hid hA2
        have HPT := Lib.hid (pat_any (mkB l[j].p) (wr.alloc (.cells #[.string (mkB l[j].m), .string (mkB l[j].p), .string (mkB l[j].h)] 31)) (by rw [mkB_size]; exact hpl))
        rw [mkB_data, hq] at HPT
        simp only [Option.isSome_some, Option.getD_some] at HPT
        have HAD := Lib.hid (fun (SA : Option Addr) (sc : Nat) (wx : World) (h : EnAt wx wx.heap.size (enOf l[j], .slice SA (enOf l[j]).s.length sc)) => adding_any (enOf l[j]) SA sc (enOf l[j]).s.length 0 (Nat.zero_add _) wx h)
        have he0 : enOf l[j] = ⟨l[j].m, l[j].h, q⟩ := by rw [enOf, hcut]
        rw [hcut] at HIT
        rw [he0] at HAD HIT
        rw [show ((0 : Nat) : Int) = 0 from rfl] at HAD
        have d0 := new_cell4 wr #[.string (mkB l[j].m), .string (mkB l[j].p), .string (mkB l[j].h)] 31 0
        have d2 := new_cell4 wr #[.string (mkB l[j].m), .string (mkB l[j].p), .string (mkB l[j].h)] 31 2
        simp only [List.getElem?_toArray, List.getElem?_cons_succ, List.getElem?_cons_zero] at d0 d2
        have HSZ : Hid (wr.heap.size < (wr.alloc (.cells #[.string (mkB l[j].m), .string (mkB l[j].p), .string (mkB l[j].h)] 31)).heap.size) := by show _ < _; simp
        have hkb : (([] : List Rt).length + j : Nat) ≤ 100000 := by have h1 := HL.out; have h2 : ([] : List Rt).length = 0 := rfl; omega
        have hGR : G < wr.heap.size := (Array.getElem?_eq_some_iff.1 HK.out).1
        have HLI : Hid ((itemsL (([] : List Rt) ++ l.take j)).length ≤ 1000000) := by show _ ≤ _; have h2 : ([] : List Rt).length = 0 := rfl; rw [itemsL, List.length_map, List.length_append, List.length_take]; omega
        clear hps hpl hq hcut he0 hA2
        generalize hm0 : l[j].m = rm at *
        generalize hh0 : l[j].h = rh at *
        generalize mkB l[j].p = pb at *
        obtain ⟨mb, hmb⟩ : ∃ mb, mkB rm = mb := ⟨_, rfl⟩
        obtain ⟨hb, hhb⟩ : ∃ hb, mkB rh = hb := ⟨_, rfl⟩
        rw [hmb, hhb] at *
        clear hmb hhb hm0 hh0
        go_wp2_with fail
        generalize wr.alloc (.cells #[.string mb, .string pb, .string hb] 31) = w2 at *
        refine HPT.out.mono ?_
        rintro e w3 ⟨pv, rfl, ho3, hb3⟩
        obtain ⟨SA, sc, rfl, _, hrt3⟩ := RdT.own ho3
        have HAD3 := Lib.hid (HAD.out SA sc w3 ⟨SA, sc, rfl, by show q.length ≤ 1000; omega, hrt3⟩)
        have e0 := (hb3.cell (p := ⟨wr.heap.size, 0, none⟩) HSZ.out).trans d0
        have e2 := (hb3.cell (p := ⟨wr.heap.size, 2, none⟩) HSZ.out).trans d2
        have HB3 : Hid (Below wr.heap.size wr w3) := bt HA2.out hb3
        clear ho3 hrt3 hb3 d0 d2 HPT HAD
        go_wp2_with fail
        refine HAD3.out.mono ?_
        rintro e w4 ⟨cv, rfl, hc4, hb4⟩
        simp only [List.drop_zero] at hc4
        have HB4 : Hid (Below wr.heap.size wr w4) := bt HB3.out hb4
        have hk4 := (HB4.out.block G hGR).trans HK.out
        have r0 : w4.cell? ⟨G, 0, none⟩ = some (.pointer rv) := by rw [Lib.cell_of_heap hk4]; rfl
        have HK4 := Lib.hid hk4
        have hdo := chg_does q _ cv w4 w4.heap.size rv (itemsL (([] : List Rt) ++ l.take j)) (Nat.le_refl _) hc4 (HN.out.on HB4.out) HLI.out
        clear hc4 hb4 hk4 e0 e2 HAD3
        have hG4 : G < w4.heap.size := Nat.lt_of_lt_of_le hGR HB4.out.size
        rcases hdo with ⟨u1, rfl, hcall⟩ | ⟨u1, u2, rfl, hcall⟩
        all_goals
          have HCL := Lib.hid hcall
          clear hcall
          go_wp2_with fail
          refine HCL.out.mono ?_
          rintro e w5 ⟨q5, rfl, hq5, hb5⟩
          have hk5 := (hb5.block G hG4).trans HK4.out
          have s0 : w5.cell? ⟨G, 0, none⟩ = some (.pointer rv) := by rw [Lib.cell_of_heap hk5]; rfl
          have s1 : w5.cell? ⟨G, 1, none⟩ = some (.int .i64 ((([] : List Rt).length + j : Nat) : Int)) := by rw [Lib.cell_of_heap hk5]; rfl
          have z0 : w5.frozen? ⟨G, 0, none⟩ = false := Lib.frozen_of_heap hk5 0
          have z1 : w5.frozen? ⟨G, 1, none⟩ = false := Lib.frozen_of_heap hk5 1
          have HK5 := Lib.hid hk5
          have HB5 : Hid (Below G w w5) := HB.out.trans ((bt HB4.out hb5).mono (Nat.le_of_lt hGR))
          have HQ5 := Lib.hid (hq5 w5 (Sp.refl _ _ _))
          rw [HIT.out] at HQ5
          clear hk5 hb5 hq5
          go_wp2_with fail
          go_roundw
          case rel => exact ⟨j + 1, q5, by omega, by go_num, (by show _ = _; rw [two_far HK5.out]; first | (congr 3; simp <;> omega) | (congr 3)), (by show Nd _ _ _ _; rw [two_size]; exact HQ5.out.far ⟨_, _, HK5.out⟩ (by decide) (by decide) (by decide) (by decide) two_oth), (HB5.out.setCell (p := ⟨G, 0, none⟩) (Nat.le_refl _) _).setCell (p := ⟨G, 1, none⟩) (Nat.le_refl _) _⟩
          case measure => simp [intOf]; omega
      · have hje : j = l.length := by omega
        subst hje
        have hGR : G < wr.heap.size := (Array.getElem?_eq_some_iff.1 HK.out).1
        go_wp2_with fail
        go_ret
        refine ⟨G, rfl, .inr ⟨G, rv, rfl, hGR, ?_, ?_, ?_⟩, (by have := HB.out; rw [HG.out] at this; exact this), (by first | exact Nat.le_of_eq HG.out.symm | exact Nat.le_refl _), _, _, HK.out⟩
        · rw [Lib.cell_of_heap HK.out]; rfl
        · rw [Lib.cell_of_heap HK.out]; simp
        · have := HN.out
          rwa [List.take_length] at this
  · have hb1 : Below w.heap.size w (w.alloc (.cells #[.pointer rv0, .int .i64 k.length] 60)) := (Below.refl _ _).alloc (Nat.le_refl _) _
    have HB1 := Lib.hid hb1
    have HK1 : Hid ((w.alloc (.cells #[.pointer rv0, .int .i64 k.length] 60)).heap[w.heap.size]? = some (.cells #[.pointer rv0, .int .i64 ((k.length + 0 : Nat) : Int)] 60 (0, 0))) := heap_alloc_new w _
    have HN1 : Hid (Nd (w.alloc (.cells #[.pointer rv0, .int .i64 k.length] 60)) (w.alloc (.cells #[.pointer rv0, .int .i64 k.length] 60)).heap.size rv0 (itemsL (k ++ l.take 0))) := by
      rw [List.take_zero, List.append_nil]; exact hn.on hb1
    clear hn hb1
    go_enter Tryd.func9, Tryd.ntmps9
    go_wp2_with fail
    generalize hGG : w.heap.size = G at *
    have HG : Hid (G = w.heap.size) := hGG.symm
    clear hGG
    go_loopw [18] (fun i wr => ∃ (j : Nat) (rv : Option Addr), j ≤ l.length ∧ i = .int .i64 j ∧ Hid (wr.heap[G]? = some (.cells #[.pointer rv, .int .i64 ((k.length + j : Nat) : Int)] 60 (0, 0))) ∧ Hid (Nd wr wr.heap.size rv (itemsL (k ++ l.take j))) ∧ Hid (Below G w wr)) (fun i _ => l.length - (intOf i).toNat)
    case atStart => exact ⟨0, rv0, by omega, rfl, HK1.out, HN1.out, HB1.out⟩
    case round =>
      obtain ⟨j, rv, hj, rfl, HK, HN, HB⟩ := hrel
      by_cases hlt : j < l.length
      · obtain ⟨a, rfl, hab, k0, k1, k2⟩ := rt_in (HR.out.below HB.out (Nat.le_refl _)) rfl j hlt
        obtain ⟨hps, hpl⟩ := HP.out _ (List.getElem_mem hlt)
        obtain ⟨q, hq⟩ := Option.isSome_iff_exists.1 hps
        have hcut := cut_pat hq
        have hq8 := segs_len (pat_segs hq).1
        have HIT := Lib.hid (items_snoc k l j hlt)
        have hA2 : Below wr.heap.size wr (wr.alloc (.cells #[.string (mkB l[j].m), .string (mkB l[j].p), .string (mkB l[j].h)] 31)) := (Below.refl _ _).alloc (Nat.le_refl _) _
        have HA2 := Lib.hid hA2
        have HPT := Lib.hid (pat_any (mkB l[j].p) (wr.alloc (.cells #[.string (mkB l[j].m), .string (mkB l[j].p), .string (mkB l[j].h)] 31)) (by rw [mkB_size]; exact hpl))
        rw [mkB_data, hq] at HPT
        simp only [Option.isSome_some, Option.getD_some] at HPT
        have HAD := Lib.hid (fun (SA : Option Addr) (sc : Nat) (wx : World) (h : EnAt wx wx.heap.size (enOf l[j], .slice SA (enOf l[j]).s.length sc)) => adding_any (enOf l[j]) SA sc (enOf l[j]).s.length 0 (Nat.zero_add _) wx h)
        have he0 : enOf l[j] = ⟨l[j].m, l[j].h, q⟩ := by rw [enOf, hcut]
        rw [hcut] at HIT
        rw [he0] at HAD HIT
        rw [show ((0 : Nat) : Int) = 0 from rfl] at HAD
        have d0 := new_cell4 wr #[.string (mkB l[j].m), .string (mkB l[j].p), .string (mkB l[j].h)] 31 0
        have d2 := new_cell4 wr #[.string (mkB l[j].m), .string (mkB l[j].p), .string (mkB l[j].h)] 31 2
        simp only [List.getElem?_toArray, List.getElem?_cons_succ, List.getElem?_cons_zero] at d0 d2
        have HSZ : Hid (wr.heap.size < (wr.alloc (.cells #[.string (mkB l[j].m), .string (mkB l[j].p), .string (mkB l[j].h)] 31)).heap.size) := by show _ < _; simp
        have hkb : (k.length + j : Nat) ≤ 100000 := by have h1 := HL.out; have h2 : ([] : List Rt).length = 0 := rfl; omega
        have hGR : G < wr.heap.size := (Array.getElem?_eq_some_iff.1 HK.out).1
        have HLI : Hid ((itemsL (k ++ l.take j)).length ≤ 1000000) := by show _ ≤ _; have h2 : ([] : List Rt).length = 0 := rfl; rw [itemsL, List.length_map, List.length_append, List.length_take]; omega
        clear hps hpl hq hcut he0 hA2
        generalize hm0 : l[j].m = rm at *
        generalize hh0 : l[j].h = rh at *
        generalize mkB l[j].p = pb at *
        obtain ⟨mb, hmb⟩ : ∃ mb, mkB rm = mb := ⟨_, rfl⟩
        obtain ⟨hb, hhb⟩ : ∃ hb, mkB rh = hb := ⟨_, rfl⟩
        rw [hmb, hhb] at *
        clear hmb hhb hm0 hh0
        go_wp2_with fail
        generalize wr.alloc (.cells #[.string mb, .string pb, .string hb] 31) = w2 at *
        refine HPT.out.mono ?_
        rintro e w3 ⟨pv, rfl, ho3, hb3⟩
        obtain ⟨SA, sc, rfl, _, hrt3⟩ := RdT.own ho3
        have HAD3 := Lib.hid (HAD.out SA sc w3 ⟨SA, sc, rfl, by show q.length ≤ 1000; omega, hrt3⟩)
        have e0 := (hb3.cell (p := ⟨wr.heap.size, 0, none⟩) HSZ.out).trans d0
        have e2 := (hb3.cell (p := ⟨wr.heap.size, 2, none⟩) HSZ.out).trans d2
        have HB3 : Hid (Below wr.heap.size wr w3) := bt HA2.out hb3
        clear ho3 hrt3 hb3 d0 d2 HPT HAD
        go_wp2_with fail
        refine HAD3.out.mono ?_
        rintro e w4 ⟨cv, rfl, hc4, hb4⟩
        simp only [List.drop_zero] at hc4
        have HB4 : Hid (Below wr.heap.size wr w4) := bt HB3.out hb4
        have hk4 := (HB4.out.block G hGR).trans HK.out
        have r0 : w4.cell? ⟨G, 0, none⟩ = some (.pointer rv) := by rw [Lib.cell_of_heap hk4]; rfl
        have HK4 := Lib.hid hk4
        have hdo := chg_does q _ cv w4 w4.heap.size rv (itemsL (k ++ l.take j)) (Nat.le_refl _) hc4 (HN.out.on HB4.out) HLI.out
        clear hc4 hb4 hk4 e0 e2 HAD3
        have hG4 : G < w4.heap.size := Nat.lt_of_lt_of_le hGR HB4.out.size
        rcases hdo with ⟨u1, rfl, hcall⟩ | ⟨u1, u2, rfl, hcall⟩
        all_goals
          have HCL := Lib.hid hcall
          clear hcall
          go_wp2_with fail
          refine HCL.out.mono ?_
          rintro e w5 ⟨q5, rfl, hq5, hb5⟩
          have hk5 := (hb5.block G hG4).trans HK4.out
          have s0 : w5.cell? ⟨G, 0, none⟩ = some (.pointer rv) := by rw [Lib.cell_of_heap hk5]; rfl
          have s1 : w5.cell? ⟨G, 1, none⟩ = some (.int .i64 ((k.length + j : Nat) : Int)) := by rw [Lib.cell_of_heap hk5]; rfl
          have z0 : w5.frozen? ⟨G, 0, none⟩ = false := Lib.frozen_of_heap hk5 0
          have z1 : w5.frozen? ⟨G, 1, none⟩ = false := Lib.frozen_of_heap hk5 1
          have HK5 := Lib.hid hk5
          have HB5 : Hid (Below G w w5) := HB.out.trans ((bt HB4.out hb5).mono (Nat.le_of_lt hGR))
          have HQ5 := Lib.hid (hq5 w5 (Sp.refl _ _ _))
          rw [HIT.out] at HQ5
          clear hk5 hb5 hq5
          go_wp2_with fail
          go_roundw
          case rel => exact ⟨j + 1, q5, by omega, by go_num, (by show _ = _; rw [two_far HK5.out]; first | (congr 3; simp <;> omega) | (congr 3)), (by show Nd _ _ _ _; rw [two_size]; exact HQ5.out.far ⟨_, _, HK5.out⟩ (by decide) (by decide) (by decide) (by decide) two_oth), (HB5.out.setCell (p := ⟨G, 0, none⟩) (Nat.le_refl _) _).setCell (p := ⟨G, 1, none⟩) (Nat.le_refl _) _⟩
          case measure => simp [intOf]; omega
      · have hje : j = l.length := by omega
        subst hje
        have hGR : G < wr.heap.size := (Array.getElem?_eq_some_iff.1 HK.out).1
        go_wp2_with fail
        go_ret
        refine ⟨G, rfl, .inr ⟨G, rv, rfl, hGR, ?_, ?_, ?_⟩, (by have := HB.out; rw [HG.out] at this; exact this), (by first | exact Nat.le_of_eq HG.out.symm | exact Nat.le_refl _), _, _, HK.out⟩
        · rw [Lib.cell_of_heap HK.out]; rfl
        · rw [Lib.cell_of_heap HK.out]; simp
        · have := HN.out
          rwa [List.take_length] at this
theorem with_any (v : Option Addr) (k l : List Rt) (A : Option Addr) (c : Nat) (w : World) (ht : Tr w w.heap.size v k) (hr : Rd w w.heap.size 3 A l.length (rtCells l)) (hp : ∀ r ∈ l, (patL r.p).isSome = true ∧ r.p.length ≤ 10000) (hl : k.length + l.length ≤ 100000) :
    Calls Tryd.prog 9 #[.pointer v, .slice A l.length c] w fun e w' => ∃ g, e = .returned (.pointer (some ⟨g, 0, none⟩)) ∧ Tr w' w'.heap.size (some ⟨g, 0, none⟩) (k ++ l) ∧ Below w.heap.size w w' :=
  (with_new v k l A c w ht hr hp hl).mono fun e w' ⟨g, h1, h2, h3, _⟩ => ⟨g, h1, h2, h3⟩
end Go.Proofs.YtgfjkpfjajjidaaDoor
