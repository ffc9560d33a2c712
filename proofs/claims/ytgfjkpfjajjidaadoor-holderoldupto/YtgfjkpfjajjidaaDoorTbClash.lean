/- The contract of table.clash. -/
import Derived.Test.YtgfjkpfjajjidaaDoorTbIdx
import Derived.Deep.RegionWith
import Derived.RangeFuncRecord
namespace Go.Proofs.YtgfjkpfjajjidaaDoor
open Go.RowKit Pl

theorem Tryd.info124 : (Tryd.prog.info? 124).map (fun i => (i.zero, i.size, i.bytes)) = some (some (.agg #[.string ⟨#[]⟩, .string ⟨#[]⟩]), 2, 32) := by kernel_rfl

theorem own_len {w : World} {base k n : Nat} {e : TypeId} {v : Value} {xs : List Value} (h : w.ownsRow base e k v n xs) (hn : 0 < n) : ∃ g cap, v = .slice (some ⟨g, 0, none⟩) n cap := by
  rcases h.2 with ⟨_, h0⟩ | ⟨g, cap, cur, hv, _⟩
  · omega
  · exact ⟨g, cap, hv⟩

theorem new_pair (w : World) (x y : Value) (t : TypeId) : ∀ j u, [x, y][j]? = some u → (w.alloc (.cells #[x, y] t)).cell? ((⟨w.heap.size, 0, none⟩ : Addr).add j) = some u := by
  intro j u hj
  rw [add_zero_own, new_cell]
  simpa using hj

theorem blk_lt_cell {w : World} {a : Addr} {v : Value} (h : w.cell? a = some v) : a.block < w.heap.size := World.block_lt_of_cell? _ _ h
theorem two_cell0 {w : World} {g : Nat} {u v : Value} {t : TypeId} (h : w.heap[g]? = some (.cells #[u, v] t)) (x y : Value) : ((w.setCell ⟨g, 0, none⟩ x).setCell ⟨g, 1, none⟩ y).cell? ⟨g, 0, none⟩ = some x := by
  rw [World.cell?_setCell_other _ _ _ _ (by simp)]
  exact World.cell?_setCell_same _ _ _ (by rw [Lib.cell_of_heap h]; rfl)
theorem two_cell1 {w : World} {g : Nat} {u v : Value} {t : TypeId} (h : w.heap[g]? = some (.cells #[u, v] t)) (x y : Value) : ((w.setCell ⟨g, 0, none⟩ x).setCell ⟨g, 1, none⟩ y).cell? ⟨g, 1, none⟩ = some y := by
  refine World.cell?_setCell_same (u := v) _ _ _ ?_
  rw [World.cell?_setCell_other _ _ _ _ (by simp), Lib.cell_of_heap h]; rfl
theorem pat_small (s : ByteArray) (hs : s.size ≤ 10000) : ((patL s.data.toList).getD []).length ≤ 1000 ∧ ∀ x ∈ (patL s.data.toList).getD [], x.length ≤ 10000 := by
  cases hp : patL s.data.toList with
  | none => simp
  | some l =>
    obtain ⟨h1, _⟩ := pat_segs hp
    have h2 := segs_len h1
    have h3 := segs_small h1
    refine ⟨by simp only [Option.getD_some]; omega, fun x hx => ?_⟩
    have := h3 x hx
    rw [data_len] at this
    omega

set_option maxRecDepth 100000 in
set_option maxHeartbeats 4000000 in
theorem clash_any (l : List Rt) (A : Option Addr) (c : Nat) (w : World) (hr : Rd w w.heap.size 3 A l.length (rtCells l)) (hn : l.length ≤ 24) (hs : ∀ r ∈ l, r.p.length ≤ 10000) :
    Calls Tryd.prog 41 #[.slice A l.length c] w fun e w' => e = .returned (.bool (clashL l)) ∧ Below w.heap.size w w' := by
  obtain ⟨i0, hi, hz0, hz1, hz2⟩ := info_parts Tryd.info124
  have HI := Lib.hid hi; have HZ0 := Lib.hid hz0; have HZ1 := Lib.hid hz1; have HZ2 := Lib.hid hz2
  have HR := Lib.hid hr
  have HS := Lib.hid hs
  clear hi hz0 hz1 hz2 hr hs
  obtain ⟨CL, hCL⟩ : ∃ b, clashL l = b := ⟨_, rfl⟩
  rw [hCL]
  have HCL := Lib.hid hCL
  clear hCL
  go_enter Tryd.func41, Tryd.ntmps41
  go_wp2_with fail
  go_loopw [3, 11] (fun v i wr => ∃ (k : Nat) (tk : List PL), k ≤ l.length ∧ Hid (tk.length = k) ∧ i = .int .i64 k ∧ Hid (wr.ownsRow w.heap.size 124 2 v tk.length (plCells tk)) ∧ Hid (Below w.heap.size w wr) ∧ Hid (CL = clashFrom tk (l.drop k))) (fun _ i _ => l.length - (intOf i).toNat)
  case atStart => exact ⟨0, [], by omega, by show _ = _; rfl, rfl, World.ownsRow_nil _ _ _ _, Below.refl _ _, HCL.out.symm⟩
  case round =>
    obtain ⟨k, tk, hk, HTK, rfl, HO, HB, HV⟩ := hrel
    obtain ⟨A0, c0, rfl, hrd0⟩ := Rd.own HO.out
    have HRD0 := Lib.hid hrd0
    have htl : tk.length ≤ 24 := by have := HTK.out; omega
    clear hrd0
    by_cases hlt : k < l.length
    · obtain ⟨a, rfl, hab, k0, k1, k2⟩ := rt_in (HR.out.below HB.out (Nat.le_refl _)) rfl k hlt
      have hps : (mkB l[k].p).size ≤ 10000 := by rw [mkB_size]; exact HS.out _ (List.getElem_mem hlt)
      have HP := Lib.hid (fun w => pat_any (mkB l[k].p) w hps)
      have hca := clash_at l k hlt tk
      rw [← HV.out] at hca
      have hpl : placeL l[k] = (l[k].m, shapeL ((patL (mkB l[k].p).data.toList).getD [])) := by rw [mkB_data]; rfl
      have hss := pat_small (mkB l[k].p) hps
      generalize (patL (mkB l[k].p).data.toList).isSome = ok at *
      generalize (patL (mkB l[k].p).data.toList).getD [] = sg at *
      rw [hpl] at hca
      have HX := Lib.hid hca; have HSS := Lib.hid hss
      clear hca hpl hss
      have HA := Lib.hid ((HB.out).alloc HB.out.size (.cells #[.string (mkB l[k].m), .string (mkB l[k].p), .string (mkB l[k].h)] 31))
      have HC0 := Lib.hid (fun w' (h : Below (wr.alloc (.cells #[.string (mkB l[k].m), .string (mkB l[k].p), .string (mkB l[k].h)] 31)).heap.size (wr.alloc (.cells #[.string (mkB l[k].m), .string (mkB l[k].p), .string (mkB l[k].h)] 31)) w') => (h.cell (p := ⟨wr.heap.size, 0, none⟩) (by simp)).trans (new_cell wr _ 31 0))
      generalize hm : mkB l[k].m = xm at *
      generalize mkB l[k].p = xp at *
      generalize mkB l[k].h = xh at *
      have HM := Lib.hid hm
      clear hm
      obtain ⟨SH, hSH⟩ : ∃ q, mkB (shapeL sg) = q := ⟨_, rfl⟩
      have HSHQ := Lib.hid hSH
      go_wp2_with fail
      refine (HP.out _).mono ?_
      rintro e w1 ⟨v1, rfl, ho1, hb1⟩
      obtain ⟨A1, c1, rfl, hr1⟩ := Rd.own ho1
      have d0 := HC0.out w1 hb1
      have HSH := Lib.hid (fun wx (h : Below w1.heap.size w1 wx) => shape_any sg A1 c1 wx ((hr1.below h (Nat.le_refl _)).wide h.size) HSS.out.1 HSS.out.2)
      rw [hSH] at HSH
      clear hSH
      have HB1 := Lib.hid hb1
      clear ho1 hr1 hb1
      simp only [List.getElem?_toArray, List.getElem?_cons_zero] at d0
      go_wp2_with fail
      have hwl : wr.heap.size < w1.heap.size := by have := HB1.out.size; simp at this; omega
      have HWL := Lib.hid hwl
      clear hwl
      have R0 := Lib.hid ((Below.refl w1.heap.size w1).drew)
      have R1 := Lib.hid (((Below.refl w1.heap.size w1).alloc (Nat.le_refl _) (.cells #[.string ⟨#[]⟩, .string ⟨#[]⟩] 124)).drew)
      have d4 : (w1.alloc (.cells #[.string ⟨#[]⟩, .string ⟨#[]⟩] 124)).cell? ⟨wr.heap.size, 0, none⟩ = some (.string xm) := (R1.out.cell (p := ⟨wr.heap.size, 0, none⟩) HWL.out).trans d0
      go_region_law ((first
        | (go_simp; go_at_call 65; refine (HSH.out _ R0.out).mono ?_; rintro e w2 ⟨rfl, hb2⟩
           have d2 := (hb2.cell (p := ⟨wr.heap.size, 0, none⟩) HWL.out).trans d0
           have d3 := (((Below.refl w2.heap.size w2).alloc (Nat.le_refl _) (.cells #[.string ⟨#[]⟩, .string ⟨#[]⟩] 124)).cell (p := ⟨wr.heap.size, 0, none⟩) (Nat.lt_of_lt_of_le HWL.out hb2.size)).trans d2
           have HB2 : Hid (Below w1.heap.size w1 w2) := R0.out.trans hb2
           have HG2 : Hid True := trivial
           clear hb2)
        | (go_simp; go_at_call 65; refine (HSH.out _ R1.out).mono ?_; rintro e w2 ⟨rfl, hb2⟩
           have d1 := R1.out.cell (p := ⟨wr.heap.size, 0, none⟩) HWL.out
           have d2 := (hb2.cell (p := ⟨wr.heap.size, 0, none⟩) (by have := HWL.out; simp; omega)).trans (d1.trans d0)
           have hh : w2.heap[w1.heap.size]? = some (.cells #[.string ⟨#[]⟩, .string ⟨#[]⟩] 124) := (hb2.block _ (by simp)).trans (World.alloc_heap_new w1 _)
           have e0 : w2.cell? ⟨w1.heap.size, 0, none⟩ = some (.string ⟨#[]⟩) := by rw [Lib.cell_of_heap hh]; rfl
           have e1 : w2.cell? ⟨w1.heap.size, 1, none⟩ = some (.string ⟨#[]⟩) := by rw [Lib.cell_of_heap hh]; rfl
           have f0 : w2.frozen? ⟨w1.heap.size, 0, none⟩ = false := Lib.frozen_of_heap hh 0
           have f1 : w2.frozen? ⟨w1.heap.size, 1, none⟩ = false := Lib.frozen_of_heap hh 1
           have HB2 : Hid (Below w1.heap.size w1 w2) := R1.out.trans (hb2.mono (by simp))
           have HG2 := Lib.hid hh
           clear hb2 d1 hh)))
      all_goals
        first
          | (have g0 := new_cell w2 #[.string xm, .string SH] 124 0
             have g1 := new_cell w2 #[.string xm, .string SH] 124 1
             simp only [List.getElem?_toArray, List.getElem?_cons_zero, List.getElem?_cons_succ] at g0 g1
             have HB3 := Lib.hid (HB2.out.alloc HB2.out.size (.cells #[.string xm, .string SH] 124))
             clear d3
             generalize w2.alloc (.cells #[.string xm, .string SH] 124) = w3 at *
             generalize w2.heap.size = g at *)
          | (have g0 := two_cell0 HG2.out (.string xm) (.string SH)
             have g1 := two_cell1 HG2.out (.string xm) (.string SH)
             have HB3 := Lib.hid ((HB2.out.setCell (p := ⟨w1.heap.size, 0, none⟩) (Nat.le_refl _) (.string xm)).setCell (p := ⟨w1.heap.size, 1, none⟩) (Nat.le_refl _) (.string SH))
             clear e0 e1 f0 f1
             generalize (w2.setCell ⟨w1.heap.size, 0, none⟩ (.string xm)).setCell ⟨w1.heap.size, 1, none⟩ (.string SH) = w3 at *
             generalize w1.heap.size = g at g0 g1 ⊢)
        have HB4 : Hid (Below w.heap.size w w3) := HA.out.trans ((HB1.out.trans (HB3.out.mono HB1.out.size)).mono (by have := HB.out.size; simp; omega))
        have HBR : Hid (Below wr.heap.size wr w3) := ((Below.refl wr.heap.size wr).alloc (Nat.le_refl _) _).trans ((HB1.out.trans (HB3.out.mono HB1.out.size)).mono (by simp))
        have HO3 := Lib.hid (own_below HO.out HBR.out)
        have HCT := Lib.hid (contains_any tk A0 c0 (l[k].m, shapeL sg) w3 ((HRD0.out.below HBR.out (Nat.le_refl _)).wide HBR.out.size) (by omega))
        rw [HM.out, HSHQ.out] at HCT
        have hgl := blk_lt_cell g0
        clear d0 d2 d4
        by_cases hin : (l[k].m, shapeL sg) ∈ tk
        · have HY : Hid (CL = true) := by show _ = _; rw [HX.out, if_pos hin]
          rw [decide_eq_true hin] at HCT
          clear hin
          go_wp2_with fail
          refine HCT.out.mono ?_
          rintro e w5 ⟨rfl, hb5⟩
          go_wp2_with fail
          go_ret
          exact ⟨ret_bool HY.out.symm, HB4.out.trans (hb5.mono HB4.out.size)⟩
        · have HY : Hid (CL = clashFrom (tk ++ [(l[k].m, shapeL sg)]) (l.drop (k + 1))) := by show _ = _; rw [HX.out, if_neg hin]
          rw [decide_eq_false hin] at HCT
          clear hin
          go_wp2_with fail
          refine HCT.out.mono ?_
          rintro e w5 ⟨rfl, hb5⟩
          have g2 := (hb5.cell (p := ⟨g, 0, none⟩) hgl).trans g0
          have g3 := (hb5.cell (p := ⟨g, 1, none⟩) hgl).trans g1
          have HO5 := Lib.hid (own_below HO3.out hb5)
          have HB5 : Hid (Below w.heap.size w w5) := HB4.out.trans (hb5.mono HB4.out.size)
          clear hb5 g0 g1
          go_wp2_with (first | (at_builtin; refine wpList_append_own _ rfl _ _ 121 rfl w.heap.size 124 i0 (.agg #[.string ⟨#[]⟩, .string ⟨#[]⟩]) 2 32 Tryd.underlying121 HI.out HZ0.out HZ1.out HZ2.out rfl (by decide) _ _ _ rfl (HO5.out.alloc _) ⟨w5.heap.size, 0, none⟩ 1 1 [.string xm, .string SH] rfl rfl ?c1 ?c2 ?c3 ?c4 ?c5 ?_))
          case c1 => exact new_pair _ _ _ _
          case c2 => intro u hu; simp at hu; rcases hu with rfl | rfl <;> rfl
          case c3 => unfold maxLen; omega
          case c4 => omega
          case c5 => have := HB5.out.size; simp; omega
          intro v' w6 hown' hgrow _
          have hb6 : Below w.heap.size w w6 := (HB5.out.alloc HB5.out.size _).grown hgrow (by have := HB5.out.size; simp; omega) (fun k hk => (HO5.out.lt k hk).1)
          have HO6 : Hid (w6.ownsRow w.heap.size 124 2 v' (tk ++ [(l[k].m, shapeL sg)]).length (plCells (tk ++ [(l[k].m, shapeL sg)]))) := by
            have := hown'
            rw [← HM.out, ← HSHQ.out] at this
            rw [List.length_append, pl_app]
            exact this
          have HB6 := Lib.hid hb6
          clear hown' hgrow hb6
          go_wp2_with fail
          go_roundw
          case rel => exact ⟨k + 1, tk ++ [(l[k].m, shapeL sg)], by omega, by show _ = _; simp [HTK.out], by go_num, HO6, HB6, HY⟩
          case measure => simp [intOf]; omega
    · have HE : Hid (CL = false) := by
        have := HV.out
        rw [List.drop_of_length_le (by omega)] at this
        exact this
      go_wp2_with fail
      go_ret
      exact ⟨ret_bool HE.out.symm, HB.out⟩

end Go.Proofs.YtgfjkpfjajjidaaDoor
