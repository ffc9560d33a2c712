/- The change by which a route ends at a node. -/
import Derived.Test.YtgfjkpfjajjidaaDoorTrTails
import Derived.Test.YtgfjkpfjajjidaaDoorTrBr
import Derived.Deep.DrawnRows
namespace Go.Proofs.YtgfjkpfjajjidaaDoor
open Go.RowKit Pl
attribute [local go_sem ↓] Go.wp_at_zero Go.wp_at_succ

theorem Tryd.info67 : (Tryd.prog.info? 67).map (fun i => (i.zero, i.size, i.bytes)) = some (some (.agg #[.string ⟨#[]⟩, .string ⟨#[]⟩, .slice none 0 0]), 3, 56) := by kernel_rfl
theorem en_one (l : List EnR) (h : ∀ x ∈ l, ∃ A n c, x.2 = .slice A n c) : ∀ u ∈ enCells l, u.oneCell' = true := by
  intro u hu
  obtain ⟨x, hx, hu⟩ := List.mem_flatMap.1 hu
  obtain ⟨A, n, c, e⟩ := h x hx
  simp only [enV, e, List.mem_cons, List.not_mem_nil, or_false] at hu
  rcases hu with rfl | rfl | rfl <;> rfl

theorem own_far {w : World} {base : Nat} {e : TypeId} {k n : Nat} {v : Value} {xs : List Value} (h : w.ownsRow base e k v n xs) (a : Addr) (u : Value) (ha : a.block < base) : (w.setCell a u).ownsRow base e k v n xs := by
  refine ⟨h.1, ?_⟩
  rcases h.2 with hn | ⟨g, cap, cur, hv, hg, hh, r⟩
  · exact .inl hn
  · exact .inr ⟨g, cap, cur, hv, hg, (heap_setCell_other w a g u (by omega)).trans hh, r⟩

set_option maxRecDepth 100000 in
set_option maxHeartbeats 4000000 in
theorem ending_does (g : Nat) (x : En) (A : Option Addr) (c : Nat) (p : Option Addr) (L : List It) (w : World) (hg : g < w.heap.size) (c0 : w.cell? ⟨g, 0, none⟩ = some (.string (mkB x.m))) (c1 : w.cell? ⟨g, 1, none⟩ = some (.string (mkB x.h))) (c2 : w.cell? ⟨g, 2, none⟩ = some (.slice A x.s.length c))
    (B : Nat) (hB : B ≤ w.heap.size) (hx : EnAt w B (x, .slice A x.s.length c)) (hn : Nd w B p L) (hl : L.length ≤ 1000000) :
    Calls Tryd.prog 48 #[.pointer p, .pointer (some ⟨g, 0, none⟩)] w (Chd B [] x L w) := by
  obtain ⟨i0, hi, hz0, hz1, hz2⟩ := info_parts Tryd.info67
  have HT := Lib.hid (twin_any B p L w hn)
  have HX := Lib.hid hx
  clear hx hn
  generalize hq : x.s.length = q at *
  generalize hm : mkB x.m = xm at *
  generalize hh : mkB x.h = xh at *
  have HQ : Hid (enV (x, .slice A q c) = [.string xm, .string xh, .slice A q c]) := by show _ = _; rw [← hm, ← hh]; rfl
  have HLQ : Hid (q = x.s.length) := hq.symm
  clear hq hm hh
  go_enter Tryd.func48, Tryd.ntmps48
  go_wp2_with fail
  refine HT.out.mono ?_
  rintro e w1 ⟨EA, WA, en, wn, ec, wc, pv, rv, es, ws, rfl, hnn, hb1⟩
  have HN := Lib.hid hnn
  have hen : en ≤ 1000000 := by
    have h1 := congrArg List.length hnn.heL
    have h2 : (endsL L).length ≤ L.length := List.length_filterMap_le _ _
    rw [List.length_map] at h1
    have := hnn.hen
    omega
  have hec := hnn.hec
  have k0 := (hb1.cell (p := ⟨g, 0, none⟩) hg).trans c0
  have k1 := (hb1.cell (p := ⟨g, 1, none⟩) hg).trans c1
  have k2 := (hb1.cell (p := ⟨g, 2, none⟩) hg).trans c2
  have HB1 := Lib.hid hb1
  have hg1 : g < w1.heap.size := by have := hb1.size; omega
  clear hnn hb1 c0 c1 c2 hg
  have HBB := Lib.hid hB
  clear hB
  have HA2 := Lib.hid ((Below.refl w1.heap.size w1).alloc (Nat.le_refl _) (.cells #[.slice EA en ec, .slice WA wn wc, .pointer pv, .pointer rv] 88))
  have hbk : (w1.alloc (.cells #[.slice EA en ec, .slice WA wn wc, .pointer pv, .pointer rv] 88)).heap[w1.heap.size]? = some (.cells #[.slice EA en ec, .slice WA wn wc, .pointer pv, .pointer rv] 88 (0, 0)) := heap_alloc_new w1 _
  have m0 := (HA2.out.cell (p := ⟨g, 0, none⟩) hg1).trans k0
  have m1 := (HA2.out.cell (p := ⟨g, 1, none⟩) hg1).trans k1
  have m2 := (HA2.out.cell (p := ⟨g, 2, none⟩) hg1).trans k2
  have d0 := new_cell4 w1 #[.slice EA en ec, .slice WA wn wc, .pointer pv, .pointer rv] 88 0
  have hsz : (w1.alloc (.cells #[.slice EA en ec, .slice WA wn wc, .pointer pv, .pointer rv] 88)).heap.size = w1.heap.size + 1 := by simp
  clear k0 k1 k2
  simp only [List.getElem?_toArray, List.getElem?_cons_zero] at d0
  have n0 : (0 : Int) ≤ (en : Int) := by omega
  have n1 : (en : Int) ≤ (ec : Int) := by omega
  have n2 : ¬ (ec : Int) < (en : Int) := by omega
  go_wp2_with fail
  generalize hw2 : w1.alloc (.cells #[.slice EA en ec, .slice WA wn wc, .pointer pv, .pointer rv] 88) = w2 at *
  clear hw2
  generalize hG : w1.heap.size = G at *
  have f0 : w2.frozen? ⟨G, 0, none⟩ = false := Lib.frozen_of_heap hbk 0
  have HBK := Lib.hid hbk
  clear hbk
  have HAX := Lib.hid ((Below.refl w2.heap.size w2).alloc (Nat.le_refl _) (.cells #[.string xm, .string xh, .slice A q c] 67)).drew
  have HGW : Hid (w.heap.size ≤ G) := by show _ ≤ _; rw [← hG]; exact HB1.out.size
  have HW2 : Hid (Below w.heap.size w w2) := HB1.out.trans (HA2.out.mono HGW.out)
  have HE : Hid (Rd (w2.alloc (.cells #[.string xm, .string xh, .slice A q c] 67)).drew B 3 EA en (enCells es)) := HN.out.he.1.below (bt HW2.out HAX.out) HBB.out
  have HNW : Hid (∀ j u, [Value.string xm, .string xh, .slice A q c][j]? = some u → (w2.alloc (.cells #[.string xm, .string xh, .slice A q c] 67)).drew.cell? ((⟨G + 1, 0, none⟩ : Addr).add j) = some u) := fun j u hu => by
    rw [add_zero_own, ← hsz]
    exact (new_cell4 w2 #[.string xm, .string xh, .slice A q c] 67 j).trans (by simpa using hu)
  have H1 : Hid (∀ u ∈ [Value.string xm, .string xh, .slice A q c], u.oneCell' = true) := fun u hu => by
    simp only [List.mem_cons, List.not_mem_nil, or_false] at hu
    rcases hu with rfl | rfl | rfl <;> rfl
  have H63 : Hid (en + 1 ≤ maxLen) := by show _ ≤ _; unfold maxLen; omega
  have HBY : Hid ((en + 1) * 56 ≤ 140737488355328) := by show _ ≤ _; omega
  have HZ := Lib.hid (And.intro hz0 (And.intro hz1 hz2))
  clear hz0 hz1 hz2
  have hA2s : (w2.alloc (.cells #[.string xm, .string xh, .slice A q c] 67)).drew.heap.size = G + 2 := by show (w2.alloc _).heap.size = _; simp [hsz]
  have HS2 := Lib.hid hA2s
  clear hA2s
  refine Ends.start (S := fun W => W.cell? ⟨G, 0, none⟩ = some (.slice EA en ec) ∧ W.cell? ⟨g, 0, none⟩ = some (.string xm) ∧ W.cell? ⟨g, 1, none⟩ = some (.string xh) ∧ W.cell? ⟨g, 2, none⟩ = some (.slice A q c)) (n := 13) (by kernel_rfl) ?_
  have hS0 : w2.drew.cell? ⟨G, 0, none⟩ = some (.slice EA en ec) ∧ w2.drew.cell? ⟨g, 0, none⟩ = some (.string xm) ∧ w2.drew.cell? ⟨g, 1, none⟩ = some (.string xh) ∧ w2.drew.cell? ⟨g, 2, none⟩ = some (.slice A q c) := ⟨d0, m0, m1, m2⟩
  refine Ends.give 0 7 (.pointer (some ⟨G, 0, none⟩)) rfl rfl (by kernel_rfl) (by kernel_rfl) (by kernel_rfl) (by decide) (by kernel_rfl) (fun _ _ _ h => h) (by rfl) (by intro wx hSw; obtain ⟨s0, s1, s2, s3⟩ := hSw; go_simp) hS0 ?_
  simp only [Act.put, List.setIfInBounds_toArray, List.set_cons_zero, List.set_cons_succ]
  refine Ends.give 1 8 (.slice EA en ec) rfl rfl (by kernel_rfl) (by kernel_rfl) (by kernel_rfl) (by decide) (by kernel_rfl) (fun _ _ _ h => h) (by rfl) (by intro wx hSw; obtain ⟨s0, s1, s2, s3⟩ := hSw; go_simp) hS0 ?_
  simp only [Act.put, List.setIfInBounds_toArray, List.set_cons_zero, List.set_cons_succ]
  refine Ends.give 2 9 (.pointer (some ⟨G, 0, none⟩)) rfl rfl (by kernel_rfl) (by kernel_rfl) (by kernel_rfl) (by decide) (by kernel_rfl) (fun _ _ _ h => h) (by rfl) (by intro wx hSw; obtain ⟨s0, s1, s2, s3⟩ := hSw; go_simp) hS0 ?_
  simp only [Act.put, List.setIfInBounds_toArray, List.set_cons_zero, List.set_cons_succ]
  refine Ends.give 3 10 (.slice EA en ec) rfl rfl (by kernel_rfl) (by kernel_rfl) (by kernel_rfl) (by decide) (by kernel_rfl) (fun _ _ _ h => h) (by rfl) (by intro wx hSw; obtain ⟨s0, s1, s2, s3⟩ := hSw; go_simp) hS0 ?_
  simp only [Act.put, List.setIfInBounds_toArray, List.set_cons_zero, List.set_cons_succ]
  refine Ends.give 4 11 (.int .i64 en) rfl rfl (by kernel_rfl) (by kernel_rfl) (by kernel_rfl) (by decide) (by kernel_rfl) (fun _ _ _ h => h) (by rfl) (by intro wx hSw; obtain ⟨s0, s1, s2, s3⟩ := hSw; go_simp) hS0 ?_
  simp only [Act.put, List.setIfInBounds_toArray, List.set_cons_zero, List.set_cons_succ]
  refine Ends.give 5 12 (.pointer (some ⟨G, 0, none⟩)) rfl rfl (by kernel_rfl) (by kernel_rfl) (by kernel_rfl) (by decide) (by kernel_rfl) (fun _ _ _ h => h) (by rfl) (by intro wx hSw; obtain ⟨s0, s1, s2, s3⟩ := hSw; go_simp) hS0 ?_
  simp only [Act.put, List.setIfInBounds_toArray, List.set_cons_zero, List.set_cons_succ]
  refine Ends.give 6 13 (.slice EA en ec) rfl rfl (by kernel_rfl) (by kernel_rfl) (by kernel_rfl) (by decide) (by kernel_rfl) (fun _ _ _ h => h) (by rfl) (by intro wx hSw; obtain ⟨s0, s1, s2, s3⟩ := hSw; go_simp) hS0 ?_
  simp only [Act.put, List.setIfInBounds_toArray, List.set_cons_zero, List.set_cons_succ]
  refine Ends.give 7 14 (.int .i64 en) rfl rfl (by kernel_rfl) (by kernel_rfl) (by kernel_rfl) (by decide) (by kernel_rfl) (fun _ _ _ h => h) (by rfl) (by intro wx hSw; obtain ⟨s0, s1, s2, s3⟩ := hSw; go_simp) hS0 ?_
  simp only [Act.put, List.setIfInBounds_toArray, List.set_cons_zero, List.set_cons_succ]
  refine Ends.give 8 15 (.slice EA en en) rfl rfl (by kernel_rfl) (by kernel_rfl) (by kernel_rfl) (by decide) (by kernel_rfl) (fun _ _ _ h => h) (by rfl) (by intro wx hSw; obtain ⟨s0, s1, s2, s3⟩ := hSw; go_simp) hS0 ?_
  simp only [Act.put, List.setIfInBounds_toArray, List.set_cons_zero, List.set_cons_succ]
  refine Ends.give 9 16 (.agg #[.string xm, .string xh, .slice A q c]) rfl rfl (by kernel_rfl) (by kernel_rfl) (by kernel_rfl) (by decide) (by kernel_rfl) (fun _ _ _ h => h) (by rfl) (by intro wx hSw; obtain ⟨s0, s1, s2, s3⟩ := hSw; go_simp) hS0 ?_
  simp only [Act.put, List.setIfInBounds_toArray, List.set_cons_zero, List.set_cons_succ]
  have HSK := Lib.hid (fun wx (h : Below w2.heap.size w2 wx) => And.intro ((h.cell (p := ⟨G, 0, none⟩) (by show G < _; omega)).trans d0) (And.intro ((h.cell (p := ⟨g, 0, none⟩) (by show g < _; omega)).trans m0) (And.intro ((h.cell (p := ⟨g, 1, none⟩) (by show g < _; omega)).trans m1) ((h.cell (p := ⟨g, 2, none⟩) (by show g < _; omega)).trans m2))))
  refine Ends.step (i := 10) (by kernel_rfl) rfl (fun K hK => ?_)
  go_simp
  refine hK.out _ _ (fun _ => HSK.out _ HAX.out) ?_
  clear hK K hS0
  refine Ends.step (i := 11) (by kernel_rfl) rfl (fun K hK => ?_)
  refine step_append_full _ (by rfl) (.tmp 15) (.tmp 17) 68 (by rfl) B 67 i0 (.agg #[.string ⟨#[]⟩, .string ⟨#[]⟩, .slice none 0 0]) 3 56 Tryd.underlying68 hi HZ.out.1 HZ.out.2.1 HZ.out.2.2 rfl (by decide) EA en (enCells es) (by rfl) HE.out ⟨G + 1, 0, none⟩ 1 1 [.string xm, .string xh, .slice A q c] (by rfl) rfl HNW.out H1.out (by decide) H63.out HBY.out ?_
  intro g5 c5 w5 hown5 hgr5
  have hb5 : Below (w2.alloc (.cells #[.string xm, .string xh, .slice A q c] 67)).drew.heap.size (w2.alloc (.cells #[.string xm, .string xh, .slice A q c] 67)).drew w5 := (Below.refl _ _).grown hgr5 (Nat.le_refl _) (fun k hk => (by cases hk))
  have hb25 : Below w2.heap.size w2 w5 := HAX.out.trans (hb5.mono (by rw [HS2.out]; omega))
  have hbk5 : w5.heap[G]? = some (.cells #[.slice EA en ec, .slice WA wn wc, .pointer pv, .pointer rv] 88 (0, 0)) := (hb25.block G (by omega)).trans HBK.out
  refine hK.out _ _ (fun _ => HSK.out _ hb25) ?_
  clear hK K
  have HS5 := Lib.hid (HSK.out _ hb25)
  have e0 : w5.cell? ⟨G, 0, none⟩ = some (.slice EA en ec) := by rw [Lib.cell_of_heap hbk5]; rfl
  have e1 : w5.frozen? ⟨G, 0, none⟩ = false := Lib.frozen_of_heap hbk5 0
  have HOW := Lib.hid hown5
  have HB25 := Lib.hid hb25
  have HK5 := Lib.hid hbk5
  clear hown5 hgr5 hb5 hbk5 hb25 HSK
  refine Ends.step (i := 12) (by kernel_rfl) rfl (fun K hK => ?_)
  go_simp
  refine hK.out _ _ (fun _ => HS5.out) ?_
  clear hK K
  refine Ends.step (i := 13) (by kernel_rfl) rfl (fun K hK => ?_)
  go_simp
  refine hK.out _ _ (fun h => absurd rfl h) ?_
  clear hK K
  refine Ends.done (by kernel_rfl) ?_
  go_wp2_with fail
  go_ret
  have hbW : Below w.heap.size w (w5.setCell ⟨G, 0, none⟩ (.slice (some ⟨g5, 0, none⟩) (en + 1) c5)) := (bt HW2.out HB25.out).setCell (p := ⟨G, 0, none⟩) HGW.out _
  have hblk := heap_setCell_same w5 G 0 _ 88 (.slice (some ⟨g5, 0, none⟩) (en + 1) c5) HK5.out
  have hown := own_far HOW.out ⟨G, 0, none⟩ (.slice (some ⟨g5, 0, none⟩) (en + 1) c5) (by rw [HS2.out]; show G < _; omega)
  generalize w5.setCell ⟨G, 0, none⟩ (.slice (some ⟨g5, 0, none⟩) (en + 1) c5) = W at *
  have hGW : G < W.heap.size := (Array.getElem?_eq_some_iff.1 hblk).1
  refine ⟨some ⟨G, 0, none⟩, rfl, fun V hV => ?_, hbW⟩
  have hlow : ∀ j, j < B → V.heap[j]? = w.heap[j]? := fun j hj => (hV.2 j (.inl hj) (by have := hbW.size; have := HBB.out; omega)).trans (hbW.block j (by have := HBB.out; omega))
  have hblkV : V.heap[G]? = some _ := (hV.2 G (.inr HGW.out) hGW).trans hblk
  have hGV : G < V.heap.size := (Array.getElem?_eq_some_iff.1 hblkV).1
  have hBV : B ≤ V.heap.size := by have := HBB.out; have := HGW.out; omega
  obtain ⟨A7, c7, e7, hle7, hr7⟩ := RdT.own (own_sp hown hV (by rw [HS2.out]; have := HGW.out; omega))
  cases e7
  have hcells : enCells (es ++ [(x, .slice A q c)]) = enCells es ++ [.string xm, .string xh, .slice A q c] := by
    rw [en_app, ← HQ.out]; simp [enCells]
  rw [← hcells] at hr7
  have hN := ((HN.out.block hlow).wide hBV).ending (x, .slice A q c) ((HX.out.block hlow).wide hBV) _ _ hle7 hr7
  refine hN.close hGV ⟨_, _, hblkV⟩ ?_ ?_ ?_ ?_
  all_goals rw [Lib.cell_of_heap hblkV]; rfl
end Go.Proofs.YtgfjkpfjajjidaaDoor
