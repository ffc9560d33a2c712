/- The change of a node that changes the one behind its segment; whatever change, made on whatever node. -/
import Derived.Test.YtgfjkpfjajjidaaDoorTrEnd
namespace Go.Proofs.YtgfjkpfjajjidaaDoor
open Go.RowKit Pl

theorem sp_set {B C C' : Nat} {w V : World} {a : Addr} {u : Value} (h : Sp B C (w.setCell a u) V) (ha : a.block < C') (hBa : B ≤ a.block) (hC : C ≤ C') : Sp B C' w V := by
  have hz : (w.setCell a u).heap.size = w.heap.size := by simp [World.setCell]
  refine ⟨by rw [← hz]; exact h.1, fun j hj hlt => ?_⟩
  rw [h.2 j (by omega) (by rw [hz]; exact hlt), heap_setCell_other w a j u (by omega)]
theorem node4 {V : World} {G : Nat} {EA WA : Option Addr} {en wn ec wc : Nat} {pv rv : Option Addr} {es : List EnR} {ws : List BrR} {L : List It} (h : Nn V V.heap.size EA WA en wn ec wc pv rv es ws L) {v0 v1 v2 v3 : Value} (hb : V.heap[G]? = some (.cells #[v0, v1, v2, v3] 88 (0, 0)))
    (h0 : v0 = .slice EA en ec) (h1 : v1 = .slice WA wn wc) (h2 : v2 = .pointer pv) (h3 : v3 = .pointer rv) : Nd V V.heap.size (some ⟨G, 0, none⟩) L := by
  subst h0 h1 h2 h3
  have hG : G < V.heap.size := (Array.getElem?_eq_some_iff.1 hb).1
  refine h.close hG ⟨_, _, hb⟩ ?_ ?_ ?_ ?_
  all_goals rw [Lib.cell_of_heap hb]; rfl

set_option maxRecDepth 100000 in
set_option maxHeartbeats 4000000 in
theorem beh49 (u : Nat) (g k : Nat) (s : Seg) (ss : List Seg) (e0 : En) (p : Option Addr) (L : List It) (w : World) (B : Nat) (hB : B ≤ w.heap.size) (hg : g < w.heap.size) (hk : k < w.heap.size) (c0 : w.cell? ⟨g, 0, none⟩ = some (.string (mkB s))) (c1 : w.cell? ⟨k, 0, none⟩ = some (.func (.func 48) #[] #[.pointer (some ⟨u, 0, none⟩)]))
    (hn : Nd w B p L) (hl : L.length ≤ 1000000)
    (hc : ∀ w' p K, Below w.heap.size w w' → Nd w' B p K → K.length ≤ 1000000 → Calls Tryd.prog 48 #[.pointer p, .pointer (some ⟨u, 0, none⟩)] w' (Chd B ss e0 K w')) :
    Calls Tryd.prog 50 #[.pointer p, .pointer (some ⟨g, 0, none⟩), .pointer (some ⟨k, 0, none⟩)] w (Chd B (s :: ss) e0 L w) := by
  have HT := Lib.hid (twin_any B p L w hn)
  have HC := Lib.hid hc
  have HL := Lib.hid hl
  have HK := Lib.hid (fun w => kind_any (mkB s) w)
  rw [mkB_data, ← kd_kind] at HK
  have hkd := kd_cases s
  have HBG := Lib.hid (fun WA wn wc ws w hB hn hwc hr hb hk hc => br_go49 u WA wn wc ws s ss e0 L w B hB hn hwc hr hb hk hl hc)
  have HBB := Lib.hid hB
  obtain ⟨kv, hkv⟩ : ∃ kv, kd s = kv := ⟨_, rfl⟩
  have HKV : Hid (kd s = kv) := hkv
  rw [hkv] at HK hkd
  clear hc hn hl hkv hB
  generalize mkB s = sb at *
  rcases hkd with rfl | rfl | rfl
  · go_enter Tryd.func50, Tryd.ntmps50
    go_wp2_with fail
    refine HT.out.mono ?_
    rintro e w1 ⟨EA, WA, en, wn, ec, wc, pv, rv, es, ws, rfl, hnn, hb1⟩
    have k0 := (hb1.cell (p := ⟨g, 0, none⟩) hg).trans c0
    have k1 := (hb1.cell (p := ⟨k, 0, none⟩) hk).trans c1
    have HB1 := Lib.hid hb1
    have HN := Lib.hid hnn
    have hg1 : g < w1.heap.size := by have := hb1.size; omega
    have hk1 : k < w1.heap.size := by have := hb1.size; omega
    clear hnn hb1 c0 c1 hg hk
    have HA2 := Lib.hid ((Below.refl w1.heap.size w1).alloc (Nat.le_refl _) (.cells #[.slice EA en ec, .slice WA wn wc, .pointer pv, .pointer rv] 88))
    have hbk : (w1.alloc (.cells #[.slice EA en ec, .slice WA wn wc, .pointer pv, .pointer rv] 88)).heap[w1.heap.size]? = some (.cells #[.slice EA en ec, .slice WA wn wc, .pointer pv, .pointer rv] 88 (0, 0)) := heap_alloc_new w1 _
    have m0 := (HA2.out.cell (p := ⟨g, 0, none⟩) hg1).trans k0
    have m1 := (HA2.out.cell (p := ⟨k, 0, none⟩) hk1).trans k1
    have hsz : (w1.alloc (.cells #[.slice EA en ec, .slice WA wn wc, .pointer pv, .pointer rv] 88)).heap.size = w1.heap.size + 1 := by simp
    clear k0 k1 hg1 hk1
    go_wp2_with fail
    refine (HK.out _).mono ?_
    rintro e w2 ⟨rfl, hw2⟩
    rw [hw2] at hbk m0 m1 hsz
    have HA3 : Hid (Below w1.heap.size w1 w2) := by show Below _ _ _; rw [← hw2]; exact HA2.out
    clear hw2 HA2
    have HGB : Hid (w.heap.size ≤ w1.heap.size) := HB1.out.size
    have HW2 : Hid (Below w.heap.size w w2) := HB1.out.trans (HA3.out.mono HGB.out)
    have HGS : Hid (w1.heap.size < w2.heap.size) := by show _ < _; omega
    have HB2 : Hid (B ≤ w2.heap.size) := Nat.le_trans HBB.out HW2.out.size
    clear hsz HA3
    generalize w1.heap.size = G at *
    have HBK := Lib.hid hbk
    have d0 : w2.cell? ⟨G, 0, none⟩ = some (.slice EA en ec) := by rw [Lib.cell_of_heap hbk]; rfl
    have d1 : w2.cell? ⟨G, 1, none⟩ = some (.slice WA wn wc) := by rw [Lib.cell_of_heap hbk]; rfl
    have d2 : w2.cell? ⟨G, 2, none⟩ = some (.pointer pv) := by rw [Lib.cell_of_heap hbk]; rfl
    have d3 : w2.cell? ⟨G, 3, none⟩ = some (.pointer rv) := by rw [Lib.cell_of_heap hbk]; rfl
    have HN2 := Lib.hid (HN.out.below HW2.out HBB.out)
    clear hbk
    have HBR := Lib.hid (HBG.out WA wn wc ws w2 HB2.out HN2.out.hwm HN2.out.hwc HN2.out.hw.1 HN2.out.br HKV.out (fun w' p K h hn hl => HC.out w' p K (bt HW2.out h) hn hl))
    clear d0 d2 d3
    go_wp2_with fail
    refine HBR.out.mono ?_
    rintro e w3 ⟨WB, wm, wd, ws', rfl, hwm, hwd, hr3, hb3⟩
    have HWM := Lib.hid hwm
    have HWD := Lib.hid hwd
    clear hwm hwd
    have hbk3 := (hb3.block G HGS.out).trans HBK.out
    have f3 : w3.frozen? ⟨G, 1, none⟩ = false := Lib.frozen_of_heap hbk3 1
    have e3 : w3.cell? ⟨G, 1, none⟩ = some (.slice WA wn wc) := by rw [Lib.cell_of_heap hbk3]; rfl
    have HK3 := Lib.hid hbk3
    have HB3 := Lib.hid hb3
    have HR3 := Lib.hid hr3
    clear hbk3 hb3 hr3
    go_wp2_with fail
    go_ret
    have hr3 := HR3.out
    have hbW : Below w.heap.size w (w3.setCell ⟨G, 1, none⟩ (.slice WB wm wd)) := (bt HW2.out HB3.out).setCell (p := ⟨G, 1, none⟩) HGB.out _
    have hblk := heap_setCell_same w3 G 1 _ 88 (.slice WB wm wd) HK3.out
    refine ⟨some ⟨G, 0, none⟩, rfl, fun V hV => ?_, hbW⟩
    · have hspV : Sp B w2.heap.size w3 V := sp_set hV HGS.out (Nat.le_trans HBB.out HGB.out) HW2.out.size
      have hlow : ∀ j, j < B → V.heap[j]? = w.heap[j]? := fun j hj => (hV.2 j (.inl hj) (by have := hbW.size; have := HBB.out; omega)).trans (hbW.block j (by have := HBB.out; omega))
      have hblkV : V.heap[G]? = some _ := (hV.2 G (.inr HGB.out) (Array.getElem?_eq_some_iff.1 hblk).1).trans hblk
      have hBV : B ≤ V.heap.size := by have := HBB.out; have := hbW.size; have := hV.1; omega
      have hNV := (HN.out.block hlow).wide hBV
      exact node4 (hNV.word s ss e0 HKV.out WB wm wd ws' HWM.out (hr3 V hspV).1 HWD.out (hr3 V hspV).2) hblkV rfl rfl rfl rfl
  · go_enter Tryd.func50, Tryd.ntmps50
    go_wp2_with fail
    refine HT.out.mono ?_
    rintro e w1 ⟨EA, WA, en, wn, ec, wc, pv, rv, es, ws, rfl, hnn, hb1⟩
    have k0 := (hb1.cell (p := ⟨g, 0, none⟩) hg).trans c0
    have k1 := (hb1.cell (p := ⟨k, 0, none⟩) hk).trans c1
    have HB1 := Lib.hid hb1
    have HN := Lib.hid hnn
    have hg1 : g < w1.heap.size := by have := hb1.size; omega
    have hk1 : k < w1.heap.size := by have := hb1.size; omega
    clear hnn hb1 c0 c1 hg hk
    have HA2 := Lib.hid ((Below.refl w1.heap.size w1).alloc (Nat.le_refl _) (.cells #[.slice EA en ec, .slice WA wn wc, .pointer pv, .pointer rv] 88))
    have hbk : (w1.alloc (.cells #[.slice EA en ec, .slice WA wn wc, .pointer pv, .pointer rv] 88)).heap[w1.heap.size]? = some (.cells #[.slice EA en ec, .slice WA wn wc, .pointer pv, .pointer rv] 88 (0, 0)) := heap_alloc_new w1 _
    have m0 := (HA2.out.cell (p := ⟨g, 0, none⟩) hg1).trans k0
    have m1 := (HA2.out.cell (p := ⟨k, 0, none⟩) hk1).trans k1
    have hsz : (w1.alloc (.cells #[.slice EA en ec, .slice WA wn wc, .pointer pv, .pointer rv] 88)).heap.size = w1.heap.size + 1 := by simp
    clear k0 k1 hg1 hk1
    go_wp2_with fail
    refine (HK.out _).mono ?_
    rintro e w2 ⟨rfl, hw2⟩
    rw [hw2] at hbk m0 m1 hsz
    have HA3 : Hid (Below w1.heap.size w1 w2) := by show Below _ _ _; rw [← hw2]; exact HA2.out
    clear hw2 HA2
    have HGB : Hid (w.heap.size ≤ w1.heap.size) := HB1.out.size
    have HW2 : Hid (Below w.heap.size w w2) := HB1.out.trans (HA3.out.mono HGB.out)
    have HGS : Hid (w1.heap.size < w2.heap.size) := by show _ < _; omega
    have HB2 : Hid (B ≤ w2.heap.size) := Nat.le_trans HBB.out HW2.out.size
    clear hsz HA3
    generalize w1.heap.size = G at *
    have HBK := Lib.hid hbk
    have d0 : w2.cell? ⟨G, 0, none⟩ = some (.slice EA en ec) := by rw [Lib.cell_of_heap hbk]; rfl
    have d1 : w2.cell? ⟨G, 1, none⟩ = some (.slice WA wn wc) := by rw [Lib.cell_of_heap hbk]; rfl
    have d2 : w2.cell? ⟨G, 2, none⟩ = some (.pointer pv) := by rw [Lib.cell_of_heap hbk]; rfl
    have d3 : w2.cell? ⟨G, 3, none⟩ = some (.pointer rv) := by rw [Lib.cell_of_heap hbk]; rfl
    have HN2 := Lib.hid (HN.out.below HW2.out HBB.out)
    clear hbk
    have HBR := Lib.hid (HC.out w2 pv (ksub 1 L) HW2.out HN2.out.hp (Nat.le_trans (List.length_filterMap_le _ _) HL.out))
    clear d0 d1 d3
    go_wp2_with fail
    refine HBR.out.mono ?_
    rintro e w3 ⟨q, rfl, hr3, hb3⟩
    have hbk3 := (hb3.block G HGS.out).trans HBK.out
    have f3 : w3.frozen? ⟨G, 2, none⟩ = false := Lib.frozen_of_heap hbk3 2
    have e3 : w3.cell? ⟨G, 2, none⟩ = some (.pointer pv) := by rw [Lib.cell_of_heap hbk3]; rfl
    have HK3 := Lib.hid hbk3
    have HB3 := Lib.hid hb3
    have HR3 := Lib.hid hr3
    clear hbk3 hb3 hr3
    go_wp2_with fail
    go_ret
    have hr3 := HR3.out
    have hbW : Below w.heap.size w (w3.setCell ⟨G, 2, none⟩ (.pointer q)) := (bt HW2.out HB3.out).setCell (p := ⟨G, 2, none⟩) HGB.out _
    have hblk := heap_setCell_same w3 G 2 _ 88 (.pointer q) HK3.out
    refine ⟨some ⟨G, 0, none⟩, rfl, fun V hV => ?_, hbW⟩
    · have hspV : Sp B w2.heap.size w3 V := sp_set hV HGS.out (Nat.le_trans HBB.out HGB.out) HW2.out.size
      have hlow : ∀ j, j < B → V.heap[j]? = w.heap[j]? := fun j hj => (hV.2 j (.inl hj) (by have := hbW.size; have := HBB.out; omega)).trans (hbW.block j (by have := HBB.out; omega))
      have hblkV : V.heap[G]? = some _ := (hV.2 G (.inr HGB.out) (Array.getElem?_eq_some_iff.1 hblk).1).trans hblk
      have hBV : B ≤ V.heap.size := by have := HBB.out; have := hbW.size; have := hV.1; omega
      have hNV := (HN.out.block hlow).wide hBV
      exact node4 (hNV.one s ss e0 HKV.out q (hr3 V hspV)) hblkV rfl rfl rfl rfl
  · go_enter Tryd.func50, Tryd.ntmps50
    go_wp2_with fail
    refine HT.out.mono ?_
    rintro e w1 ⟨EA, WA, en, wn, ec, wc, pv, rv, es, ws, rfl, hnn, hb1⟩
    have k0 := (hb1.cell (p := ⟨g, 0, none⟩) hg).trans c0
    have k1 := (hb1.cell (p := ⟨k, 0, none⟩) hk).trans c1
    have HB1 := Lib.hid hb1
    have HN := Lib.hid hnn
    have hg1 : g < w1.heap.size := by have := hb1.size; omega
    have hk1 : k < w1.heap.size := by have := hb1.size; omega
    clear hnn hb1 c0 c1 hg hk
    have HA2 := Lib.hid ((Below.refl w1.heap.size w1).alloc (Nat.le_refl _) (.cells #[.slice EA en ec, .slice WA wn wc, .pointer pv, .pointer rv] 88))
    have hbk : (w1.alloc (.cells #[.slice EA en ec, .slice WA wn wc, .pointer pv, .pointer rv] 88)).heap[w1.heap.size]? = some (.cells #[.slice EA en ec, .slice WA wn wc, .pointer pv, .pointer rv] 88 (0, 0)) := heap_alloc_new w1 _
    have m0 := (HA2.out.cell (p := ⟨g, 0, none⟩) hg1).trans k0
    have m1 := (HA2.out.cell (p := ⟨k, 0, none⟩) hk1).trans k1
    have hsz : (w1.alloc (.cells #[.slice EA en ec, .slice WA wn wc, .pointer pv, .pointer rv] 88)).heap.size = w1.heap.size + 1 := by simp
    clear k0 k1 hg1 hk1
    go_wp2_with fail
    refine (HK.out _).mono ?_
    rintro e w2 ⟨rfl, hw2⟩
    rw [hw2] at hbk m0 m1 hsz
    have HA3 : Hid (Below w1.heap.size w1 w2) := by show Below _ _ _; rw [← hw2]; exact HA2.out
    clear hw2 HA2
    have HGB : Hid (w.heap.size ≤ w1.heap.size) := HB1.out.size
    have HW2 : Hid (Below w.heap.size w w2) := HB1.out.trans (HA3.out.mono HGB.out)
    have HGS : Hid (w1.heap.size < w2.heap.size) := by show _ < _; omega
    have HB2 : Hid (B ≤ w2.heap.size) := Nat.le_trans HBB.out HW2.out.size
    clear hsz HA3
    generalize w1.heap.size = G at *
    have HBK := Lib.hid hbk
    have d0 : w2.cell? ⟨G, 0, none⟩ = some (.slice EA en ec) := by rw [Lib.cell_of_heap hbk]; rfl
    have d1 : w2.cell? ⟨G, 1, none⟩ = some (.slice WA wn wc) := by rw [Lib.cell_of_heap hbk]; rfl
    have d2 : w2.cell? ⟨G, 2, none⟩ = some (.pointer pv) := by rw [Lib.cell_of_heap hbk]; rfl
    have d3 : w2.cell? ⟨G, 3, none⟩ = some (.pointer rv) := by rw [Lib.cell_of_heap hbk]; rfl
    have HN2 := Lib.hid (HN.out.below HW2.out HBB.out)
    clear hbk
    have HBR := Lib.hid (HC.out w2 rv (ksub 2 L) HW2.out HN2.out.hr (Nat.le_trans (List.length_filterMap_le _ _) HL.out))
    clear d0 d1 d2
    go_wp2_with fail
    refine HBR.out.mono ?_
    rintro e w3 ⟨q, rfl, hr3, hb3⟩
    have hbk3 := (hb3.block G HGS.out).trans HBK.out
    have f3 : w3.frozen? ⟨G, 3, none⟩ = false := Lib.frozen_of_heap hbk3 3
    have e3 : w3.cell? ⟨G, 3, none⟩ = some (.pointer rv) := by rw [Lib.cell_of_heap hbk3]; rfl
    have HK3 := Lib.hid hbk3
    have HB3 := Lib.hid hb3
    have HR3 := Lib.hid hr3
    clear hbk3 hb3 hr3
    go_wp2_with fail
    go_ret
    have hr3 := HR3.out
    have hbW : Below w.heap.size w (w3.setCell ⟨G, 3, none⟩ (.pointer q)) := (bt HW2.out HB3.out).setCell (p := ⟨G, 3, none⟩) HGB.out _
    have hblk := heap_setCell_same w3 G 3 _ 88 (.pointer q) HK3.out
    refine ⟨some ⟨G, 0, none⟩, rfl, fun V hV => ?_, hbW⟩
    · have hspV : Sp B w2.heap.size w3 V := sp_set hV HGS.out (Nat.le_trans HBB.out HGB.out) HW2.out.size
      have hlow : ∀ j, j < B → V.heap[j]? = w.heap[j]? := fun j hj => (hV.2 j (.inl hj) (by have := hbW.size; have := HBB.out; omega)).trans (hbW.block j (by have := HBB.out; omega))
      have hblkV : V.heap[G]? = some _ := (hV.2 G (.inr HGB.out) (Array.getElem?_eq_some_iff.1 hblk).1).trans hblk
      have hBV : B ≤ V.heap.size := by have := HBB.out; have := hbW.size; have := hV.1; omega
      have hNV := (HN.out.block hlow).wide hBV
      exact node4 (hNV.all s ss e0 HKV.out q (hr3 V hspV)) hblkV rfl rfl rfl rfl

set_option maxRecDepth 100000 in
set_option maxHeartbeats 4000000 in
theorem beh51 (u v : Nat) (g k : Nat) (s : Seg) (ss : List Seg) (e0 : En) (p : Option Addr) (L : List It) (w : World) (B : Nat) (hB : B ≤ w.heap.size) (hg : g < w.heap.size) (hk : k < w.heap.size) (c0 : w.cell? ⟨g, 0, none⟩ = some (.string (mkB s))) (c1 : w.cell? ⟨k, 0, none⟩ = some (.func (.func 50) #[] #[.pointer (some ⟨u, 0, none⟩), .pointer (some ⟨v, 0, none⟩)]))
    (hn : Nd w B p L) (hl : L.length ≤ 1000000)
    (hc : ∀ w' p K, Below w.heap.size w w' → Nd w' B p K → K.length ≤ 1000000 → Calls Tryd.prog 50 #[.pointer p, .pointer (some ⟨u, 0, none⟩), .pointer (some ⟨v, 0, none⟩)] w' (Chd B ss e0 K w')) :
    Calls Tryd.prog 50 #[.pointer p, .pointer (some ⟨g, 0, none⟩), .pointer (some ⟨k, 0, none⟩)] w (Chd B (s :: ss) e0 L w) := by
  have HT := Lib.hid (twin_any B p L w hn)
  have HC := Lib.hid hc
  have HL := Lib.hid hl
  have HK := Lib.hid (fun w => kind_any (mkB s) w)
  rw [mkB_data, ← kd_kind] at HK
  have hkd := kd_cases s
  have HBG := Lib.hid (fun WA wn wc ws w hB hn hwc hr hb hk hc => br_go51 u v WA wn wc ws s ss e0 L w B hB hn hwc hr hb hk hl hc)
  have HBB := Lib.hid hB
  obtain ⟨kv, hkv⟩ : ∃ kv, kd s = kv := ⟨_, rfl⟩
  have HKV : Hid (kd s = kv) := hkv
  rw [hkv] at HK hkd
  clear hc hn hl hkv hB
  generalize mkB s = sb at *
  rcases hkd with rfl | rfl | rfl
  · go_enter Tryd.func50, Tryd.ntmps50
    go_wp2_with fail
    refine HT.out.mono ?_
    rintro e w1 ⟨EA, WA, en, wn, ec, wc, pv, rv, es, ws, rfl, hnn, hb1⟩
    have k0 := (hb1.cell (p := ⟨g, 0, none⟩) hg).trans c0
    have k1 := (hb1.cell (p := ⟨k, 0, none⟩) hk).trans c1
    have HB1 := Lib.hid hb1
    have HN := Lib.hid hnn
    have hg1 : g < w1.heap.size := by have := hb1.size; omega
    have hk1 : k < w1.heap.size := by have := hb1.size; omega
    clear hnn hb1 c0 c1 hg hk
    have HA2 := Lib.hid ((Below.refl w1.heap.size w1).alloc (Nat.le_refl _) (.cells #[.slice EA en ec, .slice WA wn wc, .pointer pv, .pointer rv] 88))
    have hbk : (w1.alloc (.cells #[.slice EA en ec, .slice WA wn wc, .pointer pv, .pointer rv] 88)).heap[w1.heap.size]? = some (.cells #[.slice EA en ec, .slice WA wn wc, .pointer pv, .pointer rv] 88 (0, 0)) := heap_alloc_new w1 _
    have m0 := (HA2.out.cell (p := ⟨g, 0, none⟩) hg1).trans k0
    have m1 := (HA2.out.cell (p := ⟨k, 0, none⟩) hk1).trans k1
    have hsz : (w1.alloc (.cells #[.slice EA en ec, .slice WA wn wc, .pointer pv, .pointer rv] 88)).heap.size = w1.heap.size + 1 := by simp
    clear k0 k1 hg1 hk1
    go_wp2_with fail
    refine (HK.out _).mono ?_
    rintro e w2 ⟨rfl, hw2⟩
    rw [hw2] at hbk m0 m1 hsz
    have HA3 : Hid (Below w1.heap.size w1 w2) := by show Below _ _ _; rw [← hw2]; exact HA2.out
    clear hw2 HA2
    have HGB : Hid (w.heap.size ≤ w1.heap.size) := HB1.out.size
    have HW2 : Hid (Below w.heap.size w w2) := HB1.out.trans (HA3.out.mono HGB.out)
    have HGS : Hid (w1.heap.size < w2.heap.size) := by show _ < _; omega
    have HB2 : Hid (B ≤ w2.heap.size) := Nat.le_trans HBB.out HW2.out.size
    clear hsz HA3
    generalize w1.heap.size = G at *
    have HBK := Lib.hid hbk
    have d0 : w2.cell? ⟨G, 0, none⟩ = some (.slice EA en ec) := by rw [Lib.cell_of_heap hbk]; rfl
    have d1 : w2.cell? ⟨G, 1, none⟩ = some (.slice WA wn wc) := by rw [Lib.cell_of_heap hbk]; rfl
    have d2 : w2.cell? ⟨G, 2, none⟩ = some (.pointer pv) := by rw [Lib.cell_of_heap hbk]; rfl
    have d3 : w2.cell? ⟨G, 3, none⟩ = some (.pointer rv) := by rw [Lib.cell_of_heap hbk]; rfl
    have HN2 := Lib.hid (HN.out.below HW2.out HBB.out)
    clear hbk
    have HBR := Lib.hid (HBG.out WA wn wc ws w2 HB2.out HN2.out.hwm HN2.out.hwc HN2.out.hw.1 HN2.out.br HKV.out (fun w' p K h hn hl => HC.out w' p K (bt HW2.out h) hn hl))
    clear d0 d2 d3
    go_wp2_with fail
    refine HBR.out.mono ?_
    rintro e w3 ⟨WB, wm, wd, ws', rfl, hwm, hwd, hr3, hb3⟩
    have HWM := Lib.hid hwm
    have HWD := Lib.hid hwd
    clear hwm hwd
    have hbk3 := (hb3.block G HGS.out).trans HBK.out
    have f3 : w3.frozen? ⟨G, 1, none⟩ = false := Lib.frozen_of_heap hbk3 1
    have e3 : w3.cell? ⟨G, 1, none⟩ = some (.slice WA wn wc) := by rw [Lib.cell_of_heap hbk3]; rfl
    have HK3 := Lib.hid hbk3
    have HB3 := Lib.hid hb3
    have HR3 := Lib.hid hr3
    clear hbk3 hb3 hr3
    go_wp2_with fail
    go_ret
    have hr3 := HR3.out
    have hbW : Below w.heap.size w (w3.setCell ⟨G, 1, none⟩ (.slice WB wm wd)) := (bt HW2.out HB3.out).setCell (p := ⟨G, 1, none⟩) HGB.out _
    have hblk := heap_setCell_same w3 G 1 _ 88 (.slice WB wm wd) HK3.out
    refine ⟨some ⟨G, 0, none⟩, rfl, fun V hV => ?_, hbW⟩
    · have hspV : Sp B w2.heap.size w3 V := sp_set hV HGS.out (Nat.le_trans HBB.out HGB.out) HW2.out.size
      have hlow : ∀ j, j < B → V.heap[j]? = w.heap[j]? := fun j hj => (hV.2 j (.inl hj) (by have := hbW.size; have := HBB.out; omega)).trans (hbW.block j (by have := HBB.out; omega))
      have hblkV : V.heap[G]? = some _ := (hV.2 G (.inr HGB.out) (Array.getElem?_eq_some_iff.1 hblk).1).trans hblk
      have hBV : B ≤ V.heap.size := by have := HBB.out; have := hbW.size; have := hV.1; omega
      have hNV := (HN.out.block hlow).wide hBV
      exact node4 (hNV.word s ss e0 HKV.out WB wm wd ws' HWM.out (hr3 V hspV).1 HWD.out (hr3 V hspV).2) hblkV rfl rfl rfl rfl
  · go_enter Tryd.func50, Tryd.ntmps50
    go_wp2_with fail
    refine HT.out.mono ?_
    rintro e w1 ⟨EA, WA, en, wn, ec, wc, pv, rv, es, ws, rfl, hnn, hb1⟩
    have k0 := (hb1.cell (p := ⟨g, 0, none⟩) hg).trans c0
    have k1 := (hb1.cell (p := ⟨k, 0, none⟩) hk).trans c1
    have HB1 := Lib.hid hb1
    have HN := Lib.hid hnn
    have hg1 : g < w1.heap.size := by have := hb1.size; omega
    have hk1 : k < w1.heap.size := by have := hb1.size; omega
    clear hnn hb1 c0 c1 hg hk
    have HA2 := Lib.hid ((Below.refl w1.heap.size w1).alloc (Nat.le_refl _) (.cells #[.slice EA en ec, .slice WA wn wc, .pointer pv, .pointer rv] 88))
    have hbk : (w1.alloc (.cells #[.slice EA en ec, .slice WA wn wc, .pointer pv, .pointer rv] 88)).heap[w1.heap.size]? = some (.cells #[.slice EA en ec, .slice WA wn wc, .pointer pv, .pointer rv] 88 (0, 0)) := heap_alloc_new w1 _
    have m0 := (HA2.out.cell (p := ⟨g, 0, none⟩) hg1).trans k0
    have m1 := (HA2.out.cell (p := ⟨k, 0, none⟩) hk1).trans k1
    have hsz : (w1.alloc (.cells #[.slice EA en ec, .slice WA wn wc, .pointer pv, .pointer rv] 88)).heap.size = w1.heap.size + 1 := by simp
    clear k0 k1 hg1 hk1
    go_wp2_with fail
    refine (HK.out _).mono ?_
    rintro e w2 ⟨rfl, hw2⟩
    rw [hw2] at hbk m0 m1 hsz
    have HA3 : Hid (Below w1.heap.size w1 w2) := by show Below _ _ _; rw [← hw2]; exact HA2.out
    clear hw2 HA2
    have HGB : Hid (w.heap.size ≤ w1.heap.size) := HB1.out.size
    have HW2 : Hid (Below w.heap.size w w2) := HB1.out.trans (HA3.out.mono HGB.out)
    have HGS : Hid (w1.heap.size < w2.heap.size) := by show _ < _; omega
    have HB2 : Hid (B ≤ w2.heap.size) := Nat.le_trans HBB.out HW2.out.size
    clear hsz HA3
    generalize w1.heap.size = G at *
    have HBK := Lib.hid hbk
    have d0 : w2.cell? ⟨G, 0, none⟩ = some (.slice EA en ec) := by rw [Lib.cell_of_heap hbk]; rfl
    have d1 : w2.cell? ⟨G, 1, none⟩ = some (.slice WA wn wc) := by rw [Lib.cell_of_heap hbk]; rfl
    have d2 : w2.cell? ⟨G, 2, none⟩ = some (.pointer pv) := by rw [Lib.cell_of_heap hbk]; rfl
    have d3 : w2.cell? ⟨G, 3, none⟩ = some (.pointer rv) := by rw [Lib.cell_of_heap hbk]; rfl
    have HN2 := Lib.hid (HN.out.below HW2.out HBB.out)
    clear hbk
    have HBR := Lib.hid (HC.out w2 pv (ksub 1 L) HW2.out HN2.out.hp (Nat.le_trans (List.length_filterMap_le _ _) HL.out))
    clear d0 d1 d3
    go_wp2_with fail
    refine HBR.out.mono ?_
    rintro e w3 ⟨q, rfl, hr3, hb3⟩
    have hbk3 := (hb3.block G HGS.out).trans HBK.out
    have f3 : w3.frozen? ⟨G, 2, none⟩ = false := Lib.frozen_of_heap hbk3 2
    have e3 : w3.cell? ⟨G, 2, none⟩ = some (.pointer pv) := by rw [Lib.cell_of_heap hbk3]; rfl
    have HK3 := Lib.hid hbk3
    have HB3 := Lib.hid hb3
    have HR3 := Lib.hid hr3
    clear hbk3 hb3 hr3
    go_wp2_with fail
    go_ret
    have hr3 := HR3.out
    have hbW : Below w.heap.size w (w3.setCell ⟨G, 2, none⟩ (.pointer q)) := (bt HW2.out HB3.out).setCell (p := ⟨G, 2, none⟩) HGB.out _
    have hblk := heap_setCell_same w3 G 2 _ 88 (.pointer q) HK3.out
    refine ⟨some ⟨G, 0, none⟩, rfl, fun V hV => ?_, hbW⟩
    · have hspV : Sp B w2.heap.size w3 V := sp_set hV HGS.out (Nat.le_trans HBB.out HGB.out) HW2.out.size
      have hlow : ∀ j, j < B → V.heap[j]? = w.heap[j]? := fun j hj => (hV.2 j (.inl hj) (by have := hbW.size; have := HBB.out; omega)).trans (hbW.block j (by have := HBB.out; omega))
      have hblkV : V.heap[G]? = some _ := (hV.2 G (.inr HGB.out) (Array.getElem?_eq_some_iff.1 hblk).1).trans hblk
      have hBV : B ≤ V.heap.size := by have := HBB.out; have := hbW.size; have := hV.1; omega
      have hNV := (HN.out.block hlow).wide hBV
      exact node4 (hNV.one s ss e0 HKV.out q (hr3 V hspV)) hblkV rfl rfl rfl rfl
  · go_enter Tryd.func50, Tryd.ntmps50
    go_wp2_with fail
    refine HT.out.mono ?_
    rintro e w1 ⟨EA, WA, en, wn, ec, wc, pv, rv, es, ws, rfl, hnn, hb1⟩
    have k0 := (hb1.cell (p := ⟨g, 0, none⟩) hg).trans c0
    have k1 := (hb1.cell (p := ⟨k, 0, none⟩) hk).trans c1
    have HB1 := Lib.hid hb1
    have HN := Lib.hid hnn
    have hg1 : g < w1.heap.size := by have := hb1.size; omega
    have hk1 : k < w1.heap.size := by have := hb1.size; omega
    clear hnn hb1 c0 c1 hg hk
    have HA2 := Lib.hid ((Below.refl w1.heap.size w1).alloc (Nat.le_refl _) (.cells #[.slice EA en ec, .slice WA wn wc, .pointer pv, .pointer rv] 88))
    have hbk : (w1.alloc (.cells #[.slice EA en ec, .slice WA wn wc, .pointer pv, .pointer rv] 88)).heap[w1.heap.size]? = some (.cells #[.slice EA en ec, .slice WA wn wc, .pointer pv, .pointer rv] 88 (0, 0)) := heap_alloc_new w1 _
    have m0 := (HA2.out.cell (p := ⟨g, 0, none⟩) hg1).trans k0
    have m1 := (HA2.out.cell (p := ⟨k, 0, none⟩) hk1).trans k1
    have hsz : (w1.alloc (.cells #[.slice EA en ec, .slice WA wn wc, .pointer pv, .pointer rv] 88)).heap.size = w1.heap.size + 1 := by simp
    clear k0 k1 hg1 hk1
    go_wp2_with fail
    refine (HK.out _).mono ?_
    rintro e w2 ⟨rfl, hw2⟩
    rw [hw2] at hbk m0 m1 hsz
    have HA3 : Hid (Below w1.heap.size w1 w2) := by show Below _ _ _; rw [← hw2]; exact HA2.out
    clear hw2 HA2
    have HGB : Hid (w.heap.size ≤ w1.heap.size) := HB1.out.size
    have HW2 : Hid (Below w.heap.size w w2) := HB1.out.trans (HA3.out.mono HGB.out)
    have HGS : Hid (w1.heap.size < w2.heap.size) := by show _ < _; omega
    have HB2 : Hid (B ≤ w2.heap.size) := Nat.le_trans HBB.out HW2.out.size
    clear hsz HA3
    generalize w1.heap.size = G at *
    have HBK := Lib.hid hbk
    have d0 : w2.cell? ⟨G, 0, none⟩ = some (.slice EA en ec) := by rw [Lib.cell_of_heap hbk]; rfl
    have d1 : w2.cell? ⟨G, 1, none⟩ = some (.slice WA wn wc) := by rw [Lib.cell_of_heap hbk]; rfl
    have d2 : w2.cell? ⟨G, 2, none⟩ = some (.pointer pv) := by rw [Lib.cell_of_heap hbk]; rfl
    have d3 : w2.cell? ⟨G, 3, none⟩ = some (.pointer rv) := by rw [Lib.cell_of_heap hbk]; rfl
    have HN2 := Lib.hid (HN.out.below HW2.out HBB.out)
    clear hbk
    have HBR := Lib.hid (HC.out w2 rv (ksub 2 L) HW2.out HN2.out.hr (Nat.le_trans (List.length_filterMap_le _ _) HL.out))
    clear d0 d1 d2
    go_wp2_with fail
    refine HBR.out.mono ?_
    rintro e w3 ⟨q, rfl, hr3, hb3⟩
    have hbk3 := (hb3.block G HGS.out).trans HBK.out
    have f3 : w3.frozen? ⟨G, 3, none⟩ = false := Lib.frozen_of_heap hbk3 3
    have e3 : w3.cell? ⟨G, 3, none⟩ = some (.pointer rv) := by rw [Lib.cell_of_heap hbk3]; rfl
    have HK3 := Lib.hid hbk3
    have HB3 := Lib.hid hb3
    have HR3 := Lib.hid hr3
    clear hbk3 hb3 hr3
    go_wp2_with fail
    go_ret
    have hr3 := HR3.out
    have hbW : Below w.heap.size w (w3.setCell ⟨G, 3, none⟩ (.pointer q)) := (bt HW2.out HB3.out).setCell (p := ⟨G, 3, none⟩) HGB.out _
    have hblk := heap_setCell_same w3 G 3 _ 88 (.pointer q) HK3.out
    refine ⟨some ⟨G, 0, none⟩, rfl, fun V hV => ?_, hbW⟩
    · have hspV : Sp B w2.heap.size w3 V := sp_set hV HGS.out (Nat.le_trans HBB.out HGB.out) HW2.out.size
      have hlow : ∀ j, j < B → V.heap[j]? = w.heap[j]? := fun j hj => (hV.2 j (.inl hj) (by have := hbW.size; have := HBB.out; omega)).trans (hbW.block j (by have := HBB.out; omega))
      have hblkV : V.heap[G]? = some _ := (hV.2 G (.inr HGB.out) (Array.getElem?_eq_some_iff.1 hblk).1).trans hblk
      have hBV : B ≤ V.heap.size := by have := HBB.out; have := hbW.size; have := hV.1; omega
      have hNV := (HN.out.block hlow).wide hBV
      exact node4 (hNV.all s ss e0 HKV.out q (hr3 V hspV)) hblkV rfl rfl rfl rfl

/-- A change, made on whatever node. -/
theorem chg_does : ∀ (ss : List Seg) (e0 : En) (cv : Value) (w : World) (B : Nat) (p : Option Addr) (L : List It), B ≤ w.heap.size → Chg w B cv ss e0 → Nd w B p L → L.length ≤ 1000000 →
    (∃ u : Nat, cv = .func (.func 48) #[] #[.pointer (some ⟨u, 0, none⟩)] ∧ Calls Tryd.prog 48 #[.pointer p, .pointer (some ⟨u, 0, none⟩)] w (Chd B ss e0 L w)) ∨
    ∃ u v : Nat, cv = .func (.func 50) #[] #[.pointer (some ⟨u, 0, none⟩), .pointer (some ⟨v, 0, none⟩)] ∧ Calls Tryd.prog 50 #[.pointer p, .pointer (some ⟨u, 0, none⟩), .pointer (some ⟨v, 0, none⟩)] w (Chd B ss e0 L w)
  | [], e0, cv, w, B, p, L, hB, hc, hn, hl => by
    cases hc with
    | ending g e v hg c0 c1 c2 hv =>
      obtain ⟨A, c, ev, _⟩ := id hv
      have ev2 : v = .slice A e0.s.length c := ev
      subst ev2
      exact .inl ⟨g, rfl, ending_does g _ A c p L w (by omega) c0 c1 c2 B hB hv hn hl⟩
  | s :: ss, e0, cv, w, B, p, L, hB, hc, hn, hl => by
    cases hc with
    | behind g k s v ss e hg hk c0 c1 hv =>
      have hlow : ∀ w', Below w.heap.size w w' → Chg w' B v ss e0 := fun w' h => hv.keep h hB
      rcases chg_does ss e0 v w B none [] hB hv .nil (Nat.zero_le _) with ⟨u, rfl, _⟩ | ⟨u, t, rfl, _⟩
      · refine .inr ⟨g, k, rfl, beh49 u g k s ss e0 p L w B hB (by omega) (by omega) c0 c1 hn hl fun w' q K h hq hK => ?_⟩
        rcases chg_does ss e0 _ w' B q K (Nat.le_trans hB h.size) (hlow w' h) hq hK with ⟨u2, e2, h2⟩ | ⟨u2, t2, e2, _⟩
        · cases e2; exact h2
        · cases e2
      · refine .inr ⟨g, k, rfl, beh51 u t g k s ss e0 p L w B hB (by omega) (by omega) c0 c1 hn hl fun w' q K h hq hK => ?_⟩
        rcases chg_does ss e0 _ w' B q K (Nat.le_trans hB h.size) (hlow w' h) hq hK with ⟨u2, e2, _⟩ | ⟨u2, t2, e2, h2⟩
        · cases e2
        · cases e2; exact h2
end Go.Proofs.YtgfjkpfjajjidaaDoor
