/- The contract of Load. -/
import Derived.Test.YtgfjkpfjajjidaaDoorHoTake
namespace Go.Proofs.YtgfjkpfjajjidaaDoor
open Go.RowKit Pl

theorem sn_ret15 {W : World} {R : Nat} {a : Act} {X : Ending → World → Prop} {u0 u1 u2 : Value} (hb : W.heap[R]? = some (.cells #[u0, u1, u2] 49 (0, 0)))
    (ha : a.tmps.getD 2 undef = .pointer (some ⟨R, 0, none⟩)) (hd : a.defers = []) (hQ : X (.returned (.agg #[u0, u1, u2])) W) : bodyPost Tryd.prog Tryd.f15 X .ret a W := by
  have c0 : W.cell? ⟨R, 0, none⟩ = some u0 := by rw [Lib.cell_of_heap hb]; rfl
  have c1 : W.cell? ⟨R, 1, none⟩ = some u1 := by rw [Lib.cell_of_heap hb]; rfl
  have c2 : W.cell? ⟨R, 2, none⟩ = some u2 := by rw [Lib.cell_of_heap hb]; rfl
  simp at ha
  exact bodyPost_ret (v := .agg #[u0, u1, u2]) (by simp [results, Tryd.results15, go_sem, ha, c0, c1, c2]) hd hQ

set_option maxRecDepth 100000 in
set_option maxHeartbeats 8000000 in
theorem load_any (G : Nat) (v A : Option Addr) (n c : Nat) (l : List Rt) (k : Nat) (w : World) (h : HoAt w G v A n c l k) (hL : Law l) :
    Calls Tryd.prog 15 #[.pointer (some ⟨G, 0, none⟩)] w fun e w' => ∃ v' A' c', e = .returned (.agg #[.pointer v', .int .i64 k, .slice A' n c']) ∧ SnAt w' G v' A' n c' l ∧ Below w.heap.size w w' := by
  have hGl := h.bk.lt
  have hb1 : Below w.heap.size w (w.alloc (.cells #[.pointer none, .int .i64 0, .slice none 0 0] 49)) := (Below.refl _ _).alloc (Nat.le_refl _) _
  have HK1 : Hid (HoBk (w.alloc (.cells #[.pointer none, .int .i64 0, .slice none 0 0] 49)) w.heap.size 49 none none 0 0 0) := heap_alloc_new w _
  have HS1 : Hid (w.heap.size < (w.alloc (.cells #[.pointer none, .int .i64 0, .slice none 0 0] 49)).heap.size) := by show _ < _; simp
  have HC : Hid (∀ wx, Below w.heap.size w wx → wx.cell? ⟨G, 0, none⟩ = some (.pointer v) ∧ wx.cell? ⟨G, 1, none⟩ = some (.int .i64 k) ∧ wx.cell? ⟨G, 2, none⟩ = some (.slice A n c)) := fun wx hb => by
    have hk := h.bk.on hb
    exact ⟨by rw [Lib.cell_of_heap hk]; rfl, by rw [Lib.cell_of_heap hk]; rfl, by rw [Lib.cell_of_heap hk]; rfl⟩
  obtain ⟨x0, x1, x2⟩ := HC.out _ hb1
  have hln := h.sn.len
  have HWI := Lib.hid (fun wx (hb : Below w.heap.size w wx) => with_new v l [] none 0 wx ((h.sn.on hb).tr) (rd_zero _ _ _ _) (fun r hr => by cases hr) (by have := hL.few; simp; omega))
  simp only [List.append_nil, List.length_nil] at HWI
  have HCL := Lib.hid (fun wx (hb : Below w.heap.size w wx) => clone_any l A c wx (hln ▸ (h.sn.on hb).rd) (by have := hL.few; omega))
  rw [← hln] at HCL
  have HLN := Lib.hid hln
  have HGL := Lib.hid hGl
  clear h hL hln hGl
  generalize hcs : rtCells l = cs at *
  have HCS := Lib.hid hcs
  clear hcs
  go_enter Tryd.func15, Tryd.ntmps15
  go_wp2_with fail
  generalize w.alloc (.cells #[.pointer none, .int .i64 0, .slice none 0 0] 49) = w1 at *
  have HB1 := Lib.hid hb1
  have HD : Hid (Below w1.heap.size w1 w1.drew) := (Below.refl _ _).drew
  have HKX : Hid (∀ wx, Below w1.heap.size w1 wx → HoBk wx w.heap.size 49 none none 0 0 0) := fun wx h => (h.block w.heap.size HS1.out).trans HK1.out
  clear hb1
  go_region_held3 (fun W => W.cell? ⟨G, 0, none⟩ = some (.pointer v) ∧ W.cell? ⟨G, 1, none⟩ = some (.int .i64 k) ∧ W.cell? ⟨G, 2, none⟩ = some (.slice A n c)) (first | (exact HC.out _ (put3_below (bt HB1.out hql) (Nat.le_refl _) _ _ _)) | (exact HC.out _ (bt HB1.out hql)) | (exact HC.out _ (bt HB1.out hq3)) | (exact HC.out _ (bt HB1.out hq2)) | (exact HC.out _ (bt HB1.out HD.out))) ((first
    | (go_at_call 9; refine (HWI.out _ (bt HB1.out hq3)).mono ?_; rintro e wl ⟨g, rfl, htl, hbl, hgl, hyl⟩
       have hql := bt hq3 hbl
       have hrl := (hr3.below hbl (Nat.le_refl _)).wide hbl.size
       have htyl : Ty wl 31 A' n := fun h0 a e => by
         obtain ⟨cs', fr, h1⟩ := hty3 h0 a e
         exact ⟨cs', fr, (hbl.block _ (blk_sz h1)).trans h1⟩
       have hg2 : w.heap.size < g := Nat.lt_of_lt_of_le HS1.out (Nat.le_trans hq3.size hgl)
       have hkl := HKX.out _ hql
       have r0 : wl.cell? ⟨w.heap.size, 0, none⟩ = some (.pointer none) := by rw [Lib.cell_of_heap hkl]; rfl
       have r1 : wl.cell? ⟨w.heap.size, 1, none⟩ = some (.int .i64 0) := by rw [Lib.cell_of_heap hkl]; rfl
       have r2 : wl.cell? ⟨w.heap.size, 2, none⟩ = some (.slice none 0 0) := by rw [Lib.cell_of_heap hkl]; rfl
       have z0 : wl.frozen? ⟨w.heap.size, 0, none⟩ = false := Lib.frozen_of_heap hkl 0
       have z1 : wl.frozen? ⟨w.heap.size, 1, none⟩ = false := Lib.frozen_of_heap hkl 1
       have z2 : wl.frozen? ⟨w.heap.size, 2, none⟩ = false := Lib.frozen_of_heap hkl 2)
    | (go_at_call 9; refine (HWI.out _ (bt HB1.out HD.out)).mono ?_; rintro e w2 ⟨g, rfl, ht2, hb2, hgl, hy2⟩
       have hq2 := bt HD.out hb2
       have hg2 : w.heap.size < g := Nat.lt_of_lt_of_le HS1.out (Nat.le_trans HD.out.size hgl))
    | (go_at_call 30; refine (HCL.out _ (bt HB1.out hq2)).mono ?_; rintro e wl ⟨A', c', rfl, hc3, hrl, hbl, htyl⟩
       have hql := bt hq2 hbl
       have htl := ht2.on hbl
       have hyl : ∃ cs fr, wl.heap[g]? = some (.cells cs 60 fr) := by
         obtain ⟨cs', fr, h1⟩ := hy2
         exact ⟨cs', fr, (hbl.block _ (blk_sz h1)).trans h1⟩
       have hkl := HKX.out _ hql
       have r0 : wl.cell? ⟨w.heap.size, 0, none⟩ = some (.pointer none) := by rw [Lib.cell_of_heap hkl]; rfl
       have r1 : wl.cell? ⟨w.heap.size, 1, none⟩ = some (.int .i64 0) := by rw [Lib.cell_of_heap hkl]; rfl
       have r2 : wl.cell? ⟨w.heap.size, 2, none⟩ = some (.slice none 0 0) := by rw [Lib.cell_of_heap hkl]; rfl
       have z0 : wl.frozen? ⟨w.heap.size, 0, none⟩ = false := Lib.frozen_of_heap hkl 0
       have z1 : wl.frozen? ⟨w.heap.size, 1, none⟩ = false := Lib.frozen_of_heap hkl 1
       have z2 : wl.frozen? ⟨w.heap.size, 2, none⟩ = false := Lib.frozen_of_heap hkl 2)
    | (go_at_call 30; refine (HCL.out _ (bt HB1.out HD.out)).mono ?_; rintro e w3 ⟨A', c', rfl, hc3, hr3, hb3, hty3⟩
       have hq3 := bt HD.out hb3)))
  all_goals
    have HKL := Lib.hid hkl
    have HTL := Lib.hid (tr_putT htl (fun a e => by cases e; show g ≠ _; omega) hkl (by decide) (by decide) (by decide) (by decide) (.pointer (some ⟨g, 0, none⟩)) (.int .i64 k) (.slice A' n c'))
    have HRL := Lib.hid (rdt_put hrl htyl hkl (by decide) (.pointer (some ⟨g, 0, none⟩)) (.int .i64 k) (.slice A' n c'))
    have HYL : Hid (∃ cs fr, (put3 wl w.heap.size (.pointer (some ⟨g, 0, none⟩)) (.int .i64 k) (.slice A' n c')).heap[g]? = some (.cells cs 60 fr)) := oth_put hyl (by omega)
    have HBL := Lib.hid (put3_below (bt HB1.out hql) (Nat.le_refl _) (.pointer (some ⟨g, 0, none⟩)) (.int .i64 k) (.slice A' n c'))
    have HNE : Hid (g ≠ G) := by show g ≠ G; have := HGL.out; omega
    have HCN := Lib.hid hc3
    clear hc3 r0 r1 r2 z0 z1 z2 hkl hrl htl hql hbl htyl hyl
    go_wp2_with fail
    refine sn_ret15 (R := w.heap.size) (put3_blk HKL.out (.pointer (some ⟨g, 0, none⟩)) (.int .i64 k) (.slice A' n c')) rfl rfl ?_
    exact ⟨some ⟨g, 0, none⟩, A', c', rfl, ⟨HTL.out, fun a e => by cases e; exact HNE.out, by rw [HCS.out]; exact HRL.out.1, HLN.out, HCN.out, fun a e => by cases e; exact HYL.out, HRL.out.2⟩, HBL.out⟩
end Go.Proofs.YtgfjkpfjajjidaaDoor
