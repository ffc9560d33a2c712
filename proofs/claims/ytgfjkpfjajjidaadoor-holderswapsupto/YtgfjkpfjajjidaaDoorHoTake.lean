/- The contracts of slices.Clone at routes, taken, New, table.First, Load. -/
import Derived.Test.YtgfjkpfjajjidaaDoorHoMem
import Derived.Deep.RegionHeld3
namespace Go.Proofs.YtgfjkpfjajjidaaDoor
open Go.RowKit Pl

set_option maxRecDepth 100000 in
set_option maxHeartbeats 4000000 in
theorem clone_any (l : List Rt) (A : Option Addr) (c : Nat) (w : World) (hr : Rd w w.heap.size 3 A l.length (rtCells l)) (hn : l.length ≤ 100000) :
    Calls Tryd.prog 30 #[.slice A l.length c] w fun e w' => ∃ A' c', e = .returned (.slice A' l.length c') ∧ l.length ≤ c' ∧ Rd w' w'.heap.size 3 A' l.length (rtCells l) ∧ Below w.heap.size w w' ∧ Ty w' 31 A' l.length := by
  have q42 : ∀ (w : World) (a : Option Addr) (n c n' c' : Nat), (binOp .eql 42 (.slice a n c) (.slice none n' c')).run Tryd.prog w = .ok (.bool a.isNone) w := fun w a n c n' c' => Lib.run_eql_slice_nil w _ _ a n c n' c' Tryd.underlying42
  cases A with
  | none =>
    obtain ⟨h0, h1⟩ := hr.no
    rw [h0, h1]
    clear hr hn h0 h1
    go_enter Tryd.func30, Tryd.ntmps30
    go_wp2_with fail
    go_ret
    exact ⟨none, 0, rfl, Nat.le_refl _, rd_zero _ _ _ _, Below.refl _ _, fun h => absurd rfl h⟩
  | some a =>
    obtain ⟨i0, hi, hz0, hz1, hz2⟩ := info_parts Tryd.info31
    have HZ := Lib.hid (And.intro hz0 (And.intro hz1 hz2))
    clear hz0 hz1 hz2
    have hA := (Below.refl w.heap.size w).alloc (Nat.le_refl _) (.cells #[] 31)
    have HX : Hid (∀ j u, (rtCells l)[j]? = some u → (w.alloc (.cells #[] 31)).cell? (a.add j) = some u) := fun j u hu => by
      obtain ⟨a', e, hb, hc⟩ := hr.2 (fun h0 => by rw [List.eq_nil_of_length_eq_zero h0] at hu; simp [rtCells] at hu)
      cases e
      exact (hA.cell (p := a.add j) (by rw [add_block]; exact hb)).trans (hc j u hu)
    have HL : Hid ((rtCells l).length = l.length * 3) := hr.1
    have HO : Hid (∀ u ∈ rtCells l, u.oneCell' = true) := rt_one l
    have HM : Hid (0 + l.length ≤ maxLen) := by show _ ≤ _; unfold maxLen; omega
    have HB : Hid ((0 + l.length) * 48 ≤ 140737488355328) := by show _ ≤ _; omega
    have HBA := Lib.hid hA
    generalize hcs : rtCells l = cs at *
    clear hr hA hcs
    generalize l.length = n at *
    go_enter Tryd.func30, Tryd.ntmps30
    go_wp2_with (at_builtin; refine wpList_append_own_at _ rfl _ _ 42 rfl w.heap.size 31 i0 (.agg #[.string ⟨#[]⟩, .string ⟨#[]⟩, .string ⟨#[]⟩]) 3 48 Tryd.underlying42 hi HZ.out.1 HZ.out.2.1 HZ.out.2.2 rfl (by decide) _ _ _ rfl (World.ownsRow_made w #[] 0 (Nat.le_refl _) (Nat.zero_le _) rfl) a n c cs rfl HL.out HX.out HO.out HM.out HB.out ?hle ?_)
    case hle => simp
    intro v' w1 hown hgrow _ _
    have HW := Lib.hid hown
    have HG := Lib.hid (((Below.refl _ w).alloc (Nat.le_refl _) (.cells #[] 31)).grown hgrow (by simp) (by intro k hk; simp [Value.ownBlock] at hk; omega))
    clear hown hgrow
    obtain ⟨A', c', rfl, hc', hrd, hty⟩ := RdT.own HW.out
    have HTY := Lib.hid hty
    have HR := Lib.hid hrd
    clear hrd hty
    go_wp2_with fail
    go_ret
    exact ⟨A', c', rfl, hc', HR.out, HG.out, HTY.out⟩

theorem oth_put {W : World} {G g : Nat} {u0 u1 u2 : Value} {t : TypeId} (h : ∃ cs fr, W.heap[g]? = some (.cells cs t fr)) (hg : g ≠ G) : ∃ cs fr, (put3 W G u0 u1 u2).heap[g]? = some (.cells cs t fr) := by
  obtain ⟨cs, fr, h1⟩ := h
  exact ⟨cs, fr, (put3_oth g hg).trans h1⟩
theorem tr_putT {W : World} {G : Nat} {T : TypeId} {v v' A' : Option Addr} {m d : Nat} {k : Int} {l : List Rt} (h : Tr W W.heap.size v l) (hne : ∀ a, v = some a → a.block ≠ G) (hG : HoBk W G T v' A' m d k) (h9 : 9 ≠ T) (h67 : 67 ≠ T) (h88 : 88 ≠ T) (h107 : 107 ≠ T) (u0 u1 u2 : Value) : Tr (put3 W G u0 u1 u2) (put3 W G u0 u1 u2).heap.size v l := by
  rcases h with ⟨h1, h2⟩ | ⟨g, rv, e, hg, c0, c1, hn⟩
  · exact .inl ⟨h1, h2⟩
  · have hne := hne _ e
    refine .inr ⟨g, rv, e, by rw [put3_size]; exact hg, (put3_cell ⟨g, 0, none⟩ hne u0 u1 u2).trans c0, (put3_cell ⟨g, 1, none⟩ hne u0 u1 u2).trans c1, ?_⟩
    rw [put3_size]
    exact hn.far ⟨_, _, hG⟩ h9 h67 h88 h107 put3_oth
theorem rdt_put {W : World} {G n k' m d : Nat} {T e : TypeId} {A v' A' : Option Addr} {k : Int} {xs : List Value} (h : Rd W W.heap.size k' A n xs) (ht : Ty W e A n) (hG : HoBk W G T v' A' m d k) (hT : e ≠ T) (u0 u1 u2 : Value) : Rd (put3 W G u0 u1 u2) (put3 W G u0 u1 u2).heap.size k' A n xs ∧ Ty (put3 W G u0 u1 u2) e A n := by
  have hr := RdT.far ⟨h, ht⟩ ⟨_, _, hG⟩ hT (put3_oth (W := W) (G := G) (u0 := u0) (u1 := u1) (u2 := u2))
  exact ⟨by rw [put3_size]; exact hr.1, hr.2⟩
/-- What a Snap's block is told as. -/
theorem sn_ret {W : World} {R : Nat} {a : Act} {X : Ending → World → Prop} {u0 u1 u2 : Value} (hb : W.heap[R]? = some (.cells #[u0, u1, u2] 49 (0, 0)))
    (ha : a.tmps.getD 4 undef = .pointer (some ⟨R, 0, none⟩)) (hd : a.defers = []) (hQ : X (.returned (.agg #[u0, u1, u2])) W) : bodyPost Tryd.prog Tryd.f27 X .ret a W := by
  have c0 : W.cell? ⟨R, 0, none⟩ = some u0 := by rw [Lib.cell_of_heap hb]; rfl
  have c1 : W.cell? ⟨R, 1, none⟩ = some u1 := by rw [Lib.cell_of_heap hb]; rfl
  have c2 : W.cell? ⟨R, 2, none⟩ = some u2 := by rw [Lib.cell_of_heap hb]; rfl
  simp at ha
  exact bodyPost_ret (v := .agg #[u0, u1, u2]) (by simp [results, Tryd.results27, go_sem, ha, c0, c1, c2]) hd hQ

set_option maxRecDepth 100000 in
set_option maxHeartbeats 4000000 in
theorem taken_any (k : Nat) (l : List Rt) (A : Option Addr) (c : Nat) (w : World) (hr : Rd w w.heap.size 3 A l.length (rtCells l)) (hL : Law l) :
    Calls Tryd.prog 27 #[.int .i64 k, .slice A l.length c] w fun e w' => ∃ g A' c', e = .returned (.agg #[.pointer (some ⟨g, 0, none⟩), .int .i64 k, .slice A' l.length c']) ∧ Tr w' w'.heap.size (some ⟨g, 0, none⟩) l ∧ w.heap.size ≤ g ∧ l.length ≤ c' ∧ Rd w' w'.heap.size 3 A' l.length (rtCells l) ∧ Below w.heap.size w w' ∧ (∃ cs fr, w'.heap[g]? = some (.cells cs 60 fr)) ∧ Ty w' 31 A' l.length := by
  have hb1 : Below w.heap.size w (w.alloc (.cells #[.pointer none, .int .i64 0, .slice none 0 0] 49)) := (Below.refl _ _).alloc (Nat.le_refl _) _
  have HK1 : Hid ((w.alloc (.cells #[.pointer none, .int .i64 0, .slice none 0 0] 49)).heap[w.heap.size]? = some (.cells #[.pointer none, .int .i64 0, .slice none 0 0] 49 (0, 0))) := heap_alloc_new w _
  have HWI := Lib.hid (with_new none [] l A c (w.alloc (.cells #[.pointer none, .int .i64 0, .slice none 0 0] 49)) (Tr.nil _ _) ((hr.below hb1 (Nat.le_refl _)).wide hb1.size) hL.pat (by have := hL.few; simp; omega))
  rw [List.nil_append] at HWI
  have HCL := Lib.hid (fun wx (h : Below w.heap.size w wx) => clone_any l A c wx ((hr.below h (Nat.le_refl _)).wide h.size) (by have := hL.few; omega))
  have HB1 := Lib.hid hb1
  have HS1 : Hid (w.heap.size < (w.alloc (.cells #[.pointer none, .int .i64 0, .slice none 0 0] 49)).heap.size) := by show _ < _; simp
  clear hr hL hb1
  generalize rtCells l = cs at *
  generalize hn : l.length = n at *
  go_enter Tryd.func27, Tryd.ntmps27
  go_wp2_with fail
  refine HWI.out.mono ?_
  rintro e w2 ⟨g, rfl, ht2, hb2, hg2, hy2⟩
  have HT2 := Lib.hid ht2
  have HB2 := Lib.hid (bt HB1.out hb2)
  have HK2 := Lib.hid ((hb2.block w.heap.size HS1.out).trans HK1.out)
  have HG2 : Hid (w.heap.size < g) := Nat.lt_of_lt_of_le HS1.out hg2
  have HY2 := Lib.hid hy2
  clear ht2 hb2 hg2 hy2
  go_wp2_with fail
  refine (HCL.out w2 HB2.out).mono ?_
  rintro e w3 ⟨A', c', rfl, hc3, hr3, hb3, hty3⟩
  have HK3 : HoBk w3 w.heap.size 49 none none 0 0 0 := (hb3.block w.heap.size (blk_sz HK2.out)).trans HK2.out
  have HT3 := Lib.hid (tr_putT (HT2.out.on hb3) (fun a e => by cases e; have := HG2.out; show g ≠ _; omega) HK3 (by decide) (by decide) (by decide) (by decide) (.pointer (some ⟨g, 0, none⟩)) (.int .i64 k) (.slice A' n c'))
  have HR3 := Lib.hid (rdt_put hr3 hty3 HK3 (by decide) (.pointer (some ⟨g, 0, none⟩)) (.int .i64 k) (.slice A' n c'))
  have HY3 : Hid (∃ cs fr, (put3 w3 w.heap.size (.pointer (some ⟨g, 0, none⟩)) (.int .i64 k) (.slice A' n c')).heap[g]? = some (.cells cs 60 fr)) := oth_put (by
    obtain ⟨cs, fr, h1⟩ := HY2.out
    exact ⟨cs, fr, (hb3.block _ (blk_sz h1)).trans h1⟩) (by have := HG2.out; omega)
  have r0 : w3.cell? ⟨w.heap.size, 0, none⟩ = some (.pointer none) := by rw [Lib.cell_of_heap HK3]; rfl
  have r1 : w3.cell? ⟨w.heap.size, 1, none⟩ = some (.int .i64 0) := by rw [Lib.cell_of_heap HK3]; rfl
  have r2 : w3.cell? ⟨w.heap.size, 2, none⟩ = some (.slice none 0 0) := by rw [Lib.cell_of_heap HK3]; rfl
  have z0 : w3.frozen? ⟨w.heap.size, 0, none⟩ = false := Lib.frozen_of_heap HK3 0
  have z1 : w3.frozen? ⟨w.heap.size, 1, none⟩ = false := Lib.frozen_of_heap HK3 1
  have z2 : w3.frozen? ⟨w.heap.size, 2, none⟩ = false := Lib.frozen_of_heap HK3 2
  have HKH := Lib.hid HK3
  have HB3 := Lib.hid (put3_below (bt HB2.out hb3) (Nat.le_refl _) (.pointer (some ⟨g, 0, none⟩)) (.int .i64 k) (.slice A' n c'))
  have HC3 := Lib.hid hc3
  clear HK3 hr3 hb3 hc3 hty3
  go_wp2_with fail
  refine sn_ret (R := w.heap.size) (put3_blk HKH.out (.pointer (some ⟨g, 0, none⟩)) (.int .i64 k) (.slice A' n c')) rfl rfl ?_
  exact ⟨g, A', c', rfl, HT3.out, Nat.le_of_lt HG2.out, HC3.out, HR3.out.1, HB3.out, HY3.out, HR3.out.2⟩
end Go.Proofs.YtgfjkpfjajjidaaDoor
