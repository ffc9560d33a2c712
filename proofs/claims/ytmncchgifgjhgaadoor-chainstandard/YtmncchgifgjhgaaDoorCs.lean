/- The closures of Safe and of behind that recover. -/
import Derived.Test.YtmncchgifgjhgaaDoorCe
import Derived.Test.YtmncchgifgjhgaaDoorCf
import Derived.Tactics
import Derived.Tactics2
import Derived.Defers
import Derived.Recover
import Derived.Laws.Pointers
namespace Go.Proofs.YtmncchgifgjhgaaDoor
open Go.RowKit Go.Shelf

theorem door_end {fn : Func} {k : Nat} {W : World} {R : Nat} {tmps : Array Value} {X : Ending → World → Prop} {z0 z1 z2 z3 : Value} (hf : fn.results = #[.cell k 32]) (h : W.heap[R]? = some (.cells #[z0, z1, z2, z3] 32 (0, 0))) (u0 u1 u2 u3 : Value) (ha : tmps.getD k undef = .pointer (some ⟨R, 0, none⟩))
    (hQ : X (.returned (.agg #[u0, u1, u2, u3])) (put4 W R u0 u1 u2 u3)) : Leaves Tryd.prog fn tmps X [] .returning (put4 W R u0 u1 u2 u3) := by
  have hb := put4_blk h u0 u1 u2 u3
  generalize put4 W R u0 u1 u2 u3 = V at *
  have c0 := blk_cell hb 0
  have c1 := blk_cell hb 1
  have c2 := blk_cell hb 2
  have c3 := blk_cell hb 3
  simp at c0 c1 c2 c3
  simp at ha
  simp [Leaves, settle, results, hf, go_sem, ha, c0, c1, c2, c3]
  exact hQ
theorem door_caught {fn : Func} {k : Nat} {W : World} {R : Nat} {tmps : Array Value} {X : Ending → World → Prop} {z0 z1 z2 z3 : Value} {u : TypeId} {pv : Value} (hf : fn.results = #[.cell k 32]) (h : W.heap[R]? = some (.cells #[z0, z1, z2, z3] 32 (0, 0))) (u0 u1 u2 u3 : Value) (ha : tmps.getD k undef = .pointer (some ⟨R, 0, none⟩))
    (hQ : X (.returned (.agg #[u0, u1, u2, u3])) (put4 W R u0 u1 u2 u3)) : Leaves Tryd.prog fn tmps X [] (settle (.panicking [{ v := .iface u pv, recovered := true }])) (put4 W R u0 u1 u2 u3) := by
  have hb := put4_blk h u0 u1 u2 u3
  generalize put4 W R u0 u1 u2 u3 = V at *
  have c0 := blk_cell hb 0
  have c1 := blk_cell hb 1
  have c2 := blk_cell hb 2
  have c3 := blk_cell hb 3
  simp at c0 c1 c2 c3
  simp at ha
  simp [Leaves, settle, results, hf, go_sem, ha, c0, c1, c2, c3]
  exact hQ

theorem safe_idle (p : Addr) (w : World) :
    CallsD Tryd.prog 44 #[.pointer (some p)] .returning w fun e u' w' => e = .returned (.tuple #[]) ∧ u' = .returning ∧ w' = w := by
  refine callsD_of_wpS Tryd.func44 rfl fun c₀ cs hu => ?_
  apply wpS_seq
  apply wpS_region
  simp [wpOpsS, go_sem, recoverD, hu, Tryd.ntmps44, Exit.thenS]
  refine wpS_cond (t := false) (by simp [Act.eval, Array.replicate]) ?_
  simp only [Bool.false_eq_true, if_false]
  refine wpS_of_wp (wp_skip ?_)
  cases c₀
  simp_all [bodyPostS, results, Tryd.results44]

theorem safe_catch (g : Nat) (z0 z1 z2 z3 : Value) (u : TypeId) (pv : Value) (older : List PanicEntry) (w : World) (hk : w.heap[g]? = some (.cells #[z0, z1, z2, z3] 32 (0, 0))) :
    CallsD Tryd.prog 44 #[.pointer (some ⟨g, 0, none⟩)] (.panicking ({ v := .iface u pv, recovered := false } :: older)) w fun e u' w' =>
      e = .returned (.tuple #[]) ∧ u' = .panicking ({ v := .iface u pv, recovered := true } :: older) ∧ ∃ w1, Below w.heap.size w w1 ∧ w' = put4 w1 g (.int .i64 500) (.slice none 0 0) (.string (plB 500)) (.bool false) := by
  refine callsD_of_wpS Tryd.func44 rfl fun c₀ cs hu => ?_
  apply wpS_seq
  apply wpS_region
  simp [wpOpsS, go_sem, recoverD, hu, Tryd.ntmps44, Exit.thenS]
  refine wpS_cond (t := true) (by simp [Act.eval, Array.replicate]) ?_
  simp only [if_true]
  refine wpS_of_wp ?_
  have HP := Lib.hid (plain_any 500 w)
  go_wp2_with fail
  refine HP.out.mono ?_
  rintro e w1 ⟨rfl, hb1⟩
  have hk1 := (hb1.block _ (blk_lt hk)).trans hk
  have r0 := blk_cell hk1 0; have r1 := blk_cell hk1 1; have r2 := blk_cell hk1 2; have r3 := blk_cell hk1 3
  have z0 := blk_free hk1 0; have z1 := blk_free hk1 1; have z2 := blk_free hk1 2; have z3 := blk_free hk1 3
  simp only [List.getElem?_toArray, List.getElem?_cons_zero, List.getElem?_cons_succ] at r0 r1 r2 r3
  simp only [Array.replicate_succ, Array.replicate_zero, List.push_toArray, List.append_toArray, List.nil_append, List.cons_append]
  go_wp2_with fail
  exact ⟨rfl, _, rfl, .tuple #[], by simp [results, Tryd.results44], rfl, rfl, w1, hb1, rfl⟩

set_option maxRecDepth 100000 in
set_option maxHeartbeats 4000000 in
theorem safe_hd_ans {P : Nat → Prop} {S0 S1 : World → Prop} {w0 : World} {hv : Value} {g : Nat} {u0 u1 u2 u3 u4 u5 u6 u7 u8 u9 u10 u11 u12 : Value} {st : Int} {l : List Fld} {b : ByteArray} {cl : Bool}
    (h : Hd P S0 S1 (.agg #[u0, u1, u2, u3, u4, u5, u6, u7, u8, u9, u10, u11, u12]) (.ans st l b cl) w0 hv) (hp : ∀ j, P j → j < w0.heap.size) (h0 : Of P S0) (h1 : Of P S1) (hg : g < w0.heap.size) (hgp : ¬ P g) (hbx : w0.cell? ⟨g, 0, none⟩ = some hv) :
    Hd P S0 S1 (.agg #[u0, u1, u2, u3, u4, u5, u6, u7, u8, u9, u10, u11, u12]) (.ans st l b cl) w0 (.func (.func 43) #[] #[.pointer (some ⟨g, 0, none⟩)]) := by
  refine ⟨43, _, rfl, enters_of Tryd.func43 (by kernel_rfl) rfl, fun w hw hs => ?_⟩
  show Calls Tryd.prog 43 #[.agg #[u0, u1, u2, u3, u4, u5, u6, u7, u8, u9, u10, u11, u12], .pointer (some ⟨g, 0, none⟩)] w _
  have hb1 := (Below.refl w.heap.size w).alloc (Nat.le_refl _) (.cells #[u0, u1, u2, u3, u4, u5, u6, u7, u8, u9, u10, u11, u12] 30)
  have hb2 := hb1.alloc hb1.size (.cells #[.int .i64 0, .slice none 0 0, .string ⟨#[]⟩, .bool false] 32)
  have hkc : ((w.alloc (.cells #[u0, u1, u2, u3, u4, u5, u6, u7, u8, u9, u10, u11, u12] 30)).alloc (.cells #[.int .i64 0, .slice none 0 0, .string ⟨#[]⟩, .bool false] 32)).heap[w.heap.size]? = some (.cells #[u0, u1, u2, u3, u4, u5, u6, u7, u8, u9, u10, u11, u12] 30 (0, 0)) :=
    (Below.heap_alloc _ _ _ (by simp)).trans (heap_alloc_new w _)
  have hkr : ((w.alloc (.cells #[u0, u1, u2, u3, u4, u5, u6, u7, u8, u9, u10, u11, u12] 30)).alloc (.cells #[.int .i64 0, .slice none 0 0, .string ⟨#[]⟩, .bool false] 32)).heap[w.heap.size + 1]? = some (.cells #[.int .i64 0, .slice none 0 0, .string ⟨#[]⟩, .bool false] 32 (0, 0)) := by
    have := heap_alloc_new (w.alloc (.cells #[u0, u1, u2, u3, u4, u5, u6, u7, u8, u9, u10, u11, u12] 30)) (.cells #[.int .i64 0, .slice none 0 0, .string ⟨#[]⟩, .bool false] 32)
    simpa using this
  have c0 := blk_cell hkc 0; have c1 := blk_cell hkc 1; have c2 := blk_cell hkc 2; have c3 := blk_cell hkc 3; have c4 := blk_cell hkc 4; have c5 := blk_cell hkc 5; have c6 := blk_cell hkc 6
  have c7 := blk_cell hkc 7; have c8 := blk_cell hkc 8; have c9 := blk_cell hkc 9; have c10 := blk_cell hkc 10; have c11 := blk_cell hkc 11; have c12 := blk_cell hkc 12
  simp only [List.getElem?_toArray, List.getElem?_cons_zero, List.getElem?_cons_succ] at c0 c1 c2 c3 c4 c5 c6 c7 c8 c9 c10 c11 c12
  have HC := Lib.hid hkc; have HR := Lib.hid hkr; have HB := Lib.hid hb2
  have hnp := hp
  have hn3 : ¬ P (w.heap.size + 1) := fun q => by have := hp _ q; have := hw.size; omega
  have hx : (((w.alloc (.cells #[u0, u1, u2, u3, u4, u5, u6, u7, u8, u9, u10, u11, u12] 30)).alloc (.cells #[.int .i64 0, .slice none 0 0, .string ⟨#[]⟩, .bool false] 32)).cell? ⟨g, 0, none⟩) = some hv := (hb2.cell (p := ⟨g, 0, none⟩) (Nat.lt_of_lt_of_le hg hw.size)).trans ((World.cell?_of_block (hw.block g hg hgp)).trans hbx)
  clear hkc hkr hb1 hb2
  generalize hw2 : (w.alloc (.cells #[u0, u1, u2, u3, u4, u5, u6, u7, u8, u9, u10, u11, u12] 30)).alloc (.cells #[.int .i64 0, .slice none 0 0, .string ⟨#[]⟩, .bool false] 32) = w2 at *
  have HK := Lib.hid (ask_any h hp h0 h1 w2 (hw.on HB.out) (h0.on hs HB.out fun j hj => Nat.lt_of_lt_of_le (hp j hj) hw.size))
  clear h hbx hs
  have hmf : ∀ (fn : Fn) (first cap : Array Value) (w : World), (Instr.makeFunc fn first cap).run Tryd.prog w = .ok (.func fn first cap) w := fun _ _ _ _ => rfl
  go_enter_defers Tryd.func43, Tryd.ntmps43
  go_wp2_with fail
  refine HK.out.mono ?_
  rintro e w3 ⟨he, hf3, hs3⟩
  have hk3 := (hf3.block _ (blk_lt HR.out) hn3).trans HR.out
  have HX := Lib.hid (And.intro hf3 (And.intro hs3 hk3))
  clear hf3 hs3 c0 c1 c2 c3 c4 c5 c6 c7 c8 c9 c10 c11 c12 HK hx
  obtain ⟨A, n, rfl, hrow, hl, hge⟩ := he
  have HW := Lib.hid (And.intro hrow (And.intro hl hge))
  have r0 := blk_cell hk3 0; have r1 := blk_cell hk3 1; have r2 := blk_cell hk3 2; have r3 := blk_cell hk3 3
  have z0 := blk_free hk3 0; have z1 := blk_free hk3 1; have z2 := blk_free hk3 2; have z3 := blk_free hk3 3
  simp only [List.getElem?_toArray, List.getElem?_cons_zero, List.getElem?_cons_succ] at r0 r1 r2 r3
  clear hk3 hrow hl hge
  generalize hN : l.length = m' at *
  go_wp2_with fail
  refine leaves_cons (f := 44) (args := #[.pointer (some ⟨w.heap.size + 1, 0, none⟩)]) (by simp) (by simp [go_sem]) ?_
  refine (safe_idle ⟨w.heap.size + 1, 0, none⟩ _).mono ?_
  rintro e u' w4 ⟨rfl, rfl, rfl⟩
  subst hN
  have hlt := blk_lt HR.out
  have hw0 := hw.size
  refine door_end (W := w3) Tryd.results43 HX.out.2.2 (.int .i64 st) (.slice A l.length n) (.string b) (.bool cl) rfl ?_
  exact ⟨⟨A, n, rfl, HW.out.1.put4 _ _ _ _ _ (fun a e => by have := HW.out.2.2 a e; omega), HW.out.2.1, fun a e => Nat.zero_le _⟩, ((Frm.of HB.out).trans HX.out.1).put4 _ _ _ _ _ (by omega), h1.put4 HX.out.2.1 _ _ _ _ _ hn3⟩

set_option maxRecDepth 100000 in
set_option maxHeartbeats 4000000 in
theorem safe_hd_gone {P : Nat → Prop} {S0 S1 : World → Prop} {w0 : World} {hv : Value} {g : Nat} {u0 u1 u2 u3 u4 u5 u6 u7 u8 u9 u10 u11 u12 : Value}
    (h : Hd P S0 S1 (.agg #[u0, u1, u2, u3, u4, u5, u6, u7, u8, u9, u10, u11, u12]) .gone w0 hv) (hp : ∀ j, P j → j < w0.heap.size) (h0 : Of P S0) (h1 : Of P S1) (hg : g < w0.heap.size) (hgp : ¬ P g) (hbx : w0.cell? ⟨g, 0, none⟩ = some hv) :
    Hd P S0 S1 (.agg #[u0, u1, u2, u3, u4, u5, u6, u7, u8, u9, u10, u11, u12]) (.ans 500 [] (plB 500) false) w0 (.func (.func 43) #[] #[.pointer (some ⟨g, 0, none⟩)]) := by
  refine ⟨43, _, rfl, enters_of Tryd.func43 (by kernel_rfl) rfl, fun w hw hs => ?_⟩
  show Calls Tryd.prog 43 #[.agg #[u0, u1, u2, u3, u4, u5, u6, u7, u8, u9, u10, u11, u12], .pointer (some ⟨g, 0, none⟩)] w _
  have hb1 := (Below.refl w.heap.size w).alloc (Nat.le_refl _) (.cells #[u0, u1, u2, u3, u4, u5, u6, u7, u8, u9, u10, u11, u12] 30)
  have hb2 := hb1.alloc hb1.size (.cells #[.int .i64 0, .slice none 0 0, .string ⟨#[]⟩, .bool false] 32)
  have hkc : ((w.alloc (.cells #[u0, u1, u2, u3, u4, u5, u6, u7, u8, u9, u10, u11, u12] 30)).alloc (.cells #[.int .i64 0, .slice none 0 0, .string ⟨#[]⟩, .bool false] 32)).heap[w.heap.size]? = some (.cells #[u0, u1, u2, u3, u4, u5, u6, u7, u8, u9, u10, u11, u12] 30 (0, 0)) :=
    (Below.heap_alloc _ _ _ (by simp)).trans (heap_alloc_new w _)
  have hkr : ((w.alloc (.cells #[u0, u1, u2, u3, u4, u5, u6, u7, u8, u9, u10, u11, u12] 30)).alloc (.cells #[.int .i64 0, .slice none 0 0, .string ⟨#[]⟩, .bool false] 32)).heap[w.heap.size + 1]? = some (.cells #[.int .i64 0, .slice none 0 0, .string ⟨#[]⟩, .bool false] 32 (0, 0)) := by
    have := heap_alloc_new (w.alloc (.cells #[u0, u1, u2, u3, u4, u5, u6, u7, u8, u9, u10, u11, u12] 30)) (.cells #[.int .i64 0, .slice none 0 0, .string ⟨#[]⟩, .bool false] 32)
    simpa using this
  have c0 := blk_cell hkc 0; have c1 := blk_cell hkc 1; have c2 := blk_cell hkc 2; have c3 := blk_cell hkc 3; have c4 := blk_cell hkc 4; have c5 := blk_cell hkc 5; have c6 := blk_cell hkc 6
  have c7 := blk_cell hkc 7; have c8 := blk_cell hkc 8; have c9 := blk_cell hkc 9; have c10 := blk_cell hkc 10; have c11 := blk_cell hkc 11; have c12 := blk_cell hkc 12
  simp only [List.getElem?_toArray, List.getElem?_cons_zero, List.getElem?_cons_succ] at c0 c1 c2 c3 c4 c5 c6 c7 c8 c9 c10 c11 c12
  have HC := Lib.hid hkc; have HR := Lib.hid hkr; have HB := Lib.hid hb2
  have hnp := hp
  have hn3 : ¬ P (w.heap.size + 1) := fun q => by have := hp _ q; have := hw.size; omega
  have hx : (((w.alloc (.cells #[u0, u1, u2, u3, u4, u5, u6, u7, u8, u9, u10, u11, u12] 30)).alloc (.cells #[.int .i64 0, .slice none 0 0, .string ⟨#[]⟩, .bool false] 32)).cell? ⟨g, 0, none⟩) = some hv := (hb2.cell (p := ⟨g, 0, none⟩) (Nat.lt_of_lt_of_le hg hw.size)).trans ((World.cell?_of_block (hw.block g hg hgp)).trans hbx)
  clear hkc hkr hb1 hb2
  generalize hw2 : (w.alloc (.cells #[u0, u1, u2, u3, u4, u5, u6, u7, u8, u9, u10, u11, u12] 30)).alloc (.cells #[.int .i64 0, .slice none 0 0, .string ⟨#[]⟩, .bool false] 32) = w2 at *
  have HK := Lib.hid (ask_any h hp h0 h1 w2 (hw.on HB.out) (h0.on hs HB.out fun j hj => Nat.lt_of_lt_of_le (hp j hj) hw.size))
  clear h hbx hs
  have hmf : ∀ (fn : Fn) (first cap : Array Value) (w : World), (Instr.makeFunc fn first cap).run Tryd.prog w = .ok (.func fn first cap) w := fun _ _ _ _ => rfl
  go_enter_defers Tryd.func43, Tryd.ntmps43
  go_wp2_with fail
  refine HK.out.mono ?_
  rintro e w3 ⟨he, hf3, hs3⟩
  have hk3 := (hf3.block _ (blk_lt HR.out) hn3).trans HR.out
  have HX := Lib.hid (And.intro hf3 (And.intro hs3 hk3))
  clear hf3 hs3 c0 c1 c2 c3 c4 c5 c6 c7 c8 c9 c10 c11 c12 HK hx
  obtain ⟨u, pv, rfl⟩ := he
  go_wp2_with fail
  refine leaves_cons (f := 44) (args := #[.pointer (some ⟨w.heap.size + 1, 0, none⟩)]) (by simp) (by simp [go_sem]) ?_
  refine (safe_catch (w.heap.size + 1) _ _ _ _ u pv [] w3 hk3).mono ?_
  rintro e u' w4 ⟨rfl, rfl, w5, hb5, rfl⟩
  have hk5 := (hb5.block _ (blk_lt hk3)).trans hk3
  have hlt := blk_lt HR.out
  have hw0 := hw.size
  refine door_caught (W := w5) Tryd.results43 hk5 (.int .i64 500) (.slice none 0 0) (.string (plB 500)) (.bool false) rfl ?_
  exact ⟨⟨none, 0, rfl, Row.nil _ _ _, by simp, fun a e => Nat.zero_le _⟩, (((Frm.of HB.out).trans HX.out.1).on hb5).put4 _ _ _ _ _ (by omega), h1.put4 (h1.on HX.out.2.1 hb5 fun j hj => by have := hp _ hj; have := HX.out.1.size; omega) _ _ _ _ _ hn3⟩

end Go.Proofs.YtmncchgifgjhgaaDoor
