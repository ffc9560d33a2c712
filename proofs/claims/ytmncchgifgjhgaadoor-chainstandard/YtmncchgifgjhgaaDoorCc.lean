/- The contract of ask: what a handle comes to, with a list of fields of its own. -/
import Derived.Test.YtmncchgifgjhgaaDoorCa
namespace Go.Proofs.YtmncchgifgjhgaaDoor
open Go.RowKit Go.Shelf

theorem fnIn (d k : Nat) (c : Array Value) (w : World) (t : TypeId) (s : TypeDesc) (h : Tryd.prog.underlying t = some s) (hs : ∃ a b v, s = .func a b v) : (Op.equalIn (d + 1) t (.func (.func k) #[] c) .nilFunc).run Tryd.prog w = .ok false w := by
  obtain ⟨a, b, v, rfl⟩ := hs
  simp [Op.equalIn, run_underlying h]
theorem fn_eq (k : FuncId) (c : Array Value) (w : World) : (binOp .eql 36 (.func (.func k) #[] c) .nilFunc).run Tryd.prog w = .ok (.bool false) w := by
  simp only [binOp]
  simp [Op.equal, Op.maxDepth, fnIn 9999 k c w 36 _ Tryd.underlying36 ⟨_, _, _, rfl⟩]
theorem fn_ne (k : FuncId) (c : Array Value) (w : World) : (binOp .neq 47 (.func (.func k) #[] c) .nilFunc).run Tryd.prog w = .ok (.bool true) w := by
  simp only [binOp]
  simp [Op.equal, Op.maxDepth, fnIn 9999 k c w 47 _ Tryd.underlying47 ⟨_, _, _, rfl⟩]

set_option maxRecDepth 100000 in
set_option maxHeartbeats 4000000 in
theorem ask_ans {P : Nat → Prop} {S0 S1 : World → Prop} {st : Int} {l : List Fld} {b : ByteArray} {cl : Bool} {w0 : World} {hv u0 u1 u2 u3 u4 u5 u6 u7 u8 u9 u10 u11 u12 : Value}
    (h : Hd P S0 S1 (.agg #[u0, u1, u2, u3, u4, u5, u6, u7, u8, u9, u10, u11, u12]) (.ans st l b cl) w0 hv) (hp : ∀ j, P j → j < w0.heap.size) (h0 : Of P S0) (h1 : Of P S1) (w : World) (hw : Frm P w0 w) (hs : S0 w) :
    Calls Tryd.prog 34 #[hv, .agg #[u0, u1, u2, u3, u4, u5, u6, u7, u8, u9, u10, u11, u12]] w fun e w' => Ends P w.heap.size (.ans st l b cl) e w' ∧ Frm P w w' ∧ S1 w' := by
  obtain ⟨k, caps, rfl, hen, hk⟩ := h
  have hen' := hen (#[.agg #[u0, u1, u2, u3, u4, u5, u6, u7, u8, u9, u10, u11, u12]] ++ caps)
  have hb1 := (Below.refl w.heap.size w).alloc (Nat.le_refl _) (.cells #[u0, u1, u2, u3, u4, u5, u6, u7, u8, u9, u10, u11, u12] 30)
  have hb2 := hb1.alloc hb1.size (.cells #[.int .i64 0, .slice none 0 0, .string ⟨#[]⟩, .bool false] 32)
  have hkc : ((w.alloc (.cells #[u0, u1, u2, u3, u4, u5, u6, u7, u8, u9, u10, u11, u12] 30)).alloc (.cells #[.int .i64 0, .slice none 0 0, .string ⟨#[]⟩, .bool false] 32)).heap[w.heap.size]? = some (.cells #[u0, u1, u2, u3, u4, u5, u6, u7, u8, u9, u10, u11, u12] 30 (0, 0)) :=
    (Below.heap_alloc _ _ _ (by simp)).trans (heap_alloc_new w _)
  have hkr : ((w.alloc (.cells #[u0, u1, u2, u3, u4, u5, u6, u7, u8, u9, u10, u11, u12] 30)).alloc (.cells #[.int .i64 0, .slice none 0 0, .string ⟨#[]⟩, .bool false] 32)).heap[w.heap.size + 1]? = some (.cells #[.int .i64 0, .slice none 0 0, .string ⟨#[]⟩, .bool false] 32 (0, 0)) := by
    have := heap_alloc_new (w.alloc (.cells #[u0, u1, u2, u3, u4, u5, u6, u7, u8, u9, u10, u11, u12] 30)) (.cells #[.int .i64 0, .slice none 0 0, .string ⟨#[]⟩, .bool false] 32)
    simpa using this
  have c0 := blk_cell hkc 0; have c1 := blk_cell hkc 1; have c2 := blk_cell hkc 2; have c3 := blk_cell hkc 3; have c4 := blk_cell hkc 4; have c5 := blk_cell hkc 5; have c6 := blk_cell hkc 6
  have c7 := blk_cell hkc 7; have c8 := blk_cell hkc 8; have c9 := blk_cell hkc 9; have c10 := blk_cell hkc 10; have c11 := blk_cell hkc 11; have c12 := blk_cell hkc 12
  simp only [List.getElem?_toArray, List.getElem?_cons_zero, List.getElem?_cons_succ] at c0 c1 c2 c3 c4 c5 c6 c7 c8 c9 c10 c11 c12
  have HC := Lib.hid hkc; have HR := Lib.hid hkr; have HB := Lib.hid hb2
  clear hkc hkr hb1 hb2
  generalize hw2 : (w.alloc (.cells #[u0, u1, u2, u3, u4, u5, u6, u7, u8, u9, u10, u11, u12] 30)).alloc (.cells #[.int .i64 0, .slice none 0 0, .string ⟨#[]⟩, .bool false] 32) = w2 at *
  have HK := Lib.hid (hk w2 (hw.on HB.out) (h0.on hs HB.out fun j hj => Nat.lt_of_lt_of_le (hp j hj) hw.size))
  clear hk
  have hfe := fn_eq k caps
  go_enter Tryd.func34, Tryd.ntmps34
  go_wp2_with fail
  go_at_fn k
  refine HK.out.mono ?_
  rintro e w3 ⟨⟨A, n, rfl, hrow, hl, _⟩, hf3, hs3⟩
  have hn2 : ¬ P w.heap.size := fun q => by have := hp _ q; have := hw.size; omega
  have hn3 : ¬ P (w.heap.size + 1) := fun q => by have := hp _ q; have := hw.size; omega
  have hk3 := (hf3.block _ (blk_lt HR.out) hn3).trans HR.out
  have hg2 : w.heap.size + 1 < w3.heap.size := Nat.lt_of_lt_of_le (blk_lt HR.out) hf3.size
  have hk4 := heap_alloc_new w3 (.cells #[.int .i64 st, .slice A l.length n, .string b, .bool cl] 32)
  have hb4 := (Below.refl w3.heap.size w3).alloc (Nat.le_refl _) (.cells #[.int .i64 st, .slice A l.length n, .string b, .bool cl] 32)
  have HCL := Lib.hid (clone_any l A n (w3.alloc (.cells #[.int .i64 st, .slice A l.length n, .string b, .bool cl] 32)) ((hrow.frm (Frm.of hb4)).rd) (by omega))
  have HX := Lib.hid (And.intro hf3 (And.intro hs3 (And.intro hk4 hb4)))
  have HK3 := Lib.hid hk3
  have HHL := Lib.hid hl
  have HG2 := Lib.hid hg2
  have HN := Lib.hid (And.intro hn2 hn3)
  clear hrow hk3 hk4 hb4 hf3 hs3 hl hg2 hn2 hn3 c0 c1 c2 c3 c4 c5 c6 c7 c8 c9 c10 c11 c12 HK hen hen' hfe
  generalize hF : fldCells l = cs at *
  generalize hN : l.length = m at *
  go_wp2_with fail
  refine HCL.out.mono ?_
  rintro e w5 ⟨A', n', rfl, hrd, hge, hb5⟩
  have hB5 := (HX.out.2.2.2).trans (hb5.mono (by simp))
  have hk5 := (hb5.block _ (blk_lt HX.out.2.2.1)).trans HX.out.2.2.1
  have hr5 := (hB5.block _ HG2.out).trans HK3.out
  have c0 := blk_cell hk5 0; have c1 := blk_cell hk5 1; have c2 := blk_cell hk5 2; have c3 := blk_cell hk5 3
  have f0 := blk_free hk5 0; have f1 := blk_free hk5 1; have f2 := blk_free hk5 2; have f3 := blk_free hk5 3
  have r0 := blk_cell hr5 0; have r1 := blk_cell hr5 1; have r2 := blk_cell hr5 2; have r3 := blk_cell hr5 3
  have z0 := blk_free hr5 0; have z1 := blk_free hr5 1; have z2 := blk_free hr5 2; have z3 := blk_free hr5 3
  simp only [List.getElem?_toArray, List.getElem?_cons_zero, List.getElem?_cons_succ] at c0 c1 c2 c3 r0 r1 r2 r3
  have HY := Lib.hid (And.intro hrd (And.intro hge (And.intro hB5 (And.intro hk5 hr5))))
  clear hrd hge hB5 hk5 hr5 hb5
  have hne : w.heap.size + 1 ≠ w3.heap.size := by have := HG2.out; omega
  go_wp2_with fail
  subst hN hF
  obtain ⟨hrd, hge, hB5, hk5, hr5⟩ := HY.out
  obtain ⟨hf3, hs3, hk4, hb4⟩ := HX.out
  have hlt := HG2.out
  have hw0 := hw.size
  have hge' : ∀ a, A' = some a → w3.heap.size < a.block := fun a e => by have := hge a e; simp at this; omega
  have hrow : Row P w5 A' l := Row.of hrd fun a e q => by have := hge' a e; have := hp _ q; omega
  have hF5 : Frm P w w5 := ((Frm.of HB.out).trans hf3).on hB5
  have hS5 : S1 w5 := h1.on hs3 hB5 fun j hj => by have := hp _ hj; omega
  refine put4_ret (W := w5.setCell ⟨w3.heap.size, 1, none⟩ (.slice A' l.length n')) Tryd.results34 ((set_oth _ _ _ _ hne).trans hr5) (.int .i64 st) (.slice A' l.length n') (.string b) (.bool cl) rfl rfl ?_
  refine ⟨⟨A', n', rfl, (hrow.set _ _ _ fun a e => by have := hge' a e; omega).put4 _ _ _ _ _ fun a e => by have := hge' a e; omega, HHL.out, fun a e => by have := hge' a e; omega⟩, (hF5.set _ _ _ (.inl (by omega))).put4 _ _ _ _ _ (by omega), h1.put4 (h1.set hS5 _ _ _ fun q => by have := hp _ q; omega) _ _ _ _ _ HN.out.2⟩

set_option maxRecDepth 100000 in
set_option maxHeartbeats 4000000 in
theorem ask_gone {P : Nat → Prop} {S0 S1 : World → Prop} {w0 : World} {hv u0 u1 u2 u3 u4 u5 u6 u7 u8 u9 u10 u11 u12 : Value}
    (h : Hd P S0 S1 (.agg #[u0, u1, u2, u3, u4, u5, u6, u7, u8, u9, u10, u11, u12]) .gone w0 hv) (hp : ∀ j, P j → j < w0.heap.size) (h0 : Of P S0) (w : World) (hw : Frm P w0 w) (hs : S0 w) :
    Calls Tryd.prog 34 #[hv, .agg #[u0, u1, u2, u3, u4, u5, u6, u7, u8, u9, u10, u11, u12]] w fun e w' => Ends P w.heap.size .gone e w' ∧ Frm P w w' ∧ S1 w' := by
  obtain ⟨k, caps, rfl, hen, hk⟩ := h
  have hen' := hen (#[.agg #[u0, u1, u2, u3, u4, u5, u6, u7, u8, u9, u10, u11, u12]] ++ caps)
  have hb1 := (Below.refl w.heap.size w).alloc (Nat.le_refl _) (.cells #[u0, u1, u2, u3, u4, u5, u6, u7, u8, u9, u10, u11, u12] 30)
  have hb2 := hb1.alloc hb1.size (.cells #[.int .i64 0, .slice none 0 0, .string ⟨#[]⟩, .bool false] 32)
  have hkc : ((w.alloc (.cells #[u0, u1, u2, u3, u4, u5, u6, u7, u8, u9, u10, u11, u12] 30)).alloc (.cells #[.int .i64 0, .slice none 0 0, .string ⟨#[]⟩, .bool false] 32)).heap[w.heap.size]? = some (.cells #[u0, u1, u2, u3, u4, u5, u6, u7, u8, u9, u10, u11, u12] 30 (0, 0)) :=
    (Below.heap_alloc _ _ _ (by simp)).trans (heap_alloc_new w _)
  have c0 := blk_cell hkc 0; have c1 := blk_cell hkc 1; have c2 := blk_cell hkc 2; have c3 := blk_cell hkc 3; have c4 := blk_cell hkc 4; have c5 := blk_cell hkc 5; have c6 := blk_cell hkc 6
  have c7 := blk_cell hkc 7; have c8 := blk_cell hkc 8; have c9 := blk_cell hkc 9; have c10 := blk_cell hkc 10; have c11 := blk_cell hkc 11; have c12 := blk_cell hkc 12
  simp only [List.getElem?_toArray, List.getElem?_cons_zero, List.getElem?_cons_succ] at c0 c1 c2 c3 c4 c5 c6 c7 c8 c9 c10 c11 c12
  have HB := Lib.hid hb2
  clear hkc hb1 hb2
  generalize hw2 : (w.alloc (.cells #[u0, u1, u2, u3, u4, u5, u6, u7, u8, u9, u10, u11, u12] 30)).alloc (.cells #[.int .i64 0, .slice none 0 0, .string ⟨#[]⟩, .bool false] 32) = w2 at *
  have HK := Lib.hid (hk w2 (hw.on HB.out) (h0.on hs HB.out fun j hj => Nat.lt_of_lt_of_le (hp j hj) hw.size))
  clear hk
  have hfe := fn_eq k caps
  go_enter Tryd.func34, Tryd.ntmps34
  go_wp2_with fail
  go_at_fn k
  refine HK.out.mono ?_
  rintro e w3 ⟨⟨u, pv, rfl⟩, hf3, hs3⟩
  have HX := Lib.hid (And.intro hf3 hs3)
  clear hf3 hs3 c0 c1 c2 c3 c4 c5 c6 c7 c8 c9 c10 c11 c12 HK hen hen' hfe
  go_wp2_with fail
  exact ⟨rfl, ⟨u, pv, rfl⟩, (Frm.of HB.out).trans HX.out.1, HX.out.2⟩

theorem ask_any {P : Nat → Prop} {S0 S1 : World → Prop} {o : Out} {w0 : World} {hv u0 u1 u2 u3 u4 u5 u6 u7 u8 u9 u10 u11 u12 : Value}
    (h : Hd P S0 S1 (.agg #[u0, u1, u2, u3, u4, u5, u6, u7, u8, u9, u10, u11, u12]) o w0 hv) (hp : ∀ j, P j → j < w0.heap.size) (h0 : Of P S0) (h1 : Of P S1) (w : World) (hw : Frm P w0 w) (hs : S0 w) :
    Calls Tryd.prog 34 #[hv, .agg #[u0, u1, u2, u3, u4, u5, u6, u7, u8, u9, u10, u11, u12]] w fun e w' => Ends P w.heap.size o e w' ∧ Frm P w w' ∧ S1 w' := by
  cases o with
  | ans st l b cl => exact ask_ans h hp h0 h1 w hw hs
  | gone => exact ask_gone h hp h0 w hw hs
end Go.Proofs.YtmncchgifgjhgaaDoor
