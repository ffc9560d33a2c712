/- The closure of Mark. -/
import Derived.Test.YtmncchgifgjhgaaDoorCg
import Derived.Deep.RegionWith
namespace Go.Proofs.YtmncchgifgjhgaaDoor
open Go.RowKit Go.Shelf

section
variable {P : Program} (w : World)
theorem run_append_none (t ty e : TypeId) (i : TypeInfo) (ht : P.underlying t = some (.slice e)) (hi : P.info? e = some i) (A : Option Addr) (n cap c : Nat) (h : n ≤ cap) :
    (Builtin.append_ #[t, t] ty #[.slice A n cap, .slice none 0 c]).run P w = .ok (.slice A n cap) w := by
  cases A <;> simp [Builtin.append_, run_underlying ht, sizeOf, typeInfo, hi, Builtin.lenOf, Builtin.firstCells, storeCells, h]
/-- An append at a step of a region that draws, of however many elements (none, too), to a row of the call's own. -/
theorem step_append_row {ops : Array Oper} {o : Oper} {a : Act} {K : Act → World → Prop} {Q : Exit → Act → World → Prop} {E : Prop} (hgd : o.guard = none) (s x : Operand) (t : TypeId)
    (ho : o.op = .call { callee := .builtin .append, args := #[s, x], argTypes := #[t, t] })
    (base : Nat) (e : TypeId) (i : TypeInfo) (z : Value) (size bytes : Nat) (ht : P.underlying t = some (.slice e)) (hi : P.info? e = some i) (hz : i.zero = some z)
    (hsize : i.size = size) (hby : i.bytes = bytes) (hzs : z.cells.size = size) (hsz : 0 < size)
    (n : Nat) (xs : List Value) (g0 cap0 : Nat) (hs : a.eval s = .slice (some ⟨g0, 0, none⟩) n cap0) (hown : w.ownsRow base e size (.slice (some ⟨g0, 0, none⟩) n cap0) n xs) (hn0 : 0 < n)
    (A : Option Addr) (m c : Nat) (news : List Value) (hx : a.eval x = .slice A m c) (hr : Rd w w.heap.size size A m news) (h1 : ∀ u ∈ news, u.oneCell' = true)
    (h63 : n + m ≤ maxLen) (hbytes : (n + m) * bytes ≤ 140737488355328) (hbase : base ≤ w.heap.size)
    (h : ∀ g cap w', w'.ownsRow base e size (.slice (some ⟨g, 0, none⟩) (n + m) cap) (n + m) (xs ++ news) → Below base w w' → K (a.put o.dst (.slice (some ⟨g, 0, none⟩) (n + m) cap)) w') :
    if Region.wanted o (yielded ops a.tmps) = true then Oper.wp P o a w K Q else E := by
  have hw : Region.wanted o (yielded ops a.tmps) = true := by simp [Region.wanted, hgd]
  rw [if_pos hw]
  have hge : base ≤ g0 := (hown.lt g0 rfl).1
  have hcap : n ≤ cap0 := by
    rcases hown.2 with ⟨e, _⟩ | ⟨_, _, _, e, _, _, hc, _⟩
    · cases e
    · cases e; exact hc
  unfold Oper.wp execOp
  simp only [ho, resolve, invoke, builtin, Sem.run_bind, Sem.run_pure, Result.andThen_ok, List.map_toArray, List.map_cons, List.map_nil, hs, hx]
  cases A with
  | none =>
    have hm : m = 0 := by
      refine Nat.eq_zero_of_not_pos fun hp => ?_
      obtain ⟨_, e, _⟩ := hr.2 (by omega)
      cases e
    subst hm
    have hnil : news = [] := List.eq_nil_of_length_eq_zero (by rw [hr.1]; simp)
    subst hnil
    rw [run_append_none w t o.type e i ht hi _ n cap0 c hcap]
    exact h g0 cap0 w (by simpa using hown) (Below.refl _ _)
  | some ad =>
    obtain ⟨v', w', hr', h2, h3, _, _⟩ := run_append_own_at (P := P) w base t o.type e i z size bytes ht hi hz hsize hby hzs hsz _ n xs hown ad m c news hr.1 (fun j u hu => by
      obtain ⟨a', e', _, hc⟩ := hr.2 (fun h0 => by
        have h9 := hr.1
        rw [h0] at h9
        have h8 : news = [] := List.eq_nil_of_length_eq_zero (by simpa using h9)
        rw [h8] at hu
        simp at hu)
      cases e'
      exact hc j u hu) h1 h63 hbytes hbase
    rw [hr']
    rcases h2.2 with ⟨e1, e2⟩ | ⟨g, cap, cur, e1, _⟩
    · omega
    · subst e1
      exact h g cap w' h2 ((Below.refl base w).grown h3 hbase fun k hk => by simp [Value.ownBlock] at hk; omega)
end

theorem fldCells_app (a b : List Fld) : fldCells (a ++ b) = fldCells a ++ fldCells b := by simp [fldCells]

set_option maxRecDepth 100000 in
set_option maxHeartbeats 4000000 in
theorem mark_hd_t {P : Nat → Prop} {S0 S1 : World → Prop} {w0 : World} {hv : Value} {g : Nat} {u0 u1 u2 u3 u8 u9 u10 u11 u12 : Value} {cc : Bool} {cn sq vs st : Int} {l : List Fld} {b : ByteArray} (hc : I64 cn) (hs5 : I64 sq) (hvs : I64 vs) (hgb : GB w0) (hP : ∀ j, P j → 4 ≤ j) (hll : l.length + 2 ≤ 100)
    (h : Hd P S0 S1 (.agg #[u0, u1, u2, u3, .bool cc, .int .i64 cn, .int .i64 sq, .int .i64 vs, u8, u9, u10, u11, u12]) (.ans st l b true) w0 hv) (hp : ∀ j, P j → j < w0.heap.size) (h0 : Of P S0) (h1 : Of P S1) (hg : g < w0.heap.size) (hgp : ¬ P g) (hbx : w0.cell? ⟨g, 0, none⟩ = some hv) :
    Hd P S0 S1 (.agg #[u0, u1, u2, u3, .bool cc, .int .i64 cn, .int .i64 sq, .int .i64 vs, u8, u9, u10, u11, u12]) (.ans st (markL cn sq vs ++ l) b (true || cc)) w0 (.func (.func 45) #[] #[.pointer (some ⟨g, 0, none⟩)]) := by
  refine ⟨45, _, rfl, enters_of Tryd.func45 (by kernel_rfl) rfl, fun w hw hs => ?_⟩
  show Calls Tryd.prog 45 #[.agg #[u0, u1, u2, u3, .bool cc, .int .i64 cn, .int .i64 sq, .int .i64 vs, u8, u9, u10, u11, u12], .pointer (some ⟨g, 0, none⟩)] w _
  have hb1 := (Below.refl w.heap.size w).alloc (Nat.le_refl _) (.cells #[u0, u1, u2, u3, .bool cc, .int .i64 cn, .int .i64 sq, .int .i64 vs, u8, u9, u10, u11, u12] 30)
  have hb2 := hb1.alloc hb1.size (.cells #[.int .i64 0, .slice none 0 0, .string ⟨#[]⟩, .bool false] 32)
  have hkc : ((w.alloc (.cells #[u0, u1, u2, u3, .bool cc, .int .i64 cn, .int .i64 sq, .int .i64 vs, u8, u9, u10, u11, u12] 30)).alloc (.cells #[.int .i64 0, .slice none 0 0, .string ⟨#[]⟩, .bool false] 32)).heap[w.heap.size]? = some (.cells #[u0, u1, u2, u3, .bool cc, .int .i64 cn, .int .i64 sq, .int .i64 vs, u8, u9, u10, u11, u12] 30 (0, 0)) :=
    (Below.heap_alloc _ _ _ (by simp)).trans (heap_alloc_new w _)
  have hkr : ((w.alloc (.cells #[u0, u1, u2, u3, .bool cc, .int .i64 cn, .int .i64 sq, .int .i64 vs, u8, u9, u10, u11, u12] 30)).alloc (.cells #[.int .i64 0, .slice none 0 0, .string ⟨#[]⟩, .bool false] 32)).heap[w.heap.size + 1]? = some (.cells #[.int .i64 0, .slice none 0 0, .string ⟨#[]⟩, .bool false] 32 (0, 0)) := by
    have := heap_alloc_new (w.alloc (.cells #[u0, u1, u2, u3, .bool cc, .int .i64 cn, .int .i64 sq, .int .i64 vs, u8, u9, u10, u11, u12] 30)) (.cells #[.int .i64 0, .slice none 0 0, .string ⟨#[]⟩, .bool false] 32)
    simpa using this
  have c0 := blk_cell hkc 0; have c1 := blk_cell hkc 1; have c2 := blk_cell hkc 2; have c3 := blk_cell hkc 3; have c4 := blk_cell hkc 4; have c5 := blk_cell hkc 5; have c6 := blk_cell hkc 6
  have c7 := blk_cell hkc 7; have c8 := blk_cell hkc 8; have c9 := blk_cell hkc 9; have c10 := blk_cell hkc 10; have c11 := blk_cell hkc 11; have c12 := blk_cell hkc 12
  simp only [List.getElem?_toArray, List.getElem?_cons_zero, List.getElem?_cons_succ] at c0 c1 c2 c3 c4 c5 c6 c7 c8 c9 c10 c11 c12
  have HC := Lib.hid hkc; have HR := Lib.hid hkr; have HB := Lib.hid hb2
  have hnp := hp
  have hn3 : ¬ P (w.heap.size + 1) := fun q => by have := hp _ q; have := hw.size; omega
  have hx : (((w.alloc (.cells #[u0, u1, u2, u3, .bool cc, .int .i64 cn, .int .i64 sq, .int .i64 vs, u8, u9, u10, u11, u12] 30)).alloc (.cells #[.int .i64 0, .slice none 0 0, .string ⟨#[]⟩, .bool false] 32)).cell? ⟨g, 0, none⟩) = some hv := (hb2.cell (p := ⟨g, 0, none⟩) (Nat.lt_of_lt_of_le hg hw.size)).trans ((World.cell?_of_block (hw.block g hg hgp)).trans hbx)
  clear hkc hkr hb1 hb2
  generalize hw2 : (w.alloc (.cells #[u0, u1, u2, u3, .bool cc, .int .i64 cn, .int .i64 sq, .int .i64 vs, u8, u9, u10, u11, u12] 30)).alloc (.cells #[.int .i64 0, .slice none 0 0, .string ⟨#[]⟩, .bool false] 32) = w2 at *
  have HK := Lib.hid (ask_any h hp h0 h1 w2 (hw.on HB.out) (h0.on hs HB.out fun j hj => Nat.lt_of_lt_of_le (hp j hj) hw.size))
  have HGB := Lib.hid (hgb.below (hw.below hgb.big hP) (Nat.le_refl _))
  obtain ⟨i0, hi, hz0, hz1, hz2⟩ := info_parts Tryd.info42
  have HI := Lib.hid (And.intro hi (And.intro hz0 (And.intro hz1 hz2)))
  clear h hbx hs hgb hi hz0 hz1 hz2
  go_enter Tryd.func45, Tryd.ntmps45
  go_wp2_with fail
  refine HK.out.mono ?_
  rintro e w3 ⟨⟨A, n, rfl, hrow, hl, hge⟩, hf3, hs3⟩
  clear c0 c1 c2 c3 c4 c5 c6 c7 c8 c9 c10 c11 c12 HK hx
  have hw1 : w.heap.size < w2.heap.size := Nat.lt_of_succ_lt (blk_lt HR.out)
  have hb4 := (Below.refl w3.heap.size w3).alloc (Nat.le_refl _) (.cells #[.int .i64 st, .slice A l.length n, .string b, .bool true] 32)
  have hk4 := heap_alloc_new w3 (.cells #[.int .i64 st, .slice A l.length n, .string b, .bool true] 32)
  have hn2 : ¬ P w.heap.size := fun q => by have := hp _ q; have := hw.size; omega
  have hkq := (hb4.block _ (Nat.lt_of_lt_of_le hw1 hf3.size)).trans ((hf3.block _ hw1 hn2).trans HC.out)
  have hkr := (hb4.block _ (Nat.lt_of_lt_of_le (blk_lt HR.out) hf3.size)).trans ((hf3.block _ (blk_lt HR.out) hn3).trans HR.out)
  have hf4 := ((Frm.of HB.out).trans hf3).on hb4
  have hs4 := h1.on hs3 hb4 fun j hj => by have := hp _ hj; have := hf4.size; have := hw.size; have := hf3.size; omega
  have hrow4 := hrow.frm (Frm.of hb4)
  have hg4 := blk_lt hk4
  have h34 : w.heap.size + 1 < w3.heap.size := Nat.lt_of_lt_of_le (blk_lt HR.out) hf3.size
  have c0 := blk_cell hkq 0; have c1 := blk_cell hkq 1; have c2 := blk_cell hkq 2; have c3 := blk_cell hkq 3; have c4 := blk_cell hkq 4; have c5 := blk_cell hkq 5; have c6 := blk_cell hkq 6; have c7 := blk_cell hkq 7; have c8 := blk_cell hkq 8; have c9 := blk_cell hkq 9; have c10 := blk_cell hkq 10; have c11 := blk_cell hkq 11; have c12 := blk_cell hkq 12
  simp only [List.getElem?_toArray, List.getElem?_cons_zero, List.getElem?_cons_succ] at c0 c1 c2 c3 c4 c5 c6 c7 c8 c9 c10 c11 c12
  have x0 := blk_cell hk4 0; have x1 := blk_cell hk4 1; have x2 := blk_cell hk4 2; have x3 := blk_cell hk4 3
  simp only [List.getElem?_toArray, List.getElem?_cons_zero, List.getElem?_cons_succ] at x0 x1 x2 x3
  have HQ := Lib.hid (And.intro hkq (And.intro hkr (And.intro hk4 (And.intro hf4 (And.intro hs4 (And.intro hrow4 hge))))))
  have HN := Lib.hid (And.intro h34 hg4)
  have HLL := Lib.hid hll
  clear hkq hkr hk4 hf4 hs4 hrow4 hge hb4 hrow hf3 hs3 hn2 hw1 h34 hg4 hll
  go_wp2_with fail
  generalize hw4 : w3.alloc (.cells #[.int .i64 st, .slice A l.length n, .string b, .bool true] 32) = w4 at *
  have HGB4 := Lib.hid (HGB.out.below (HQ.out.2.2.2.1.below HGB.out.big hP) (Nat.le_refl _))
  have HM := Lib.hid (fun wx (hb : Below w4.heap.size w4 wx) => marks_any (u0 := u0) (u1 := u1) (u2 := u2) (u3 := u3) (u4 := .bool cc) (u8 := u8) (u9 := u9) (u10 := u10) (u11 := u11) (u12 := u12) hc hs5 hvs wx (HGB4.out.on hb))
  have HD := Lib.hid (Below.refl w4.heap.size w4).drew
  have HXC : Hid (∀ wx, Below w4.heap.size w4 wx → wx.cell? ⟨w3.heap.size, 1, none⟩ = some (.slice A l.length n) ∧ wx.frozen? ⟨w3.heap.size, 1, none⟩ = false ∧ Rd wx wx.heap.size 2 A l.length (fldCells l)) := fun wx hb => by
    have h := (hb.block _ (blk_lt HQ.out.2.2.1)).trans HQ.out.2.2.1
    exact ⟨blk_cell h 1, blk_free h 1, (HQ.out.2.2.2.2.2.1.frm (Frm.of hb)).rd⟩
  have HML : Hid (fldCells (markL cn sq vs ++ l) = fldCells (markL cn sq vs) ++ fldCells l) := fldCells_app _ _
  have HMN : Hid ((markL cn sq vs ++ l).length = 2 + l.length) := by show _ = _; rw [List.length_append]; rfl
  have HO := Lib.hid (fld_one l)
  go_region_law ((first
    | (go_simp; go_at_call 46; refine (HM.out _ HD.out).mono ?_; rintro e w5 ⟨g5, rfl, hown5, hb5⟩
       have hb5' := HD.out.trans (hb5.mono HD.out.size)
       have y1 := (HXC.out _ hb5').1)
    | (refine step_append_row _ (by rfl) (.tmp 9) (.tmp 11) 22 (by rfl) w4.heap.size 42 i0 (.agg #[.string ⟨#[]⟩, .string ⟨#[]⟩]) 2 32 Tryd.underlying22 HI.out.1 HI.out.2.1 HI.out.2.2.1 HI.out.2.2.2 rfl (by decide) 2 _ g5 2 (by rfl) hown5 (by decide) A l.length n (fldCells l) (by rfl) (HXC.out _ hb5').2.2 HO.out (by have := HLL.out; unfold maxLen; omega) (by have := HLL.out; omega) hb5'.size ?_
       intro g6 cap6 w6 hown6 hb6
       have hb6' := hb5'.trans hb6
       have y2 := (HXC.out _ hb6').1
       have y3 := (HXC.out _ hb6').2.1)))
  all_goals
    obtain ⟨hkq, hkr, hk4, hf4, hs4, _, _⟩ := HQ.out
    have k6 := (hb6'.block _ (blk_lt hk4)).trans hk4
    have k6c := (hb6'.block _ (blk_lt hkq)).trans hkq
    have k6r := (hb6'.block _ (blk_lt hkr)).trans hkr
    have hne1 : w.heap.size ≠ w3.heap.size := by have := HN.out.1; omega
    have hne2 : w.heap.size + 1 ≠ w3.heap.size := by have := HN.out.1; omega
    have k7 := set_same (v := .slice (some ⟨g6, 0, none⟩) (2 + l.length) cap6) 1 k6
    have k7c := (set_oth w6 ⟨w3.heap.size, 1, none⟩ (.slice (some ⟨g6, 0, none⟩) (2 + l.length) cap6) _ hne1).trans k6c
    have k7r := (set_oth w6 ⟨w3.heap.size, 1, none⟩ (.slice (some ⟨g6, 0, none⟩) (2 + l.length) cap6) _ hne2).trans k6r
    have hg6 : w4.heap.size ≤ g6 := (hown6.lt g6 rfl).1
    have hnp6 : ∀ j, w.heap.size ≤ j → ¬ P j := fun j hj q => by have := hp _ q; have := hw.size; omega
    have h34 := HN.out.1
    have h44 := blk_lt hk4
    have hrow7 : Row P w6 (some ⟨g6, 0, none⟩) (markL cn sq vs ++ l) := Row.of (by
      obtain ⟨A7, c7, e7, h7⟩ := Rd.own hown6
      cases e7
      rw [HMN.out, HML.out]
      exact h7) fun a e => by cases e; exact hnp6 _ (by show w.heap.size ≤ g6; omega)
    have hf7 := (hf4.on hb6').set w3.heap.size 1 (.slice (some ⟨g6, 0, none⟩) (2 + l.length) cap6) (.inl (by omega))
    have hs7 := h1.set (h1.on hs4 hb6' fun j hj => by have := hp _ hj; have := hw.size; omega) w3.heap.size 1 (.slice (some ⟨g6, 0, none⟩) (2 + l.length) cap6) (hnp6 _ (by omega))
    have hrow8 := hrow7.set w3.heap.size 1 (.slice (some ⟨g6, 0, none⟩) (2 + l.length) cap6) fun a e => by cases e; show g6 ≠ _; omega
    generalize w6.setCell ⟨w3.heap.size, 1, none⟩ (.slice (some ⟨g6, 0, none⟩) (2 + l.length) cap6) = w7 at *
    replace k7 : w7.heap[w3.heap.size]? = some (.cells #[.int .i64 st, .slice (some ⟨g6, 0, none⟩) (2 + l.length) cap6, .string b, .bool true] 32 (0, 0)) := k7
    have HF := Lib.hid (And.intro hf7 (And.intro hs7 (And.intro hrow8 (And.intro k7r hg6))))
    have v0 := blk_cell k7 0; have v1 := blk_cell k7 1; have v2 := blk_cell k7 2; have v3 := blk_cell k7 3
    have t0 := blk_free k7 0; have t1 := blk_free k7 1; have t2 := blk_free k7 2; have t3 := blk_free k7 3
    have r0 := blk_cell k7r 0; have r1 := blk_cell k7r 1; have r2 := blk_cell k7r 2; have r3 := blk_cell k7r 3
    have z0 := blk_free k7r 0; have z1 := blk_free k7r 1; have z2 := blk_free k7r 2; have z3 := blk_free k7r 3
    have d4 := blk_cell k7c 4
    simp only [List.getElem?_toArray, List.getElem?_cons_zero, List.getElem?_cons_succ] at v0 v1 v2 v3 r0 r1 r2 r3 d4
    clear hkq hkr hk4 hf4 hs4 k6 k6c k6r k7 k7c k7r hb6' hb6 hb5 hb5' hown5 hown6 hnp6 hrow7 hf7 hs7 hrow8 y1 y2 y3 hg6 h34 h44 c0 c1 c2 c3 c4 c5 c6 c7 c8 c9 c10 c11 c12 x0 x1 x2 x3
    generalize hq : 2 + l.length = q at *
    go_wp2_with fail
    subst hq
    obtain ⟨hf7, hs7, hrow8, k7r, hg6⟩ := HF.out
    have h34 := HN.out.1
    have h44 := blk_lt HQ.out.2.2.1
    have hnn := hw.size
    refine put4_ret (W := w7.setCell ⟨w3.heap.size, 3, none⟩ (.bool (true || cc))) Tryd.results45 ((set_oth _ _ _ _ hne2).trans k7r) (.int .i64 st) (.slice (some ⟨g6, 0, none⟩) (2 + l.length) cap6) (.string b) (.bool (true || cc)) rfl rfl ?_
    refine ⟨⟨some ⟨g6, 0, none⟩, cap6, by rw [HMN.out], (hrow8.set _ _ _ fun a e => by cases e; show g6 ≠ _; omega).put4 _ _ _ _ _ fun a e => by cases e; show g6 ≠ _; omega, by rw [HMN.out]; have := HLL.out; omega, fun a e => Nat.zero_le _⟩, (hf7.set _ _ _ (.inl (by omega))).put4 _ _ _ _ _ (by omega), h1.put4 (h1.set hs7 _ _ _ fun q => by have := hp _ q; omega) _ _ _ _ _ hn3⟩

set_option maxRecDepth 100000 in
set_option maxHeartbeats 4000000 in
theorem mark_hd_f {P : Nat → Prop} {S0 S1 : World → Prop} {w0 : World} {hv : Value} {g : Nat} {u0 u1 u2 u3 u8 u9 u10 u11 u12 : Value} {cc : Bool} {cn sq vs st : Int} {l : List Fld} {b : ByteArray} (hc : I64 cn) (hs5 : I64 sq) (hvs : I64 vs) (hgb : GB w0) (hP : ∀ j, P j → 4 ≤ j) (hll : l.length + 2 ≤ 100)
    (h : Hd P S0 S1 (.agg #[u0, u1, u2, u3, .bool cc, .int .i64 cn, .int .i64 sq, .int .i64 vs, u8, u9, u10, u11, u12]) (.ans st l b false) w0 hv) (hp : ∀ j, P j → j < w0.heap.size) (h0 : Of P S0) (h1 : Of P S1) (hg : g < w0.heap.size) (hgp : ¬ P g) (hbx : w0.cell? ⟨g, 0, none⟩ = some hv) :
    Hd P S0 S1 (.agg #[u0, u1, u2, u3, .bool cc, .int .i64 cn, .int .i64 sq, .int .i64 vs, u8, u9, u10, u11, u12]) (.ans st (markL cn sq vs ++ l) b (false || cc)) w0 (.func (.func 45) #[] #[.pointer (some ⟨g, 0, none⟩)]) := by
  refine ⟨45, _, rfl, enters_of Tryd.func45 (by kernel_rfl) rfl, fun w hw hs => ?_⟩
  show Calls Tryd.prog 45 #[.agg #[u0, u1, u2, u3, .bool cc, .int .i64 cn, .int .i64 sq, .int .i64 vs, u8, u9, u10, u11, u12], .pointer (some ⟨g, 0, none⟩)] w _
  have hb1 := (Below.refl w.heap.size w).alloc (Nat.le_refl _) (.cells #[u0, u1, u2, u3, .bool cc, .int .i64 cn, .int .i64 sq, .int .i64 vs, u8, u9, u10, u11, u12] 30)
  have hb2 := hb1.alloc hb1.size (.cells #[.int .i64 0, .slice none 0 0, .string ⟨#[]⟩, .bool false] 32)
  have hkc : ((w.alloc (.cells #[u0, u1, u2, u3, .bool cc, .int .i64 cn, .int .i64 sq, .int .i64 vs, u8, u9, u10, u11, u12] 30)).alloc (.cells #[.int .i64 0, .slice none 0 0, .string ⟨#[]⟩, .bool false] 32)).heap[w.heap.size]? = some (.cells #[u0, u1, u2, u3, .bool cc, .int .i64 cn, .int .i64 sq, .int .i64 vs, u8, u9, u10, u11, u12] 30 (0, 0)) :=
    (Below.heap_alloc _ _ _ (by simp)).trans (heap_alloc_new w _)
  have hkr : ((w.alloc (.cells #[u0, u1, u2, u3, .bool cc, .int .i64 cn, .int .i64 sq, .int .i64 vs, u8, u9, u10, u11, u12] 30)).alloc (.cells #[.int .i64 0, .slice none 0 0, .string ⟨#[]⟩, .bool false] 32)).heap[w.heap.size + 1]? = some (.cells #[.int .i64 0, .slice none 0 0, .string ⟨#[]⟩, .bool false] 32 (0, 0)) := by
    have := heap_alloc_new (w.alloc (.cells #[u0, u1, u2, u3, .bool cc, .int .i64 cn, .int .i64 sq, .int .i64 vs, u8, u9, u10, u11, u12] 30)) (.cells #[.int .i64 0, .slice none 0 0, .string ⟨#[]⟩, .bool false] 32)
    simpa using this
  have c0 := blk_cell hkc 0; have c1 := blk_cell hkc 1; have c2 := blk_cell hkc 2; have c3 := blk_cell hkc 3; have c4 := blk_cell hkc 4; have c5 := blk_cell hkc 5; have c6 := blk_cell hkc 6
  have c7 := blk_cell hkc 7; have c8 := blk_cell hkc 8; have c9 := blk_cell hkc 9; have c10 := blk_cell hkc 10; have c11 := blk_cell hkc 11; have c12 := blk_cell hkc 12
  simp only [List.getElem?_toArray, List.getElem?_cons_zero, List.getElem?_cons_succ] at c0 c1 c2 c3 c4 c5 c6 c7 c8 c9 c10 c11 c12
  have HC := Lib.hid hkc; have HR := Lib.hid hkr; have HB := Lib.hid hb2
  have hnp := hp
  have hn3 : ¬ P (w.heap.size + 1) := fun q => by have := hp _ q; have := hw.size; omega
  have hx : (((w.alloc (.cells #[u0, u1, u2, u3, .bool cc, .int .i64 cn, .int .i64 sq, .int .i64 vs, u8, u9, u10, u11, u12] 30)).alloc (.cells #[.int .i64 0, .slice none 0 0, .string ⟨#[]⟩, .bool false] 32)).cell? ⟨g, 0, none⟩) = some hv := (hb2.cell (p := ⟨g, 0, none⟩) (Nat.lt_of_lt_of_le hg hw.size)).trans ((World.cell?_of_block (hw.block g hg hgp)).trans hbx)
  clear hkc hkr hb1 hb2
  generalize hw2 : (w.alloc (.cells #[u0, u1, u2, u3, .bool cc, .int .i64 cn, .int .i64 sq, .int .i64 vs, u8, u9, u10, u11, u12] 30)).alloc (.cells #[.int .i64 0, .slice none 0 0, .string ⟨#[]⟩, .bool false] 32) = w2 at *
  have HK := Lib.hid (ask_any h hp h0 h1 w2 (hw.on HB.out) (h0.on hs HB.out fun j hj => Nat.lt_of_lt_of_le (hp j hj) hw.size))
  have HGB := Lib.hid (hgb.below (hw.below hgb.big hP) (Nat.le_refl _))
  obtain ⟨i0, hi, hz0, hz1, hz2⟩ := info_parts Tryd.info42
  have HI := Lib.hid (And.intro hi (And.intro hz0 (And.intro hz1 hz2)))
  clear h hbx hs hgb hi hz0 hz1 hz2
  go_enter Tryd.func45, Tryd.ntmps45
  go_wp2_with fail
  refine HK.out.mono ?_
  rintro e w3 ⟨⟨A, n, rfl, hrow, hl, hge⟩, hf3, hs3⟩
  clear c0 c1 c2 c3 c4 c5 c6 c7 c8 c9 c10 c11 c12 HK hx
  have hw1 : w.heap.size < w2.heap.size := Nat.lt_of_succ_lt (blk_lt HR.out)
  have hb4 := (Below.refl w3.heap.size w3).alloc (Nat.le_refl _) (.cells #[.int .i64 st, .slice A l.length n, .string b, .bool false] 32)
  have hk4 := heap_alloc_new w3 (.cells #[.int .i64 st, .slice A l.length n, .string b, .bool false] 32)
  have hn2 : ¬ P w.heap.size := fun q => by have := hp _ q; have := hw.size; omega
  have hkq := (hb4.block _ (Nat.lt_of_lt_of_le hw1 hf3.size)).trans ((hf3.block _ hw1 hn2).trans HC.out)
  have hkr := (hb4.block _ (Nat.lt_of_lt_of_le (blk_lt HR.out) hf3.size)).trans ((hf3.block _ (blk_lt HR.out) hn3).trans HR.out)
  have hf4 := ((Frm.of HB.out).trans hf3).on hb4
  have hs4 := h1.on hs3 hb4 fun j hj => by have := hp _ hj; have := hf4.size; have := hw.size; have := hf3.size; omega
  have hrow4 := hrow.frm (Frm.of hb4)
  have hg4 := blk_lt hk4
  have h34 : w.heap.size + 1 < w3.heap.size := Nat.lt_of_lt_of_le (blk_lt HR.out) hf3.size
  have c0 := blk_cell hkq 0; have c1 := blk_cell hkq 1; have c2 := blk_cell hkq 2; have c3 := blk_cell hkq 3; have c4 := blk_cell hkq 4; have c5 := blk_cell hkq 5; have c6 := blk_cell hkq 6; have c7 := blk_cell hkq 7; have c8 := blk_cell hkq 8; have c9 := blk_cell hkq 9; have c10 := blk_cell hkq 10; have c11 := blk_cell hkq 11; have c12 := blk_cell hkq 12
  simp only [List.getElem?_toArray, List.getElem?_cons_zero, List.getElem?_cons_succ] at c0 c1 c2 c3 c4 c5 c6 c7 c8 c9 c10 c11 c12
  have x0 := blk_cell hk4 0; have x1 := blk_cell hk4 1; have x2 := blk_cell hk4 2; have x3 := blk_cell hk4 3
  simp only [List.getElem?_toArray, List.getElem?_cons_zero, List.getElem?_cons_succ] at x0 x1 x2 x3
  have HQ := Lib.hid (And.intro hkq (And.intro hkr (And.intro hk4 (And.intro hf4 (And.intro hs4 (And.intro hrow4 hge))))))
  have HN := Lib.hid (And.intro h34 hg4)
  have HLL := Lib.hid hll
  clear hkq hkr hk4 hf4 hs4 hrow4 hge hb4 hrow hf3 hs3 hn2 hw1 h34 hg4 hll
  go_wp2_with fail
  generalize hw4 : w3.alloc (.cells #[.int .i64 st, .slice A l.length n, .string b, .bool false] 32) = w4 at *
  have HGB4 := Lib.hid (HGB.out.below (HQ.out.2.2.2.1.below HGB.out.big hP) (Nat.le_refl _))
  have HM := Lib.hid (fun wx (hb : Below w4.heap.size w4 wx) => marks_any (u0 := u0) (u1 := u1) (u2 := u2) (u3 := u3) (u4 := .bool cc) (u8 := u8) (u9 := u9) (u10 := u10) (u11 := u11) (u12 := u12) hc hs5 hvs wx (HGB4.out.on hb))
  have HD := Lib.hid (Below.refl w4.heap.size w4).drew
  have HXC : Hid (∀ wx, Below w4.heap.size w4 wx → wx.cell? ⟨w3.heap.size, 1, none⟩ = some (.slice A l.length n) ∧ wx.frozen? ⟨w3.heap.size, 1, none⟩ = false ∧ Rd wx wx.heap.size 2 A l.length (fldCells l)) := fun wx hb => by
    have h := (hb.block _ (blk_lt HQ.out.2.2.1)).trans HQ.out.2.2.1
    exact ⟨blk_cell h 1, blk_free h 1, (HQ.out.2.2.2.2.2.1.frm (Frm.of hb)).rd⟩
  have HML : Hid (fldCells (markL cn sq vs ++ l) = fldCells (markL cn sq vs) ++ fldCells l) := fldCells_app _ _
  have HMN : Hid ((markL cn sq vs ++ l).length = 2 + l.length) := by show _ = _; rw [List.length_append]; rfl
  have HO := Lib.hid (fld_one l)
  go_region_law ((first
    | (go_simp; go_at_call 46; refine (HM.out _ HD.out).mono ?_; rintro e w5 ⟨g5, rfl, hown5, hb5⟩
       have hb5' := HD.out.trans (hb5.mono HD.out.size)
       have y1 := (HXC.out _ hb5').1)
    | (refine step_append_row _ (by rfl) (.tmp 9) (.tmp 11) 22 (by rfl) w4.heap.size 42 i0 (.agg #[.string ⟨#[]⟩, .string ⟨#[]⟩]) 2 32 Tryd.underlying22 HI.out.1 HI.out.2.1 HI.out.2.2.1 HI.out.2.2.2 rfl (by decide) 2 _ g5 2 (by rfl) hown5 (by decide) A l.length n (fldCells l) (by rfl) (HXC.out _ hb5').2.2 HO.out (by have := HLL.out; unfold maxLen; omega) (by have := HLL.out; omega) hb5'.size ?_
       intro g6 cap6 w6 hown6 hb6
       have hb6' := hb5'.trans hb6
       have y2 := (HXC.out _ hb6').1
       have y3 := (HXC.out _ hb6').2.1)))
  all_goals
    obtain ⟨hkq, hkr, hk4, hf4, hs4, _, _⟩ := HQ.out
    have k6 := (hb6'.block _ (blk_lt hk4)).trans hk4
    have k6c := (hb6'.block _ (blk_lt hkq)).trans hkq
    have k6r := (hb6'.block _ (blk_lt hkr)).trans hkr
    have hne1 : w.heap.size ≠ w3.heap.size := by have := HN.out.1; omega
    have hne2 : w.heap.size + 1 ≠ w3.heap.size := by have := HN.out.1; omega
    have k7 := set_same (v := .slice (some ⟨g6, 0, none⟩) (2 + l.length) cap6) 1 k6
    have k7c := (set_oth w6 ⟨w3.heap.size, 1, none⟩ (.slice (some ⟨g6, 0, none⟩) (2 + l.length) cap6) _ hne1).trans k6c
    have k7r := (set_oth w6 ⟨w3.heap.size, 1, none⟩ (.slice (some ⟨g6, 0, none⟩) (2 + l.length) cap6) _ hne2).trans k6r
    have hg6 : w4.heap.size ≤ g6 := (hown6.lt g6 rfl).1
    have hnp6 : ∀ j, w.heap.size ≤ j → ¬ P j := fun j hj q => by have := hp _ q; have := hw.size; omega
    have h34 := HN.out.1
    have h44 := blk_lt hk4
    have hrow7 : Row P w6 (some ⟨g6, 0, none⟩) (markL cn sq vs ++ l) := Row.of (by
      obtain ⟨A7, c7, e7, h7⟩ := Rd.own hown6
      cases e7
      rw [HMN.out, HML.out]
      exact h7) fun a e => by cases e; exact hnp6 _ (by show w.heap.size ≤ g6; omega)
    have hf7 := (hf4.on hb6').set w3.heap.size 1 (.slice (some ⟨g6, 0, none⟩) (2 + l.length) cap6) (.inl (by omega))
    have hs7 := h1.set (h1.on hs4 hb6' fun j hj => by have := hp _ hj; have := hw.size; omega) w3.heap.size 1 (.slice (some ⟨g6, 0, none⟩) (2 + l.length) cap6) (hnp6 _ (by omega))
    have hrow8 := hrow7.set w3.heap.size 1 (.slice (some ⟨g6, 0, none⟩) (2 + l.length) cap6) fun a e => by cases e; show g6 ≠ _; omega
    generalize w6.setCell ⟨w3.heap.size, 1, none⟩ (.slice (some ⟨g6, 0, none⟩) (2 + l.length) cap6) = w7 at *
    replace k7 : w7.heap[w3.heap.size]? = some (.cells #[.int .i64 st, .slice (some ⟨g6, 0, none⟩) (2 + l.length) cap6, .string b, .bool false] 32 (0, 0)) := k7
    have HF := Lib.hid (And.intro hf7 (And.intro hs7 (And.intro hrow8 (And.intro k7r hg6))))
    have v0 := blk_cell k7 0; have v1 := blk_cell k7 1; have v2 := blk_cell k7 2; have v3 := blk_cell k7 3
    have t0 := blk_free k7 0; have t1 := blk_free k7 1; have t2 := blk_free k7 2; have t3 := blk_free k7 3
    have r0 := blk_cell k7r 0; have r1 := blk_cell k7r 1; have r2 := blk_cell k7r 2; have r3 := blk_cell k7r 3
    have z0 := blk_free k7r 0; have z1 := blk_free k7r 1; have z2 := blk_free k7r 2; have z3 := blk_free k7r 3
    have d4 := blk_cell k7c 4
    simp only [List.getElem?_toArray, List.getElem?_cons_zero, List.getElem?_cons_succ] at v0 v1 v2 v3 r0 r1 r2 r3 d4
    clear hkq hkr hk4 hf4 hs4 k6 k6c k6r k7 k7c k7r hb6' hb6 hb5 hb5' hown5 hown6 hnp6 hrow7 hf7 hs7 hrow8 y1 y2 y3 hg6 h34 h44 c0 c1 c2 c3 c4 c5 c6 c7 c8 c9 c10 c11 c12 x0 x1 x2 x3
    generalize hq : 2 + l.length = q at *
    go_wp2_with fail
    subst hq
    obtain ⟨hf7, hs7, hrow8, k7r, hg6⟩ := HF.out
    have h34 := HN.out.1
    have h44 := blk_lt HQ.out.2.2.1
    have hnn := hw.size
    refine put4_ret (W := w7.setCell ⟨w3.heap.size, 3, none⟩ (.bool (false || cc))) Tryd.results45 ((set_oth _ _ _ _ hne2).trans k7r) (.int .i64 st) (.slice (some ⟨g6, 0, none⟩) (2 + l.length) cap6) (.string b) (.bool (false || cc)) rfl rfl ?_
    refine ⟨⟨some ⟨g6, 0, none⟩, cap6, by rw [HMN.out], (hrow8.set _ _ _ fun a e => by cases e; show g6 ≠ _; omega).put4 _ _ _ _ _ fun a e => by cases e; show g6 ≠ _; omega, by rw [HMN.out]; have := HLL.out; omega, fun a e => Nat.zero_le _⟩, (hf7.set _ _ _ (.inl (by omega))).put4 _ _ _ _ _ (by omega), h1.put4 (h1.set hs7 _ _ _ fun q => by have := hp _ q; omega) _ _ _ _ _ hn3⟩

end Go.Proofs.YtmncchgifgjhgaaDoor
