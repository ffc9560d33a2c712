/- The laws' own helper cut, walked. -/
import Derived.Test.YtkjlbddaglcooaaDoorCtCut
namespace Go.Proofs.YtkjlbddaglcooaaDoor
open Go.RowKit Pl
open Go.Lib (byteCells)

def strLen (v : Value) : Nat := match v with | .string s => s.size | _ => 0
theorem empty_of {t : ByteArray} (h : t.size = 0) : t = ⟨#[]⟩ := bytes_ext (List.length_eq_zero_iff.1 (by rw [data_len]; exact h))

set_option maxRecDepth 10000 in
set_option maxHeartbeats 4000000 in
theorem cut_call (s : ByteArray) (n : Nat) (hn : 1 ≤ n) (hn2 : n ≤ 100000) (w : World) (hm : MX w) (hs : s.size ≤ 10000) (R : Cst × List Rq) (hR : Hid (runC newC s.data.toList = R)) :
    Calls Tryd.prog 7 #[.string s, .int .i64 n] w fun e w' => ∃ v xs, e = .returned (.tuple #[v, .pointer (some ⟨w.heap.size, 0, none⟩)]) ∧ xs.map Prod.fst = R.2 ∧ RQ w' v xs ∧ CO (fun k => k < w.heap.size) w' w.heap.size R.1 [] ∧ Below w.heap.size w w' := by
  obtain ⟨i0, hi, hz0, hz1, hz2⟩ := info_parts Tryd.info33
  have HI := Lib.hid hi; have HZ0 := Lib.hid hz0; have HZ1 := Lib.hid hz1; have HZ2 := Lib.hid hz2
  have HM := Lib.hid hm
  clear hi hz0 hz1 hz2 hm
  go_enter Tryd.func7, Tryd.ntmps7
  go_wp2_with fail
  refine (cnew_any _).mono ?_
  rintro e w1 ⟨rfl, ho1, hb1⟩
  have HCN0 : Hid (CN w w.heap.size s.size R s.data.toList (.slice none 0 0) w1 [] newC [] (fun k => k < w.heap.size)) :=
    ⟨⟨World.ownsRow_nil _ _ _ _, fun p hp => (by cases hp)⟩, ho1, ⟨fun k hk => hk, fun k hk => (by cases hk), fun p hp => (by cases hp)⟩, okc_new, fun _ => rfl, hb1, fun k hk => (by cases hk), by rw [← hR.out]; simp, by simp⟩
  clear ho1 hb1 hR
  go_wp2_with fail
  go_loopw [0, 7] (fun sv v7 wr => ∃ (t : ByteArray) (acc : List (Rq × Value)) (c1 : Cst) (l1 : List UInt8) (P : Nat → Prop), sv = .string t ∧ t.size ≤ s.size ∧ CN w w.heap.size s.size R t.data.toList v7 wr acc c1 l1 P) (fun sv _ _ => strLen sv)
  case atStart => exact ⟨s, _, _, _, _, rfl, Nat.le_refl _, HCN0.out⟩
  case round =>
    obtain ⟨t, acc, c1, l1, P, rfl, hts, hcn⟩ := hrel
    clear HCN0
    have HNX := Lib.hid (hcn.call HM.out)
    have hdn := fun w7 fv => hcn.doneNew (w7 := w7) (fv := fv) (rfl : nextC c1 l1 = _)
    generalize nextC c1 l1 = N at *
    have HDN := Lib.hid hdn
    clear hcn hdn
    go_wp2_with fail
    refine HNX.out.mono ?_
    rintro e w3 ⟨fv, rfl, hrow3, ho3, hf3⟩
    have hcs := HDN.out w3 fv hrow3 ho3 hf3
    obtain ⟨Af, cf, rfl, _⟩ := Rd.own hrow3
    have HCS := Lib.hid hcs
    unfold rqVal
    clear hcs HDN HNX hrow3 ho3 hf3
    generalize N.1.getD nilRq = o0 at *
    generalize N.1.isSome = ok0 at *
    generalize N.2.1 = c0 at *
    generalize N.2.2 = l0 at *
    go_wp2_with fail
    go_loopw [7, 8, 9] (fun v7 v8 v9 wr => ∃ (rb : Nat) (ok : Bool) (acc : List (Rq × Value)) (o : Rq) (fv : Value) (c1 : Cst) (l1 : List UInt8), v8 = .pointer (some ⟨rb, 0, none⟩) ∧ v9 = .bool ok ∧ CS w w.heap.size s.size R t.data.toList v7 rb ok wr acc o fv c1 l1) (fun _ _ v9 wr => waitLen wr w.heap.size * 2 + okLen v9)
    case atStart => exact ⟨_, _, _, _, _, _, _, rfl, rfl, HCS.out⟩
    case round =>
      obtain ⟨rb, ok, acc, o, fv, c1, l1, rfl, rfl, hcs⟩ := hrel
      clear HCS
      cases ok with
      | false =>
        by_cases ht : t.size = 0
        · have ht2 := empty_of ht
          subst ht2
          have HS := Lib.hid hcs
          clear hcs
          go_wp2_with fail
          go_ret2
          obtain ⟨hl, hr⟩ := HS.out.last rfl
          have hr2 : R = (c1, acc.map Prod.fst) := by rw [hr]; simp [runC]
          subst hl
          obtain ⟨P, hco, hpr⟩ := HS.out.co
          obtain ⟨a, b, c, d, hv⟩ := hco
          exact ⟨_, rfl, acc, by rw [hr2], HS.out.req, by rw [hr2]; exact ⟨a, b, c, d, hv.weak hpr.low⟩, HS.out.bel⟩
        · have hte : (t.toList == []) = false := by
            rw [Lib.toList_data, beq_eq_false_iff_ne]
            intro e
            exact ht (by rw [← data_len, e]; rfl)
          have hk1 : 1 ≤ (min (n : Int) (t.size : Int)).toNat := by omega
          have hk2 : (min (n : Int) (t.size : Int)).toNat ≤ t.size := by omega
          have hm0 : (0 : Int) ≤ min (n : Int) (t.size : Int) := by omega
          have hm1 : min (n : Int) (t.size : Int) ≤ (t.size : Int) := by omega
          have hx1 : (t.extract 0 (min (n : Int) (t.size : Int)).toNat).data.toList = t.data.toList.take (min (n : Int) (t.size : Int)).toNat := by rw [Lib.extract_eq]; simp
          have hx2 : (t.extract (min (n : Int) (t.size : Int)).toNat t.size).data.toList = t.data.toList.drop (min (n : Int) (t.size : Int)).toNat := by
            rw [Lib.extract_eq]
            simp
            exact List.take_of_length_le (by simp)
          have HFD := Lib.hid (hcs.feed (t.extract 0 (min (n : Int) (t.size : Int)).toNat) (t.extract (min (n : Int) (t.size : Int)).toNat t.size).data.toList (by rw [hx1, hx2, List.take_append_drop]) (by omega))
          have HZ2 : Hid ((t.extract (min (n : Int) (t.size : Int)).toNat t.size).size < t.size) := by
            show _ < _
            rw [← data_len, hx2, List.length_drop, data_len]
            omega
          clear hcs hx1 hx2
          go_wp2_with fail
          refine HFD.out.mono ?_
          rintro e w4 ⟨rfl, l2, P2, hcn2⟩
          have HCN2 := Lib.hid hcn2
          clear hcn2 HFD
          go_wp2_with fail
          go_roundw
          case rel => exact ⟨_, _, _, _, _, rfl, by have := HZ2.out; omega, HCN2.out⟩
          case measure => exact HZ2.out
      | true =>
        obtain ⟨Av, cv, rfl, _⟩ := Rd.own hcs.req.row
        obtain ⟨Ag, cg, rfl, _⟩ := Rd.own hcs.fl
        have hlen := hcs.len
        simp only [if_true] at hlen
        have t0 := blk_cell hcs.blk 0; have t1 := blk_cell hcs.blk 1; have t2 := blk_cell hcs.blk 2; have t3 := blk_cell hcs.blk 3; have t4 := blk_cell hcs.blk 4
        simp at t0 t1 t2 t3 t4
        have hb1 : Below wr.heap.size wr (wr.alloc (.cells #[.string o.m, .string o.t, .slice Ag o.fs.length cg, .string o.body, .bool o.close] 33)) := (Below.refl _ _).alloc (Nat.le_refl _) _
        have HROW := Lib.hid (own_below hcs.req.row hb1)
        have HBLK : Hid ((wr.alloc (.cells #[.string o.m, .string o.t, .slice Ag o.fs.length cg, .string o.body, .bool o.close] 33)).heap[rb]? = some (.cells #[.string o.m, .string o.t, .slice Ag o.fs.length cg, .string o.body, .bool o.close] 33 (0, 0))) := (hb1.block rb (blk_lt hcs.blk)).trans hcs.blk
        have HA := Lib.hid hcs
        have HWL : Hid (waitLen wr w.heap.size = l1.length) := by
          obtain ⟨P, hco, _⟩ := hcs.co
          exact co_wait hco
        clear hcs hb1
        go_wp2_with (first | (at_builtin; refine wpList_append_lies _ rfl _ _ 23 rfl 0 33 i0 (.agg #[.string ⟨#[]⟩, .string ⟨#[]⟩, .slice none 0 0, .string ⟨#[]⟩, .bool false]) 5 80 Tryd.underlying23 HI.out HZ0.out HZ1.out HZ2.out rfl (by decide) _ acc.length _ rfl HROW.out ⟨wr.heap.size, 0, none⟩ 1 1 [.string o.m, .string o.t, .slice Ag o.fs.length cg, .string o.body, .bool o.close] rfl rfl ?c1 ?c2 (by decide) ?c3 ?c4 ?c5 (wr.heap.size + 1) ?c6 ?_))
        try (case c1 => exact World.news_of_block (heap_alloc_new wr _))
        case c2 => first | rfl | (intro u hu; simp at hu; rcases hu with rfl | rfl | rfl | rfl | rfl <;> rfl)
        case c3 => unfold maxLen; omega
        case c4 => omega
        try (case c5 => first | omega | (simp; omega))
        try (case c6 => simp)
        intro g2 cap2 w5 hown5 hgr5 hat5 hlt5
        have hblk5 := (hgr5.block rb (blk_lt HBLK.out) (fun e => HA.out.ap e.symm)).trans HBLK.out
        have t0 := blk_cell hblk5 0; have t1 := blk_cell hblk5 1; have t2 := blk_cell hblk5 2; have t3 := blk_cell hblk5 3; have t4 := blk_cell hblk5 4
        simp at t0 t1 t2 t3 t4
        obtain ⟨hap, hrlo, Q, hq, hCN⟩ := HA.out.next (x0 := .string o.m) (x1 := .string o.t) (x2 := .slice Ag o.fs.length cg) (x3 := .string o.body) (x4 := .bool o.close) hown5 hgr5 rfl (by simpa using hat5)
        have HNX := Lib.hid (hCN.call HM.out)
        have hfin := fun w7 fv => hCN.done (w7 := w7) (fv := fv) (x0 := .string o.m) (x1 := .string o.t) (x2 := .slice Ag o.fs.length cg) (x3 := .string o.body) (x4 := .bool o.close) (rfl : nextC c1 l1 = _) hrlo hap
        have hlx := (run_next hCN.okc _ (rfl : nextC c1 l1 = _) []).2.2.2.2
        have HQ : Hid (∀ w7, Fr Q w.heap.size (w5.alloc (.cells #[.string o.m, .string o.t, .slice Ag o.fs.length cg, .string o.body, .bool o.close] 33)) w7 → w7.heap[w5.heap.size]? = some (.cells #[.string o.m, .string o.t, .slice Ag o.fs.length cg, .string o.body, .bool o.close] 33 (0, 0))) := fun w7 hf => (hf.block _ hq (fun e => hCN.ng (e ▸ hq))).trans (heap_alloc_new w5 _)
        generalize nextC c1 l1 = N2 at *
        have HFIN := Lib.hid hfin; have HLX := Lib.hid hlx
        clear hCN hfin hlx hblk5 hown5 hgr5 hat5 hlt5 HROW HBLK HA hap hrlo hq
        go_wp2_with fail
        refine HNX.out.mono ?_
        rintro e w7 ⟨fv7, rfl, hrow7, ho7, hf7⟩
        have hrb7 := HQ.out w7 hf7
        have hAS7 := HFIN.out w7 fv7 hrow7 ho7 hf7 hrb7
        obtain ⟨Ah, ch, rfl, _⟩ := Rd.own hrow7
        have t0 := blk_cell hrb7 0; have t1 := blk_cell hrb7 1; have t2 := blk_cell hrb7 2; have t3 := blk_cell hrb7 3; have t4 := blk_cell hrb7 4
        have s0 := blk_free hrb7 0; have s1 := blk_free hrb7 1; have s2 := blk_free hrb7 2; have s3 := blk_free hrb7 3; have s4 := blk_free hrb7 4
        simp at t0 t1 t2 t3 t4
        unfold rqVal
        have HAS7 := Lib.hid hAS7
        clear hAS7 hrb7 hrow7 ho7 hf7 HFIN HNX HQ
        generalize N2.1.getD nilRq = o7 at *
        generalize N2.1.isSome = ok7 at *
        generalize N2.2.1 = c7 at *
        generalize N2.2.2 = l7 at *
        go_wp2_with fail
        go_roundw
        case rel => exact ⟨_, _, _, _, _, _, _, rfl, rfl, HAS7.out⟩
        case measure =>
          obtain ⟨P7, hco7, _⟩ := HAS7.out.co
          have e1 := co_wait hco7
          unfold put5 at e1
          rw [e1, HWL.out]
          have := HLX.out
          cases ok7 <;> simp [okLen] at this ⊢ <;> omega

end Go.Proofs.YtkjlbddaglcooaaDoor
