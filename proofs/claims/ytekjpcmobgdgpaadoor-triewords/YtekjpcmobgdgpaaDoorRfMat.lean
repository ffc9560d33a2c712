/- The document's answer of layer 8: the contract of Match. -/
import Derived.Test.YtekjpcmobgdgpaaDoorRfMatP
import Derived.Deep.RegionHeld3
import Derived.Deep.LoopGhost
import Derived.Deep.CutRange
import Derived.Deep.CutBlock
import Derived.BigQuiet
import Derived.Deep.DrawnRows
namespace Go.Proofs.YtekjpcmobgdgpaaDoor
open Go.RowKit Pl
attribute [local go_sem ↓] Go.wp_at_zero Go.wp_at_succ

theorem mt_ret15 {W : World} {R : Nat} {a : Act} {X : Ending → World → Prop} {u0 u1 u2 b : Value} (hb : W.heap[R]? = some (.cells #[u0, u1, u2] 32 (0, 0)))
    (ha : a.tmps.getD 6 undef = .pointer (some ⟨R, 0, none⟩)) (h7 : a.tmps.getD 7 undef = b) (hd : a.defers = []) (hQ : X (.returned (.tuple #[.agg #[u0, u1, u2], b])) W) : bodyPost Tryd.prog Tryd.f15 X .ret a W := by
  have c0 : W.cell? ⟨R, 0, none⟩ = some u0 := by rw [Lib.cell_of_heap hb]; rfl
  have c1 : W.cell? ⟨R, 1, none⟩ = some u1 := by rw [Lib.cell_of_heap hb]; rfl
  have c2 : W.cell? ⟨R, 2, none⟩ = some u2 := by rw [Lib.cell_of_heap hb]; rfl
  simp at ha h7
  exact bodyPost_ret (v := .tuple #[.agg #[u0, u1, u2], b]) (by simp [results, Tryd.results15, go_sem, ha, h7, c0, c1, c2]) hd hQ
theorem less_eq : ∀ a b : List UInt8, Go.Op.bytesLess a b = ltB a b
  | _, [] => by cases ‹List UInt8› <;> simp [Go.Op.bytesLess, ltB]
  | [], _ :: _ => by simp [Go.Op.bytesLess, ltB]
  | a :: l, b :: k => by
    rw [Go.Op.bytesLess, ltB, less_eq l k]
    rw [Bool.eq_iff_iff]
    simp [UInt8.lt_iff_toNat_lt, UInt8.toNat_inj]
theorem str_less' (s : List UInt8) (t : ByteArray) : Go.Op.bytesLess (mkB s).toList t.toList = ltB s t.data.toList := by
  rw [Lib.toList_data, Lib.toList_data, mkB_data, less_eq]
section
variable {P : Program} (w : World)
theorem run_append_none (t ty e : TypeId) (i : TypeInfo) (ht : P.underlying t = some (.slice e)) (hi : P.info? e = some i) (A : Option Addr) (n cap : Nat) (h : n ≤ cap) :
    (Builtin.append_ #[t, t] ty #[.slice A n cap, .slice none 0 0]).run P w = .ok (.slice A n cap) w := by
  cases A <;> simp [Builtin.append_, run_underlying ht, sizeOf, typeInfo, hi, Builtin.lenOf, Builtin.firstCells, storeCells, h]
/-- An append of nothing, at a step of a region that draws. -/
theorem step_append_none {ops : Array Oper} {o : Oper} {a : Act} {K : Act → World → Prop} {Q : Exit → Act → World → Prop} {E : Prop} (hgd : o.guard = none) (s x : Operand) (t : TypeId)
    (ho : o.op = .call { callee := .builtin .append, args := #[s, x], argTypes := #[t, t] })
    (e : TypeId) (i : TypeInfo) (ht : P.underlying t = some (.slice e)) (hi : P.info? e = some i) (A : Option Addr) (n cap : Nat) (hn : n ≤ cap) (hs : a.eval s = .slice A n cap) (hx : a.eval x = .slice none 0 0)
    (h : K (a.put o.dst (.slice A n cap)) w) : if Region.wanted o (yielded ops a.tmps) = true then Oper.wp P o a w K Q else E := by
  have hw : Region.wanted o (yielded ops a.tmps) = true := by simp [Region.wanted, hgd]
  rw [if_pos hw]
  have hr := run_append_none (P := P) w t o.type e i ht hi A n cap hn
  unfold Oper.wp execOp
  simp only [ho, resolve, invoke, builtin, Sem.run_bind, Sem.run_pure, Result.andThen_ok, List.map_toArray, List.map_cons, List.map_nil, hs, hx, hr]
  exact h
/-- An append at a step of a region that draws, of however many elements (none, too). -/
theorem step_append_all {ops : Array Oper} {o : Oper} {a : Act} {K : Act → World → Prop} {Q : Exit → Act → World → Prop} {E : Prop} (hgd : o.guard = none) (s x : Operand) (t : TypeId)
    (ho : o.op = .call { callee := .builtin .append, args := #[s, x], argTypes := #[t, t] })
    (base : Nat) (e : TypeId) (i : TypeInfo) (z : Value) (size bytes : Nat) (ht : P.underlying t = some (.slice e)) (hi : P.info? e = some i) (hz : i.zero = some z)
    (hsize : i.size = size) (hby : i.bytes = bytes) (hzs : z.cells.size = size) (hsz : 0 < size)
    (v : Value) (n : Nat) (xs : List Value) (hs : a.eval s = v) (hown : w.ownsRow base e size v n xs) (hn0 : 0 < n)
    (ad : Addr) (m c : Nat) (news : List Value) (hx : a.eval x = .slice (some ad) m c) (hl : news.length = m * size) (hnews : ∀ j u, news[j]? = some u → w.cell? (ad.add j) = some u) (h1 : ∀ u ∈ news, u.oneCell' = true)
    (h63 : n + m ≤ maxLen) (hbytes : (n + m) * bytes ≤ 140737488355328) (hbase : base ≤ w.heap.size)
    (h : ∀ g cap w', w'.ownsRow base e size (.slice (some ⟨g, 0, none⟩) (n + m) cap) (n + m) (xs ++ news) → w.grownBy w' v.ownBlock → K (a.put o.dst (.slice (some ⟨g, 0, none⟩) (n + m) cap)) w') :
    if Region.wanted o (yielded ops a.tmps) = true then Oper.wp P o a w K Q else E := by
  have hw : Region.wanted o (yielded ops a.tmps) = true := by simp [Region.wanted, hgd]
  rw [if_pos hw]
  obtain ⟨v', w', hr, h2, h3, _, _⟩ := run_append_own_at (P := P) w base t o.type e i z size bytes ht hi hz hsize hby hzs hsz v n xs hown ad m c news hl hnews h1 h63 hbytes hbase
  obtain ⟨g, cap, rfl, _⟩ := h2.form (by omega)
  unfold Oper.wp execOp
  simp only [ho, resolve, invoke, builtin, Sem.run_bind, Sem.run_pure, Result.andThen_ok, List.map_toArray, List.map_cons, List.map_nil, hs, hx, hr]
  exact h g cap w' h2 h3
end
theorem own_heap {w w' : World} {B : Nat} {e : TypeId} {k n : Nat} {v : Value} {xs : List Value} (h : w.ownsRow B e k v n xs) (hb : ∀ j, B ≤ j → j < w.heap.size → w'.heap[j]? = w.heap[j]?) : w'.ownsRow B e k v n xs := by
  refine ⟨h.1, ?_⟩
  rcases h.2 with hn | ⟨g, cap, cur, hv, hg, hh, r⟩
  · exact .inl hn
  · exact .inr ⟨g, cap, cur, hv, hg, (hb g hg (Array.getElem?_eq_some_iff.1 hh).1).trans hh, r⟩
theorem own_one (w : World) (B : Nat) (hB : B ≤ w.heap.size) (s : ByteArray) : (w.alloc (.cells #[.string s] 9)).ownsRow B 9 1 (.slice (some ⟨w.heap.size, 0, none⟩) 1 1) 1 [.string s] :=
  ⟨rfl, .inr ⟨w.heap.size, 1, #[.string s], rfl, hB, heap_alloc_new w _, Nat.le_refl _, by decide, rfl, rfl⟩⟩
theorem cell_blk {w : World} {a : Addr} {v : Value} (h : w.cell? a = some v) : a.block < w.heap.size := by
  rcases Nat.lt_or_ge a.block w.heap.size with hl | hg
  · exact hl
  · have : w.heap[a.block]? = none := Array.getElem?_eq_none hg
    simp [World.cell?, this] at h
theorem okP_ne : ∀ {p : List Seg}, okP p = true → ∀ s ∈ p, s ≠ []
  | [], _, _, h => by cases h
  | p :: ps, h, s, hs => by
    simp only [okP, Bool.and_eq_true, decide_eq_true_eq] at h
    rcases List.mem_cons.1 hs with rfl | hs
    · exact h.1.1
    · exact okP_ne h.2 s hs
theorem Law.cut {L : List Rt} (h : Law L) {r : Rt} (hr : r ∈ L) : 0 < r.p.length ∧ r.p.length ≤ 10000 ∧ (cutL r.p).length ≤ 8 ∧ ∀ s ∈ cutL r.p, s ≠ [] := by
  obtain ⟨hp, hl⟩ := h.pat r hr
  obtain ⟨q, hq⟩ := Option.isSome_iff_exists.1 hp
  refine ⟨?_, hl, ?_, okP_ne (h.good r hr)⟩
  · cases e : r.p with
    | nil => rw [e] at hq; cases hq
    | cons _ _ => simp
  · rw [cut_pat hq]; exact segs_len (pat_segs hq).1

set_option maxRecDepth 100000 in
set_option maxHeartbeats 8000000 in
theorem rmatch_any (l : List Rt) (A : Option Addr) (c : Nat) (m : ByteArray) (PA : Option Addr) (n pc : Nat) (x : List Seg) (w : World) (hr : Rd w w.heap.size 3 A l.length (rtCells l)) (hx : Pth w w.heap.size PA n pc x) (hl : Law l) :
    Calls Tryd.prog 15 #[.slice A l.length c, .string m, .slice PA n pc] w fun e w' => MtRet (matchL m.data.toList x l) e w' ∧ Below w.heap.size w w' := by
  obtain ⟨i0, hi, hz0, hz1, hz2⟩ := info_parts Tryd.info9
  have HZ := Lib.hid (And.intro hz0 (And.intro hz1 hz2))
  clear hz0 hz1 hz2
  have hnx := hx.len
  subst hnx
  have hx1000 := hx.few
  have HR := Lib.hid hr
  have HX := Lib.hid hx
  have HLW := Lib.hid hl
  have hl24 := hl.few
  clear hr hx hl
  obtain ⟨T, hT⟩ : ∃ T, matchL m.data.toList x l = T := ⟨_, rfl⟩
  rw [hT]
  have HT := Lib.hid hT
  clear hT
  have HA1 := Lib.hid ((Below.refl w.heap.size w).alloc (Nat.le_refl _) (.cells #[.string ⟨#[]⟩, .slice none 0 0, .slice none 0 0] 32))
  have HK1 : Hid ((w.alloc (.cells #[.string ⟨#[]⟩, .slice none 0 0, .slice none 0 0] 32)).heap[w.heap.size]? = some (.cells #[.string ⟨#[]⟩, .slice none 0 0, .slice none 0 0] 32 (0, 0))) := heap_alloc_new w _
  have HS1 : Hid ((w.alloc (.cells #[.string ⟨#[]⟩, .slice none 0 0, .slice none 0 0] 32)).heap.size = w.heap.size + 1) := by show _ = _; simp
  go_enter Tryd.func15, Tryd.ntmps15
  go_wp2_with fail
  generalize w.alloc (.cells #[.string ⟨#[]⟩, .slice none 0 0, .slice none 0 0] 32) = w1 at *
  generalize hRR : w.heap.size = R at *
  have HR0 : Hid (R = w.heap.size) := hRR.symm
  clear hRR
  go_loopg [8, 9, 10] l.length (fun gk bv av i wr => ∃ (k : Nat) (bi : Int), k ≤ l.length ∧ gk = l.length - k ∧ bv = .int .i64 bi ∧ i = .int .i64 k ∧ Hid (IxOf l (bestL cutL m.data.toList x (l.take k)) bi) ∧ Hid (wr.ownsRow w1.heap.size 9 1 av (allowL cutL x (l.take k)).length ((allowL cutL x (l.take k)).map strV)) ∧ Hid (allowL cutL x (l.take k) = [] → av = .slice none 0 0) ∧ Hid (Below w1.heap.size w1 wr))
  case atStart => exact ⟨0, -1, by omega, by omega, rfl, rfl, rfl, World.ownsRow_nil _ _ _ _, fun _ => rfl, Below.refl _ _⟩
  case round =>
    obtain ⟨k, bi, hk, rfl, rfl, rfl, HBI, HO, HN, HB⟩ := hrel
    obtain ⟨oa, oc, rfl, hoc, _⟩ := Rd.ownc HO.out
    by_cases hlt : k < l.length
    · have HBW : Hid (Below R w wr) := HA1.out.trans (HB.out.mono (by rw [HS1.out]; omega))
      obtain ⟨a, rfl, hab, k0, k1, k2⟩ := rt_in (HR.out.below HBW.out (by rw [HR0.out]; exact Nat.le_refl _)) rfl k hlt
      obtain ⟨hp0, hp1, hp8, hpn⟩ := HLW.out.cut (List.getElem_mem hlt)
      have HBS := Lib.hid (best_snoc m.data.toList x l k hlt)
      have HAS := Lib.hid (allow_snoc x l k hlt)
      have HAL := Lib.hid (allow_len x (l.take k))
      have hAL : (allowL cutL x (l.take k)).length ≤ 24 := by have := HAL.out; rw [List.length_take] at this; omega
      have HCU := Lib.hid (fun wx => rcut_any (mkB l[k].p) wx (by rw [mkB_size]; omega) (by rw [mkB_size]; exact hp0))
      rw [mkB_data] at HCU
      obtain ⟨r, hr⟩ : ∃ r, l[k] = r := ⟨_, rfl⟩
      rw [hr] at k0 k1 k2 hp0 hp1 hp8 hpn HBS HAS HCU
      have HLR := Lib.hid hr
      clear hr
      generalize hAA : allowL cutL x (l.take k) = AL at *
      generalize hA2 : allowL cutL x (l.take (k + 1)) = AL2 at *
      generalize hBB : bestL cutL m.data.toList x (l.take k) = BL at *
      generalize hB2 : bestL cutL m.data.toList x (l.take (k + 1)) = BL2 at *
      have HAA2 := Lib.hid hA2
      have HBB2 := Lib.hid hB2
      clear hAA hA2 hBB hB2 HAL
      have hQ : Hid (cutL r.p = cutL r.p) := rfl
      have HSN := Lib.hid (@step_no m.data.toList x BL r)
      have HSI := Lib.hid (@step_in x r)
      have HSO := Lib.hid (@step_other m.data.toList x BL r)
      have HSF := Lib.hid (@step_first m.data.toList x r)
      have HSM := Lib.hid (fun s => @step_more m.data.toList x s r)
      generalize hq : cutL r.p = q at *
      have HQ := Lib.hid hq
      clear hq hQ
      obtain ⟨hv, hhv⟩ : ∃ hv, hasL q x = hv := ⟨_, rfl⟩
      have HHV := Lib.hid hhv
      have HPN := Lib.hid hpn
      have HHA := Lib.hid (fun qa qc wx h1 h2 => has_any q x qa PA qc pc wx h1 h2 hpn (by omega) (by omega))
      rw [hhv] at HHA HSN HSI HSF HSM
      clear hhv hpn hp0 hp1
      obtain ⟨rm, hrm⟩ : ∃ rm, r.m = rm := ⟨_, rfl⟩
      rw [hrm] at HSI HSO HSF HSM k0
      have HRM := Lib.hid hrm
      clear hrm
      generalize hmb : mkB rm = mb at *
      have HMB := Lib.hid hmb
      clear hmb
      generalize mkB r.p = pb at *
      generalize mkB r.h = hb at *
      have HA2 := Lib.hid ((Below.refl wr.heap.size wr).alloc (Nat.le_refl _) (.cells #[.string mb, .string pb, .string hb] 41))
      have d0 := new_cell4 wr #[.string mb, .string pb, .string hb] 41 0
      have d1 := new_cell4 wr #[.string mb, .string pb, .string hb] 41 1
      simp only [List.getElem?_toArray, List.getElem?_cons_succ, List.getElem?_cons_zero] at d0 d1
      have hG2 : (wr.alloc (.cells #[.string mb, .string pb, .string hb] 41)).heap.size = wr.heap.size + 1 := by simp
      have HG2 := Lib.hid hG2
      clear hG2
      go_wp2_with fail
      generalize wr.alloc (.cells #[.string mb, .string pb, .string hb] 41) = w2 at *
      refine (HCU.out _).mono ?_
      rintro e w3 ⟨qv, rfl, hown3, hb3⟩
      obtain ⟨qa, qc, rfl, hrd3⟩ := Rd.own hown3
      have HD3 := Lib.hid ((hb3.cell (p := ⟨wr.heap.size, 0, none⟩) (by rw [HG2.out]; exact Nat.lt_succ_self _)).trans d0)
      have HB3 : Hid (Below wr.heap.size wr w3) := HA2.out.trans (hb3.mono HA2.out.size)
      have HG3 : Hid (wr.heap.size < w3.heap.size) := by have := hb3.size; rw [HG2.out] at this; exact this
      have HBW3 : Hid (Below R w w3) := HBW.out.trans (HB3.out.mono (by rw [HR0.out]; exact HBW.out.size))
      have HQ3 := Lib.hid hrd3
      have HX3 : Hid (Rd w3 w3.heap.size 1 PA x.length (x.map strV)) := (HX.out.rd.below HBW3.out (by rw [HR0.out]; exact Nat.le_refl _)).wide (by rw [HR0.out]; exact HBW3.out.size)
      have HQO3 := Lib.hid (own_wide hown3 (show wr.heap.size ≤ w2.heap.size from HA2.out.size))
      clear hown3 hb3 d0 d1 hrd3 k0 k1 k2
      go_wp2_with fail
      refine (HHA.out _ _ w3 HQ3.out HX3.out).mono ?_
      rintro e w4 ⟨rfl, hb4⟩
      have hd4 := (hb4.cell (p := ⟨wr.heap.size, 0, none⟩) HG3.out).trans HD3.out
      have HB4 : Hid (Below wr.heap.size wr w4) := HB3.out.trans (hb4.mono HB3.out.size)
      have HBW4 : Hid (Below R w w4) := HBW3.out.trans (hb4.mono (by rw [HR0.out]; exact HBW3.out.size))
      have HQ4 : Hid (Rd w4 w4.heap.size 1 qa q.length (q.map strV)) := (HQ3.out.below hb4 (Nat.le_refl _)).wide hb4.size
      have HO4 := Lib.hid (own_below HO.out HB4.out)
      have HQO4 := Lib.hid (own_below HQO3.out hb4)
      have HG4 : Hid (wr.heap.size < w4.heap.size) := Nat.lt_of_lt_of_le HG3.out hb4.size
      have HBB4 : Hid (Below w1.heap.size w1 w4) := HB.out.trans (HB4.out.mono HB.out.size)
      clear hb4 HX3 HQ3 HBW3 HG3 HB3 HD3 HG2 HA2 HQO3
      cases hv with
      | false =>
        obtain ⟨hs1, hs2⟩ := HSN.out rfl
        have HE1 := Lib.hid hs1
        have HE2 := Lib.hid (hs2 AL)
        clear hs1 hs2
        go_wp2_with fail
        go_roundg (l.length - (k + 1))
        case measure => omega
        case rel =>
          refine ⟨k + 1, bi, by omega, rfl, rfl, by go_num, ?_, ?_, ?_, HBB4.out⟩
          · show IxOf _ _ _; rw [HBB2.out, HBS.out, HE1.out]; exact HBI.out
          · show World.ownsRow _ _ _ _ _ _ _; rw [HAA2.out, HAS.out, HE2.out]; exact HO4.out
          · show _ = _ → _; rw [HAA2.out, HAS.out, HE2.out]; exact HN.out
      | true =>
        have HE2 := Lib.hid ((HSI.out rfl) AL)
        have HRO : Hid (Rd w4 w4.heap.size 1 oa AL.length (AL.map strV)) := by
          obtain ⟨_, _, e, h⟩ := Rd.own HO4.out
          cases e
          exact h
        obtain ⟨wq, hwq⟩ : ∃ wq, wq = wr := ⟨_, rfl⟩
        subst hwq
        generalize hGG : wq.heap.size = G at *
        have HG := Lib.hid hGG
        clear hGG
        have HMD : Hid (mb.data.toList = rm) := by show _ = _; rw [← HMB.out, mkB_data]
        go_upto_block 2 with fail
        go_outline
        go_cut [13] from 20 to 94 (fun tv wx => ∃ t : Nat, t ≤ AL.length ∧ tv = .int .i64 t ∧ Hid (Below w4.heap.size w4 wx) ∧ Hid (insU rm AL = if AL[t]? = some rm then AL else AL.take t ++ rm :: AL.drop t))
        case first =>
          go_wp2_with fail
          go_loopg [13] AL.length (fun gk tv wx => ∃ t : Nat, t ≤ AL.length ∧ gk = AL.length - t ∧ tv = .int .i64 t ∧ Hid (Below w4.heap.size w4 wx) ∧ Hid (∀ j (hj : j < AL.length), j < t → ltB AL[j] rm = true))
          case atStart => exact ⟨0, by omega, by omega, rfl, Below.refl _ _, fun j hj h0 => absurd h0 (by omega)⟩
          case round =>
            obtain ⟨t, ht, rfl, rfl, HBX, HJ⟩ := hrel
            have kd0 := (HBX.out.cell (p := ⟨G, 0, none⟩) HG4.out).trans hd4
            by_cases htl : t < AL.length
            · obtain ⟨ob, hoe, hbb, kb⟩ := seg_in (HRO.out.below HBX.out (Nat.le_refl _)) rfl t htl
              subst hoe
              have hls := str_less' AL[t] mb
              rw [HMD.out] at hls
              have HIA := Lib.hid (fun (h : ltB AL[t] rm = false) => ins_at rm AL t ht HJ.out (fun _ => h))
              have HJ2 := Lib.hid (fun (h : ltB AL[t] rm = true) j (hj : j < AL.length) (hjt : j < t + 1) => (show ltB AL[j] rm = true from (by
                by_cases e : j = t
                · subst e; exact h
                · exact HJ.out j hj (by omega))))
              obtain ⟨lb, hlb⟩ : ∃ lb, ltB AL[t] rm = lb := ⟨_, rfl⟩
              rw [hlb] at hls HIA HJ2
              clear hlb
              generalize mkB AL[t] = ab at *
              have i0' : (0 : Int) ≤ (t : Int) := by omega
              have i1 : (t : Int) < (AL.length : Int) := by omega
              have i2 : decide ((t : Int) < (AL.length : Int)) = true := decide_eq_true i1
              cases lb with
              | false =>
                have HI2 := Lib.hid (HIA.out rfl)
                clear HIA HJ2
                go_wp2_with fail
                go_quiet (fail)
                have HB5 := Lib.hid (HBX.out.trans (below_drewN3 w4.heap.size _ nq))
                generalize wr.drewN nq = w5 at *
                go_wp2_with fail
                go_meet
                exact ⟨t, by omega, rfl, HB5.out, HI2.out⟩
              | true =>
                have HI2 := Lib.hid (HJ2.out rfl)
                clear HIA HJ2
                go_wp2_with fail
                go_quiet (fail)
                have HB5 := Lib.hid (HBX.out.trans (below_drewN3 w4.heap.size _ nq))
                go_wp2_with fail
                go_roundg (AL.length - (t + 1))
                case measure => omega
                case rel => exact ⟨t + 1, by omega, rfl, by go_num, HB5.out, HI2.out⟩
            · have hte : t = AL.length := by omega
              have HI2 := Lib.hid (ins_at rm AL t ht HJ.out (fun h => absurd h htl))
              have i2 : decide ((t : Int) < (AL.length : Int)) = false := decide_eq_false (by omega)
              go_wp2_with fail
              go_quiet (fail)
              have HB5 := Lib.hid (HBX.out.trans (below_drewN3 w4.heap.size _ nq))
              go_wp2_with fail
              go_meet
              exact ⟨t, by omega, rfl, HB5.out, HI2.out⟩
        case rest =>
          obtain ⟨t, ht, rfl, HBX, HIN⟩ := hcut
          obtain ⟨w5, hw5⟩ : ∃ w5, w5 = wc := ⟨_, rfl⟩
          subst hw5
          have HO5 := Lib.hid (own_below HO4.out HBX.out)
          have kd5 := (HBX.out.cell (p := ⟨G, 0, none⟩) HG4.out).trans hd4
          obtain ⟨eb, heb⟩ : ∃ eb, decide (AL[t]? = some rm) = eb := ⟨_, rfl⟩
          have HEB := Lib.hid heb
          clear heb
          go_upto_region 12 with fail
          go_cut [64] from 20 to 94 (fun tv wx => ∃ nb : Nat, tv = .bool (!eb) ∧ wx = w5.drewN nb)
          case first =>
            by_cases htl : t < AL.length
            · obtain ⟨ob, hoe, hbb, kb⟩ := seg_in (HRO.out.below HBX.out (Nat.le_refl _)) rfl t htl
              subst hoe
              have hls := str_eqb AL[t] rm
              rw [HMB.out] at hls
              have hee : decide (AL[t] = rm) = eb := by
                have := HEB.out
                rw [List.getElem?_eq_getElem htl] at this
                rw [← this]; simp
              rw [hee] at hls
              clear hee
              generalize mkB AL[t] = ab at *
              have i0' : (0 : Int) ≤ (t : Int) := by omega
              have i1 : (t : Int) < (AL.length : Int) := by omega
              have i2 : ((t : Int) == (AL.length : Int)) = false := by rw [beq_eq_false_iff_ne]; omega
              go_wp2_with fail
              go_quiet (fail)
              go_wp2_with fail
              go_meet
              exact ⟨nq, rfl, rfl⟩
            · have hte : t = AL.length := by omega
              have hee : eb = false := by
                have := HEB.out
                rw [List.getElem?_eq_none (by omega)] at this
                rw [← this]; simp
              have i2 : ((t : Int) == (AL.length : Int)) = true := by rw [beq_iff_eq]; omega
              subst hee
              go_wp2_with fail
              go_quiet (fail)
              go_wp2_with fail
              go_meet
              exact ⟨nq, rfl, rfl⟩
          case rest =>
            obtain ⟨nb, rfl, hwn⟩ := hcut
            have HB6 : Hid (Below w4.heap.size w4 wc) := by rw [hwn]; exact HBX.out.trans (below_drewN3 _ _ _)
            have kd6 : wc.cell? ⟨G, 0, none⟩ = some (.string mb) := by rw [hwn]; exact kd5
            have HO6 := Lib.hid (own_below HO4.out HB6.out)
            obtain ⟨w6, hw6⟩ : ∃ w6, w6 = wc := ⟨_, rfl⟩
            subst hw6
            have HD4 := Lib.hid hd4
            clear hwn HO5 kd5 HBX hd4
            go_upto_if 64 with fail
            go_cut [9] from 20 to 94 (fun v wx => Hid (wx.ownsRow w1.heap.size 9 1 v AL2.length (AL2.map strV)) ∧ Hid (AL2 = [] → v = .slice none 0 0) ∧ Hid (Below w1.heap.size w1 wx) ∧ Hid (∀ j, G ≤ j → j < w4.heap.size → wx.heap[j]? = w4.heap[j]?) ∧ w4.heap.size ≤ wx.heap.size)
            case first =>
              cases eb with
              | true =>
                have HE3 : Hid (AL2 = AL) := by
                  show _ = _
                  have h1 := HEB.out
                  rw [decide_eq_true_eq] at h1
                  rw [HAS.out, HE2.out, HIN.out, if_pos h1]
                go_wp2_with fail
                go_meet
                refine ⟨?_, ?_, HBB4.out.trans (HB6.out.mono HBB4.out.size), fun j h1 h2 => HB6.out.block j h2, HB6.out.size⟩
                · show World.ownsRow _ _ _ _ _ _ _; rw [HE3.out]; exact HO6.out
                · show _ = _ → _; rw [HE3.out]; exact HN.out
              | false =>
                have HE3 : Hid (AL2 = AL.take t ++ rm :: AL.drop t) := by
                  show _ = _
                  have h1 := HEB.out
                  rw [decide_eq_false_iff_not] at h1
                  rw [HAS.out, HE2.out, HIN.out, if_neg h1]
                have HGB : Hid (G < w6.heap.size) := Nat.lt_of_lt_of_le HG4.out HB6.out.size
                have HGW : Hid (w1.heap.size ≤ G) := by have := HB.out.size; have := HG.out; show _ ≤ _; omega
                by_cases h0 : AL.length = 0
                · have hA := List.length_eq_zero_iff.1 h0
                  have hn := HN.out hA
                  obtain ⟨rfl, _, rfl⟩ := Value.slice.inj hn
                  have ht0 : t = 0 := by omega
                  subst ht0
                  rw [h0]
                  have HC6 := Lib.hid (cell_one_new w6.drew (.string mb) 9)
                  have HOC : Hid (∀ u ∈ [Value.string mb], u.oneCell' = true) := fun u hu => by simp at hu; subst hu; rfl
                  have HKD := Lib.hid (fun wx (h : Below w6.heap.size w6 wx) => (h.cell (p := ⟨G, 0, none⟩) HGB.out).trans kd6)
                  have HD6 := Lib.hid ((Below.refl w6.heap.size w6).drew.alloc (Nat.le_refl _) (.cells #[.string mb] 9))
                  go_wp2_with fail
                  go_region_held3 (fun W => W.cell? ⟨G, 0, none⟩ = some (.string mb)) (first | (exact HKD.out _ hb7) | (exact HKD.out _ HD6.out) | (exact HKD.out _ (Below.refl _ _).drew)) ((first
                    | (refine step_append_lies _ (by rfl) (.tmp 67) (.tmp 74) 28 (by rfl) w6.heap.size 9 i0 (.string ⟨#[]⟩) 1 16 Tryd.underlying28 hi HZ.out.1 HZ.out.2.1 HZ.out.2.2 rfl (by decide) (.slice none 0 0) 0 [] (by rfl) (World.ownsRow_nil _ _ _ _) ⟨w6.heap.size, 0, none⟩ 1 1 [.string mb] (by rfl) rfl HC6.out HOC.out (by decide) (by decide) (by decide) HD6.out.size _ rfl ?_
                       intro g7 c7 w7 hown7 hgr7 hat7 hlt7
                       have hb7 : Below w6.heap.size w6 w7 := HD6.out.trans ((Below.refl _ _).grown hgr7 (Nat.le_refl _) (fun k hk => (by cases hk)) |>.mono HD6.out.size)
                       clear hat7)
                    | (refine step_append_none _ (by rfl) (.tmp 70) (.tmp 73) 28 (by rfl) 9 i0 Tryd.underlying28 hi (some ⟨w6.heap.size, 0, none⟩) 1 1 (by decide) (by rfl) (by rfl) ?_)))
                  go_wp2_with fail
                  go_meet
                  have hAL2 : AL2 = [rm] := by rw [HE3.out, hA]; rfl
                  refine ⟨?_, fun h => (by rw [hAL2] at h; cases h), HBB4.out.trans ((HB6.out.trans (hb7.mono HB6.out.size)).mono HBB4.out.size), fun j h1 h2 => (hb7.block j (Nat.lt_of_lt_of_le h2 HB6.out.size)).trans (HB6.out.block j h2), Nat.le_trans HB6.out.size hb7.size⟩
                  show World.ownsRow _ _ _ _ _ _ _
                  rw [hAL2]
                  show w7.ownsRow _ _ _ _ _ [strV rm]
                  rw [strV_mk, HMB.out]
                  exact own_wide hown7 (by have := HGB.out; have := HGW.out; omega)
                · obtain ⟨g, cap, he, hgb, hgl, hgc, hgm⟩ := own_shape HO.out (by omega)
                  obtain ⟨rfl, _, rfl⟩ := Value.slice.inj he
                  have HOP := Lib.hid (own_pre HO6.out t ht)
                  have HGG' : Hid (g < G ∧ w1.heap.size ≤ g) := ⟨by have := HG.out; omega, hgb⟩
                  clear he hgb hgl
                  rw [Nat.mul_one, ← List.map_take] at HOP
                  have HOC : Hid (∀ u ∈ [Value.string mb], u.oneCell' = true) := fun u hu => by simp at hu; subst hu; rfl
                  have HKD := Lib.hid (fun wx (h : Below w6.heap.size w6 wx) => (h.cell (p := ⟨G, 0, none⟩) HGB.out).trans kd6)
                  have HD6 := Lib.hid ((Below.refl w6.heap.size w6).drew.alloc (Nat.le_refl _) (.cells #[.string mb] 9))
                  have HO1 := Lib.hid (own_one w6.drew w6.heap.size (Nat.le_refl _) mb)
                  have HOP7 := Lib.hid (fun wx (h : Below w6.heap.size w6 wx) => own_below HOP.out h)
                  have HS7 := Lib.hid (fun wx (h : Below w6.heap.size w6 wx) => Nat.le_trans (Nat.le_trans HGW.out (Nat.le_of_lt HGB.out)) h.size)
                  have HS8 := Lib.hid (fun wx (h : Below w6.heap.size w6 wx) => Nat.lt_of_lt_of_le HGB.out h.size)
                  have HGN : Hid (some G ≠ (Value.slice (some ⟨g, 0, none⟩) t oc).ownBlock) := fun h => by
                    have h2 : G = g := Option.some.inj h
                    have := HGG'.out.1; omega
                  have HOC3 : Hid (∀ u ∈ (AL.drop t).map strV, u.oneCell' = true) := fun u hu => by
                    obtain ⟨y, _, rfl⟩ := List.mem_map.1 hu; rfl
                  have HOC2 : Hid (∀ u ∈ [Value.string mb] ++ (AL.drop t).map strV, u.oneCell' = true) := fun u hu => by
                    rcases List.mem_append.1 hu with hu | hu
                    · exact HOC.out u hu
                    · exact HOC3.out u hu
                  have HL7 : Hid (([Value.string mb] ++ (AL.drop t).map strV).length = (1 + (AL.length - t)) * 1) := by show _ = _; simp; omega
                  have HL6 : Hid (((AL.drop t).map strV).length = (AL.length - t) * 1) := by show _ = _; simp
                  have H63 : Hid (t + (1 + (AL.length - t)) ≤ maxLen) := by show _ ≤ _; unfold maxLen; omega
                  have HBY : Hid ((t + (1 + (AL.length - t))) * 16 ≤ 140737488355328) := by show _ ≤ _; omega
                  have H62 : Hid (1 + (AL.length - t) ≤ maxLen) := by show _ ≤ _; unfold maxLen; omega
                  have HBX2 : Hid ((1 + (AL.length - t)) * 16 ≤ 140737488355328) := by show _ ≤ _; omega
                  have HNW : Hid (∀ wx, Below w6.heap.size w6 wx → ∀ j u, ((AL.drop t).map strV)[j]? = some u → wx.cell? ⟨g, t + j, none⟩ = some u) := fun wx hb j u hu => by
                    have h1 := (own_below HO6.out hb).cells (g := g) rfl (t + j) u (by simpa [List.getElem?_drop] using hu)
                    rwa [add_zero_own] at h1
                  have t1 : (t : Int) ≤ (AL.length : Int) := by omega
                  have t2 : (t : Int) ≤ (oc : Int) := by omega
                  have t0 : (0 : Int) ≤ (t : Int) := by omega
                  by_cases hct : oc = t
                  · have HDN : Hid ((AL.drop t).map strV = []) := by show _ = _; rw [List.drop_of_length_le (by omega)]; rfl
                    have hct2 : t = oc := hct.symm
                    subst hct2
                    have hn0 : AL.length - t = 0 := by omega
                    rw [hn0] at HL7 HL6 H63 HBY H62 HBX2
                    go_wp2_with fail
                    go_region_held3 (fun W => W.cell? ⟨G, 0, none⟩ = some (.string mb)) (first | (exact hk8) | (exact HKD.out _ hb7) | (exact HKD.out _ HD6.out) | (exact HKD.out _ (Below.refl _ _).drew)) ((first
                      | (refine step_append_lies _ (by rfl) (.tmp 67) (.tmp 74) 28 (by rfl) w1.heap.size 9 i0 (.string ⟨#[]⟩) 1 16 Tryd.underlying28 hi HZ.out.1 HZ.out.2.1 HZ.out.2.2 rfl (by decide) (.slice (some ⟨g, 0, none⟩) t t) t ((AL.take t).map strV) (by rfl) (HOP7.out _ hb7) ⟨g7, 0, none⟩ (1 + 0) c7 ([.string mb] ++ (AL.drop t).map strV) (by rfl) HL7.out (hown7.cells rfl) HOC2.out (by omega) H63.out HBY.out (HS7.out _ hb7) _ rfl ?_
                         intro g8 c8 w8 hown8 hgr8 hat8 hlt8
                         have hk8 : w8.cell? ⟨G, 0, none⟩ = some (.string mb) := (World.cell?_of_block (a := ⟨G, 0, none⟩) (hgr8.block G (HS8.out _ hb7) HGN.out)).trans (HKD.out _ hb7)
                         clear hat8)
                      | (refine step_append_all _ (by rfl) (.tmp 70) (.tmp 73) 28 (by rfl) w6.heap.size 9 i0 (.string ⟨#[]⟩) 1 16 Tryd.underlying28 hi HZ.out.1 HZ.out.2.1 HZ.out.2.2 rfl (by decide) (.slice (some ⟨w6.heap.size, 0, none⟩) 1 1) 1 [.string mb] (by rfl) HO1.out (by decide) ⟨g, 0, none⟩ 0 0 ((AL.drop t).map strV) (by rfl) HL6.out (fun j u hu => by rw [HDN.out] at hu; cases hu) HOC3.out H62.out HBX2.out HD6.out.size ?_
                         intro g7 c7 w7 hown7 hgr7
                         have hb7 : Below w6.heap.size w6 w7 := HD6.out.grown hgr7 HD6.out.size (fun k hk => (by cases hk; exact Nat.le_refl _)))))
                    have hAL2n : AL2.length = t + (1 + 0) := by rw [HE3.out]; simp; omega
                    have hcells : AL2.map strV = (AL.take t).map strV ++ ([.string mb] ++ (AL.drop t).map strV) := by
                      rw [HE3.out, List.map_append, List.map_cons, strV_mk, HMB.out]; rfl
                    have hbw7 : Below w1.heap.size w1 w7 := HBB4.out.trans ((HB6.out.trans (hb7.mono HB6.out.size)).mono HBB4.out.size)
                    go_wp2_with fail
                    go_meet
                    refine ⟨?_, fun h => absurd hAL2n (by rw [h, List.length_nil]; omega), hbw7.grown hgr8 hbw7.size (fun k hk => (by cases hk; exact HGG'.out.2)), fun j h1 h2 => (hgr8.block j (Nat.lt_of_lt_of_le h2 (Nat.le_trans HB6.out.size hb7.size)) (fun e => by
                      have e2 : j = g := Option.some.inj e
                      have := HGG'.out.1; omega)).trans ((hb7.block j (Nat.lt_of_lt_of_le h2 HB6.out.size)).trans (HB6.out.block j h2)), Nat.le_trans (Nat.le_trans HB6.out.size hb7.size) hgr8.size⟩
                    show World.ownsRow _ _ _ _ _ _ _
                    rw [hAL2n, hcells]; exact hown8
                  · go_wp2_with fail
                    go_region_held3 (fun W => W.cell? ⟨G, 0, none⟩ = some (.string mb)) (first | (exact hk8) | (exact HKD.out _ hb7) | (exact HKD.out _ HD6.out) | (exact HKD.out _ (Below.refl _ _).drew)) ((first
                      | (refine step_append_lies _ (by rfl) (.tmp 67) (.tmp 74) 28 (by rfl) w1.heap.size 9 i0 (.string ⟨#[]⟩) 1 16 Tryd.underlying28 hi HZ.out.1 HZ.out.2.1 HZ.out.2.2 rfl (by decide) (.slice (some ⟨g, 0, none⟩) t oc) t ((AL.take t).map strV) (by rfl) (HOP7.out _ hb7) ⟨g7, 0, none⟩ (1 + (AL.length - t)) c7 ([.string mb] ++ (AL.drop t).map strV) (by rfl) HL7.out (hown7.cells rfl) HOC2.out (by omega) H63.out HBY.out (HS7.out _ hb7) _ rfl ?_
                         intro g8 c8 w8 hown8 hgr8 hat8 hlt8
                         have hk8 : w8.cell? ⟨G, 0, none⟩ = some (.string mb) := (World.cell?_of_block (a := ⟨G, 0, none⟩) (hgr8.block G (HS8.out _ hb7) HGN.out)).trans (HKD.out _ hb7)
                         clear hat8)
                      | (refine step_append_all _ (by rfl) (.tmp 70) (.tmp 73) 28 (by rfl) w6.heap.size 9 i0 (.string ⟨#[]⟩) 1 16 Tryd.underlying28 hi HZ.out.1 HZ.out.2.1 HZ.out.2.2 rfl (by decide) (.slice (some ⟨w6.heap.size, 0, none⟩) 1 1) 1 [.string mb] (by rfl) HO1.out (by decide) ⟨g, t, none⟩ (AL.length - t) (oc - t) ((AL.drop t).map strV) (by rfl) HL6.out (fun j u hu => by rw [add_lit2]; exact HNW.out _ HD6.out j u hu) HOC3.out H62.out HBX2.out HD6.out.size ?_
                         intro g7 c7 w7 hown7 hgr7
                         have hb7 : Below w6.heap.size w6 w7 := HD6.out.grown hgr7 HD6.out.size (fun k hk => (by cases hk; exact Nat.le_refl _)))))
                    have hAL2n : AL2.length = t + (1 + (AL.length - t)) := by rw [HE3.out]; simp; omega
                    have hcells : AL2.map strV = (AL.take t).map strV ++ ([.string mb] ++ (AL.drop t).map strV) := by
                      rw [HE3.out, List.map_append, List.map_cons, strV_mk, HMB.out]; rfl
                    have hbw7 : Below w1.heap.size w1 w7 := HBB4.out.trans ((HB6.out.trans (hb7.mono HB6.out.size)).mono HBB4.out.size)
                    go_wp2_with fail
                    go_meet
                    refine ⟨?_, fun h => absurd hAL2n (by rw [h, List.length_nil]; omega), hbw7.grown hgr8 hbw7.size (fun k hk => (by cases hk; exact HGG'.out.2)), fun j h1 h2 => (hgr8.block j (Nat.lt_of_lt_of_le h2 (Nat.le_trans HB6.out.size hb7.size)) (fun e => by
                      have e2 : j = g := Option.some.inj e
                      have := HGG'.out.1; omega)).trans ((hb7.block j (Nat.lt_of_lt_of_le h2 HB6.out.size)).trans (HB6.out.block j h2)), Nat.le_trans (Nat.le_trans HB6.out.size hb7.size) hgr8.size⟩
                    show World.ownsRow _ _ _ _ _ _ _
                    rw [hAL2n, hcells]; exact hown8
            case rest =>
              obtain ⟨HO7, HN7, HB7, HF7, hsz7⟩ := hcut
              obtain ⟨w7, hw7⟩ : ∃ w7, w7 = wc := ⟨_, rfl⟩
              subst hw7
              have kd7 := (World.cell?_of_block (a := ⟨G, 0, none⟩) (HF7.out G (Nat.le_refl _) HG4.out)).trans HD4.out
              have HQ7 : Hid (Rd w7 w7.heap.size 1 qa q.length (q.map strV)) := by
                obtain ⟨_, _, e, h⟩ := Rd.own (own_heap HQO4.out (fun j h1 h2 => HF7.out j h1 h2))
                cases e
                exact h
              have HBR7 : Hid (Below R w w7) := HA1.out.trans (HB7.out.mono (by rw [HS1.out]; omega))
              have HE := Lib.hid (eq_test mb m)
              have hiff : mb = m ↔ rm = m.data.toList := ⟨fun h => by rw [← HMD.out, h], fun h => by rw [← HMB.out, h, mkB_of]⟩
              clear HB6 kd6 HO6 HEB HIN HO4 HQO4 HRO
              by_cases hme : rm = m.data.toList
              · have heq := HE.out
                rw [decide_eq_true (hiff.2 hme)] at heq
                cases BL with
                | none =>
                  have HF := Lib.hid (HSF.out trivial hme)
                  have hbi : bi = -1 := HBI.out
                  subst hbi
                  clear hme hiff
                  go_wp2_with fail
                  go_roundg (l.length - (k + 1))
                  case measure => omega
                  case rel =>
                    refine ⟨k + 1, k, by omega, rfl, rfl, by go_num, ?_, HAA2.out ▸ HO7.out, HAA2.out ▸ HN7.out, HB7.out⟩
                    show IxOf _ _ _; rw [HBB2.out, HBS.out, HF.out]; exact ⟨k, hlt, rfl, HLR.out⟩
                | some sr =>
                  obtain ⟨j, hj, hbi, hlj⟩ := HBI.out
                  subst hbi
                  have HF := Lib.hid (HSM.out sr trivial hme)
                  clear hme hiff
                  obtain ⟨sp0, sp1, sp8, spn⟩ := HLW.out.cut (List.getElem_mem hj)
                  have HCS := Lib.hid (fun wx => rcut_any (mkB l[j].p) wx (by rw [mkB_size]; omega) (by rw [mkB_size]; exact sp0))
                  rw [mkB_data] at HCS
                  obtain ⟨a2, ea2, _, j0, j1, j2⟩ := rt_in (HR.out.below HBR7.out (by rw [HR0.out]; exact Nat.le_refl _)) rfl j hj
                  cases ea2
                  have HST := Lib.hid (fun qa2 qc2 wx h1 h2 => stronger_any q (cutL (l[j]'hj).p) qa qa2 qc qc2 wx h1 h2 HPN.out spn (by omega) (by omega))
                  rw [hlj] at HCS HST j0 j1 j2
                  have HLJ := Lib.hid hlj
                  clear hlj sp0 sp1 sp8 spn
                  obtain ⟨sb, hsb⟩ : ∃ sb, strL q (cutL sr.p) = sb := ⟨_, rfl⟩
                  rw [hsb] at HF HST
                  clear hsb
                  generalize cutL sr.p = sq at *
                  generalize mkB sr.p = spb at *
                  have g0 : (0 : Int) ≤ (j : Int) := by omega
                  have g1 : (j : Int) < (l.length : Int) := by omega
                  have g2 : ¬ (j : Int) < 0 := by omega
                  go_wp2_with fail
                  refine (HCS.out _).mono ?_
                  rintro e w8 ⟨sv, rfl, hown8, hb8⟩
                  obtain ⟨sa, sc, rfl, hrd8⟩ := Rd.own hown8
                  have HR8 := Lib.hid hrd8
                  have HQ8 := Lib.hid ((HQ7.out.below hb8 (Nat.le_refl _)).wide hb8.size)
                  have HB8 := Lib.hid hb8
                  clear hown8 hrd8 hb8
                  go_wp2_with fail
                  refine (HST.out _ _ w8 HQ8.out HR8.out).mono ?_
                  rintro e w9 ⟨rfl, hb9⟩
                  have HB9 := Lib.hid (HB8.out.trans (hb9.mono HB8.out.size))
                  clear hb9
                  cases sb with
                  | true =>
                    go_wp2_with fail
                    go_roundg (l.length - (k + 1))
                    case measure => omega
                    case rel =>
                      refine ⟨k + 1, k, by omega, rfl, rfl, by go_num, ?_, HAA2.out ▸ own_below HO7.out HB9.out, HAA2.out ▸ HN7.out, HB7.out.trans (HB9.out.mono HB7.out.size)⟩
                      show IxOf _ _ _; rw [HBB2.out, HBS.out, HF.out]; exact ⟨k, hlt, rfl, HLR.out⟩
                  | false =>
                    go_wp2_with fail
                    go_roundg (l.length - (k + 1))
                    case measure => omega
                    case rel =>
                      refine ⟨k + 1, j, by omega, rfl, rfl, by go_num, ?_, HAA2.out ▸ own_below HO7.out HB9.out, HAA2.out ▸ HN7.out, HB7.out.trans (HB9.out.mono HB7.out.size)⟩
                      show IxOf _ _ _; rw [HBB2.out, HBS.out, HF.out]; exact ⟨j, hj, rfl, HLJ.out⟩
              · have heq := HE.out
                rw [decide_eq_false (fun h => hme (hiff.1 h))] at heq
                have HF := Lib.hid (HSO.out hme)
                clear hme hiff
                go_wp2_with fail
                go_roundg (l.length - (k + 1))
                case measure => omega
                case rel =>
                  refine ⟨k + 1, bi, by omega, rfl, rfl, by go_num, ?_, HAA2.out ▸ HO7.out, HAA2.out ▸ HN7.out, HB7.out⟩
                  show IxOf _ _ _; rw [HBB2.out, HBS.out, HF.out]; exact HBI.out
    · have hke : k = l.length := by omega
      have hall : l.take k = l := List.take_of_length_le (by omega)
      rw [hall] at HBI HO HN ⊢
      clear hall hlt
      subst hke
      have HBW : Hid (Below R w wr) := HA1.out.trans (HB.out.mono (by rw [HS1.out]; omega))
      have HK : Hid (wr.heap[R]? = some (.cells #[.string ⟨#[]⟩, .slice none 0 0, .slice none 0 0] 32 (0, 0))) := (HB.out.block R (by rw [HS1.out]; omega)).trans HK1.out
      have HR1 : Hid (R < w1.heap.size) := by show _ < _; rw [HS1.out]; omega
      cases hBL : bestL cutL m.data.toList x l with
      | none =>
        rw [hBL] at HBI
        have hbi : bi = -1 := HBI.out
        subst hbi
        have HTT : Hid (T = ⟨[], [], allowL cutL x l, false⟩) := by
          show _ = _
          rw [← HT.out, matchL, hBL]
        clear HT
        generalize allowL cutL x l = AL at *
        have r0 : wr.cell? ⟨R, 0, none⟩ = some (.string ⟨#[]⟩) := by rw [Lib.cell_of_heap HK.out]; rfl
        have r1 : wr.cell? ⟨R, 1, none⟩ = some (.slice none 0 0) := by rw [Lib.cell_of_heap HK.out]; rfl
        have r2 : wr.cell? ⟨R, 2, none⟩ = some (.slice none 0 0) := by rw [Lib.cell_of_heap HK.out]; rfl
        have z0 : wr.frozen? ⟨R, 0, none⟩ = false := Lib.frozen_of_heap HK.out 0
        have z1 : wr.frozen? ⟨R, 1, none⟩ = false := Lib.frozen_of_heap HK.out 1
        have z2 : wr.frozen? ⟨R, 2, none⟩ = false := Lib.frozen_of_heap HK.out 2
        go_wp2_with fail
        refine mt_ret15 (R := R) (put3_blk HK.out (.string ⟨#[]⟩) (.slice none 0 0) (.slice oa AL.length oc)) rfl rfl rfl ?_
        have hbl : Below w.heap.size w (put3 wr R (.string ⟨#[]⟩) (.slice none 0 0) (.slice oa AL.length oc)) := by
          have h1 := HBW.out
          rw [HR0.out] at h1
          exact h1.trans (put3_below (Below.refl _ _) (by rw [HR0.out]; exact Nat.le_refl _) _ _ _)
        obtain ⟨_, _, e9, hrd9⟩ := Rd.own (put3_own HO.out HR1.out (.string ⟨#[]⟩) (.slice none 0 0) (.slice oa AL.length oc))
        cases e9
        refine ⟨⟨none, 0, 0, oa, AL.length, oc, ?_, ?_⟩, hbl⟩
        · rw [HTT.out]; rfl
        · rw [HTT.out]
          exact ⟨rfl, rfl, rd_zero _ _ _ _, rfl, hrd9⟩
      | some r =>
        rw [hBL] at HBI
        obtain ⟨j, hj, hbi, hlj⟩ := HBI.out
        subst hbi
        have hrm : r ∈ l := by rw [← hlj]; exact List.getElem_mem hj
        obtain ⟨hp0, hp1, hp8, hpn⟩ := HLW.out.cut hrm
        have hgd := HLW.out.good r hrm
        have hfit : fitR cutL m.data.toList x r = true := by
          have := best_is cutL m.data.toList x l HLW.out.good HLW.out.apart
          rw [hBL] at this
          exact this.2.1
        have hhas : hasL (cutL r.p) x = true := by
          rw [fitR, Bool.and_eq_true] at hfit; exact hfit.1
        have hqx := has_len _ _ hgd hhas
        have HTT : Hid (T = ⟨r.h, parL (cutL r.p) x, [], true⟩) := by
          show _ = _
          rw [par_params _ _ hgd hhas, ← HT.out, matchL, hBL]
        obtain ⟨a2, ea2, _, j0, j1, j2⟩ := rt_in (HR.out.below HBW.out (by rw [HR0.out]; exact Nat.le_refl _)) rfl j hj
        subst ea2
        have HCU := Lib.hid (fun wx => rcut_any (mkB r.p) wx (by rw [mkB_size]; omega) (by rw [mkB_size]; exact hp0))
        rw [mkB_data] at HCU
        rw [hlj] at j0 j1 j2
        clear hhas hfit hgd hp0 hp1 HT hlj hrm hBL
        generalize cutL r.p = q at *
        have HPN := Lib.hid hpn
        clear hpn
        generalize allowL cutL x l = AL at *
        generalize mkB r.p = pb at *
        generalize hhb : mkB r.h = hb at *
        have HHB := Lib.hid hhb
        clear hhb j0
        have g0 : (0 : Int) ≤ (j : Int) := by omega
        have g1 : (j : Int) < (l.length : Int) := by omega
        have g2 : ¬ (j : Int) < 0 := by omega
        have HA5 := Lib.hid ((Below.refl wr.heap.size wr).alloc (Nat.le_refl _) (.cells #[.string hb, .slice none 0 0, .slice none 0 0] 32))
        have HK5 : Hid ((wr.alloc (.cells #[.string hb, .slice none 0 0, .slice none 0 0] 32)).heap[wr.heap.size]? = some (.cells #[.string hb, .slice none 0 0, .slice none 0 0] 32 (0, 0))) := heap_alloc_new wr _
        have HS5 : Hid ((wr.alloc (.cells #[.string hb, .slice none 0 0, .slice none 0 0] 32)).heap.size = wr.heap.size + 1) := by show _ = _; simp
        have k1 := (HA5.out.cell (p := ⟨(a2.add (j * 3)).block, (a2.add (j * 3)).off + 1, none⟩) (by have := cell_blk j1; exact this)).trans j1
        go_wp2_with fail
        generalize wr.alloc (.cells #[.string hb, .slice none 0 0, .slice none 0 0] 32) = w5 at *
        obtain ⟨wq, hwq⟩ : ∃ wq, wq = wr := ⟨_, rfl⟩
        subst hwq
        generalize hMM : wq.heap.size = M at *
        have HM0 := Lib.hid hMM
        clear hMM
        refine (HCU.out _).mono ?_
        rintro e w6 ⟨qv, rfl, hown6, hb6⟩
        obtain ⟨qa, qc, rfl, hqc, hrd6⟩ := Rd.ownc hown6
        have HQO := Lib.hid hown6
        have HK6 : Hid (w6.heap[M]? = some (.cells #[.string hb, .slice none 0 0, .slice none 0 0] 32 (0, 0))) := (hb6.block M (by rw [HS5.out]; omega)).trans HK5.out
        have HM6 : Hid (M < w6.heap.size ∧ w1.heap.size ≤ M) := ⟨by have := hb6.size; rw [HS5.out] at this; omega, by have := HB.out.size; have := HM0.out; omega⟩
        have HB6 : Hid (Below w1.heap.size w1 w6) := HB.out.trans ((HA5.out.trans (hb6.mono (by have := HA5.out.size; rw [HM0.out] at this; exact this))).mono (by have := HB.out.size; have := HM0.out; omega))
        clear hown6 hrd6 hb6 HCU j1 j2 k1 HA5 HK5
        have HHR : Hid (∀ u, (M : Nat) = u → u = M) := fun u h => h.symm
        obtain ⟨i1, hi1, hy0, hy1, hy2⟩ := info_parts Tryd.info52
        have HY := Lib.hid (And.intro hy0 (And.intro hy1 hy2))
        clear hy0 hy1 hy2
        go_wp2_with fail
        go_loopg [16] q.length (fun gk iv wx => ∃ (i : Nat) (pv : Value), i ≤ q.length ∧ gk = q.length - i ∧ iv = .int .i64 i ∧ Hid (wx.heap[M]? = some (.cells #[.string hb, pv, .slice none 0 0] 32 (0, 0))) ∧ Hid (wx.ownsRow w6.heap.size 52 2 pv (parL (q.take i) x).length (plCells (parL (q.take i) x))) ∧ Hid (∀ j, j < w6.heap.size → j ≠ M → wx.heap[j]? = w6.heap[j]?) ∧ Hid (Below w1.heap.size w1 wx) ∧ Hid (w6.heap.size ≤ wx.heap.size))
        case atStart => exact ⟨0, .slice none 0 0, by omega, by omega, rfl, HK6.out, World.ownsRow_nil _ _ _ _, fun _ _ _ => rfl, HB6.out, Nat.le_refl _⟩
        case round =>
          obtain ⟨i, pv, hi2, rfl, rfl, HM, HPO, HF, HBX, HSX⟩ := hrel
          obtain ⟨pa, pc2, rfl, hpc, _⟩ := Rd.ownc HPO.out
          have HBR : Hid (Below R w wr) := HA1.out.trans (HBX.out.mono (by rw [HS1.out]; omega))
          by_cases hlt : i < q.length
          · have hix : i < x.length := by omega
            obtain ⟨gq, qcap, he, hgq, hgq2, _, _⟩ := own_shape HQO.out (by omega)
            obtain ⟨rfl, _, rfl⟩ := Value.slice.inj he
            have HGQ : Hid (M < gq ∧ gq < w6.heap.size) := ⟨by rw [HS5.out] at hgq; omega, hgq2⟩
            clear he hgq hgq2
            have kq : w6.cell? ⟨gq, i, none⟩ = some (.string (mkB q[i])) := by
              have h1 := HQO.out.cells (g := gq) rfl i (strV q[i]) (by simp [hlt])
              rwa [add_zero_own] at h1
            have kq2 : wr.cell? ⟨gq, i, none⟩ = some (.string (mkB q[i])) := (World.cell?_of_block (a := ⟨gq, i, none⟩) (HF.out gq HGQ.out.2 (by have := HGQ.out.1; omega))).trans kq
            obtain ⟨a0, ha0, hab0, hx0⟩ := HX.out.rd.2 (by omega)
            have hsp := HX.out.spot (by omega) a0 ha0
            obtain ⟨xb, xo, xz⟩ := a0
            simp at hsp
            subst hsp
            subst ha0
            have HXC : Hid (∀ wy, Below R w wy → ∀ k (h : k < x.length), wy.cell? ⟨xb, xo + k, none⟩ = some (.string (mkB x[k]))) := fun wy hb k h => by
              have h1 := hx0 k (strV x[k]) (by simp [h])
              rw [add_lit2] at h1
              exact (hb.cell (p := ⟨xb, xo + k, none⟩) hab0).trans h1
            have HSH := Lib.hid HX.out.short
            have HSN := Lib.hid (par_snoc q x i hlt hix)
            have hz : 0 < (mkB q[i]).size := by
              rw [mkB_size]
              exact List.length_pos_iff.2 (HPN.out q[i] (List.getElem_mem hlt))
            have HRK := Lib.hid (fun wx => rkind_any (mkB q[i]) wx hz)
            rw [mkB_data] at HRK
            have hkd := kd_cases q[i]
            have hpc : parC q[i] (x.drop i) = if kd q[i] = 1 then [(q[i].drop 1, x[i])] else if kd q[i] = 2 then [(q[i].drop 1, joinS (x.drop i))] else [] := by
              rw [parC, List.drop_eq_getElem_cons hix]; rfl
            rw [hpc] at HSN
            have HTL : Hid ((mkB q[i]).extract 1 (mkB q[i]).size = mkB (q[i].drop 1)) := bytes_ext (by rw [mkB_data]; exact (tl_data _).trans (by rw [mkB_data]))
            have hz2 : (1 : Int) ≤ ((mkB q[i]).size : Int) := by omega
            have hPL : (parL (q.take i) x).length ≤ 8 := by have := par_len (q.take i) x; rw [List.length_take] at this; omega
            clear hpc kq hx0 hab0
            obtain ⟨kv, hkv⟩ : ∃ kv, kd q[i] = kv := ⟨_, rfl⟩
            rw [hkv] at HRK hkd HSN
            clear hkv
            generalize q[i].drop 1 = nm at *
            generalize mkB q[i] = sb at *
            generalize hP : parL (q.take i) x = P at *
            generalize hP2 : parL (q.take (i + 1)) x = P2 at *
            have HP2 := Lib.hid hP2
            clear hP hP2
            have i0' : (0 : Int) ≤ (i : Int) := by omega
            have i1' : (i : Int) < (q.length : Int) := by omega
            go_wp2_with fail
            refine (HRK.out _).mono ?_
            rintro e w7 ⟨rfl, rfl⟩
            by_cases hk0 : kv = 0
            · subst hk0
              have HE : Hid (P2 = P) := by show _ = _; rw [HSN.out]; simp
              go_wp2_with fail
              go_roundg (q.length - (i + 1))
              case measure => omega
              case rel => exact ⟨i + 1, _, by omega, rfl, by go_num, HM.out, by show World.ownsRow _ _ _ _ _ _ _; rw [HP2.out, HE.out]; exact HPO.out, HF.out, HBX.out, HSX.out⟩
            · have hk1 : ((kv : Int) == 0) = false := by rw [beq_eq_false_iff_ne]; omega
              have kx := HXC.out wr HBR.out i hix
              have i2' : (i : Int) < (x.length : Int) := by omega
              obtain ⟨w7, hw7⟩ : ∃ w7, w7 = wr := ⟨_, rfl⟩
              subst hw7
              obtain ⟨V, hV⟩ : ∃ V, (if kv = 2 then joinS (x.drop i) else x[i]) = V := ⟨_, rfl⟩
              have HV := Lib.hid hV
              clear hV
              have HSE : Hid (P2 = P ++ [(nm, V)]) := by
                show _ = _
                rw [HSN.out, ← HV.out]
                rcases hkd with h | h | h
                · exact absurd h hk0
                · rw [if_pos h, if_neg (by omega)]
                · rw [if_neg (by omega), if_pos h, if_pos h]
              go_upto_if 129 with fail
              go_cut [18] from 111 to 156 (fun v wz => v = .string (mkB V) ∧ wz = w7)
              case first =>
                by_cases hk2 : kv = 2
                · subst hk2
                  have HJL : Hid (∀ k, (joinW 47 ((x.drop i).take k)).length ≤ 1001001000) := fun k => by
                    have h1 := joinW_len ((x.drop i).take k) 1000000 (fun y hy => HSH.out y (List.mem_of_mem_drop (List.mem_of_mem_take hy)))
                    have h2 : ((x.drop i).take k).length ≤ 1000 := by simp; omega
                    have h3 := Nat.mul_le_mul_right (1000000 + 1) h2
                    show _ ≤ _
                    omega
                  have HVL : Hid (V = joinS (x.drop i)) := HV.out.symm
                  have HJF := Lib.hid (join_first x i hix)
                  go_wp2_with fail
                  go_loopg [18, 19] (x.length - (i + 1)) (fun gk vv jv wy => ∃ jj : Nat, i < jj ∧ jj ≤ x.length ∧ gk = x.length - jj ∧ jv = .int .i64 jj ∧ vv = .string (mkB (joinW 47 ((x.drop i).take (jj - i)))) ∧ wy = w7)
                  case atStart => exact ⟨i + 1, by omega, by omega, rfl, by go_num, by rw [HJF.out], rfl⟩
                  case round =>
                    obtain ⟨jj, hij, hjx, rfl, rfl, rfl, rfl⟩ := hrel
                    by_cases hjl : jj < x.length
                    · have kj := HXC.out wr HBR.out jj hjl
                      have hjsn := join_snoc x i jj hij hjl
                      have hl1 := HJL.out (jj - i)
                      have hl2 := HSH.out x[jj] (List.getElem_mem hjl)
                      have hsum : mkB (joinW 47 ((x.drop i).take (jj - i))) ++ ((⟨#[47]⟩ : ByteArray) ++ mkB x[jj]) = mkB (joinW 47 ((x.drop i).take (jj + 1 - i))) := by
                        rw [hjsn]
                        apply bytes_ext
                        rw [app_data, app_data, mkB_data, mkB_data, mkB_data]
                        simp
                      have hs1 : (mkB (joinW 47 ((x.drop i).take (jj - i)))).size ≤ 1001001000 := by rw [mkB_size]; exact hl1
                      have hs2 : (mkB x[jj]).size ≤ 1000000 := by rw [mkB_size]; exact hl2
                      have k1 := add_str ⟨#[47]⟩ (mkB x[jj]) (by have : (⟨#[47]⟩ : ByteArray).size = 1 := rfl; omega)
                      have k2 := add_str (mkB (joinW 47 ((x.drop i).take (jj - i)))) ((⟨#[47]⟩ : ByteArray) ++ mkB x[jj]) (by have : (⟨#[47]⟩ : ByteArray).size = 1 := rfl; rw [ByteArray.size_append]; omega)
                      have HSU := Lib.hid hsum
                      clear hsum hjsn hl1 hl2 hs1 hs2
                      generalize mkB (joinW 47 ((x.drop i).take (jj - i))) = J1 at *
                      generalize (⟨#[47]⟩ : ByteArray) ++ mkB x[jj] = J2 at *
                      generalize mkB x[jj] = xj at *
                      have m0 : (0 : Int) ≤ (jj : Int) := by omega
                      have m1 : (jj : Int) < (x.length : Int) := by omega
                      go_wp2_with fail
                      go_roundg (x.length - (jj + 1))
                      case measure => omega
                      case rel => exact ⟨jj + 1, by omega, by omega, rfl, by go_num, by rw [← HSU.out], rfl⟩
                    · have hje : jj = x.length := by omega
                      subst hje
                      go_wp2_with fail
                      go_meet
                      exact ⟨by rw [HVL.out, ← join_last], rfl⟩
                · have hk3 : ((kv : Int) == 2) = false := by rw [beq_eq_false_iff_ne]; omega
                  have hVx : V = x[i] := by rw [← HV.out, if_neg hk2]
                  go_wp2_with fail
                  go_meet
                  exact ⟨by rw [hVx], rfl⟩
              case rest =>
                obtain ⟨rfl, hwc⟩ := hcut
                have hwc2 : w7 = wc := hwc.symm
                subst hwc2
                obtain ⟨vb, hvb⟩ : ∃ vb, mkB V = vb := ⟨_, rfl⟩
                rw [hvb]
                have HVB := Lib.hid hvb
                clear hvb
                have hM1 : w7.cell? ⟨M, 1, none⟩ = some (.slice pa P.length pc2) := by rw [Lib.cell_of_heap HM.out]; rfl
                have HSK := Lib.hid (fun wx (h : Below w6.heap.size w7 wx) => And.intro ((h.cell (p := ⟨M, 1, none⟩) HM6.out.1).trans hM1) ((h.cell (p := ⟨gq, i, none⟩) HGQ.out.2).trans kq2))
                have HAX := Lib.hid ((Below.refl w7.heap.size w7).alloc (Nat.le_refl _) (.cells #[.string (sb.extract 1 sb.size), .string vb] 52)).drew
                have HAM := Lib.hid (HAX.out.mono HSX.out)
                have HO8 := Lib.hid (own_below HPO.out HAX.out)
                have HNW : Hid (∀ j u, [Value.string (sb.extract 1 sb.size), .string vb][j]? = some u → (w7.alloc (.cells #[.string (sb.extract 1 sb.size), .string vb] 52)).drew.cell? ((⟨w7.heap.size, 0, none⟩ : Addr).add j) = some u) := fun j u hu => pl_new w7 (sb.extract 1 sb.size) vb j u hu
                have H63 : Hid (P.length + 1 ≤ maxLen) := by show _ ≤ _; unfold maxLen; omega
                have HBY : Hid ((P.length + 1) * 32 ≤ 140737488355328) := by show _ ≤ _; omega
                have HSZ : Hid (w6.heap.size ≤ (w7.alloc (.cells #[.string (sb.extract 1 sb.size), .string vb] 52)).drew.heap.size) := Nat.le_trans HSX.out HAX.out.size
                have HOC : Hid (∀ u ∈ [Value.string (sb.extract 1 sb.size), .string vb], u.oneCell' = true) := pl_one _ _
                go_upto_region 31 with fail
                refine Ends.start (S := fun W => W.cell? ⟨M, 1, none⟩ = some (.slice pa P.length pc2) ∧ W.cell? ⟨gq, i, none⟩ = some (.string sb)) (n := 12) (by kernel_rfl) ?_
                have hS0 : w7.drew.cell? ⟨M, 1, none⟩ = some (.slice pa P.length pc2) ∧ w7.drew.cell? ⟨gq, i, none⟩ = some (.string sb) := ⟨hM1, kq2⟩
                refine Ends.give 0 145 (.pointer (some ⟨M, 1, none⟩)) rfl rfl (by kernel_rfl) (by kernel_rfl) (by kernel_rfl) (by decide) (by kernel_rfl) (fun _ _ _ h => h) (by rfl) (by intro wx hSw; obtain ⟨s0, s1⟩ := hSw; go_simp) hS0 ?_
                simp only [Act.put, List.setIfInBounds_toArray, List.set_cons_zero, List.set_cons_succ]
                refine Ends.give 1 146 (.slice pa P.length pc2) rfl rfl (by kernel_rfl) (by kernel_rfl) (by kernel_rfl) (by decide) (by kernel_rfl) (fun _ _ _ h => h) (by rfl) (by intro wx hSw; obtain ⟨s0, s1⟩ := hSw; go_simp) hS0 ?_
                simp only [Act.put, List.setIfInBounds_toArray, List.set_cons_zero, List.set_cons_succ]
                refine Ends.give 2 147 (.slice (some ⟨gq, 0, none⟩) q.length qc) rfl rfl (by kernel_rfl) (by kernel_rfl) (by kernel_rfl) (by decide) (by kernel_rfl) (fun _ _ _ h => h) (by rfl) (by intro wx hSw; obtain ⟨s0, s1⟩ := hSw; go_simp) hS0 ?_
                simp only [Act.put, List.setIfInBounds_toArray, List.set_cons_zero, List.set_cons_succ]
                refine Ends.give 3 148 (.int .i64 i) rfl rfl (by kernel_rfl) (by kernel_rfl) (by kernel_rfl) (by decide) (by kernel_rfl) (fun _ _ _ h => h) (by rfl) (by intro wx hSw; obtain ⟨s0, s1⟩ := hSw; go_simp) hS0 ?_
                simp only [Act.put, List.setIfInBounds_toArray, List.set_cons_zero, List.set_cons_succ]
                refine Ends.give 4 149 (.pointer (some ⟨gq, i, none⟩)) rfl rfl (by kernel_rfl) (by kernel_rfl) (by kernel_rfl) (by decide) (by kernel_rfl) (fun _ _ _ h => h) (by rfl) (by intro wx hSw; obtain ⟨s0, s1⟩ := hSw; go_simp) hS0 ?_
                simp only [Act.put, List.setIfInBounds_toArray, List.set_cons_zero, List.set_cons_succ]
                refine Ends.give 5 150 (.string sb) rfl rfl (by kernel_rfl) (by kernel_rfl) (by kernel_rfl) (by decide) (by kernel_rfl) (fun _ _ _ h => h) (by rfl) (by intro wx hSw; obtain ⟨s0, s1⟩ := hSw; go_simp) hS0 ?_
                simp only [Act.put, List.setIfInBounds_toArray, List.set_cons_zero, List.set_cons_succ]
                refine Ends.give 6 151 (.string (sb.extract 1 sb.size)) rfl rfl (by kernel_rfl) (by kernel_rfl) (by kernel_rfl) (by decide) (by kernel_rfl) (fun _ _ _ h => h) (by rfl) (by intro wx hSw; obtain ⟨s0, s1⟩ := hSw; go_simp) hS0 ?_
                simp only [Act.put, List.setIfInBounds_toArray, List.set_cons_zero, List.set_cons_succ]
                refine Ends.give 7 152 (.string vb) rfl rfl (by kernel_rfl) (by kernel_rfl) (by kernel_rfl) (by decide) (by kernel_rfl) (fun _ _ _ h => h) (by rfl) (by intro wx hSw; obtain ⟨s0, s1⟩ := hSw; go_simp) hS0 ?_
                simp only [Act.put, List.setIfInBounds_toArray, List.set_cons_zero, List.set_cons_succ]
                refine Ends.give 8 153 (.agg #[.string (sb.extract 1 sb.size), .string vb]) rfl rfl (by kernel_rfl) (by kernel_rfl) (by kernel_rfl) (by decide) (by kernel_rfl) (fun _ _ _ h => h) (by rfl) (by intro wx hSw; obtain ⟨s0, s1⟩ := hSw; go_simp) hS0 ?_
                simp only [Act.put, List.setIfInBounds_toArray, List.set_cons_zero, List.set_cons_succ]
                refine Ends.step (i := 9) (by kernel_rfl) rfl (fun K hK => ?_)
                go_simp
                refine hK.out _ _ (fun _ => HSK.out _ HAM.out) ?_
                clear hK K hS0
                refine Ends.step (i := 10) (by kernel_rfl) rfl (fun K hK => ?_)
                refine step_append_lies _ (by rfl) (.tmp 146) (.tmp 154) 30 (by rfl) w6.heap.size 52 i1 (.agg #[.string ⟨#[]⟩, .string ⟨#[]⟩]) 2 32 Tryd.underlying30 hi1 HY.out.1 HY.out.2.1 HY.out.2.2 rfl (by decide) (.slice pa P.length pc2) P.length (plCells P) (by rfl) HO8.out ⟨w7.heap.size, 0, none⟩ 1 1 [.string (sb.extract 1 sb.size), .string vb] (by rfl) rfl HNW.out HOC.out (by decide) H63.out HBY.out HSZ.out _ rfl ?_
                intro g9 c9 w9 hown9 hgr9 hat9 hlt9
                have hb9 : Below w6.heap.size w7 w9 := HAM.out.grown hgr9 HSZ.out (fun k hk => (HO8.out.lt k hk).1)
                refine hK.out _ _ (fun _ => HSK.out _ hb9) ?_
                clear hK K
                have HS9 := Lib.hid (HSK.out _ hb9)
                have HM9 : Hid (w9.heap[M]? = some (.cells #[.string hb, .slice pa P.length pc2, .slice none 0 0] 32 (0, 0))) := (hb9.block M HM6.out.1).trans HM.out
                have e0 : w9.cell? ⟨M, 1, none⟩ = some (.slice pa P.length pc2) := HS9.out.1
                have e1 : w9.frozen? ⟨M, 1, none⟩ = false := Lib.frozen_of_heap HM9.out 1
                have HOW := Lib.hid hown9
                have HB9 := Lib.hid hb9
                clear hown9 hgr9 hat9 hlt9 hb9
                refine Ends.step (i := 11) (by kernel_rfl) rfl (fun K hK => ?_)
                go_simp
                refine hK.out _ _ (fun _ => HS9.out) ?_
                clear hK K
                refine Ends.step (i := 12) (by kernel_rfl) rfl (fun K hK => ?_)
                go_simp
                refine hK.out _ _ (fun h => absurd rfl h) ?_
                clear hK K
                refine Ends.done (by kernel_rfl) ?_
                go_wp2_with fail
                go_roundg (q.length - (i + 1))
                case measure => omega
                case rel =>
                  have hbw : Below w1.heap.size w1 w9 := HBX.out.trans (HB9.out.mono (HB6.out.size))
                  refine ⟨i + 1, .slice (some ⟨g9, 0, none⟩) (P.length + 1) c9, by omega, rfl, by go_num, heap_setCell_same w9 M 1 _ 32 _ HM9.out, ?_, fun j hj hjM => ?_, hbw.setCell (p := ⟨M, 1, none⟩) HM6.out.2 _, ?_⟩
                  · show World.ownsRow _ _ _ _ _ _ _
                    have hc : plCells P2 = plCells P ++ [.string (sb.extract 1 sb.size), .string vb] := by
                      rw [HSE.out, pl_app, HTL.out, ← HVB.out]; rfl
                    rw [HP2.out, hc, HSE.out, List.length_append]
                    exact own_far HOW.out ⟨M, 1, none⟩ _ HM6.out.1
                  · exact (heap_setCell_other _ _ j _ hjM).trans ((HB9.out.block j hj).trans (HF.out j hj hjM))
                  · show w6.heap.size ≤ _
                    have := HB9.out.size
                    have := HSX.out
                    simp [World.setCell]; omega
          · have hie : i = q.length := by omega
            have HQT : Hid (q.take i = q) := List.take_of_length_le (by omega)
            have HPO2 : Hid (wr.ownsRow w6.heap.size 52 2 (.slice pa (parL q x).length pc2) (parL q x).length (plCells (parL q x))) := by
              have := HPO.out
              rw [HQT.out] at this
              exact this
            rw [HQT.out] at HM
            have HKR : Hid (wr.heap[R]? = some (.cells #[.string ⟨#[]⟩, .slice none 0 0, .slice none 0 0] 32 (0, 0))) := (HBX.out.block R HR1.out).trans HK1.out
            have hRM : R < w6.heap.size := by have := HR1.out; have := HM6.out; omega
            have HRM := Lib.hid hRM
            have m0 : wr.cell? ⟨M, 0, none⟩ = some (.string hb) := by rw [Lib.cell_of_heap HM.out]; rfl
            have m1 : wr.cell? ⟨M, 1, none⟩ = some (.slice pa (parL q x).length pc2) := by rw [Lib.cell_of_heap HM.out]; rfl
            have m2 : wr.cell? ⟨M, 2, none⟩ = some (.slice none 0 0) := by rw [Lib.cell_of_heap HM.out]; rfl
            have r0 : wr.cell? ⟨R, 0, none⟩ = some (.string ⟨#[]⟩) := by rw [Lib.cell_of_heap HKR.out]; rfl
            have r1 : wr.cell? ⟨R, 1, none⟩ = some (.slice none 0 0) := by rw [Lib.cell_of_heap HKR.out]; rfl
            have r2 : wr.cell? ⟨R, 2, none⟩ = some (.slice none 0 0) := by rw [Lib.cell_of_heap HKR.out]; rfl
            have z0 : wr.frozen? ⟨R, 0, none⟩ = false := Lib.frozen_of_heap HKR.out 0
            have z1 : wr.frozen? ⟨R, 1, none⟩ = false := Lib.frozen_of_heap HKR.out 1
            have z2 : wr.frozen? ⟨R, 2, none⟩ = false := Lib.frozen_of_heap HKR.out 2
            generalize parL q x = PP at *
            clear HPO hlt hRM
            go_wp2_with fail
            refine mt_ret15 (R := R) (put3_blk HKR.out (.string hb) (.slice pa PP.length pc2) (.slice none 0 0)) rfl rfl rfl ?_
            have hbl : Below w.heap.size w (put3 wr R (.string hb) (.slice pa PP.length pc2) (.slice none 0 0)) := by
              have h1 := HBR.out
              rw [HR0.out] at h1
              exact h1.trans (put3_below (Below.refl _ _) (by rw [HR0.out]; exact Nat.le_refl _) _ _ _)
            obtain ⟨_, _, e9, hrd9⟩ := Rd.own (put3_own HPO2.out HRM.out (.string hb) (.slice pa PP.length pc2) (.slice none 0 0))
            cases e9
            refine ⟨⟨pa, PP.length, pc2, none, 0, 0, ?_, ?_⟩, hbl⟩
            · rw [HTT.out]
              show Ending.returned (.tuple #[.agg #[.string hb, .slice pa PP.length pc2, .slice none 0 0], .bool true]) = Ending.returned (.tuple #[.agg #[.string (mkB r.h), .slice pa PP.length pc2, .slice none 0 0], .bool true])
              rw [HHB.out]
            · rw [HTT.out]
              exact ⟨rfl, rfl, hrd9, rfl, rd_zero _ _ _ _⟩
end Go.Proofs.YtekjpcmobgdgpaaDoor
