/- The law CutterSeeds, walked. -/
import Derived.Test.YtkjlbddaglcooaaGreatDoorSeedsLow
import Derived.BigQuiet
namespace Go.Proofs.YtkjlbddaglcooaaGreatDoor
open Go.RowKit Pl
open Go.Lib (byteCells)

/-- Where the counting stands behind i seeds. -/
structure SL (S : List Sd) (i : Nat) (t : ByteArray) (nw : Nat) (st : Int) (dn : Bool) : Prop where
  ht : t = mkT (sdText (S.take i))
  hn : nw = (sdCut (S.take i)).2.length
  hs : st = (sdCut (S.take i)).1.status
  hd : dn = (sdCut (S.take i)).1.done
theorem SL.start (S : List Sd) : SL S 0 ⟨#[]⟩ 0 0 false := ⟨rfl, rfl, rfl, rfl⟩
theorem sl_take (S : List Sd) (i : Nat) (s : Sd) (h : S[i]? = some s) : S.take (i + 1) = S.take i ++ [s] := by
  rw [List.take_add_one, h]; rfl
theorem SL.text {S : List Sd} {i : Nat} {t : ByteArray} {nw : Nat} {st : Int} {dn : Bool} {s : Sd} (h : SL S i t nw st dn) (hi : S[i]? = some s) : t ++ mkT s.text = mkT (sdText (S.take (i + 1))) := by
  rw [h.ht, mkT_app, sl_take S i s hi, sdText_snoc]
theorem SL.over {S : List Sd} {i : Nat} {t : ByteArray} {nw : Nat} {st : Int} {s : Sd} (h : SL S i t nw st true) (hi : S[i]? = some s) : SL S (i + 1) (t ++ mkT s.text) nw st true := by
  have e : sdCut (S.take (i + 1)) = sdCut (S.take i) := by rw [sl_take S i s hi, sdCut_snoc, if_pos h.hd.symm]
  exact ⟨h.text hi, by rw [e]; exact h.hn, by rw [e]; exact h.hs, by rw [e]; exact h.hd⟩
theorem SL.wrong {S : List Sd} {i : Nat} {t : ByteArray} {nw : Nat} {st : Int} {s : Sd} (h : SL S i t nw st false) (hi : S[i]? = some s) (hb : s.bad = true) : SL S (i + 1) (t ++ mkT s.text) nw (wrongS s.wk) true := by
  have e : sdCut (S.take (i + 1)) = (stopC (wrongS s.wk), (sdCut (S.take i)).2) := by rw [sl_take S i s hi, sdCut_snoc, if_neg (by rw [← h.hd]; simp), if_pos hb]
  exact ⟨h.text hi, by rw [e]; exact h.hn, by rw [e]; rfl, by rw [e]; rfl⟩
theorem SL.right {S : List Sd} {i : Nat} {t : ByteArray} {nw : Nat} {st : Int} {s : Sd} (h : SL S i t nw st false) (hi : S[i]? = some s) (hb : s.bad = false) : SL S (i + 1) (t ++ mkT s.text) (nw + 1) st s.cl := by
  have hlive := sdCut_live (S.take i) h.hd.symm
  have hst : st = 0 := by rw [h.hs, hlive]; rfl
  cases hc : s.cl with
  | true =>
    have e : sdCut (S.take (i + 1)) = (stopC 0, (sdCut (S.take i)).2 ++ [s.rq]) := by rw [sl_take S i s hi, sdCut_snoc, if_neg (by rw [← h.hd]; simp), if_neg (by rw [hb]; simp), if_pos hc]
    exact ⟨h.text hi, by rw [e, h.hn]; simp, by rw [e, hst]; rfl, by rw [e]; rfl⟩
  | false =>
    have e : sdCut (S.take (i + 1)) = (newC, (sdCut (S.take i)).2 ++ [s.rq]) := by rw [sl_take S i s hi, sdCut_snoc, if_neg (by rw [← h.hd]; simp), if_neg (by rw [hb]; simp), if_neg (by rw [hc]; simp)]
    exact ⟨h.text hi, by rw [e, h.hn]; simp, by rw [e, hst]; rfl, by rw [e]; rfl⟩
theorem st_idx1 (W : World) : (Instr.index 27 (.agg #[.int .i64 0, .int .i64 400, .int .i64 413, .int .i64 501]) (.int .i64 1)).run Tryz.prog W = .ok (.int .i64 400) W := by kernel_rfl
theorem st_idx2 (W : World) : (Instr.index 27 (.agg #[.int .i64 0, .int .i64 400, .int .i64 413, .int .i64 501]) (.int .i64 2)).run Tryz.prog W = .ok (.int .i64 413) W := by kernel_rfl
theorem st_idx3 (W : World) : (Instr.index 27 (.agg #[.int .i64 0, .int .i64 400, .int .i64 413, .int .i64 501]) (.int .i64 3)).run Tryz.prog W = .ok (.int .i64 501) W := by kernel_rfl
theorem svAt_below {w w' : World} {a : Addr} {k B : Nat} {s : Sv} (h : SvAt w a k s) (hl : a.block < B) (hb : Below B w w') : SvAt w' a k s := by
  have hk : w'.heap[a.block]? = w.heap[a.block]? := hb.block _ hl
  have e : (a.add (k * 7)).block = a.block := add_block a _
  refine ⟨?_, ?_, ?_, ?_, ?_, ?_, ?_⟩
  · exact (World.cell?_of_block (by rw [e]; exact hk)).trans h.c0
  · exact (World.cell?_of_block (by simp only [e]; exact hk)).trans h.c1
  · exact (World.cell?_of_block (by simp only [e]; exact hk)).trans h.c2
  · exact (World.cell?_of_block (by simp only [e]; exact hk)).trans h.c3
  · exact (World.cell?_of_block (by simp only [e]; exact hk)).trans h.c4
  · exact (World.cell?_of_block (by simp only [e]; exact hk)).trans h.c5
  · exact (World.cell?_of_block (by simp only [e]; exact hk)).trans h.c6

set_option maxRecDepth 10000 in
set_option maxHeartbeats 8000000 in
theorem seeds_walk (ss : List Sv) (A : Option Addr) (cp : Nat) (w : World) (hrd : Rd w w.heap.size 7 A ss.length (svCells ss)) (hcp : ss.length ≤ cp) (hcm : cp ≤ maxLen) (hmx : MX w) (htb : TB w) :
    Calls Tryz.prog 3 #[.slice A ss.length cp] w fun e w' => e = .returned (.bool true) ∧ Below w.heap.size w w' := by
  have HF := Lib.hid (fit_any w hmx)
  have HM := Lib.hid hmx; have HTB := Lib.hid htb; have HRD := Lib.hid hrd
  unfold maxLen at hcm
  clear hmx htb hrd
  by_cases hbig : 20 < ss.length
  · go_enter Tryz.func3, Tryz.ntmps3
    go_wp2_with fail
    refine HF.out.mono ?_
    rintro e w1 ⟨rfl, hb1⟩
    go_wp2_with fail
    go_ret
    exact ⟨rfl, hb1⟩
  · go_enter Tryz.func3, Tryz.ntmps3
    go_wp2_with fail
    refine HF.out.mono ?_
    rintro e w1 ⟨rfl, hb1⟩
    have HB1 := Lib.hid hb1
    clear hb1 HF
    go_wp2_with fail
    go_loopw [3, 4, 5, 6, 22] (fun v3 v4 v5 v6 v22 wr => ∃ (i nw : Nat) (t : ByteArray) (st : Int) (dn : Bool), i ≤ ss.length ∧ v22 = .int .i64 i ∧ v3 = .string t ∧ v4 = .int .i64 nw ∧ v5 = .int .i64 st ∧ v6 = .bool dn ∧ nw ≤ i ∧ t.size ≤ i * 3000 ∧ Hid (SL (ss.map sdOf) i t nw st dn) ∧ Below w.heap.size w wr) (fun _ _ _ _ v22 _ => ss.length - (intOf v22).toNat)
    case atStart => exact ⟨0, 0, ⟨#[]⟩, 0, false, Nat.zero_le _, rfl, rfl, rfl, rfl, rfl, Nat.le_refl _, Nat.le_refl _, Lib.hid (SL.start _), HB1.out⟩
    case round =>
      obtain ⟨i, nw, t, st, dn, hi, rfl, rfl, rfl, rfl, rfl, hnw, hts, HSL, hbw⟩ := hrel
      have HBW := Lib.hid hbw
      clear hbw HB1
      by_cases hlt : i < ss.length
      · obtain ⟨a, rfl, hal, hsv⟩ := sv_in (HRD.out.below HBW.out (Nat.le_refl _)) i hlt
        have hget : (ss.map sdOf)[i]? = some (sdOf (ss[i])) := by rw [List.getElem?_map, List.getElem?_eq_getElem hlt]; rfl
        have HG := Lib.hid hget
        clear hget
        generalize ss[i] = s at *
        obtain ⟨c0, c1, c2, c3, c4, c5, c6⟩ := hsv
        have HX := Lib.hid (text_sv s)
        have hz : (mkT (sdOf s).text).size ≤ 3000 := by rw [mkT_size]; exact sd_len _ (sdOf_ok s)
        have hw6 := i64_and4 s.wr
        have hwk : s.wr % 16 = ((sdOf s).wk : Int) := by simp only [sdOf]; omega
        rw [hwk] at hw6
        have hwb : (sdOf s).wk < 16 := by simp only [sdOf]; omega
        clear hwk
        have hcl : (sdOf s).cl = s.cl := rfl
        have hnb : (sdOf s).bad = (decide (1 ≤ (sdOf s).wk) && decide ((sdOf s).wk ≤ 3)) := rfl
        have HCL := Lib.hid hcl; have HNB := Lib.hid hnb
        clear hcl hnb
        have hblk := heap_alloc_new wr (.cells #[.int .i64 s.m, .int .i64 s.t, .int .i64 s.b, .int .i64 s.k, .int .i64 s.c, .bool s.cl, .int .i64 s.wr] 25)
        have hba : Below w.heap.size w (wr.alloc (.cells #[.int .i64 s.m, .int .i64 s.t, .int .i64 s.b, .int .i64 s.k, .int .i64 s.c, .bool s.cl, .int .i64 s.wr] 25)) := HBW.out.alloc HBW.out.size _
        have HBA := Lib.hid hba; have HBLK := Lib.hid hblk
        clear hblk hba HBW
        generalize sdOf s = q at *
        go_wp2_with fail
        refine (HX.out _ (HTB.out.below HBA.out)).mono ?_
        rintro e w2 ⟨rfl, hb2⟩
        have HB2 := Lib.hid (bt HBA.out hb2)
        have hq2 := (hb2.block _ (blk_lt HBLK.out)).trans HBLK.out
        have d5 := blk_cell hq2 5; have d6 := blk_cell hq2 6
        simp at d5 d6
        have HTX := Lib.hid fun (h : SL (ss.map sdOf) i t nw st dn) => h.text HG.out
        clear hb2 hq2 HBA HBLK HX c0 c1 c2 c3 c4 c5 c6
        cases dn with
        | true =>
          have HS2 := Lib.hid (HSL.out.over HG.out)
          generalize mkT q.text = tx at *
          clear hw6 d5 d6
          go_wp2_with fail
          go_roundw
          case rel => exact ⟨i + 1, nw, _, st, true, by omega, by go_num, rfl, rfl, rfl, rfl, by omega, by rw [app_size]; omega, HS2, HB2.out⟩
          case measure => simp [intOf]; omega
        | false =>
          by_cases hbad : q.bad = true
          · have HS2 := Lib.hid (HSL.out.wrong HG.out hbad)
            generalize mkT q.text = tx at *
            have hk := HNB.out
            rw [hbad] at hk
            have hk2 : q.wk = 1 ∨ q.wk = 2 ∨ q.wk = 3 := by
              have := hk.symm
              rw [Bool.and_eq_true, decide_eq_true_eq, decide_eq_true_eq] at this
              omega
            have hx1 := st_idx1; have hx2 := st_idx2; have hx3 := st_idx3
            clear hbad hk HNB HCL HG HSL HTX d5
            generalize q.wk = wk at *
            rcases hk2 with rfl | rfl | rfl
            all_goals
              simp only [wrongS] at HS2
              go_wp2_with fail
              go_quiet (fail)
              go_wp2_with fail
              go_roundw
              case rel => exact ⟨i + 1, nw, _, _, true, by omega, by go_num, rfl, rfl, rfl, rfl, by omega, by rw [app_size]; omega, HS2, HB2.out.trans (below_drewN _ _ _)⟩
              case measure => simp [intOf]; omega
          · have hbf : q.bad = false := by simpa using hbad
            have HS2 := Lib.hid (HSL.out.right HG.out hbf)
            have hcl := HCL.out
            rw [hcl] at HS2
            generalize mkT q.text = tx at *
            have hk := HNB.out
            rw [hbf] at hk
            have hk2 : q.wk = 0 ∨ 3 < q.wk := by
              have := hk.symm
              rw [Bool.and_eq_false_iff, decide_eq_false_iff_not, decide_eq_false_iff_not] at this
              omega
            clear hbad hbf hk HNB HCL HG HSL HTX hcl
            generalize q.wk = wk at *
            rcases hk2 with rfl | hk3
            · go_wp2_with fail
              go_roundw
              case rel => exact ⟨i + 1, nw + 1, _, st, s.cl, by omega, by go_num, rfl, by go_num, rfl, rfl, by omega, by rw [app_size]; omega, HS2, HB2.out⟩
              case measure => simp [intOf]; omega
            · have hd1 : decide ((1 : Int) ≤ (wk : Int)) = true := decide_eq_true (by omega)
              have hd2 : decide ((wk : Int) ≤ 3) = false := decide_eq_false (by omega)
              go_wp2_with fail
              go_roundw
              case rel => exact ⟨i + 1, nw + 1, _, st, s.cl, by omega, by go_num, rfl, by go_num, rfl, rfl, by omega, by rw [app_size]; omega, HS2, HB2.out⟩
              case measure => simp [intOf]; omega
      · obtain rfl : i = ss.length := by omega
        have hok : ∀ x ∈ ss.map sdOf, x.Ok := fun x hx => by
          obtain ⟨y, _, rfl⟩ := List.mem_map.1 hx
          exact sdOf_ok y
        have htk : (ss.map sdOf).take ss.length = ss.map sdOf := List.take_of_length_le (by simp)
        have hsl := HSL.out
        have hcut : runC newC t.data.toList = sdCut (ss.map sdOf) := by rw [hsl.ht, mkT_data, htk]; exact sd_whole _ hok
        have HA := Lib.hid fun w h => call_all t w h (by omega) (sdCut (ss.map sdOf)) (Lib.hid hcut)
        have hn := hsl.hn; have hs := hsl.hs
        rw [htk] at hn hs
        obtain ⟨hpl, hpr⟩ := sdCut_pre (ss.map sdOf)
        have HPR : Hid (∀ k (h : k < (sdCut (ss.map sdOf)).2.length) (h2 : k < ss.length), ((sdCut (ss.map sdOf)).2[k]) = (sdOf (ss[k])).rq) := fun k h h2 => by
          have := hpr k h (by simpa using h2)
          simpa using this
        clear hsl hcut htk hok hpr hpl HSL
        generalize sdCut (ss.map sdOf) = R at *
        obtain ⟨Rc, Rl⟩ := R
        simp only at hn hs HPR HA
        subst hs
        go_wp2_with fail
        refine (HA.out _ (HM.out.below HBW.out)).mono ?_
        rintro e w3 ⟨v, xs, rfl, hxs, hrq, hb3⟩
        have hxl : xs.length = nw := by rw [hn, ← hxs, List.length_map]
        have HEL : Hid (∀ k (h : k < xs.length) (h2 : k < ss.length), (xs[k]).1 = (sdOf (ss[k])).rq) := fun k h h2 => by
          have hk : k < Rl.length := by rw [← hn, ← hxl]; exact h
          rw [← HPR.out k hk h2]
          have e1 : (xs.map Prod.fst)[k]'(by simpa using h) = Rl[k] := by simp only [hxs]
          simpa using e1
        have HB3 := Lib.hid (bt HBW.out hb3)
        have HRQ := Lib.hid hrq
        obtain ⟨Av, cv, rfl, _⟩ := Rd.own hrq.row
        subst hxl
        generalize Rc.status = st at *
        clear hxs hrq hb3 HPR HA hn HBW
        go_wp2_with fail
        go_loopw [65] (fun i wr => ∃ k : Nat, k ≤ xs.length ∧ i = .int .i64 k ∧ Below w3.heap.size w3 wr) (fun i _ => xs.length - (intOf i).toNat)
        case atStart => exact ⟨0, by omega, rfl, Below.refl _ _⟩
        case round =>
          obtain ⟨k, hk, rfl, hbw⟩ := hrel
          by_cases hlt2 : k < xs.length
          · have hks : k < ss.length := by omega
            obtain ⟨gv, cap, ev, hcv, hlv, _⟩ := row_some (HRQ.out.below hbw) (by omega)
            injection ev with ev _ ev'
            subst ev ev'
            have a1 := rq_at (HRQ.out.below hbw) k hlt2
            obtain ⟨a, rfl, hal, hsv⟩ := sv_in (HRD.out.below (bt HB3.out hbw) (Nat.le_refl _)) k hks
            have he := HEL.out k hlt2 hks
            rw [he] at a1
            generalize (xs[k]).2 = f1 at *
            generalize ss[k] = s at *
            have hok := sdOf_ok s
            have hm8 : s.m % 256 = ((s.m % 256).toNat : Int) := by omega
            have hti : s.t % 16 = ((sdOf s).ti : Int) := by simp only [sdOf]; omega
            have hbi : s.b % 8 = ((sdOf s).bi : Int) := by simp only [sdOf]; omega
            have hrem : ((s.m % 256).toNat : Int) % 6 = ((sdOf s).mi : Int) := by simp only [sdOf]; omega
            have hm9 : (s.m % 256).toNat < 256 := by omega
            have z1 := i64_and8 s.m; have z2 := i64_and4 s.t; have z3 := i64_and3 s.b
            rw [hm8] at z1; rw [hti] at z2; rw [hbi] at z3
            have b1 := hok.h1; have b2 := hok.h2; have b3 := hok.h3
            obtain ⟨o0, o1, p2, o3, o4, p5, _⟩ := a1
            have p0 : wr.cell? ⟨gv, k * 5, none⟩ = some (.string (mkT (methodT (sdOf s).mi))) := o0
            have p1 : wr.cell? ⟨gv, k * 5 + 1, none⟩ = some (.string (mkT (targetT (sdOf s).ti))) := o1
            have p3 : wr.cell? ⟨gv, k * 5 + 3, none⟩ = some (.string (mkT (bodyT (sdOf s).bi))) := o3
            have p4 : wr.cell? ⟨gv, k * 5 + 4, none⟩ = some (.bool s.cl) := o4
            clear o0 o1 o3 o4
            obtain ⟨F1, d1, rfl, _⟩ := Rd.own p5
            have hb4 : Below w3.heap.size w3 ((wr.alloc (.cells #[.string (mkT (methodT (sdOf s).mi)), .string (mkT (targetT (sdOf s).ti)), .slice F1 (sdOf s).rq.fs.length d1, .string (mkT (bodyT (sdOf s).bi)), .bool s.cl] 33)).alloc (.cells #[.int .i64 s.m, .int .i64 s.t, .int .i64 s.b, .int .i64 s.k, .int .i64 s.c, .bool s.cl, .int .i64 s.wr] 25)) := (hbw.alloc hbw.size _).alloc (Nat.le_trans hbw.size (by simp)) _
            have htb2 := HTB.out.below (bt HB3.out hb4)
            have t2 := htb2.m _ b1; have t1 := htb2.t _ b2; have t0 := htb2.b _ b3
            have hal2 : SvAt (wr.alloc (.cells #[.string (mkT (methodT (sdOf s).mi)), .string (mkT (targetT (sdOf s).ti)), .slice F1 (sdOf s).rq.fs.length d1, .string (mkT (bodyT (sdOf s).bi)), .bool s.cl] 33)) a k s := svAt_below hsv hal ((Below.refl _ _).alloc (Nat.le_trans (bt HB3.out hbw).size (Nat.le_refl _)) _)
            obtain ⟨c0, c1, c2, c3, c4, c5, c6⟩ := hal2
            have HB4 := Lib.hid hb4
            clear hb4 htb2 hsv p5 hbw he hm8 hti hbi hok HEL HRQ HRD
            generalize (sdOf s).rq.fs.length = fl at *
            generalize hM : mkT (methodT (sdOf s).mi) = M at *
            generalize hT : mkT (targetT (sdOf s).ti) = T at *
            generalize hB : mkT (bodyT (sdOf s).bi) = B at *
            clear hM hT hB
            generalize (sdOf s).mi = mi at *
            generalize (sdOf s).ti = ti at *
            generalize (sdOf s).bi = bi at *
            generalize (s.m % 256).toNat = m8 at *
            go_wp2_with fail
            go_quiet (fail)
            go_wp2_with fail
            go_roundw
            case rel => exact ⟨k + 1, by omega, by go_num, HB4.out.trans (below_drewN _ _ _)⟩
            case measure => simp [intOf]; omega
          · have HBW := Lib.hid hbw
            clear hbw
            go_wp2_with fail
            go_ret
            exact ⟨rfl, bt HB3.out HBW.out⟩
end Go.Proofs.YtkjlbddaglcooaaGreatDoor
