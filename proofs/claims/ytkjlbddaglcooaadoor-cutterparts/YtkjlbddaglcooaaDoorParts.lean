/- The law CutterParts, walked. -/
import Derived.Test.YtkjlbddaglcooaaDoorCut
import Derived.Test.YtkjlbddaglcooaaDoorGrows
namespace Go.Proofs.YtkjlbddaglcooaaDoor
open Go.RowKit Pl
open Go.Lib (byteCells)

theorem i64_and6 (n : Int) : bits .and .i64 n 63 = n % 64 := by
  have h : (BitVec.ofInt 64 63).toNat = 2 ^ 6 - 1 := by decide
  have key : (BitVec.ofInt 64 n &&& BitVec.ofInt 64 63).toNat = (n % ((2 ^ 64 : Nat) : Int)).toNat % 2 ^ 6 := by
    rw [BitVec.toNat_and, BitVec.toNat_ofInt, h, Nat.and_two_pow_sub_one_eq_mod]
  show IntKind.i64.wrap ((BitVec.ofInt 64 n &&& BitVec.ofInt 64 63).toNat : Nat) = n % 64
  rw [key, IntKind.wrap_i64]
  omega

theorem RqAt.below {w w' : World} {gv i : Nat} {r : Rq} {f : Value} (h : RqAt w gv i r f) (k : Below w.heap.size w w') : RqAt w' gv i r f :=
  ⟨(World.cell?_of_block (k.block gv h.lt)).trans h.cm, (World.cell?_of_block (k.block gv h.lt)).trans h.ct, (World.cell?_of_block (k.block gv h.lt)).trans h.cf, (World.cell?_of_block (k.block gv h.lt)).trans h.cb, (World.cell?_of_block (k.block gv h.lt)).trans h.cc, own_below h.fl k, Nat.lt_of_lt_of_le h.lt k.size⟩

def idleB (c : Cst) (l : List UInt8) : Bool := l.isEmpty && c.lines.isEmpty && c.bd.isNone
set_option maxHeartbeats 1000000 in
theorem cidle_any {P : Nat → Prop} {w : World} {g : Nat} {c : Cst} {l : List UInt8} (h : CO P w g c l) : Calls Tryd.prog 11 #[.pointer (some ⟨g, 0, none⟩)] w fun e w' => e = .returned (.bool (idleB c l)) ∧ w = w' := by
  obtain ⟨wv, lv, fv, bv, h⟩ := h
  obtain ⟨A, cap, rfl, _⟩ := h.wt
  obtain ⟨B, cal, hlv, _⟩ := Rd.own h.ln
  subst hlv
  have c0 := h.cell 0; have c1 := h.cell 1; have c7 := h.cell 7
  simp [ctCells] at c0 c1 c7
  have hbn := h.bn
  have hbs := h.bs
  clear h
  cases l with
  | cons b l =>
    have HE : Hid (idleB c (b :: l) = false) := rfl
    go_enter Tryd.func11, Tryd.ntmps11
    go_wp2_with fail
    go_ret
    exact ⟨ret_bool (by rw [HE.out]), rfl⟩
  | nil =>
    cases hl : c.lines with
    | cons b l =>
      have HE : Hid (idleB c [] = false) := by unfold idleB; rw [hl]; rfl
      rw [hl] at c1
      clear hl
      go_enter Tryd.func11, Tryd.ntmps11
      go_wp2_with fail
      go_ret
      exact ⟨ret_bool (by rw [HE.out]), rfl⟩
    | nil =>
      cases hb : c.bd with
      | none =>
        have HE : Hid (idleB c [] = true) := by unfold idleB; rw [hl, hb]; rfl
        have hbv := hbn hb
        subst hbv
        rw [hl] at c1
        clear hl hb hbn hbs
        go_enter Tryd.func11, Tryd.ntmps11
        go_wp2_with fail
        go_ret
        exact ⟨ret_bool (by rw [HE.out]), rfl⟩
      | some d =>
        have HE : Hid (idleB c [] = false) := by unfold idleB; rw [hl, hb]; rfl
        obtain ⟨gb, rfl, _⟩ := hbs d hb
        rw [hl] at c1
        clear hl hb hbn hbs
        go_enter Tryd.func11, Tryd.ntmps11
        go_wp2_with fail
        go_ret
        exact ⟨ret_bool (by rw [HE.out]), rfl⟩

set_option maxRecDepth 10000 in
set_option maxHeartbeats 8000000 in
theorem parts_walk (s : ByteArray) (n : Int) (w : World) (hm : MX w) : Calls Tryd.prog 3 #[.string s, .int .i64 n] w fun e w' => e = .returned (.bool true) ∧ Below w.heap.size w w' := by
  have HF := Lib.hid (fit_any w hm)
  have HM := Lib.hid hm
  clear hm
  by_cases hs : 6000 < s.size
  · go_enter Tryd.func3, Tryd.ntmps3
    go_wp2_with fail
    refine HF.out.mono ?_
    rintro e w1 ⟨rfl, hb1⟩
    go_wp2_with fail
    go_ret
    exact ⟨rfl, hb1⟩
  · have hk0 : 0 ≤ n % 64 := Int.emod_nonneg _ (by omega)
    have hk1 : n % 64 < 64 := Int.emod_lt_of_pos _ (by omega)
    obtain ⟨k, hk⟩ : ∃ k : Nat, n % 64 = (k : Int) := ⟨(n % 64).toNat, by omega⟩
    have hand := i64_and6 n
    rw [hk] at hand
    have hc1 := run_count newC s.data.toList
    have hfew := run_few (c := newC) (by decide) s.data.toList
    have HC1 := Lib.hid fun w h => cut_call s (k + 1) (by omega) (by omega) w h (by omega) _ (Lib.hid rfl)
    have HC2 := Lib.hid fun w h => cut_call s (s.size + 1) (by omega) (by omega) w h (by omega) _ (Lib.hid rfl)
    have HAL := Lib.hid fun w h => call_all s w h (by omega) _ (Lib.hid rfl)
    generalize runC newC s.data.toList = R at *
    push_cast at HC1 HC2
    rw [data_len] at hc1
    have hkb : k < 64 := by omega
    clear hk hk0 hk1
    go_enter Tryd.func3, Tryd.ntmps3
    go_wp2_with fail
    refine HF.out.mono ?_
    rintro e w1 ⟨rfl, hb1⟩
    go_wp2_with fail
    refine (HC1.out _ (HM.out.below hb1)).mono ?_
    rintro e w2 ⟨v1, xs, rfl, hxs, hrq1, hco1, hb2⟩
    have HB2 := Lib.hid (bt hb1 hb2)
    clear HC1 HF hand
    go_wp2_with fail
    refine (HC2.out _ (HM.out.below HB2.out)).mono ?_
    rintro e w3 ⟨v2, ys, rfl, hys, hrq2, hco2, hb3⟩
    have HB3 := Lib.hid (bt HB2.out hb3)
    have hrq1 := hrq1.below hb3
    have hco1 := hco1.below hb3
    clear HC2
    go_wp2_with fail
    refine (HAL.out _ (HM.out.below HB3.out)).mono ?_
    rintro e w4 ⟨v3, zs, rfl, hzs, hrq3, hb4⟩
    have HB4 := Lib.hid (bt HB3.out hb4)
    have hrq1 := hrq1.below hb4
    have hrq2 := hrq2.below hb4
    have hco1 := hco1.below hb4
    have hco2 := hco2.below hb4
    clear HAL hb2 hb3 hb4
    have hlx : xs.length = R.2.length := by rw [← hxs]; simp
    have hly : ys.length = xs.length := by rw [hlx, ← hys]; simp
    have hlz : zs.length = xs.length := by rw [hlx, ← hzs]; simp
    have hel : ∀ i (h : i < xs.length) (h2 : i < ys.length), (ys[i]).1 = (xs[i]).1 := fun i h h2 => by
      have e1 : (ys.map Prod.fst)[i]'(by simpa using h2) = (xs.map Prod.fst)[i]'(by simpa using h) := by simp only [hxs, hys]
      simpa using e1
    have hez : ∀ i (h : i < xs.length) (h2 : i < zs.length), (zs[i]).1 = (xs[i]).1 := fun i h h2 => by
      have e1 : (zs.map Prod.fst)[i]'(by simpa using h2) = (xs.map Prod.fst)[i]'(by simpa using h) := by simp only [hxs, hzs]
      simpa using e1
    have hsm : ∀ i (h : i < xs.length), (xs[i]).1.fs.length ≤ 16 := fun i h => hfew _ (by rw [← hxs]; exact List.mem_map_of_mem (List.getElem_mem h))
    obtain ⟨A1, c1, rfl, _⟩ := Rd.own hrq1.row
    obtain ⟨A2, c2, rfl, _⟩ := Rd.own hrq2.row
    obtain ⟨A3, c3, rfl, _⟩ := Rd.own hrq3.row
    have hxb : xs.length ≤ 6000 := by omega
    have HR1 := Lib.hid hrq1; have HR2 := Lib.hid hrq2; have HR3 := Lib.hid hrq3; have HEL := Lib.hid hel; have HEZ := Lib.hid hez; have HSM := Lib.hid hsm
    have HS1 := Lib.hid (cstatus_any hco1); have HS2 := Lib.hid (cstatus_any hco2)
    have HD1 := Lib.hid (cdone_any hco1); have HD2 := Lib.hid (cdone_any hco2)
    have HI1 := Lib.hid (cidle_any hco1); have HI2 := Lib.hid (cidle_any hco2)
    have HL1 := Lib.hid (cleft_any hco1)
    simp only [List.length_nil] at HL1
    have HLY := Lib.hid hly; have HLZ := Lib.hid hlz
    rw [hly, hlz]
    clear hrq1 hrq2 hrq3 hco1 hco2 hel hez hsm hxs hys hzs hlx hfew hc1 hly hlz hb1
    generalize R.1.status = st at *
    generalize R.1.done = dn at *
    generalize idleB R.1 [] = id1 at *
    go_wp2_with fail
    refine HS1.out.mono ?_
    rintro e w5 ⟨rfl, rfl⟩
    go_wp2_with fail
    refine HS2.out.mono ?_
    rintro e w5 ⟨rfl, rfl⟩
    go_wp2_with fail
    refine HS1.out.mono ?_
    rintro e w5 ⟨rfl, rfl⟩
    go_wp2_with fail
    refine HD1.out.mono ?_
    rintro e w5 ⟨rfl, rfl⟩
    go_wp2_with fail
    refine HD2.out.mono ?_
    rintro e w5 ⟨rfl, rfl⟩
    go_wp2_with fail
    refine HI1.out.mono ?_
    rintro e w5 ⟨rfl, rfl⟩
    go_wp2_with fail
    refine HI2.out.mono ?_
    rintro e w5 ⟨rfl, rfl⟩
    go_wp2_with fail
    refine HL1.out.mono ?_
    rintro e w5 ⟨rfl, rfl⟩
    clear HS1 HS2 HD1 HD2 HI1 HI2 HL1
    go_wp2_with fail
    go_loopw [90] (fun i wr => ∃ k : Nat, k ≤ xs.length ∧ i = .int .i64 k ∧ Below w4.heap.size w4 wr) (fun i _ => xs.length - (intOf i).toNat)
    case atStart => exact ⟨0, by omega, rfl, Below.refl _ _⟩
    case round =>
      obtain ⟨k, hk, rfl, hbw⟩ := hrel
      by_cases hlt : k < xs.length
      · have hlt2 : k < ys.length := by have := HLY.out; omega
        have hlt3 : k < zs.length := by have := HLZ.out; omega
        obtain ⟨gv, cap, ev, hcv, hlv, _⟩ := row_some (HR1.out.below hbw) (by omega)
        obtain ⟨gu, cau, eu, hcu, hlu, _⟩ := row_some (HR2.out.below hbw) (by omega)
        obtain ⟨gt, cat, et, hct, hlt', _⟩ := row_some (HR3.out.below hbw) (by omega)
        injection ev with ev _ ev'
        injection eu with eu _ eu'
        injection et with et _ et'
        subst ev ev' eu eu' et et'
        have a1 := rq_at (HR1.out.below hbw) k hlt
        have a2 := rq_at (HR2.out.below hbw) k hlt2
        have HA1 := Lib.hid fun w5 (h : Below wr.heap.size wr.drew w5) => rq_at ((HR1.out.below hbw).below (w' := w5) ((Below.refl _ _).drew.trans h)) k hlt
        have HA3 := Lib.hid fun w5 (h : Below wr.heap.size wr.drew w5) => rq_at ((HR3.out.below hbw).below (w' := w5) ((Below.refl _ _).drew.trans h)) k hlt3
        rw [HEL.out k hlt hlt2] at a2
        rw [HEZ.out k hlt hlt3] at HA3
        have hq := HSM.out k hlt
        have hcu2 : xs.length ≤ c2 := by have := HLY.out; omega
        have hct2 : xs.length ≤ c3 := by have := HLZ.out; omega
        generalize (xs[k]).1 = r at *
        generalize (xs[k]).2 = f1 at *
        generalize (ys[k]).2 = f2 at *
        generalize (zs[k]).2 = f3 at *
        have HA2 := Lib.hid fun w5 (h : Below wr.heap.size wr.drew w5) => a2.below (w' := w5) ((Below.refl _ _).drew.trans h)
        have p5 := a1.fl; have q5 := a2.fl; have r5 := (HA3.out _ (Below.refl _ _)).fl
        have HSA := Lib.hid (same_any r f1 f2 wr.drew p5 q5 (by omega))
        have HSB := Lib.hid fun w5 h => same_any r f1 f3 w5 (HA1.out w5 h).fl (HA3.out w5 h).fl (by omega)
        unfold rqVal at HSA HSB
        obtain ⟨F1, d1, rfl, _⟩ := Rd.own p5
        obtain ⟨F2, d2, rfl, _⟩ := Rd.own q5
        obtain ⟨F3, d3, rfl, _⟩ := Rd.own r5
        have HK : Hid (∀ W, Below wr.heap.size wr.drew W → W.cell? ⟨gv, k * 5, none⟩ = some (.string r.m) ∧ W.cell? ⟨gv, k * 5 + 1, none⟩ = some (.string r.t) ∧ W.cell? ⟨gv, k * 5 + 2, none⟩ = some (.slice F1 r.fs.length d1) ∧ W.cell? ⟨gv, k * 5 + 3, none⟩ = some (.string r.body) ∧ W.cell? ⟨gv, k * 5 + 4, none⟩ = some (.bool r.close) ∧ W.cell? ⟨gu, k * 5, none⟩ = some (.string r.m) ∧ W.cell? ⟨gu, k * 5 + 1, none⟩ = some (.string r.t) ∧ W.cell? ⟨gu, k * 5 + 2, none⟩ = some (.slice F2 r.fs.length d2) ∧ W.cell? ⟨gu, k * 5 + 3, none⟩ = some (.string r.body) ∧ W.cell? ⟨gu, k * 5 + 4, none⟩ = some (.bool r.close) ∧ W.cell? ⟨gt, k * 5, none⟩ = some (.string r.m) ∧ W.cell? ⟨gt, k * 5 + 1, none⟩ = some (.string r.t) ∧ W.cell? ⟨gt, k * 5 + 2, none⟩ = some (.slice F3 r.fs.length d3) ∧ W.cell? ⟨gt, k * 5 + 3, none⟩ = some (.string r.body) ∧ W.cell? ⟨gt, k * 5 + 4, none⟩ = some (.bool r.close)) := fun W h => by
          have b1 := HA1.out W h; have b2 := HA2.out W h; have b3 := HA3.out W h
          exact ⟨b1.cm, b1.ct, b1.cf, b1.cb, b1.cc, b2.cm, b2.ct, b2.cf, b2.cb, b2.cc, b3.cm, b3.ct, b3.cf, b3.cb, b3.cc⟩
        have HBW := Lib.hid hbw
        have hb0 : Below wr.heap.size wr.drew wr.drew := Below.refl _ _
        clear hbw p5 q5 r5 a1 a2 HR1 HR2 HR3 HEL HEZ HSM HLY HLZ HA1 HA2 HA3
        go_wp2_with fail
        go_region_held3 (fun W => W.cell? ⟨gv, k * 5, none⟩ = some (.string r.m) ∧ W.cell? ⟨gv, k * 5 + 1, none⟩ = some (.string r.t) ∧ W.cell? ⟨gv, k * 5 + 2, none⟩ = some (.slice F1 r.fs.length d1) ∧ W.cell? ⟨gv, k * 5 + 3, none⟩ = some (.string r.body) ∧ W.cell? ⟨gv, k * 5 + 4, none⟩ = some (.bool r.close) ∧ W.cell? ⟨gu, k * 5, none⟩ = some (.string r.m) ∧ W.cell? ⟨gu, k * 5 + 1, none⟩ = some (.string r.t) ∧ W.cell? ⟨gu, k * 5 + 2, none⟩ = some (.slice F2 r.fs.length d2) ∧ W.cell? ⟨gu, k * 5 + 3, none⟩ = some (.string r.body) ∧ W.cell? ⟨gu, k * 5 + 4, none⟩ = some (.bool r.close) ∧ W.cell? ⟨gt, k * 5, none⟩ = some (.string r.m) ∧ W.cell? ⟨gt, k * 5 + 1, none⟩ = some (.string r.t) ∧ W.cell? ⟨gt, k * 5 + 2, none⟩ = some (.slice F3 r.fs.length d3) ∧ W.cell? ⟨gt, k * 5 + 3, none⟩ = some (.string r.body) ∧ W.cell? ⟨gt, k * 5 + 4, none⟩ = some (.bool r.close))
          ((refine HK.out _ ?_; first | (exact hb6) | (exact hb5) | (exact hb0)))
          ((first
            | (go_at_call 13; refine (HSB.out _ hb5).mono ?_; rintro e w6 ⟨rfl, hb6'⟩; have hb6 := hb5.trans (hb6'.mono hb5.size))
            | (go_at_call 13; refine HSA.out.mono ?_; rintro e w5 ⟨rfl, hb5⟩)))
        all_goals
          go_wp2_with fail
          go_roundw
          case rel => exact ⟨k + 1, by omega, by go_num, HBW.out.drew.trans (hb6.mono HBW.out.size)⟩
          case measure => simp [intOf]; omega
      · have HBW := Lib.hid hbw
        clear hbw
        go_wp2_with fail
        go_ret
        exact ⟨rfl, bt HB4.out HBW.out⟩

end Go.Proofs.YtkjlbddaglcooaaDoor
