/- The law CutterGrows, walked. -/
import Derived.Test.YtkjlbddaglcooaaDoorFitC
import Derived.Test.YtkjlbddaglcooaaDoorSame
import Derived.Deep.RegionHeld3
namespace Go.Proofs.YtkjlbddaglcooaaDoor
open Go.RowKit Pl
open Go.Lib (byteCells)

theorem i64_and16 (n : Int) : bits .and .i64 n 65535 = n % 65536 := by
  have h : (BitVec.ofInt 64 65535).toNat = 2 ^ 16 - 1 := by decide
  have key : (BitVec.ofInt 64 n &&& BitVec.ofInt 64 65535).toNat = (n % ((2 ^ 64 : Nat) : Int)).toNat % 2 ^ 16 := by
    rw [BitVec.toNat_and, BitVec.toNat_ofInt, h, Nat.and_two_pow_sub_one_eq_mod]
  show IntKind.i64.wrap ((BitVec.ofInt 64 n &&& BitVec.ofInt 64 65535).toNat : Nat) = n % 65536
  rw [key, IntKind.wrap_i64]
  omega

theorem rqCells_at (xs : List (Rq × Value)) (i : Nat) (h : i < xs.length) : (rqCells xs)[i * 5]? = some (.string (xs[i]).1.m) ∧ (rqCells xs)[i * 5 + 1]? = some (.string (xs[i]).1.t) ∧ (rqCells xs)[i * 5 + 2]? = some (xs[i]).2 ∧ (rqCells xs)[i * 5 + 3]? = some (.string (xs[i]).1.body) ∧ (rqCells xs)[i * 5 + 4]? = some (.bool (xs[i]).1.close) := by
  induction xs generalizing i with
  | nil => simp at h
  | cons x xs ih =>
    cases i with
    | zero => exact ⟨rfl, rfl, rfl, rfl, rfl⟩
    | succ i =>
      have := ih i (by simpa using h)
      have e : rqCells (x :: xs) = .string x.1.m :: .string x.1.t :: x.2 :: .string x.1.body :: .bool x.1.close :: rqCells xs := rfl
      rw [e, show (i + 1) * 5 = i * 5 + 1 + 1 + 1 + 1 + 1 from by omega]
      simpa using this
structure RqAt (w : World) (gv i : Nat) (r : Rq) (f : Value) : Prop where
  cm : w.cell? ⟨gv, i * 5, none⟩ = some (.string r.m)
  ct : w.cell? ⟨gv, i * 5 + 1, none⟩ = some (.string r.t)
  cf : w.cell? ⟨gv, i * 5 + 2, none⟩ = some f
  cb : w.cell? ⟨gv, i * 5 + 3, none⟩ = some (.string r.body)
  cc : w.cell? ⟨gv, i * 5 + 4, none⟩ = some (.bool r.close)
  fl : w.ownsRow 0 49 2 f r.fs.length (fldCells r.fs)
  lt : gv < w.heap.size
theorem rq_at {w : World} {gv cap n : Nat} {xs : List (Rq × Value)} (h : RQ w (.slice (some ⟨gv, 0, none⟩) n cap) xs) (i : Nat) (hi : i < xs.length) : RqAt w gv i (xs[i]).1 (xs[i]).2 := by
  obtain ⟨gv', cap', e, _, hl, hc⟩ := row_some h (by omega)
  injection e with e1 e2 e3
  injection e1 with e1
  injection e1 with e1
  subst e1
  obtain ⟨a0, a1, a2, a3, a4⟩ := rqCells_at xs i hi
  exact ⟨hc _ _ a0, hc _ _ a1, hc _ _ a2, hc _ _ a3, hc _ _ a4, h.fld _ (List.getElem_mem hi), hl⟩
theorem fs_len {ls : List ByteArray} : (parseF ls).fs.length ≤ 16 := by
  unfold parseF
  split
  · decide
  · split
    · simp [badH]
    · rename_i h
      split
      · simp [badH]
      · split
        · simp [badH]
        · rename_i fs hfs
          have := takeF_len _ _ hfs
          split
          · simp [badH]
          · split
            · simp [badH]
            · simp only; omega
/-- All requests have few fields. -/
theorem step_few {c : Cst} (hc : c.rq.fs.length ≤ 16) (b : UInt8) : (stepC c b).1.rq.fs.length ≤ 16 ∧ ∀ r, (stepC c b).2 = some r → r.fs.length ≤ 16 := by
  have hl : (lookC c b).rq.fs.length ≤ 16 := by
    unfold lookC
    split
    · unfold lookHeadC
      split
      · simp [stopC, nilRq]
      · split
        · exact hc
        · split
          · simp [stopC, nilRq]
          · split
            · unfold endHeadC byHead
              split
              · exact fs_len
              · simp [stopC, nilRq]
            · exact hc
    · unfold lookBodyC
      split
      · exact hc
      · simp [stopC, nilRq]
  unfold stepC
  split
  · exact ⟨hc, fun r h => (by cases h)⟩
  · unfold emitC
    split
    · exact ⟨hl, fun r h => (by cases h)⟩
    · split
      · refine ⟨?_, fun r h => ?_⟩
        · show (wholeC _).rq.fs.length ≤ 16
          unfold wholeC
          split <;> simp [stopC, nilRq]
        · injection h with h
          subst h
          exact hl
      · exact ⟨hl, fun r h => (by cases h)⟩
theorem run_few {c : Cst} (hc : c.rq.fs.length ≤ 16) (l : List UInt8) : ∀ r ∈ (runC c l).2, r.fs.length ≤ 16 := by
  induction l generalizing c with
  | nil => intro r hr; cases hr
  | cons b l ih =>
    obtain ⟨h1, h2⟩ := step_few hc b
    intro r hr
    rw [runC_cons] at hr
    simp only [List.mem_append] at hr
    rcases hr with hr | hr
    · cases ho : (stepC c b).2 with
      | none => rw [ho] at hr; cases hr
      | some r2 =>
        rw [ho] at hr
        simp at hr
        subst hr
        exact h2 _ ho
    · exact ih h1 r hr

theorem run_count (c : Cst) (l : List UInt8) : (runC c l).2.length ≤ l.length := by
  induction l generalizing c with
  | nil => exact Nat.le_refl _
  | cons b l ih =>
    rw [runC_cons]
    have := ih (stepC c b).1
    have h1 : (stepC c b).2.toList.length ≤ 1 := by cases (stepC c b).2 <;> simp
    simp only [List.length_append, List.length_cons]
    omega
theorem grows_plain (s : List UInt8) (k : Nat) : ∃ more, (runC newC s).2 = (runC newC (s.take k)).2 ++ more ∧ ((runC newC (s.take k)).1.status ≠ 0 → (runC newC s).1 = (runC newC (s.take k)).1 ∧ more = []) := by
  refine ⟨(runC (runC newC (s.take k)).1 (s.drop k)).2, ?_, fun h => ?_⟩
  · conv => lhs; rw [← List.take_append_drop k s, runC_app]
  · have hd : (runC newC (s.take k)).1.done = true := by
      cases hd : (runC newC (s.take k)).1.done with
      | true => rfl
      | false => exact absurd ((okc_run okc_new _).stat hd) h
    rw [run_over hd]
    refine ⟨?_, rfl⟩
    conv => lhs; rw [← List.take_append_drop k s, runC_app]
    rw [run_over hd]


set_option maxRecDepth 10000 in
set_option maxHeartbeats 4000000 in
theorem grows_walk (s : ByteArray) (n : Int) (w : World) (hm : MX w) : Calls Tryd.prog 5 #[.string s, .int .i64 n] w fun e w' => e = .returned (.bool true) ∧ Below w.heap.size w w' := by
  have HF := Lib.hid (fit_any w hm)
  have HM := Lib.hid hm
  clear hm
  by_cases hs : 5000 < s.size
  · go_enter Tryd.func5, Tryd.ntmps5
    go_wp2_with fail
    refine HF.out.mono ?_
    rintro e w1 ⟨rfl, hb1⟩
    go_wp2_with fail
    go_ret
    exact ⟨rfl, hb1⟩
  · have hk0 : 0 ≤ (n % 65536) % ((s.size : Int) + 1) := Int.emod_nonneg _ (by omega)
    have hk1 : (n % 65536) % ((s.size : Int) + 1) < (s.size : Int) + 1 := Int.emod_lt_of_pos _ (by omega)
    go_enter Tryd.func5, Tryd.ntmps5
    go_wp2_with fail
    refine HF.out.mono ?_
    rintro e w1 ⟨rfl, hb1⟩
    have hand := i64_and16 n
    go_wp2_with fail
    have hk : (n % 65536 % ((s.size : Int) + 1)).toNat ≤ s.size := by omega
    generalize (n % 65536 % ((s.size : Int) + 1)).toNat = k at *
    have hx : (s.extract 0 k).data.toList = s.data.toList.take k := by rw [Lib.extract_eq]; simp
    have hz : (s.extract 0 k).size ≤ 5000 := by rw [← data_len, hx]; simp; omega
    obtain ⟨more, hg1, hg2⟩ := grows_plain s.data.toList k
    have hc1 := run_count newC (s.data.toList.take k)
    have hc2 := run_count newC s.data.toList
    have hfew := run_few (c := newC) (by decide) (s.data.toList.take k)
    have HA := Lib.hid (call_all (s.extract 0 k) w1 (HM.out.below hb1) (by omega) _ (Lib.hid rfl))
    rw [hx] at HA
    have HB := Lib.hid fun w h => call_all s w h (by omega) _ (Lib.hid rfl)
    generalize runC newC (s.data.toList.take k) = R1 at *
    generalize runC newC s.data.toList = R2 at *
    generalize s.extract 0 k = s1 at *
    clear hx hz
    refine HA.out.mono ?_
    rintro e w2 ⟨v1, xs, rfl, hxs, hrq1, hb2⟩
    have HB2 := Lib.hid (bt hb1 hb2)
    have HRQ1 := Lib.hid hrq1
    clear hb2 hb1 hrq1 HA HF hand hk0 hk1
    go_wp2_with fail
    refine (HB.out _ (HM.out.below HB2.out)).mono ?_
    rintro e w3 ⟨v2, ys, rfl, hys, hrq2, hb3⟩
    have HB3 := Lib.hid (bt HB2.out hb3)
    have hr1 := HRQ1.out.below hb3
    have hlx : xs.length = R1.2.length := by rw [← hxs]; simp
    have hly : ys.length = R2.2.length := by rw [← hys]; simp
    have hlen : ys.length = xs.length + more.length := by rw [hly, hlx, hg1]; simp
    have hel : ∀ i (h : i < xs.length) (h2 : i < ys.length), (ys[i]).1 = (xs[i]).1 := fun i h h2 => by
      have e1 : (ys.map Prod.fst)[i]'(by simpa using h2) = (xs.map Prod.fst)[i]'(by simpa using h) := by
        simp only [hxs, hys, hg1]
        exact List.getElem_append_left _
      simpa using e1
    have hsm : ∀ i (h : i < xs.length), (xs[i]).1.fs.length ≤ 16 := fun i h => hfew _ (by rw [← hxs]; exact List.mem_map_of_mem (List.getElem_mem h))
    obtain ⟨A1, c1, rfl, _⟩ := Rd.own hr1.row
    obtain ⟨A2, c2, rfl, _⟩ := Rd.own hrq2.row
    have hxb : xs.length ≤ 5000 := by rw [hlx]; simp at hc1; omega
    have hyb : ys.length ≤ 5000 := by rw [hly]; simp at hc2; omega
    have hst : R1.1.status = 0 ∨ (R1.1.status ≠ 0 ∧ R1.1.status = R2.1.status ∧ xs.length = ys.length) := by
      by_cases h : R1.1.status = 0
      · exact .inl h
      · obtain ⟨e1, e2⟩ := hg2 h
        exact .inr ⟨h, by rw [e1], by rw [hlen, e2]; simp⟩
    have hgt : decide (ys.length < xs.length) = false := decide_eq_false (by omega)
    have HR1 := Lib.hid hr1; have HR2 := Lib.hid hrq2; have HEL := Lib.hid hel; have HSM := Lib.hid hsm; have HLE : Hid (xs.length ≤ ys.length) := by show _ ≤ _; omega
    clear hr1 hrq2 hel hsm hb3 HRQ1 hg1 hg2 hfew hxs hys hlx hly hlen HB hc1 hc2
    rcases hst with hst | ⟨hst, hst2, hst3⟩
    · rw [hst]
      clear hst
      generalize R2.1.status = st2 at *
      go_wp2_with fail
      go_loopw [56] (fun i wr => ∃ k : Nat, k ≤ xs.length ∧ i = .int .i64 k ∧ Below w3.heap.size w3 wr) (fun i _ => xs.length - (intOf i).toNat)
      case atStart => exact ⟨0, by omega, rfl, Below.refl _ _⟩
      case round =>
        obtain ⟨k, hk, rfl, hbw⟩ := hrel
        by_cases hlt : k < xs.length
        · have hlt2 : k < ys.length := Nat.lt_of_lt_of_le hlt HLE.out
          obtain ⟨gv, cap, ev, hcv, hlv, _⟩ := row_some (HR1.out.below hbw) (by omega)
          obtain ⟨gu, cau, eu, hcu, hlu, _⟩ := row_some (HR2.out.below hbw) (by omega)
          injection ev with ev _ ev'
          injection eu with eu _ eu'
          subst ev ev' eu eu'
          have a1 := rq_at (HR1.out.below hbw) k hlt
          have a2 := rq_at (HR2.out.below hbw) k hlt2
          rw [HEL.out k hlt hlt2] at a2
          have hq := HSM.out k hlt
          generalize (xs[k]).1 = r at *
          generalize (xs[k]).2 = f1 at *
          generalize (ys[k]).2 = f2 at *
          obtain ⟨p0, p1, p2, p3, p4, p5, _⟩ := a1
          obtain ⟨q0, q1, q2, q3, q4, q5, _⟩ := a2
          have HSA := Lib.hid (same_any r f1 f2 wr.drew (p5) (q5) (by omega))
          unfold rqVal at HSA
          obtain ⟨F1, d1, rfl, _⟩ := Rd.own p5
          obtain ⟨F2, d2, rfl, _⟩ := Rd.own q5
          have HBW := Lib.hid hbw
          clear hbw p5 q5 HR1 HR2 HEL HSM
          go_wp2_with fail
          go_region_law ((first | (go_simp; go_at_call 13; refine HSA.out.mono ?_; rintro e w4 ⟨rfl, hb4⟩)))
          all_goals
            go_wp2_with fail
            go_roundw
            case rel => exact ⟨k + 1, by omega, by go_num, HBW.out.drew.trans (hb4.mono HBW.out.size)⟩
            case measure => simp [intOf]; omega
        · have HBW := Lib.hid hbw
          clear hbw
          go_wp2_with fail
          go_ret
          exact ⟨rfl, bt HB3.out HBW.out⟩
    · have hne : (R1.1.status != 0) = true := by simpa using hst
      have hne2 : (R1.1.status == 0) = false := by simpa using hst
      rw [← hst2]
      rw [← hst3]
      clear hst hst2 hst3
      generalize R1.1.status = st1 at *
      go_wp2_with fail
      go_loopw [56] (fun i wr => ∃ k : Nat, k ≤ xs.length ∧ i = .int .i64 k ∧ Below w3.heap.size w3 wr) (fun i _ => xs.length - (intOf i).toNat)
      case atStart => exact ⟨0, by omega, rfl, Below.refl _ _⟩
      case round =>
        obtain ⟨k, hk, rfl, hbw⟩ := hrel
        by_cases hlt : k < xs.length
        · have hlt2 : k < ys.length := Nat.lt_of_lt_of_le hlt HLE.out
          obtain ⟨gv, cap, ev, hcv, hlv, _⟩ := row_some (HR1.out.below hbw) (by omega)
          obtain ⟨gu, cau, eu, hcu, hlu, _⟩ := row_some (HR2.out.below hbw) (by omega)
          injection ev with ev _ ev'
          injection eu with eu _ eu'
          subst ev ev' eu eu'
          have a1 := rq_at (HR1.out.below hbw) k hlt
          have a2 := rq_at (HR2.out.below hbw) k hlt2
          rw [HEL.out k hlt hlt2] at a2
          have hq := HSM.out k hlt
          generalize (xs[k]).1 = r at *
          generalize (xs[k]).2 = f1 at *
          generalize (ys[k]).2 = f2 at *
          obtain ⟨p0, p1, p2, p3, p4, p5, _⟩ := a1
          obtain ⟨q0, q1, q2, q3, q4, q5, _⟩ := a2
          have HSA := Lib.hid (same_any r f1 f2 wr.drew (p5) (q5) (by omega))
          unfold rqVal at HSA
          obtain ⟨F1, d1, rfl, _⟩ := Rd.own p5
          obtain ⟨F2, d2, rfl, _⟩ := Rd.own q5
          have HBW := Lib.hid hbw
          clear hbw p5 q5 HR1 HR2 HEL HSM
          go_wp2_with fail
          go_region_law ((first | (go_simp; go_at_call 13; refine HSA.out.mono ?_; rintro e w4 ⟨rfl, hb4⟩)))
          all_goals
            go_wp2_with fail
            go_roundw
            case rel => exact ⟨k + 1, by omega, by go_num, HBW.out.drew.trans (hb4.mono HBW.out.size)⟩
            case measure => simp [intOf]; omega
        · have HBW := Lib.hid hbw
          clear hbw
          go_wp2_with fail
          go_ret
          exact ⟨rfl, bt HB3.out HBW.out⟩

end Go.Proofs.YtkjlbddaglcooaaDoor
