/- The law CutterBlank, walked. -/
import Derived.Test.YtkjlbddaglcooaaGreatDoorBodies
import Derived.Test.YtkjlbddaglcooaaGreatDoorSame
import Derived.Deep.RegionHeld3
namespace Go.Proofs.YtkjlbddaglcooaaGreatDoor
open Go.RowKit Pl
open Go.Lib (byteCells)

theorem i64_and7' (n : Int) : bits .and .i64 n 127 = n % 128 := by
  have h : (BitVec.ofInt 64 127).toNat = 2 ^ 7 - 1 := by decide
  have key : (BitVec.ofInt 64 n &&& BitVec.ofInt 64 127).toNat = (n % ((2 ^ 64 : Nat) : Int)).toNat % 2 ^ 7 := by
    rw [BitVec.toNat_and, BitVec.toNat_ofInt, h, Nat.and_two_pow_sub_one_eq_mod]
  show IntKind.i64.wrap ((BitVec.ofInt 64 n &&& BitVec.ofInt 64 127).toNat : Nat) = n % 128
  rw [key, IntKind.wrap_i64]
  omega
theorem blank_len (k : Nat) : (blankT k).length = k * 2 := by
  induction k with
  | zero => rfl
  | succ k ih => rw [blankT, List.length_append, ih]; simp; omega
theorem blank_seed (j mi ti bi tk ch : Nat) (cl : Bool) (h1 : mi < 6) (h2 : ti < 16) (h3 : bi < 8) (h4 : tk < 4) (h5 : ch < 4) : runC newC (blankT j ++ seedT mi ti bi tk ch cl) = (afterC cl, [seedRq mi ti bi tk ch cl]) := by
  rw [runC_app, run_blank]
  simp only
  rw [seed_one mi ti bi tk ch cl h1 h2 h3 h4 h5]
  rfl
/-- All, of a seed's text behind empty lines. -/
theorem all_blank (j mi ti bi tk ch : Nat) (cl : Bool) (hj : j < 128) (h1 : mi < 6) (h2 : ti < 16) (h3 : bi < 8) (h4 : tk < 4) (h5 : ch < 4) (w : World) (hm : MX w) :
    Calls Tryz.prog 11 #[.string (mkT (blankT j ++ seedT mi ti bi tk ch cl))] w fun e w' => ∃ gv cap f, e = .returned (.tuple #[.slice (some ⟨gv, 0, none⟩) 1 cap, .int .i64 0]) ∧ 1 ≤ cap ∧ RQ w' (.slice (some ⟨gv, 0, none⟩) 1 cap) [(seedRq mi ti bi tk ch cl, f)] ∧ Below w.heap.size w w' := by
  refine (call_all (mkT (blankT j ++ seedT mi ti bi tk ch cl)) w hm (by rw [mkT_size, List.length_append, blank_len]; have := seed_len mi ti bi tk ch cl h1 h2 h3 h4 h5; omega) _ (Lib.hid (by rw [mkT_data, blank_seed j mi ti bi tk ch cl h1 h2 h3 h4 h5]))).mono ?_
  rintro e w' ⟨v, xs, rfl, hxs, hrq, hb⟩
  obtain ⟨p, rfl, hp1⟩ := one_of xs _ _ hxs
  obtain ⟨gv, cap, rfl, hc, _⟩ := row_some hrq (by simp)
  have hp : p = (seedRq mi ti bi tk ch cl, p.2) := by rw [← hp1]
  exact ⟨gv, cap, p.2, by rw [after_status]; rfl, hc, by rw [← hp]; exact hrq, hb⟩
theorem fsK_len (bi tk ch : Nat) (cl : Bool) (h3 : bi < 8) (h4 : tk < 4) (h5 : ch < 4) : (fsK bi tk ch cl).length ≤ 16 := by
  have hr := rest_all ⟨bi, h3⟩ ⟨tk, h4⟩ ⟨ch, h5⟩ cl
  simp only [restOK, Bool.and_eq_true, decide_eq_true_eq, beq_iff_eq] at hr
  obtain ⟨⟨⟨⟨⟨⟨r1, _⟩, _⟩, _⟩, _⟩, _⟩, r7⟩ := hr
  unfold fsK
  cases hx : takeF ((restL bi tk ch cl).map mkB) with
  | none => simp
  | some y =>
    have := takeF_len _ _ hx
    simp only [List.length_map] at this
    simp only [Option.getD_some]
    omega

set_option maxRecDepth 10000 in
set_option maxHeartbeats 4000000 in
theorem blank_core (m t b k c wr n : Int) (cl : Bool) (m8 mi ti bi tk ch nk : Nat) (hm8 : m % 256 = (m8 : Int)) (hmi : m8 % 6 = mi) (hti : t % 16 = (ti : Int)) (hbi : b % 8 = (bi : Int)) (htk : k % 4 = (tk : Int)) (hch : c % 4 = (ch : Int)) (hnk : n % 128 = (nk : Int)) (w : World) (hmx : MX w) (htb : TB w) :
    Calls Tryz.prog 6 #[.agg #[.int .i64 m, .int .i64 t, .int .i64 b, .int .i64 k, .int .i64 c, .bool cl, .int .i64 wr], .int .i64 n] w fun e w' => e = .returned (.bool true) ∧ Below w.heap.size w w' := by
  have b1 : mi < 6 := by omega
  have b2 : ti < 16 := by omega
  have b3 : bi < 8 := by omega
  have b4 : tk < 4 := by omega
  have b6 : ch < 4 := by omega
  have b5 : nk < 128 := by omega
  have a1 := i64_and7' n
  rw [hnk] at a1
  have HX := Lib.hid fun w h => text_any m t b k c 0 cl m8 mi ti bi tk ch 0 hm8 hmi hti hbi htk hch rfl (.inl rfl) w h
  have HA1 := Lib.hid fun w h => all_blank nk mi ti bi tk ch cl b5 b1 b2 b3 b4 b6 w h
  have HA2 := Lib.hid fun w h => all_seed mi ti bi tk ch cl b1 b2 b3 b4 b6 w h
  have hsl : (mkT (seedT mi ti bi tk ch cl)).size ≤ 3000 := by rw [mkT_size]; exact seed_len mi ti bi tk ch cl b1 b2 b3 b4 b6
  have hsum : mkT (blankT nk) ++ mkT (seedT mi ti bi tk ch cl) = mkT (blankT nk ++ seedT mi ti bi tk ch cl) := mkT_app _ _
  have hfs : (seedRq mi ti bi tk ch cl).fs.length ≤ 16 := fsK_len bi tk ch cl b3 b4 b6
  generalize seedRq mi ti bi tk ch cl = r at *
  have hb0 : Below w.heap.size w (w.alloc (.cells #[.int .i64 m, .int .i64 t, .int .i64 b, .int .i64 k, .int .i64 c, .bool cl, .int .i64 wr] 25)) := (Below.refl _ _).alloc (Nat.le_refl _) _
  have hq0 := heap_alloc_new w (.cells #[.int .i64 m, .int .i64 t, .int .i64 b, .int .i64 k, .int .i64 c, .bool cl, .int .i64 wr] 25)
  have HF := Lib.hid (fit_any _ (hmx.below hb0))
  have HB0 := Lib.hid hb0; have HQ0 := Lib.hid hq0; have HMX := Lib.hid hmx; have HTB := Lib.hid htb
  have HSUM := Lib.hid hsum
  clear hm8 hmi hti hbi htk hnk hch hb0 hq0 hmx htb b1 b2 b3 b4 b6 hsum
  generalize mkT (seedT mi ti bi tk ch cl) = s1 at *
  generalize mkT (blankT nk ++ seedT mi ti bi tk ch cl) = s2 at *
  go_enter Tryz.func6, Tryz.ntmps6
  go_wp2_with fail
  refine HF.out.mono ?_
  rintro e w1 ⟨rfl, hb1⟩
  have hq1 := (hb1.block _ (blk_lt HQ0.out)).trans HQ0.out
  have hbw1 := bt HB0.out hb1
  have c6 := blk_cell hq1 6
  have f6 := blk_free hq1 6
  simp at c6
  have hbs : Below w.heap.size w (w1.setCell ⟨w.heap.size, 6, none⟩ (.int .i64 0)) := hbw1.setCell (Nat.le_refl _) _
  have e6 : (w1.setCell ⟨w.heap.size, 6, none⟩ (.int .i64 0)).heap[w.heap.size]? = some (.cells #[.int .i64 m, .int .i64 t, .int .i64 b, .int .i64 k, .int .i64 c, .bool cl, .int .i64 0] 25 (0, 0)) := set_same 6 hq1
  have HBS := Lib.hid hbs; have HE6 := Lib.hid e6
  clear hb1 hq1 hbw1 hbs e6 HF HQ0 HB0
  go_wp2_with fail
  generalize w1.setCell ⟨w.heap.size, 6, none⟩ (.int .i64 0) = W1 at *
  go_loopw [5, 16] (fun tv i wr => ∃ j : Nat, j ≤ nk ∧ i = .int .i64 j ∧ tv = .string (mkT (blankT j)) ∧ Below W1.heap.size W1 wr) (fun _ i _ => nk - (intOf i).toNat)
  case atStart => exact ⟨0, by omega, rfl, rfl, Below.refl _ _⟩
  case round =>
    obtain ⟨j, hj, rfl, rfl, hbw⟩ := hrel
    have HBW := Lib.hid hbw
    clear hbw
    by_cases hlt : j < nk
    · have hsum : mkT (blankT j) ++ ⟨#[13, 10]⟩ = mkT (blankT (j + 1)) := mkT_app (blankT j) [13, 10]
      have hsz : (mkT (blankT j)).size ≤ 300 := by rw [mkT_size, blank_len]; omega
      have HT2 : Hid (mkT (blankT j) ++ ⟨#[13, 10]⟩ = mkT (blankT (j + 1))) := hsum
      generalize mkT (blankT (j + 1)) = t2 at hsum
      have HT3 := Lib.hid hsum
      generalize mkT (blankT j) = t1 at *
      go_wp2_with fail
      go_roundw
      case rel => exact ⟨j + 1, by omega, by go_num, by rw [← HT3.out, HT2.out], HBW.out⟩
      case measure => simp [intOf]; omega
    · obtain rfl : j = nk := by omega
      have hsz : (mkT (blankT j)).size ≤ 300 := by rw [mkT_size, blank_len]; omega
      have hsum2 := HSUM.out
      generalize mkT (blankT j) = t1 at *
      have hq2 := (HBW.out.block _ (blk_lt HE6.out)).trans HE6.out
      have hbw2 := bt HBS.out HBW.out
      have d0 := blk_cell hq2 0; have d1 := blk_cell hq2 1; have d2 := blk_cell hq2 2; have d3 := blk_cell hq2 3; have d4 := blk_cell hq2 4; have d5 := blk_cell hq2 5; have d6 := blk_cell hq2 6
      simp at d0 d1 d2 d3 d4 d5 d6
      have HB2 := Lib.hid hbw2; have HQ2 := Lib.hid hq2
      clear hbw2 hq2
      go_wp2_with fail
      refine (HX.out _ (HTB.out.below HB2.out)).mono ?_
      rintro e w3 ⟨rfl, hb3⟩
      have HB3 := Lib.hid (bt HB2.out hb3)
      have HQ3 := Lib.hid ((hb3.block _ (blk_lt HQ2.out)).trans HQ2.out)
      clear hb3 d0 d1 d2 d3 d4 d5 d6
      go_wp2_with fail
      refine (HA1.out _ (HMX.out.below HB3.out)).mono ?_
      rintro e w4 ⟨ga, ca, fa, rfl, hca, hra, hb4⟩
      have HB4 := Lib.hid (bt HB3.out hb4)
      have hq4 := (hb4.block _ (blk_lt HQ3.out)).trans HQ3.out
      have d0 := blk_cell hq4 0; have d1 := blk_cell hq4 1; have d2 := blk_cell hq4 2; have d3 := blk_cell hq4 3; have d4 := blk_cell hq4 4; have d5 := blk_cell hq4 5; have d6 := blk_cell hq4 6
      simp at d0 d1 d2 d3 d4 d5 d6
      have HR4 := Lib.hid hra
      clear hb4 hq4 hra
      go_wp2_with fail
      refine (HX.out _ (HTB.out.below HB4.out)).mono ?_
      rintro e w5 ⟨rfl, hb5⟩
      have HB5 := Lib.hid (bt HB4.out hb5)
      have HR5 := Lib.hid (HR4.out.below hb5)
      clear hb5 d0 d1 d2 d3 d4 d5 d6
      go_wp2_with fail
      refine (HA2.out _ (HMX.out.below HB5.out)).mono ?_
      rintro e w6 ⟨gb, cb, fb, rfl, hcb, hrb, hb6⟩
      have HB6 := Lib.hid (bt HB5.out hb6)
      have hr6 := HR5.out.below hb6
      have hfa := hr6.fld _ (List.mem_singleton.2 rfl)
      have hfb := hrb.fld _ (List.mem_singleton.2 rfl)
      simp only at hfa hfb
      have HSA := Lib.hid (same_any r fa fb w6.drew hfa hfb (by omega))
      unfold rqVal at HSA
      obtain ⟨F1, e1, rfl, _⟩ := Rd.own hfa
      obtain ⟨F2, e2, rfl, _⟩ := Rd.own hfb
      have HK : Hid (∀ W, Below w6.heap.size w6.drew W → W.cell? ⟨ga, 0, none⟩ = some (.string r.m) ∧ W.cell? ⟨ga, 1, none⟩ = some (.string r.t) ∧ W.cell? ⟨ga, 2, none⟩ = some (.slice F1 r.fs.length e1) ∧ W.cell? ⟨ga, 3, none⟩ = some (.string r.body) ∧ W.cell? ⟨ga, 4, none⟩ = some (.bool r.close) ∧ W.cell? ⟨gb, 0, none⟩ = some (.string r.m) ∧ W.cell? ⟨gb, 1, none⟩ = some (.string r.t) ∧ W.cell? ⟨gb, 2, none⟩ = some (.slice F2 r.fs.length e2) ∧ W.cell? ⟨gb, 3, none⟩ = some (.string r.body) ∧ W.cell? ⟨gb, 4, none⟩ = some (.bool r.close)) := fun W h => by
        have b1 := rq_zero (hr6.below (w' := W) ((Below.refl _ _).drew.trans h))
        have b2 := rq_zero (hrb.below (w' := W) ((Below.refl _ _).drew.trans h))
        exact ⟨b1.1, b1.2.1, b1.2.2.1, b1.2.2.2.1, b1.2.2.2.2, b2.1, b2.2.1, b2.2.2.1, b2.2.2.2.1, b2.2.2.2.2⟩
      have hb0 : Below w6.heap.size w6.drew w6.drew := Below.refl _ _
      clear hb6 hr6 hrb hfa hfb HR4 HR5 HX HA1 HA2
      go_wp2_with fail
      go_region_held3 (fun W => W.cell? ⟨ga, 0, none⟩ = some (.string r.m) ∧ W.cell? ⟨ga, 1, none⟩ = some (.string r.t) ∧ W.cell? ⟨ga, 2, none⟩ = some (.slice F1 r.fs.length e1) ∧ W.cell? ⟨ga, 3, none⟩ = some (.string r.body) ∧ W.cell? ⟨ga, 4, none⟩ = some (.bool r.close) ∧ W.cell? ⟨gb, 0, none⟩ = some (.string r.m) ∧ W.cell? ⟨gb, 1, none⟩ = some (.string r.t) ∧ W.cell? ⟨gb, 2, none⟩ = some (.slice F2 r.fs.length e2) ∧ W.cell? ⟨gb, 3, none⟩ = some (.string r.body) ∧ W.cell? ⟨gb, 4, none⟩ = some (.bool r.close))
        ((refine HK.out _ ?_; first | (exact hb7) | (exact hb0)))
        ((first | (go_at_call 18; refine HSA.out.mono ?_; rintro e w7 ⟨rfl, hb7⟩)))
      all_goals
        go_wp2_with fail
        go_ret
        exact ⟨ret_bool (by simp), HB6.out.drew.trans (hb7.mono HB6.out.size)⟩

theorem blank_walk (m t b k c wr n : Int) (cl : Bool) (w : World) (hmx : MX w) (htb : TB w) :
    Calls Tryz.prog 6 #[.agg #[.int .i64 m, .int .i64 t, .int .i64 b, .int .i64 k, .int .i64 c, .bool cl, .int .i64 wr], .int .i64 n] w fun e w' => e = .returned (.bool true) ∧ Below w.heap.size w w' :=
  blank_core m t b k c wr n cl (m % 256).toNat ((m % 256).toNat % 6) (t % 16).toNat (b % 8).toNat (k % 4).toNat (c % 4).toNat (n % 128).toNat (by omega) rfl (by omega) (by omega) (by omega) (by omega) (by omega) w hmx htb

end Go.Proofs.YtkjlbddaglcooaaGreatDoor
