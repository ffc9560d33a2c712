/- The law CutterBodies, walked. -/
import Derived.Test.YtkjlbddaglcooaaGreatDoorText
import Derived.Test.YtkjlbddaglcooaaGreatDoorFitC
namespace Go.Proofs.YtkjlbddaglcooaaGreatDoor
open Go.RowKit Pl
open Go.Lib (byteCells)

theorem i64_and1 (n : Int) : bits .and .i64 n 1 = n % 2 := by
  have h : (BitVec.ofInt 64 1).toNat = 2 ^ 1 - 1 := by decide
  have key : (BitVec.ofInt 64 n &&& BitVec.ofInt 64 1).toNat = (n % ((2 ^ 64 : Nat) : Int)).toNat % 2 ^ 1 := by
    rw [BitVec.toNat_and, BitVec.toNat_ofInt, h, Nat.and_two_pow_sub_one_eq_mod]
  show IntKind.i64.wrap ((BitVec.ofInt 64 n &&& BitVec.ofInt 64 1).toNat : Nat) = n % 2
  rw [key, IntKind.wrap_i64]
  omega
theorem seed_one (mi ti bi tk ch : Nat) (cl : Bool) (h1 : mi < 6) (h2 : ti < 16) (h3 : bi < 8) (h4 : tk < 4) (h5 : ch < 4) : runC newC (seedT mi ti bi tk ch cl) = (afterC cl, [seedRq mi ti bi tk ch cl]) := by
  have := seed_run mi ti bi tk ch cl h1 h2 h3 h4 h5 []
  rw [List.append_nil] at this
  rw [this]
  rfl
theorem after_status (cl : Bool) : (afterC cl).status = 0 := by cases cl <;> rfl
def textOK (mi ti bi tk ch : Nat) (cl : Bool) : Bool := decide ((seedT mi ti bi tk ch cl).length ≤ 3000)
theorem first_len (mi ti : Nat) (h1 : mi < 6) (h2 : ti < 16) : (firstL mi ti).length ≤ 40 := by
  have := first_all ⟨mi, h1⟩ ⟨ti, h2⟩
  simp only [firstOK, Bool.and_eq_true, decide_eq_true_eq] at this
  exact this.2
theorem seed_len (mi ti bi tk ch : Nat) (cl : Bool) (h1 : mi < 6) (h2 : ti < 16) (h3 : bi < 8) (h4 : tk < 4) (h5 : ch < 4) : (seedT mi ti bi tk ch cl).length ≤ 3000 := by
  have e1 := first_len mi ti h1 h2
  have e2 := rest_all ⟨bi, h3⟩ ⟨tk, h4⟩ ⟨ch, h5⟩ cl
  simp only [restOK, Bool.and_eq_true, decide_eq_true_eq, beq_iff_eq] at e2
  have e3 := e2.1.2
  have e4 := chunk_len ⟨bi, h3⟩ ⟨ch, h5⟩
  have e5 := body_len ⟨bi, h3⟩
  simp only at e4 e5
  have e6 : (tailT bi ch).length ≤ 2000 := by unfold tailT; split <;> omega
  unfold seedT
  rw [joinL]
  simp only [List.length_append, List.length_cons, List.length_nil]
  omega

theorem one_of {α β : Type} (xs : List α) (f : α → β) (a : β) (h : xs.map f = [a]) : ∃ x, xs = [x] ∧ f x = a := by
  cases xs with
  | nil => simp at h
  | cons x xs =>
    cases xs with
    | nil => simp at h; exact ⟨x, rfl, h⟩
    | cons y xs => simp at h
theorem RQ.set25 {w : World} {v : Value} {xs : List (Rq × Value)} {g i : Nat} {cs : Array Value} {u : Value} (h : RQ w v xs) (hg : w.heap[g]? = some (.cells cs 25 (0, 0))) : RQ (w.setCell ⟨g, i, none⟩ u) v xs :=
  ⟨ownsRow_setCell_other h.row (own_ne2 h.row hg (by decide)) _, fun p hp => ownsRow_setCell_other (h.fld p hp) (own_ne2 (h.fld p hp) hg (by decide)) _⟩
theorem rq_zero {w : World} {gv cap : Nat} {r : Rq} {f : Value} (h : RQ w (.slice (some ⟨gv, 0, none⟩) 1 cap) [(r, f)]) : w.cell? ⟨gv, 0, none⟩ = some (.string r.m) ∧ w.cell? ⟨gv, 1, none⟩ = some (.string r.t) ∧ w.cell? ⟨gv, 2, none⟩ = some f ∧ w.cell? ⟨gv, 3, none⟩ = some (.string r.body) ∧ w.cell? ⟨gv, 4, none⟩ = some (.bool r.close) := by
  obtain ⟨gv', cap', e, _, _, hc⟩ := row_some h (by simp)
  injection e with e1 e2 e3
  injection e1 with e1
  injection e1 with e1
  subst e1
  exact ⟨hc 0 _ rfl, hc 1 _ rfl, hc 2 _ rfl, hc 3 _ rfl, hc 4 _ rfl⟩
/-- All, of a seed's text. -/
theorem all_seed (mi ti bi tk ch : Nat) (cl : Bool) (h1 : mi < 6) (h2 : ti < 16) (h3 : bi < 8) (h4 : tk < 4) (h5 : ch < 4) (w : World) (hm : MX w) :
    Calls Tryz.prog 11 #[.string (mkT (seedT mi ti bi tk ch cl))] w fun e w' => ∃ gv cap f, e = .returned (.tuple #[.slice (some ⟨gv, 0, none⟩) 1 cap, .int .i64 0]) ∧ 1 ≤ cap ∧ RQ w' (.slice (some ⟨gv, 0, none⟩) 1 cap) [(seedRq mi ti bi tk ch cl, f)] ∧ Below w.heap.size w w' := by
  refine (call_all (mkT (seedT mi ti bi tk ch cl)) w hm (by rw [mkT_size]; have := seed_len mi ti bi tk ch cl h1 h2 h3 h4 h5; omega) _ (Lib.hid (by rw [mkT_data, seed_one mi ti bi tk ch cl h1 h2 h3 h4 h5]))).mono ?_
  rintro e w' ⟨v, xs, rfl, hxs, hrq, hb⟩
  obtain ⟨p, rfl, hp1⟩ := one_of xs _ _ hxs
  obtain ⟨gv, cap, rfl, hc, _⟩ := row_some hrq (by simp)
  have hp : p = (seedRq mi ti bi tk ch cl, p.2) := by rw [← hp1]
  exact ⟨gv, cap, p.2, by rw [after_status]; rfl, hc, by rw [← hp]; exact hrq, hb⟩

set_option maxRecDepth 10000 in
set_option maxHeartbeats 4000000 in
theorem bodies_core (m t b k c wr n : Int) (cl : Bool) (m8 mi ti bi tk nk : Nat) (hm8 : m % 256 = (m8 : Int)) (hmi : m8 % 6 = mi) (hti : t % 16 = (ti : Int)) (hbi : b % 8 = (bi : Int)) (htk : k % 4 = (tk : Int)) (hnk : n % 2 = (nk : Int)) (w : World) (hmx : MX w) (htb : TB w) :
    Calls Tryz.prog 8 #[.agg #[.int .i64 m, .int .i64 t, .int .i64 b, .int .i64 k, .int .i64 c, .bool cl, .int .i64 wr], .int .i64 n] w fun e w' => e = .returned (.bool true) ∧ Below w.heap.size w w' := by
  have b1 : mi < 6 := by omega
  have b2 : ti < 16 := by omega
  have b3 : bi < 8 := by omega
  have b4 : tk < 4 := by omega
  have b5 : nk < 2 := by omega
  have a1 := i64_and1 n
  rw [hnk] at a1
  have HX1 := Lib.hid fun w h => text_any m t b k 0 0 cl m8 mi ti bi tk 0 0 hm8 hmi hti hbi htk rfl rfl (.inl rfl) w h
  have HX2 := Lib.hid fun w h => text_any m t b k ((nk : Int) + 1) 0 cl m8 mi ti bi tk (nk + 1) 0 hm8 hmi hti hbi htk (by omega) rfl (.inl rfl) w h
  have HA1 := Lib.hid fun w h => all_seed mi ti bi tk 0 cl b1 b2 b3 b4 (by omega) w h
  have HA2 := Lib.hid fun w h => all_seed mi ti bi tk (nk + 1) cl b1 b2 b3 b4 (by omega) w h
  have hb0 : Below w.heap.size w (w.alloc (.cells #[.int .i64 m, .int .i64 t, .int .i64 b, .int .i64 k, .int .i64 c, .bool cl, .int .i64 wr] 25)) := (Below.refl _ _).alloc (Nat.le_refl _) _
  have hq0 := heap_alloc_new w (.cells #[.int .i64 m, .int .i64 t, .int .i64 b, .int .i64 k, .int .i64 c, .bool cl, .int .i64 wr] 25)
  have HF := Lib.hid (fit_any _ (hmx.below hb0))
  have HB0 := Lib.hid hb0; have HQ0 := Lib.hid hq0; have HMX := Lib.hid hmx; have HTB := Lib.hid htb
  generalize mkT (seedT mi ti bi tk 0 cl) = s1 at *
  generalize mkT (seedT mi ti bi tk (nk + 1) cl) = s2 at *
  clear hm8 hmi hti hbi htk hnk hb0 hq0 hmx htb b1 b2 b3 b4
  go_enter Tryz.func8, Tryz.ntmps8
  go_wp2_with fail
  refine HF.out.mono ?_
  rintro e w1 ⟨rfl, hb1⟩
  have hq1 := (hb1.block _ (blk_lt HQ0.out)).trans HQ0.out
  have hbw1 := bt HB0.out hb1
  have c0 := blk_cell hq1 0; have c1 := blk_cell hq1 1; have c2 := blk_cell hq1 2; have c3 := blk_cell hq1 3; have c4 := blk_cell hq1 4; have c5 := blk_cell hq1 5; have c6 := blk_cell hq1 6
  have f4 := blk_free hq1 4; have f6 := blk_free hq1 6
  simp at c0 c1 c2 c3 c4 c5 c6
  have hbs : Below w.heap.size w ((w1.setCell ⟨w.heap.size, 6, none⟩ (.int .i64 0)).setCell ⟨w.heap.size, 4, none⟩ (.int .i64 0)) := (hbw1.setCell (Nat.le_refl _) _).setCell (Nat.le_refl _) _
  have e6 : (w1.setCell ⟨w.heap.size, 6, none⟩ (.int .i64 0)).heap[w.heap.size]? = some (.cells #[.int .i64 m, .int .i64 t, .int .i64 b, .int .i64 k, .int .i64 c, .bool cl, .int .i64 0] 25 (0, 0)) := set_same 6 hq1
  have e4 : ((w1.setCell ⟨w.heap.size, 6, none⟩ (.int .i64 0)).setCell ⟨w.heap.size, 4, none⟩ (.int .i64 0)).heap[w.heap.size]? = some (.cells #[.int .i64 m, .int .i64 t, .int .i64 b, .int .i64 k, .int .i64 0, .bool cl, .int .i64 0] 25 (0, 0)) := set_same 4 e6
  have HBS := Lib.hid hbs; have HE4 := Lib.hid e4
  clear hb1 hq1 hbw1 hbs e6 e4 HF HQ0 HB0
  go_wp2_with fail
  refine (HX1.out _ (HTB.out.below HBS.out)).mono ?_
  rintro e w2 ⟨rfl, hb2⟩
  have HB2 := Lib.hid (bt HBS.out hb2)
  have hq2 := (hb2.block _ (blk_lt HE4.out)).trans HE4.out
  go_wp2_with fail
  refine (HA1.out _ (HMX.out.below HB2.out)).mono ?_
  rintro e w3 ⟨ga, ca, fa, rfl, hca, hra, hb3⟩
  have HB3 := Lib.hid (bt HB2.out hb3)
  have hq3 := (hb3.block _ (blk_lt hq2)).trans hq2
  have d0 := blk_cell hq3 0; have d1 := blk_cell hq3 1; have d2 := blk_cell hq3 2; have d3 := blk_cell hq3 3; have d4 := blk_cell hq3 4; have d5 := blk_cell hq3 5; have d6 := blk_cell hq3 6
  have g4 := blk_free hq3 4
  simp at d0 d1 d2 d3 d4 d5 d6
  have HR3 := Lib.hid (hra.set25 (i := 4) (u := .int .i64 ((nk : Int) + 1)) hq3)
  have HBS3 : Hid (Below w.heap.size w (w3.setCell ⟨w.heap.size, 4, none⟩ (.int .i64 ((nk : Int) + 1)))) := HB3.out.setCell (Nat.le_refl _) _
  clear hb2 hb3 hq2 hq3 hra HX1 HA1 HE4 c0 c1 c2 c3 c4 c5 c6 f4 f6
  go_wp2_with fail
  refine (HX2.out _ (HTB.out.below HBS3.out)).mono ?_
  rintro e w4 ⟨rfl, hb4⟩
  have HB4 := Lib.hid (bt HBS3.out hb4)
  have HR4 := Lib.hid (HR3.out.below hb4)
  go_wp2_with fail
  refine (HA2.out _ (HMX.out.below HB4.out)).mono ?_
  rintro e w5 ⟨gb, cb, fb, rfl, hcb, hrb, hb5⟩
  have HB5 := Lib.hid (bt HB4.out hb5)
  obtain ⟨p0, p1, _, p3, p4⟩ := rq_zero (HR4.out.below hb5)
  obtain ⟨q0, q1, _, q3, q4⟩ := rq_zero hrb
  simp only [seedRq] at p0 p1 p3 p4 q0 q1 q3 q4
  clear hb4 hb5 hrb HR3 HR4 HX2 HA2 d0 d1 d2 d3 d4 d5 d6 g4
  generalize mkB (methodT mi) = M at *
  generalize mkB (targetT ti) = T at *
  generalize mkB (bodyT bi) = B at *
  go_wp2_with fail
  go_quiet (fail)
  go_wp2_with fail
  go_ret
  exact ⟨ret_bool (by simp), HB5.out.trans (below_drewN _ _ _)⟩

theorem bodies_walk (m t b k c wr n : Int) (cl : Bool) (w : World) (hmx : MX w) (htb : TB w) :
    Calls Tryz.prog 8 #[.agg #[.int .i64 m, .int .i64 t, .int .i64 b, .int .i64 k, .int .i64 c, .bool cl, .int .i64 wr], .int .i64 n] w fun e w' => e = .returned (.bool true) ∧ Below w.heap.size w w' :=
  bodies_core m t b k c wr n cl (m % 256).toNat ((m % 256).toNat % 6) (t % 16).toNat (b % 8).toNat (k % 4).toNat (n % 2).toNat (by omega) rfl (by omega) (by omega) (by omega) (by omega) w hmx htb

end Go.Proofs.YtkjlbddaglcooaaGreatDoor
