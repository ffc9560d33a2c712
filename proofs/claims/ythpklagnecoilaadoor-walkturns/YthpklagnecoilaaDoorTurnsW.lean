/- The walk of the law WalkTurns. -/
import Derived.Test.YthpklagnecoilaaDoorWt
namespace Go.Proofs.YthpklagnecoilaaDoor
open Go.RowKit

theorem i64_and7 (n : Int) : bits .and .i64 n 7 = n % 8 := by
  have h : (BitVec.ofInt 64 7).toNat = 2 ^ 3 - 1 := by decide
  have key : (BitVec.ofInt 64 n &&& BitVec.ofInt 64 7).toNat = (n % ((2 ^ 64 : Nat) : Int)).toNat % 2 ^ 3 := by
    rw [BitVec.toNat_and, BitVec.toNat_ofInt, h, Nat.and_two_pow_sub_one_eq_mod]
  show IntKind.i64.wrap ((BitVec.ofInt 64 n &&& BitVec.ofInt 64 7).toNat : Nat) = n % 8
  rw [key, IntKind.wrap_i64]
  omega

/-- Turned to the left. -/
def rot (p : Wk) : Wk := ⟨-p.y, p.x, -p.dy, p.dx⟩
def rotN : Nat → Wk → Wk
  | 0, p => p
  | n + 1, p => rot (rotN n p)
/-- The way behind so many turns. -/
def tw : Nat → Int × Int
  | 0 => (1, 0)
  | n + 1 => (-(tw n).2, (tw n).1)
theorem tw_unit : ∀ n, Unit4 (tw n).1 (tw n).2
  | 0 => .inl ⟨rfl, rfl⟩
  | n + 1 => by
    have := tw_unit n
    unfold Unit4 at *
    simp only [tw]
    omega
theorem rotN_eq (p : Wk) : ∀ n, rotN n p = ⟨p.x * (tw n).1 - p.y * (tw n).2, p.x * (tw n).2 + p.y * (tw n).1, p.dx * (tw n).1 - p.dy * (tw n).2, p.dx * (tw n).2 + p.dy * (tw n).1⟩
  | 0 => by simp [rotN, tw]
  | n + 1 => by
    simp only [rotN, rot, rotN_eq p n, tw, Int.mul_neg, Wk.mk.injEq]
    refine ⟨?_, ?_, ?_, ?_⟩ <;> omega
theorem step_rot (p : Wk) (c : UInt8) : stepW (rot p) c = (stepW p c).map rot := by
  unfold stepW rot
  split
  · simp; omega
  · split
    · simp; omega
    · split
      · simp
      · split
        · simp
        · rfl
theorem go_rot : ∀ (l : List UInt8) (p : Wk), goW (rot p) l = (goW p l).map rot
  | [], p => rfl
  | c :: l, p => by
    simp only [goW, step_rot]
    cases stepW p c with
    | none => rfl
    | some q => exact go_rot l q
theorem go_rotN (l : List UInt8) (p : Wk) : ∀ n, goW (rotN n p) l = (goW p l).map (rotN n)
  | 0 => by cases h : goW p l <;> simp [rotN, h]
  | n + 1 => by
    show goW (rot (rotN n p)) l = _
    rw [go_rot, go_rotN l p n]
    cases goW p l <;> rfl
theorem go_Ls : ∀ n, goW newW (List.replicate n 76) = some (rotN n newW)
  | 0 => rfl
  | n + 1 => by
    rw [List.replicate_succ', go_snoc, go_Ls n]
    show stepW (rotN n newW) 76 = some (rot (rotN n newW))
    have h : (rotN n newW).x = 0 ∧ (rotN n newW).y = 0 := by rw [rotN_eq]; simp [newW]
    unfold stepW rot
    simp [h.1, h.2]
theorem walk_turned (l : List UInt8) (n : Nat) (hl : l.length ≤ 30) (hn : n ≤ 7) : walkW (List.replicate n 76 ++ l) = (walkW l).map (rotN n) := by
  unfold walkW
  rw [if_neg (by simp; omega), if_neg (by omega), go_app, go_Ls]
  exact go_rotN l newW n

theorem app_data (a b : ByteArray) : (a ++ b).data.toList = a.data.toList ++ b.data.toList := by simp

set_option maxRecDepth 100000 in
set_option maxHeartbeats 8000000 in
theorem turns_walk (s : ByteArray) (n : Int) (w : World) (hs : s.size ≤ 140737488355328) (_hn : (Lit.int .i64 n).wf = true) (hg : GB w) : Calls Tryd.prog 6 #[.string s, .int .i64 n] w fun e w' => e = .returned (.bool true) ∧ Below w.heap.size w w' := by
  have hst := st_cx
  have HF := Lib.hid (fit_any w hg)
  clear hg
  by_cases hs30 : 30 < s.size
  · have h1 : (30 : Int) < (s.size : Int) := by omega
    go_enter Tryd.func6, Tryd.ntmps6
    go_wp2_with fail
    refine HF.out.mono ?_
    rintro e w1 ⟨rfl, hb1⟩
    go_wp2_with fail
    go_ret
    exact ⟨rfl, hb1⟩
  have h1 : ¬ (30 : Int) < (s.size : Int) := by omega
  have s30 : s.size ≤ 30 := by omega
  obtain ⟨m, hm7, hand⟩ : ∃ m : Nat, m ≤ 7 ∧ bits .and .i64 n 7 = (m : Int) := ⟨(n % 8).toNat, by omega, by rw [i64_and7]; omega⟩
  have HX := Lib.hid (fun wx => walk_any s wx)
  have HTR := Lib.hid (walk_turned s.data.toList m (by rw [data_len]; exact s30) hm7)
  clear hs hs30 _hn
  go_enter Tryd.func6, Tryd.ntmps6
  go_wp2_with fail
  refine HF.out.mono ?_
  rintro e w1 ⟨rfl, hb1⟩
  have HB1 := Lib.hid hb1
  clear hb1 HF
  go_wp2_with fail
  go_loopw [5, 19] (fun vt vi wr => ∃ (k : Nat) (t : ByteArray), vt = .string t ∧ vi = .int .i64 (k : Int) ∧ k ≤ m ∧ t.size = k ∧ Hid (t.data.toList = List.replicate k 76) ∧ w1 = wr) (fun _ vi _ => m - (intOf vi).toNat)
  case atStart => exact ⟨0, ⟨#[]⟩, rfl, rfl, by omega, rfl, rfl, rfl⟩
  case round =>
    obtain ⟨k, t, rfl, rfl, hk, hts, HT, hw⟩ := hrel
    subst hw
    by_cases hkm : k < m
    · have a1 := fun wx => add_str t ⟨#[76]⟩ (by show t.size + 1 ≤ _; omega) wx
      have HT2 : Hid ((t ++ ⟨#[76]⟩).data.toList = List.replicate (k + 1) 76) := by
        show _ = _
        rw [app_data, HT.out, List.replicate_succ']
      have HS2 : Hid ((t ++ ⟨#[76]⟩).size = k + 1) := by
        show (t ++ _).size = _
        have : (t ++ ⟨#[76]⟩ : ByteArray).size = t.size + 1 := by rw [← data_len, app_data]; simp
        omega
      generalize t ++ ⟨#[76]⟩ = t2 at *
      have hkm' : (k : Int) < (m : Int) := by omega
      clear hand HTR
      go_wp2_with fail
      exact ⟨⟨k + 1, t2, rfl, rfl, by omega, HS2.out, HT2.out, trivial⟩, by simp [intOf] <;> omega⟩
    · have hkm' : k = m := by omega
      subst hkm'
      have a1 := fun wx => add_str t s (by omega) wx
      have HY := Lib.hid (fun wx => walk_any (t ++ s) wx)
      rw [app_data, HT.out, HTR.out] at HY
      generalize t ++ s = ts at *
      clear HTR HT hand hkm
      cases hq : walkW s.data.toList with
      | none =>
        rw [hq] at HX HY
        simp only [Option.isSome_none, Option.getD_none, Option.map_none] at HX HY
        clear hq
        go_wp2_with fail
        refine (HX.out _).mono ?_
        rintro e w2 ⟨a, b, c, d, rfl, hr, hb2⟩
        have HB2 := Lib.hid (bt HB1.out (hb2.alloc hb2.size (.cells #[.complex .f64 a b, .complex .f64 c d] 26)))
        clear hb2 hr
        go_wp2_with fail
        refine (HY.out _).mono ?_
        rintro e w3 ⟨a', b', c', d', rfl, hr', hb3⟩
        have HB3 := Lib.hid (bt HB2.out (hb3.alloc hb3.size (.cells #[.complex .f64 a' b', .complex .f64 c' d'] 26)))
        clear hb3 hr'
        go_wp2_with fail
        go_ret
        exact ⟨rfl, HB3.out⟩
      | some p =>
        have hin := (in_walk hq).1
        rw [hq] at HX HY
        simp only [Option.isSome_some, Option.getD_some, Option.map_some] at HX HY
        rw [rotN_eq] at HY
        have HIN := Lib.hid hin
        clear hq hin
        go_wp2_with fail
        refine (HX.out _).mono ?_
        rintro e w2 ⟨a, b, c, d, rfl, hr, hb2⟩
        have hb3 := hb2.alloc hb2.size (.cells #[.complex .f64 a b, .complex .f64 c d] 26)
        have hk2 := bk_new w2 (.complex .f64 a b) (.complex .f64 c d)
        have HB3 := Lib.hid (bt HB1.out hb3)
        have HW := Lib.hid hr
        clear hb2 hr hb3
        generalize hw3 : w2.alloc (.cells #[.complex .f64 a b, .complex .f64 c d] 26) = w3 at *
        have HK3 := Lib.hid hk2
        clear hk2
        go_wp2_with fail
        clear hw3
        refine (HY.out _).mono ?_
        rintro e w4 ⟨a', b', c', d', rfl, hr', hb4⟩
        have HV := Lib.hid hr'
        have hb5 := hb4.alloc hb4.size (.cells #[.complex .f64 a' b', .complex .f64 c' d'] 26)
        have hk5 := bk_new w4 (.complex .f64 a' b') (.complex .f64 c' d')
        have HK4 := Lib.hid (HK3.out.on hb5 HK3.out.lt)
        have HB5 := Lib.hid (bt HB3.out hb5)
        clear hb4 hr' hb5 HK3 HB3 HX HY
        generalize hw5 : w4.alloc (.cells #[.complex .f64 a' b', .complex .f64 c' d'] 26) = w5 at *
        have HK5 := Lib.hid hk5
        clear hk5
        go_wp2_with fail
        clear hw5
        go_loopw [10, 42] (fun vt vi wr => ∃ (j u v : Nat), vt = .complex .f64 u v ∧ vi = .int .i64 (j : Int) ∧ j ≤ k ∧ Hid (Rp u (tw j).1) ∧ Hid (Rp v (tw j).2) ∧ w5 = wr) (fun _ vi _ => k - (intOf vi).toNat)
        case atStart => exact ⟨0, _, _, rfl, rfl, by omega, rp_one, rp_zero, rfl⟩
        case round =>
          obtain ⟨j, u, v, rfl, rfl, hj, HU1, HU2, hw⟩ := hrel
          subst hw
          have hun := tw_unit j
          by_cases hjk : j < k
          · obtain ⟨re, im, hc, r1, r2⟩ := cmul_rp HU1.out HU2.out rp_zero rp_one (by unfold Unit4 at hun; omega) (by unfold Unit4 at hun; omega) (by unfold Unit4 at hun; omega) (by unfold Unit4 at hun; omega) (.inr (.inl ⟨rfl, rfl⟩))
            rw [show (tw j).1 * 0 - (tw j).2 * 1 = (tw (j + 1)).1 by simp only [tw]; omega] at r1
            rw [show (tw j).1 * 1 + (tw j).2 * 0 = (tw (j + 1)).2 by simp only [tw]; omega] at r2
            have R1 := Lib.hid r1
            have R2 := Lib.hid r2
            have hmu := fun wx => run_complex_mul (P := Tryd.prog) wx 24 u v 0 4607182418800017408 re im hc
            have hjk' : (j : Int) < (k : Int) := by omega
            clear hc r1 r2 hun
            go_wp2_with fail
            exact ⟨⟨j + 1, re, im, rfl, rfl, by omega, R1.out, R2.out, trivial⟩, by simp [intOf] <;> omega⟩
          · have hjk' : j = k := by omega
            subst hjk'
            have hi := HIN.out
            obtain ⟨re, im, hc, r1, r2⟩ := cmul_rp HW.out.x HW.out.y HU1.out HU2.out (by have := hi.x0; omega) (by have := hi.x1; omega) (by have := hi.y0; omega) (by have := hi.y1; omega) hun
            have hw4 := hi.way
            obtain ⟨re2, im2, hc2, r3, r4⟩ := cmul_rp HW.out.dx HW.out.dy HU1.out HU2.out (by unfold Unit4 at hw4; omega) (by unfold Unit4 at hw4; omega) (by unfold Unit4 at hw4; omega) (by unfold Unit4 at hw4; omega) hun
            have hm1 := fun wx => run_complex_mul (P := Tryd.prog) wx 24 a b u v re im hc
            have hm2 := fun wx => run_complex_mul (P := Tryd.prog) wx 24 c d u v re2 im2 hc2
            have q1 := ord_rp HV.out.x r1
            have q2 := ord_rp HV.out.y r2
            have q3 := ord_rp HV.out.dx r3
            have q4 := ord_rp HV.out.dy r4
            simp only [decide_true] at q1 q2 q3 q4
            have c0 := HK4.out.c0
            have c1 := HK4.out.c1
            have k0 := HK5.out.c0
            have k1 := HK5.out.c1
            clear hc hc2 r1 r2 r3 r4 hw4 hi hun hjk
            go_wp2_with fail
            go_ret
            exact ⟨rfl, HB5.out⟩
end Go.Proofs.YthpklagnecoilaaDoor
