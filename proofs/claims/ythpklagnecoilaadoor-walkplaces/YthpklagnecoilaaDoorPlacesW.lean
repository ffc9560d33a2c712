/- The walk of the law WalkPlaces. -/
import Derived.Test.YthpklagnecoilaaDoorWt
namespace Go.Proofs.YthpklagnecoilaaDoor
open Go.RowKit

theorem i64_and1 (n : Int) : bits .and .i64 n 1 = n % 2 := by
  have h : (BitVec.ofInt 64 1).toNat = 2 ^ 1 - 1 := by decide
  have key : (BitVec.ofInt 64 n &&& BitVec.ofInt 64 1).toNat = (n % ((2 ^ 64 : Nat) : Int)).toNat % 2 ^ 1 := by
    rw [BitVec.toNat_and, BitVec.toNat_ofInt, h, Nat.and_two_pow_sub_one_eq_mod]
  show IntKind.i64.wrap ((BitVec.ofInt 64 n &&& BitVec.ofInt 64 1).toNat : Nat) = n % 2
  rw [key, IntKind.wrap_i64]
  omega

def absI (x : Int) : Int := if -x > x then -x else x
theorem abs_cases (x : Int) : (0 ≤ x ∧ absI x = x) ∨ (x < 0 ∧ absI x = -x) := by
  unfold absI
  split <;> omega
/-- A step on, or back. -/
def isS (c : UInt8) : Bool := c == 70 || c == 66
def cntS (l : List UInt8) : Nat := (l.filter isS).length
theorem cnt_snoc (l : List UInt8) (c : UInt8) : cntS (l ++ [c]) = cntS l + (if isS c then 1 else 0) := by
  unfold cntS
  rw [List.filter_append, List.length_append]
  congr 1
  cases h : isS c <;> simp [h]

/-- How far, and on which colour. -/
structure Far (n : Nat) (p : Wk) : Prop where
  le : absI p.x + absI p.y ≤ n
  even : ((n : Int) - (absI p.x + absI p.y)) % 2 = 0
theorem far_step {n : Nat} {p q : Wk} {c : UInt8} (h : Far n p) (hw : Unit4 p.dx p.dy) (hs : stepW p c = some q) : Far (n + (if isS c then 1 else 0)) q := by
  obtain ⟨h1, h2⟩ := h
  have a1 := abs_cases p.x
  have a2 := abs_cases p.y
  unfold Unit4 at hw
  unfold stepW at hs
  by_cases k1 : c = 70
  · subst k1
    cases hs
    have b1 := abs_cases (p.x + p.dx)
    have b2 := abs_cases (p.y + p.dy)
    constructor <;> simp only [isS] <;> simp <;> omega
  by_cases k2 : c = 66
  · subst k2
    cases hs
    have b1 := abs_cases (p.x - p.dx)
    have b2 := abs_cases (p.y - p.dy)
    constructor <;> simp only [isS] <;> simp <;> omega
  have hi : isS c = false := by simp [isS, k1, k2]
  rw [if_neg k1, if_neg k2] at hs
  rw [hi]
  split at hs
  · cases hs; exact ⟨h1, h2⟩
  · split at hs
    · cases hs; exact ⟨h1, h2⟩
    · cases hs
theorem far_go : ∀ (l : List UInt8) {m n : Nat} {p q : Wk}, Far n p → In m p → goW p l = some q → Far (n + cntS l) q
  | [], m, n, p, q, h, _, hs => by cases hs; exact h
  | c :: l, m, n, p, q, h, hi, hs => by
    simp only [goW] at hs
    cases he : stepW p c with
    | none => rw [he] at hs; cases hs
    | some r =>
      rw [he] at hs
      have := far_go l (far_step h hi.way he) (in_step hi he) hs
      have e : cntS (c :: l) = (if isS c then 1 else 0) + cntS l := by
        unfold cntS
        cases h : isS c <;> simp [h]
        omega
      rw [e, ← Nat.add_assoc]
      exact this
theorem far_walk {l : List UInt8} {q : Wk} (h : walkW l = some q) : Far (cntS l) q := by
  unfold walkW at h
  split at h
  · cases h
  · have := far_go l (n := 0) ⟨by decide, by decide⟩ in_new h
    rwa [Nat.zero_add] at this
theorem cnt_le (l : List UInt8) : cntS l ≤ l.length := List.length_filter_le _ _

set_option maxRecDepth 100000 in
set_option maxHeartbeats 8000000 in
theorem places_walk (s : ByteArray) (w : World) (hs : s.size ≤ 140737488355328) (hg : GB w) : Calls Tryd.prog 8 #[.string s] w fun e w' => e = .returned (.bool true) ∧ Below w.heap.size w w' := by
  have hst := st_cx
  have HF := Lib.hid (fit_any w hg)
  have HG := Lib.hid hg
  clear hg
  by_cases h60 : 60 < s.size
  · have h1 : (60 : Int) < (s.size : Int) := by omega
    go_enter Tryd.func8, Tryd.ntmps8
    go_wp2_with fail
    refine HF.out.mono ?_
    rintro e w1 ⟨rfl, hb1⟩
    go_wp2_with fail
    go_ret
    exact ⟨rfl, hb1⟩
  · have h1 : ¬ (60 : Int) < (s.size : Int) := by omega
    have h60 : s.size ≤ 60 := by omega
    go_enter Tryd.func8, Tryd.ntmps8
    go_wp2_with fail
    refine HF.out.mono ?_
    rintro e w1 ⟨rfl, hb1⟩
    have HX := Lib.hid (walk_any s w1)
    have HFW := Lib.hid (fun q => far_walk (l := s.data.toList) (q := q))
    have HIW := Lib.hid (fun q => in_walk (l := s.data.toList) (q := q))
    have HB1 := Lib.hid hb1
    clear hb1 HF
    cases hq : walkW s.data.toList with
    | none =>
      rw [hq] at HX
      simp only [Option.isSome_none, Option.getD_none] at HX
      clear hq
      go_wp2_with fail
      refine HX.out.mono ?_
      rintro e w3 ⟨a, b, c, d, rfl, hr, hb3⟩
      have HE := Lib.hid (bt HB1.out (hb3.alloc hb3.size (.cells #[.complex .f64 a b, .complex .f64 c d] 26)))
      clear hr hb3
      go_wp2_with fail
      go_ret
      exact ⟨rfl, HE.out⟩
    | some p =>
      rw [hq] at HX
      simp only [Option.isSome_some, Option.getD_some] at HX
      have HFP := Lib.hid (HFW.out p hq)
      have HIP := Lib.hid (HIW.out p hq).1
      clear hq HFW HIW
      go_wp2_with fail
      refine HX.out.mono ?_
      rintro e w3 ⟨a, b, c, d, rfl, hr, hb3⟩
      have HR := Lib.hid hr
      have hb4 := hb3.alloc hb3.size (.cells #[.complex .f64 a b, .complex .f64 c d] 26)
      have HK := Lib.hid (bk_new w3 (.complex .f64 a b) (.complex .f64 c d))
      have HB4 := Lib.hid (bt HB1.out hb4)
      clear hb3 hb4 hr HX
      generalize hw4 : w3.alloc (.cells #[.complex .f64 a b, .complex .f64 c d] 26) = w4 at *
      go_wp2_with fail
      generalize w3.heap.size = G at *
      clear hw4
      go_loopw [5, 25] (fun vst vi wr => ∃ (k st : Nat), vst = .int .i64 (st : Int) ∧ vi = .int .i64 (k : Int) ∧ k ≤ s.size ∧ st ≤ 60 ∧ Hid (st = cntS (s.data.toList.take k)) ∧ w4 = wr) (fun _ vi _ => s.size - (intOf vi).toNat)
      case atStart => exact ⟨0, 0, rfl, rfl, by omega, by omega, rfl, rfl⟩
      case round =>
        obtain ⟨k, st, rfl, rfl, hk, hs60, HST, hw⟩ := hrel
        subst hw
        by_cases hks : k < s.size
        · have HN : Hid (cntS (s.data.toList.take (k + 1)) = st + (if isS s[k] then 1 else 0)) := by
            show _ = _
            rw [take_snoc s k hks, cnt_snoc, ← HST.out]
          have HC : Hid (cntS (s.data.toList.take (k + 1)) ≤ 60) := Nat.le_trans (cnt_le _) (by rw [List.length_take, data_len]; omega)
          have hne : ∀ u : UInt8, s[k] ≠ u → ¬ ((s[k].toNat : Nat) : Int) = ((u.toNat : Nat) : Int) := fun u h e => h (UInt8.toNat_inj.1 (by omega))
          by_cases k1 : s[k] = 70
          · have kk : ((s[k].toNat : Nat) : Int) = 70 := by rw [k1]; rfl
            have HE : Hid (st + 1 = cntS (s.data.toList.take (k + 1))) := by show _ = _; rw [HN.out, k1]; rfl
            clear hne k1
            go_wp2_with fail
            exact ⟨⟨k + 1, st + 1, rfl, rfl, by omega, by have := HC.out; have := HE.out; omega, HE.out, trivial⟩, by simp [intOf] <;> omega⟩
          · by_cases k2 : s[k] = 66
            · have kk : ((s[k].toNat : Nat) : Int) = 66 := by rw [k2]; rfl
              have HE : Hid (st + 1 = cntS (s.data.toList.take (k + 1))) := by show _ = _; rw [HN.out, k2]; rfl
              clear hne k1 k2
              go_wp2_with fail
              exact ⟨⟨k + 1, st + 1, rfl, rfl, by omega, by have := HC.out; have := HE.out; omega, HE.out, trivial⟩, by simp [intOf] <;> omega⟩
            · have n1 : ¬ ((s[k].toNat : Nat) : Int) = 70 := hne 70 k1
              have n2 : ¬ ((s[k].toNat : Nat) : Int) = 66 := hne 66 k2
              have HE : Hid (st = cntS (s.data.toList.take (k + 1))) := by
                show _ = _
                rw [HN.out, show isS s[k] = false by simp [isS, k1, k2]]
                rfl
              have b1 : (((s[k].toNat : Nat) : Int) == 70) = false := beq_eq_false_iff_ne.2 n1
              have b2 : (((s[k].toNat : Nat) : Int) == 66) = false := beq_eq_false_iff_ne.2 n2
              clear hne k1 k2 HN
              go_wp2_with fail
              exact ⟨⟨k + 1, st, rfl, rfl, by omega, by omega, HE.out, trivial⟩, by simp [intOf] <;> omega⟩
        · have HST2 : Hid (st = cntS s.data.toList) := by
            have := HST.out
            rwa [take_all s k (by omega)] at this
          have hf := HFP.out
          rw [← HST2.out] at hf
          obtain ⟨f1, f2⟩ := hf
          have hin := HIP.out
          have i0 := hin.x0; have i1 := hin.x1; have i2 := hin.y0; have i3 := hin.y1
          have hw := hin.way
          have hr := HR.out
          have hc1 := fun wx => conv_int hr.x 3 (.inr rfl) wx
          have hc2 := fun wx => conv_int hr.y 3 (.inr rfl) wx
          have hm1 : ∀ (wx : World) ts t, (Builtin.max_ ts t #[.int .i64 p.x, .int .i64 (-p.x)]).run Tryd.prog wx = .ok (.int .i64 (absI p.x)) wx := fun wx ts t => run_max_int2 wx ts t .i64 .i64 p.x (-p.x)
          have hm2 : ∀ (wx : World) ts t, (Builtin.max_ ts t #[.int .i64 p.y, .int .i64 (-p.y)]).run Tryd.prog wx = .ok (.int .i64 (absI p.y)) wx := fun wx ts t => run_max_int2 wx ts t .i64 .i64 p.y (-p.y)
          have a0 : 0 ≤ absI p.x ∧ absI p.x ≤ 40 := by have := abs_cases p.x; omega
          have a1 : 0 ≤ absI p.y ∧ absI p.y ≤ 40 := by have := abs_cases p.y; omega
          have hand : bits .and .i64 ((st : Int) - (absI p.x + absI p.y)) 1 = 0 := by rw [i64_and1]; exact f2
          have o1 := ord_rp hr.dx rp_one
          have o2 := ord_rp hr.dx rp_zero
          have o3 := ord_rp hr.dx rp_neg
          have o4 := ord_rp hr.dy rp_one
          have o5 := ord_rp hr.dy rp_zero
          have o6 := ord_rp hr.dy rp_neg
          have HW := Lib.hid hw
          obtain ⟨x, y, dx, dy⟩ := p
          simp only at *
          generalize absI x = ax at *
          generalize absI y = ay at *
          obtain ⟨a2, a3⟩ := a0
          obtain ⟨a4, a5⟩ := a1
          have c0 := HK.out.c0
          have c1 := HK.out.c1
          have HD := Lib.hid (fun n => bt HB4.out (drewN_below w4 n))
          have hke : ¬ ((k : Int) < (s.size : Int)) := by omega
          clear HFP HIP HST HST2 hin hw hr f2 HG hks
          rcases HW.out with ⟨rfl, rfl⟩ | ⟨rfl, rfl⟩ | ⟨rfl, rfl⟩ | ⟨rfl, rfl⟩
          all_goals
            simp at o1 o2 o3 o4 o5 o6
            go_wp2_with fail
            go_quiet (fail)
            go_wp2_with fail
            go_ret
            exact ⟨rfl, HD.out _⟩
end Go.Proofs.YthpklagnecoilaaDoor
