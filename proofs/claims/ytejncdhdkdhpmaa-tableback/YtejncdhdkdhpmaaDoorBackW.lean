/- The walk of TableBack. -/
import Derived.Test.YtejncdhdkdhpmaaDoorBackP
import Derived.Test.YtejncdhdkdhpmaaDoorTbFit
import Derived.Test.YtejncdhdkdhpmaaDoorTbLight
import Derived.BigQuiet
namespace Go.Proofs.YtejncdhdkdhpmaaDoor
open Go.RowKit Pl

theorem i64_and1 (n : Int) : bits .and .i64 n 1 = n % 2 := by
  have h : (BitVec.ofInt 64 1).toNat = 2 ^ 1 - 1 := by decide
  have key : (BitVec.ofInt 64 n &&& BitVec.ofInt 64 1).toNat = (n % ((2 ^ 64 : Nat) : Int)).toNat % 2 ^ 1 := by
    rw [BitVec.toNat_and, BitVec.toNat_ofInt, h, Nat.and_two_pow_sub_one_eq_mod]
  show IntKind.i64.wrap ((BitVec.ofInt 64 n &&& BitVec.ofInt 64 1).toNat : Nat) = n % 2
  rw [key, IntKind.wrap_i64]
  omega

theorem blank2 (p : Nat) (h : p ≤ 1) : ∃ B : ByteArray, Hid (B.size ≤ 2 ∧ B.data.toList = bl p ∧ ∀ wx, (Instr.slice 9 (.string ⟨#[32, 32]⟩) none (some (.int .i64 (p : Int))) none).run Tryd.prog wx = .ok (.string B) wx) := by
  have k1 := fun wx => run_slice_string_h (P := Tryd.prog) wx 9 ⟨#[32, 32]⟩ Tryd.underlying9 .i64 (p : Int) (by omega) (by show (p : Int) ≤ 2; omega)
  rw [Int.toNat_natCast] at k1
  refine ⟨_, ?_, ?_, k1⟩
  · have : p = 0 ∨ p = 1 := by omega
    rcases this with rfl | rfl <;> decide
  · have : p = 0 ∨ p = 1 := by omega
    rcases this with rfl | rfl <;> rfl
theorem blank3 (z : Nat) (h : z ≤ 1) : ∃ (B : ByteArray) (u : Int), Hid (B.size ≤ 3 ∧ B.data.toList = 32 :: bl z ∧ (∀ wx, (Instr.slice 9 (.string ⟨#[32, 32, 32]⟩) none (some (.int .i64 u)) none).run Tryd.prog wx = .ok (.string B) wx) ∧ IntKind.i64.wrap (1 + (z : Int)) = u) := by
  have k1 := fun wx => run_slice_string_h (P := Tryd.prog) wx 9 ⟨#[32, 32, 32]⟩ Tryd.underlying9 .i64 (1 + (z : Int)) (by omega) (by show (1 + (z : Int)) ≤ 3; omega)
  refine ⟨_, 1 + (z : Int), ?_, ?_, k1, ?_⟩
  · have : z = 0 ∨ z = 1 := by omega
    rcases this with rfl | rfl <;> decide
  · have : z = 0 ∨ z = 1 := by omega
    rcases this with rfl | rfl <;> rfl
  · rw [IntKind.wrap_i64]; omega

set_option maxRecDepth 100000 in
set_option maxHeartbeats 8000000 in
theorem back_go (l : List Rt) (A : Option Addr) (c : Nat) (n : Int) (w : World) (hr : Rd w w.heap.size 3 A l.length (rtCells l)) (hz : ∀ r ∈ l, r.m.length ≤ 140737488355328 ∧ r.p.length ≤ 140737488355328 ∧ r.h.length ≤ 140737488355328) (hw : HB w) (hL : lightL l = true) (hck : checkL l = 0) :
    Calls Tryd.prog 3 #[.slice A l.length c, .int .i64 n] w fun e w' => e = .returned (.bool true) ∧ Below w.heap.size w w' := by
  have HF := Lib.hid (fit_any w hw)
  have HW := Lib.hid hw
  have HR := Lib.hid hr
  have HSZ := Lib.hid (light_sizes hL).2
  have hl60 := (light_sizes hL).1
  have HP := Lib.hid (light_pat hL)
  have HLT := Lib.hid (fun w hr => light_any l A c w hr (by omega) hz)
  rw [hL] at HLT
  have HCK := Lib.hid (fun w hr hw => check_any l A c w hr hw (by omega) HP.out)
  rw [hck] at HCK
  have HPR := Lib.hid (fun w hr => print_any l A c w hr (by omega) (by have := HSZ.out; omega))
  have hpz : (mkB (printL l)).size ≤ 10000 := by rw [mkB_size, print_len]; have := HSZ.out; omega
  have HP1 := Lib.hid (fun w hw => parse_any (mkB (printL l)) w hw hpz)
  rw [mkB_data, parse_print hck] at HP1
  generalize mkB (printL l) = PL at *
  have hand := i64_and1 n
  obtain ⟨p, hp⟩ : ∃ p : Nat, n % 2 = (p : Int) := ⟨(n % 2).toNat, by omega⟩
  obtain ⟨q, hq⟩ : ∃ q : Nat, n / 2 % 2 = (q : Int) := ⟨(n / 2 % 2).toNat, by omega⟩
  have hp1 : p ≤ 1 := by omega
  have hq1 : q ≤ 1 := by omega
  have hand2 := i64_and1 (n / 2)
  rw [hp] at hand
  rw [hq] at hand2
  have HTP := Lib.hid (text_parse p q hck)
  have HTL := Lib.hid (text_len p q hp1 hq1 l)
  have HST := Lib.hid (size_take l)
  clear hw hr hz hL hck hp hq hpz
  go_enter Tryd.func3, Tryd.ntmps3
  go_wp2_with fail
  refine HF.out.mono ?_
  rintro e w1 ⟨rfl, hb1⟩
  have HB1 := Lib.hid hb1
  have HR1 := Lib.hid ((HR.out.below hb1 (Nat.le_refl _)).wide hb1.size)
  clear hb1
  go_wp2_with fail
  refine (HLT.out _ HR1.out).mono ?_
  rintro e w2 ⟨rfl, hb2⟩
  have HB2 := Lib.hid (bt HB1.out hb2)
  have HR2 := Lib.hid ((HR1.out.below hb2 (Nat.le_refl _)).wide hb2.size)
  clear hb2
  go_wp2_with fail
  refine (HCK.out _ HR2.out (HW.out.below HB2.out)).mono ?_
  rintro e w3 ⟨rfl, hb3⟩
  have HB3 := Lib.hid (bt HB2.out hb3)
  have HR3 := Lib.hid ((HR2.out.below hb3 (Nat.le_refl _)).wide hb3.size)
  clear hb3
  go_wp2_with fail
  refine (HPR.out _ HR3.out).mono ?_
  rintro e w4 ⟨rfl, hb4⟩
  have HB4 := Lib.hid (bt HB3.out hb4)
  have HR4 := Lib.hid ((HR3.out.below hb4 (Nat.le_refl _)).wide hb4.size)
  clear hb4
  go_wp2_with fail
  refine (HP1.out _ (HW.out.below HB4.out)).mono ?_
  rintro e w5 ⟨v5, rfl, ho5, hb5⟩
  obtain ⟨A5, c5, rfl, hr5⟩ := Rd.own ho5
  have HB5 := Lib.hid (bt HB4.out hb5)
  have HR5 := Lib.hid ((HR4.out.below hb5 (Nat.le_refl _)).wide hb5.size)
  have HRA := Lib.hid hr5
  clear hb5 ho5 hr5 HR4 HR3 HR2 HR1 HB4 HB3 HB2 HB1 HF HLT HCK HPR HP1
  go_wp2_with fail
  go_loopw [8, 30] (fun v i wr => ∃ (k : Nat) (T : ByteArray), k ≤ l.length ∧ v = .string T ∧ i = .int .i64 k ∧ Hid (Below w5.heap.size w5 wr) ∧ T.size ≤ 5000 ∧ Hid (T.data.toList = textB p q (l.take k))) (fun _ i _ => l.length - (intOf i).toNat)
  case atStart => exact ⟨0, ⟨#[10, 32, 32, 10]⟩, by omega, rfl, rfl, Below.refl _ _, by decide, by show _ = _; rfl⟩
  case round =>
    obtain ⟨k, T, hk, rfl, rfl, HB, hT, HD⟩ := hrel
    by_cases hlt : k < l.length
    · obtain ⟨a, rfl, hab, k0, k1, k2⟩ := rt_in (HR5.out.below HB.out (Nat.le_refl _)) rfl k hlt
      have hzz : (mkB l[k].m).size + (mkB l[k].p).size + (mkB l[k].h).size ≤ 4000 := by
        have h1 := size_mem (List.getElem_mem hlt)
        rw [mkB_size, mkB_size, mkB_size]
        unfold sizeR at h1
        have := HSZ.out
        omega
      have hand3 := i64_and1 (k : Int)
      obtain ⟨z, hz3⟩ : ∃ z : Nat, k % 2 = z := ⟨_, rfl⟩
      have hzi : (k : Int) % 2 = (z : Int) := by omega
      rw [hzi] at hand3
      have hz1 : z ≤ 1 := by omega
      obtain ⟨BA, HBA⟩ := blank2 p hp1
      obtain ⟨BD, HBD⟩ := blank2 q hq1
      obtain ⟨BB, u, HBB⟩ := blank3 z hz1
      have sA := HBA.out.1; have sB := HBB.out.1; have sD := HBD.out.1
      have eA := HBA.out.2.2; have eB := HBB.out.2.2.1; have eu := HBB.out.2.2.2; have eD := HBD.out.2.2
      have HTK : Hid (textB p q (l.take (k + 1)) = textB p q (l.take k) ++ (lineB p z 0 q ⟨(mkB l[k].m).data.toList, (mkB l[k].p).data.toList, (mkB l[k].h).data.toList⟩ ++ [10, 10])) := by
        show _ = _
        rw [text_take p q l k hlt, hz3, mkB_data, mkB_data, mkB_data]
      have HA := Lib.hid ((Below.refl wr.heap.size wr).alloc (Nat.le_refl _) (.cells #[.string (mkB l[k].m), .string (mkB l[k].p), .string (mkB l[k].h)] 31))
      generalize mkB l[k].m = xm at *
      generalize mkB l[k].p = xp at *
      generalize mkB l[k].h = xh at *
      have s1 : (⟨#[32]⟩ : ByteArray).size = 1 := rfl
      have s2 : (⟨#[10, 10]⟩ : ByteArray).size = 2 := rfl
      have HLP := Lib.hid (fun r hr => lineB_parts p z q BA BB BD HBA.out.2.1 HBB.out.2.1 HBD.out.2.1 xm xp xh T _ HD.out r hr)
      have a1 := add_str BA xm (by omega)
      have a2 := add_str (BA ++ xm) BB (by rw [app_size]; omega)
      have a3 := add_str (BA ++ xm ++ BB) xp (by rw [app_size, app_size]; omega)
      have a4 := add_str (BA ++ xm ++ BB ++ xp) ⟨#[32]⟩ (by rw [app_size, app_size, app_size]; omega)
      have a5 := add_str (BA ++ xm ++ BB ++ xp ++ ⟨#[32]⟩) xh (by rw [app_size, app_size, app_size, app_size]; omega)
      have a6 := add_str (BA ++ xm ++ BB ++ xp ++ ⟨#[32]⟩ ++ xh) BD (by rw [app_size, app_size, app_size, app_size, app_size]; omega)
      have a7 := add_str (BA ++ xm ++ BB ++ xp ++ ⟨#[32]⟩ ++ xh ++ BD) ⟨#[10, 10]⟩ (by rw [app_size, app_size, app_size, app_size, app_size, app_size]; omega)
      have a8 := add_str T (BA ++ xm ++ BB ++ xp ++ ⟨#[32]⟩ ++ xh ++ BD ++ ⟨#[10, 10]⟩) (by rw [app_size, app_size, app_size, app_size, app_size, app_size, app_size]; omega)
      generalize (T ++ (BA ++ xm ++ BB ++ xp ++ ⟨#[32]⟩ ++ xh ++ BD ++ ⟨#[10, 10]⟩) : ByteArray) = y8 at *
      generalize (BA ++ xm ++ BB ++ xp ++ ⟨#[32]⟩ ++ xh ++ BD ++ ⟨#[10, 10]⟩ : ByteArray) = y7 at *
      generalize (BA ++ xm ++ BB ++ xp ++ ⟨#[32]⟩ ++ xh ++ BD : ByteArray) = y6 at *
      generalize (BA ++ xm ++ BB ++ xp ++ ⟨#[32]⟩ ++ xh : ByteArray) = y5 at *
      generalize (BA ++ xm ++ BB ++ xp ++ ⟨#[32]⟩ : ByteArray) = y4 at *
      generalize (BA ++ xm ++ BB ++ xp : ByteArray) = y3 at *
      generalize (BA ++ xm ++ BB : ByteArray) = y2 at *
      generalize (BA ++ xm : ByteArray) = y1 at *
      have H8 : Hid (y8.data.toList = textB p q (l.take (k + 1))) := by
        show _ = _
        rw [HTK.out]
        exact HLP.out _ rfl
      have HY : Hid (y8.size ≤ 5000) := by
        show _ ≤ _
        rw [← data_len, H8.out]
        have h1 := HTL.out (k + 1) (by omega)
        have h2 := HST.out (k + 1)
        have h3 := HSZ.out
        omega
      have HB2 := Lib.hid (bt HB.out HA.out)
      clear hz3 hzi s1 s2 sA sB sD hT hzz hz1 HLP HTK
      go_wp2_with fail
      go_quiet (fail)
      have HB3 : Hid (Below w5.heap.size w5 ((wr.alloc (.cells #[.string xm, .string xp, .string xh] 31)).drewN nq)) := below_drewN HB2.out nq
      go_wp2_with fail
      go_roundw
      case rel => exact ⟨k + 1, y8, by omega, rfl, by go_num, HB3, HY.out, H8⟩
      case measure => simp [intOf]; omega
    · have htk : l.take k = l := List.take_of_length_le (by omega)
      have HD2 := Lib.hid HD.out
      rw [htk] at HD2
      have HP2 := Lib.hid (fun w hw => parse_any T w hw (by omega))
      rw [HD2.out, HTP.out] at HP2
      have HRr := Lib.hid ((HR5.out.below HB.out (Nat.le_refl _)).wide HB.out.size)
      have HRAr := Lib.hid ((HRA.out.below HB.out (Nat.le_refl _)).wide HB.out.size)
      have HBr := Lib.hid (bt HB5.out HB.out)
      have HWr := Lib.hid (HW.out.below HBr.out)
      clear htk HD2 HD
      go_wp2_with fail
      refine (HP2.out _ HWr.out).mono ?_
      rintro e w6 ⟨v6, rfl, ho6, hb6⟩
      obtain ⟨A6, c6, rfl, hr6⟩ := Rd.own ho6
      have HB6 := Lib.hid (bt HBr.out hb6)
      have HR6 := Lib.hid ((HRr.out.below hb6 (Nat.le_refl _)).wide hb6.size)
      have HRA6 := Lib.hid ((HRAr.out.below hb6 (Nat.le_refl _)).wide hb6.size)
      have HRB6 := Lib.hid hr6
      clear hb6 ho6 hr6
      have HS1 := Lib.hid (same_any l l A5 A c5 c w6 HRA6.out HR6.out (by omega) (by omega))
      rw [decide_eq_true rfl] at HS1
      go_wp2_with fail
      refine HS1.out.mono ?_
      rintro e w7 ⟨rfl, hb7⟩
      have HB7 := Lib.hid (bt HB6.out hb7)
      have HS2 := Lib.hid (same_any l l A6 A c6 c w7 ((HRB6.out.below hb7 (Nat.le_refl _)).wide hb7.size) ((HR6.out.below hb7 (Nat.le_refl _)).wide hb7.size) (by omega) (by omega))
      rw [decide_eq_true rfl] at HS2
      clear hb7
      go_wp2_with fail
      refine HS2.out.mono ?_
      rintro e w8 ⟨rfl, hb8⟩
      go_wp2_with fail
      go_ret
      exact ⟨rfl, bt HB7.out hb8⟩

set_option maxRecDepth 100000 in
set_option maxHeartbeats 8000000 in
theorem back_heavy (l : List Rt) (A : Option Addr) (c : Nat) (n : Int) (w : World) (hr : Rd w w.heap.size 3 A l.length (rtCells l)) (hlc : l.length ≤ c) (hc : c ≤ maxLen) (hz : ∀ r ∈ l, r.m.length ≤ 140737488355328 ∧ r.p.length ≤ 140737488355328 ∧ r.h.length ≤ 140737488355328) (hw : HB w) (hL : lightL l = false) :
    Calls Tryd.prog 3 #[.slice A l.length c, .int .i64 n] w fun e w' => e = .returned (.bool true) ∧ Below w.heap.size w w' := by
  have HF := Lib.hid (fit_any w hw)
  have HR := Lib.hid hr
  unfold maxLen at hc
  have HLT := Lib.hid (fun w hr => light_any l A c w hr (by omega) hz)
  rw [hL] at HLT
  clear hw hr hz hL
  go_enter Tryd.func3, Tryd.ntmps3
  go_wp2_with fail
  refine HF.out.mono ?_
  rintro e w1 ⟨rfl, hb1⟩
  have HB1 := Lib.hid hb1
  have HR1 := Lib.hid ((HR.out.below hb1 (Nat.le_refl _)).wide hb1.size)
  clear hb1
  go_wp2_with fail
  refine (HLT.out _ HR1.out).mono ?_
  rintro e w2 ⟨rfl, hb2⟩
  go_wp2_with fail
  go_ret
  exact ⟨rfl, bt HB1.out hb2⟩

set_option maxRecDepth 100000 in
set_option maxHeartbeats 8000000 in
theorem back_wrong (l : List Rt) (A : Option Addr) (c : Nat) (n : Int) (w : World) (hr : Rd w w.heap.size 3 A l.length (rtCells l)) (hz : ∀ r ∈ l, r.m.length ≤ 140737488355328 ∧ r.p.length ≤ 140737488355328 ∧ r.h.length ≤ 140737488355328) (hw : HB w) (hL : lightL l = true) (hck : checkL l ≠ 0) :
    Calls Tryd.prog 3 #[.slice A l.length c, .int .i64 n] w fun e w' => e = .returned (.bool true) ∧ Below w.heap.size w w' := by
  have HF := Lib.hid (fit_any w hw)
  have HW := Lib.hid hw
  have HR := Lib.hid hr
  have hl60 := (light_sizes hL).1
  have HP := Lib.hid (light_pat hL)
  have HLT := Lib.hid (fun w hr => light_any l A c w hr (by omega) hz)
  rw [hL] at HLT
  have HCK := Lib.hid (fun w hr hw => check_any l A c w hr hw (by omega) HP.out)
  obtain ⟨q, hq⟩ : ∃ q, checkL l = q := ⟨_, rfl⟩
  rw [hq] at HCK hck
  have hqb : (q == (0 : Int)) = false := by rw [beq_eq_false_iff_ne]; exact hck
  clear hw hr hz hL hck hq
  go_enter Tryd.func3, Tryd.ntmps3
  go_wp2_with fail
  refine HF.out.mono ?_
  rintro e w1 ⟨rfl, hb1⟩
  have HB1 := Lib.hid hb1
  have HR1 := Lib.hid ((HR.out.below hb1 (Nat.le_refl _)).wide hb1.size)
  clear hb1
  go_wp2_with fail
  refine (HLT.out _ HR1.out).mono ?_
  rintro e w2 ⟨rfl, hb2⟩
  have HB2 := Lib.hid (bt HB1.out hb2)
  have HR2 := Lib.hid ((HR1.out.below hb2 (Nat.le_refl _)).wide hb2.size)
  clear hb2
  go_wp2_with fail
  refine (HCK.out _ HR2.out (HW.out.below HB2.out)).mono ?_
  rintro e w3 ⟨rfl, hb3⟩
  go_wp2_with fail
  go_ret
  exact ⟨rfl, bt HB2.out hb3⟩

theorem back_row (l : List Rt) (A : Option Addr) (c : Nat) (n : Int) (w : World) (hr : Rd w w.heap.size 3 A l.length (rtCells l)) (hlc : l.length ≤ c) (hc : c ≤ maxLen) (hz : ∀ r ∈ l, r.m.length ≤ 140737488355328 ∧ r.p.length ≤ 140737488355328 ∧ r.h.length ≤ 140737488355328) (_ : (Lit.int .i64 n).wf = true) (hw : HB w) :
    Calls Tryd.prog 3 #[.slice A l.length c, .int .i64 n] w fun e w' => e = .returned (.bool true) ∧ Below w.heap.size w w' := by
  cases hL : lightL l with
  | false => exact back_heavy l A c n w hr hlc hc hz hw hL
  | true =>
    by_cases h0 : checkL l = 0
    · exact back_go l A c n w hr hz hw hL h0
    · exact back_wrong l A c n w hr hz hw hL h0

end Go.Proofs.YtejncdhdkdhpmaaDoor
