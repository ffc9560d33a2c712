/- The contracts of the laws' same and light. -/
import Derived.Test.YtejncdhdkdhpmaaDoorTbPrint
import Derived.Test.YtejncdhdkdhpmaaDoorTbCheck
namespace Go.Proofs.YtejncdhdkdhpmaaDoor
open Go.RowKit Pl

theorem same_step (l m : List Rt) (k : Nat) (h1 : k < l.length) (h2 : k < m.length) (h : l.take k = m.take k) (e : l[k] = m[k]) : l.take (k + 1) = m.take (k + 1) := by
  rw [List.take_succ_eq_append_getElem h1, List.take_succ_eq_append_getElem h2, h, e]

set_option maxRecDepth 100000 in
set_option maxHeartbeats 4000000 in
theorem same_any (l m : List Rt) (A B : Option Addr) (c d : Nat) (w : World) (hl : Rd w w.heap.size 3 A l.length (rtCells l)) (hm : Rd w w.heap.size 3 B m.length (rtCells m)) (hn : l.length ≤ 1000000) (hn2 : m.length ≤ 1000000) :
    Calls Tryd.prog 14 #[.slice A l.length c, .slice B m.length d] w fun e w' => e = .returned (.bool (decide (l = m))) ∧ Below w.heap.size w w' := by
  have HL := Lib.hid hl; have HM := Lib.hid hm
  have HE := Lib.hid (fun y x w => ne_route y x w)
  clear hl hm
  obtain ⟨SM, hSM⟩ : ∃ q, decide (l = m) = q := ⟨_, rfl⟩
  rw [hSM]
  have HSM := Lib.hid hSM
  clear hSM
  by_cases hlen : l.length = m.length
  · have hln : ((l.length : Int) == (m.length : Int)) = true := by rw [hlen]; simp
    have HLEN := Lib.hid hlen
    clear hlen
    go_enter Tryd.func14, Tryd.ntmps14
    go_wp2_with fail
    go_loopw [13] (fun i wr => ∃ (k : Nat), k ≤ l.length ∧ i = .int .i64 k ∧ Hid (Below w.heap.size w wr) ∧ Hid (l.take k = m.take k)) (fun i _ => l.length - (intOf i).toNat)
    case atStart => exact ⟨0, by omega, rfl, Below.refl _ _, by show _ = _; simp⟩
    case round =>
      obtain ⟨k, hk, rfl, HB, HV⟩ := hrel
      by_cases hlt : k < l.length
      · have hlt2 : k < m.length := by rw [← HLEN.out]; exact hlt
        obtain ⟨a, rfl, hab, k0, k1, k2⟩ := rt_in (HL.out.below HB.out (Nat.le_refl _)) rfl k hlt
        obtain ⟨b, rfl, hbb, j0, j1, j2⟩ := rt_in (HM.out.below HB.out (Nat.le_refl _)) rfl k hlt2
        have hq := HE.out l[k] m[k]
        by_cases he : l[k] = m[k]
        · rw [decide_eq_true he] at hq
          have H2 : Hid (l.take (k + 1) = m.take (k + 1)) := same_step l m k hlt hlt2 HV.out he
          clear he
          generalize mkB l[k].m = xm at *
          generalize mkB l[k].p = xp at *
          generalize mkB l[k].h = xh at *
          generalize mkB m[k].m = ym at *
          generalize mkB m[k].p = yp at *
          generalize mkB m[k].h = yh at *
          go_wp2_with fail
          go_region
          go_wp2_with fail
          go_roundw
          case rel => exact ⟨k + 1, by omega, by go_num, HB.out.drew, H2⟩
          case measure => simp [intOf]; omega
        · rw [decide_eq_false he] at hq
          have H2 : Hid (SM = false) := by
            show _ = _
            rw [← HSM.out, decide_eq_false_iff_not]
            intro e
            apply he
            simp only [e]
          clear he
          generalize mkB l[k].m = xm at *
          generalize mkB l[k].p = xp at *
          generalize mkB l[k].h = xh at *
          generalize mkB m[k].m = ym at *
          generalize mkB m[k].p = yp at *
          generalize mkB m[k].h = yh at *
          go_wp2_with fail
          go_region
          go_wp2_with fail
          go_ret
          exact ⟨ret_bool H2.out.symm, HB.out.drew⟩
      · have H2 : Hid (SM = true) := by
          have := HV.out
          rw [List.take_of_length_le (by omega), List.take_of_length_le (by have := HLEN.out; omega)] at this
          show _ = _
          rw [← HSM.out, decide_eq_true_eq]; exact this
        go_wp2_with fail
        go_ret
        exact ⟨ret_bool H2.out.symm, HB.out⟩
  · have hln : ((l.length : Int) == (m.length : Int)) = false := by rw [beq_eq_false_iff_ne]; omega
    have H2 : Hid (SM = false) := by
      show _ = _
      rw [← HSM.out, decide_eq_false_iff_not]
      intro e
      exact hlen (by rw [e])
    clear hlen
    go_enter Tryd.func14, Tryd.ntmps14
    go_wp2_with fail
    go_ret
    exact ⟨ret_bool H2.out.symm, Below.refl _ _⟩

def lightL (l : List Rt) : Bool := decide (sizeL l ≤ 4000) && decide (l.length ≤ 60)

theorem size_bound (M : Nat) (l : List Rt) (h : ∀ r ∈ l, sizeR r ≤ M) : sizeL l ≤ l.length * M := by
  induction l with
  | nil => simp [sizeL]
  | cons r l ih =>
    have h1 := ih (fun x hx => h x (by simp [hx]))
    have h2 := h r (by simp)
    rw [sizeL, List.length_cons, Nat.add_mul]
    omega
theorem size_few (l : List Rt) (hn : l.length ≤ 60) (hz : ∀ r ∈ l, r.m.length ≤ 140737488355328 ∧ r.p.length ≤ 140737488355328 ∧ r.h.length ≤ 140737488355328) (k : Nat) : sizeL (l.take k) ≤ 60 * 422212465065984 := by
  refine Nat.le_trans (size_take l k) (Nat.le_trans (size_bound 422212465065984 l (fun r hr => ?_)) (Nat.mul_le_mul_right _ hn))
  have := hz r hr
  unfold sizeR
  omega

set_option maxRecDepth 100000 in
set_option maxHeartbeats 4000000 in
theorem light_few (l : List Rt) (A : Option Addr) (c : Nat) (w : World) (hr : Rd w w.heap.size 3 A l.length (rtCells l)) (hn : l.length ≤ 60) (hz : ∀ r ∈ l, r.m.length ≤ 140737488355328 ∧ r.p.length ≤ 140737488355328 ∧ r.h.length ≤ 140737488355328) :
    Calls Tryd.prog 10 #[.slice A l.length c] w fun e w' => e = .returned (.bool (decide (sizeL l ≤ 4000))) ∧ Below w.heap.size w w' := by
  have HR := Lib.hid hr; have HZ := Lib.hid hz
  have HT := Lib.hid (size_few l hn hz)
  clear hr hz
  obtain ⟨q, hq⟩ : ∃ q, decide (sizeL l ≤ 4000) = q := ⟨_, rfl⟩
  rw [hq]
  have HQ := Lib.hid hq
  clear hq
  go_enter Tryd.func10, Tryd.ntmps10
  go_wp2_with fail
  go_loopw [3, 8] (fun v i wr => ∃ (k z : Nat), k ≤ l.length ∧ v = .int .i64 z ∧ i = .int .i64 k ∧ Hid (Below w.heap.size w wr) ∧ Hid (sizeL (l.take k) = z)) (fun _ i _ => l.length - (intOf i).toNat)
  case atStart => exact ⟨0, 0, by omega, rfl, rfl, Below.refl _ _, by show _ = _; simp [sizeL]⟩
  case round =>
    obtain ⟨k, z, hk, rfl, rfl, HB, HS⟩ := hrel
    by_cases hlt : k < l.length
    · obtain ⟨a, rfl, hab, k0, k1, k2⟩ := rt_in (HR.out.below HB.out (Nat.le_refl _)) rfl k hlt
      have hz := HZ.out _ (List.getElem_mem hlt)
      have hss := size_snoc l k hlt
      rw [sizeR, ← mkB_size l[k].m, ← mkB_size l[k].p, ← mkB_size l[k].h, HS.out] at hss
      rw [← mkB_size l[k].m, ← mkB_size l[k].p, ← mkB_size l[k].h] at hz
      have hz0 := HT.out k
      rw [HS.out] at hz0
      have HA := Lib.hid ((Below.refl wr.heap.size wr).alloc (Nat.le_refl _) (.cells #[.string (mkB l[k].m), .string (mkB l[k].p), .string (mkB l[k].h)] 31))
      generalize mkB l[k].m = xm at *
      generalize mkB l[k].p = xp at *
      generalize mkB l[k].h = xh at *
      have HSS : Hid (sizeL (l.take (k + 1)) = z + (xm.size + xp.size + xh.size)) := hss
      obtain ⟨hz1, hz2, hz3⟩ := hz
      clear hss
      have HB1 := Lib.hid (bt HB.out HA.out)
      go_wp2_with fail
      go_roundw
      case rel => exact ⟨k + 1, z + (xm.size + xp.size + xh.size), by omega, by first | rfl | (simp only [Int.natCast_add]), by go_num, HB1, HSS⟩
      case measure => simp [intOf]; omega
    · have htk : l.take k = l := List.take_of_length_le (by omega)
      have hs := HS.out
      rw [htk] at hs
      have hx : decide ((z : Int) ≤ 4000) = q := by rw [← HQ.out, hs, Bool.eq_iff_iff]; simp only [decide_eq_true_eq]; omega
      have h60 : decide ((l.length : Int) ≤ 60) = true := by simp only [decide_eq_true_eq]; omega
      clear htk hs
      cases hqq : q with
      | true =>
        rw [hqq] at hx
        have HQQ := Lib.hid hqq
        clear hqq
        go_wp2_with fail
        go_ret
        exact ⟨ret_bool HQQ.out.symm, HB.out⟩
      | false =>
        rw [hqq] at hx
        have HQQ := Lib.hid hqq
        clear hqq
        go_wp2_with fail
        go_ret
        exact ⟨ret_bool HQQ.out.symm, HB.out⟩

set_option maxRecDepth 100000 in
set_option maxHeartbeats 4000000 in
theorem light_many (l : List Rt) (A : Option Addr) (c : Nat) (w : World) (hr : Rd w w.heap.size 3 A l.length (rtCells l)) (hn : 60 < l.length) (hx : l.length ≤ 9223372036854775807) :
    Calls Tryd.prog 10 #[.slice A l.length c] w fun e w' => e = .returned (.bool false) ∧ Below w.heap.size w w' := by
  have HR := Lib.hid hr
  clear hr
  go_enter Tryd.func10, Tryd.ntmps10
  go_wp2_with fail
  go_loopw [3, 8] (fun v i wr => ∃ (k : Nat) (z : Int), k ≤ l.length ∧ v = .int .i64 z ∧ i = .int .i64 k ∧ Hid (Below w.heap.size w wr)) (fun _ i _ => l.length - (intOf i).toNat)
  case atStart => exact ⟨0, 0, by omega, rfl, rfl, Below.refl _ _⟩
  case round =>
    obtain ⟨k, z, hk, rfl, rfl, HB⟩ := hrel
    by_cases hlt : k < l.length
    · obtain ⟨a, rfl, hab, k0, k1, k2⟩ := rt_in (HR.out.below HB.out (Nat.le_refl _)) rfl k hlt
      have HA := Lib.hid ((Below.refl wr.heap.size wr).alloc (Nat.le_refl _) (.cells #[.string (mkB l[k].m), .string (mkB l[k].p), .string (mkB l[k].h)] 31))
      generalize mkB l[k].m = xm at *
      generalize mkB l[k].p = xp at *
      generalize mkB l[k].h = xh at *
      have HB1 := Lib.hid (bt HB.out HA.out)
      go_wp2_with fail
      go_roundw
      case rel => exact ⟨k + 1, _, by omega, rfl, by go_num, HB1⟩
      case measure => simp [intOf]; omega
    · have h60 : decide ((l.length : Int) ≤ 60) = false := by simp only [decide_eq_false_iff_not]; omega
      cases hq : decide (z ≤ 4000) with
      | true =>
        go_wp2_with fail
        go_ret
        exact ⟨rfl, HB.out⟩
      | false =>
        go_wp2_with fail
        go_ret
        exact ⟨rfl, HB.out⟩

theorem light_any (l : List Rt) (A : Option Addr) (c : Nat) (w : World) (hr : Rd w w.heap.size 3 A l.length (rtCells l)) (hx : l.length ≤ 9223372036854775807) (hz : ∀ r ∈ l, r.m.length ≤ 140737488355328 ∧ r.p.length ≤ 140737488355328 ∧ r.h.length ≤ 140737488355328) :
    Calls Tryd.prog 10 #[.slice A l.length c] w fun e w' => e = .returned (.bool (lightL l)) ∧ Below w.heap.size w w' := by
  by_cases hn : l.length ≤ 60
  · have : lightL l = decide (sizeL l ≤ 4000) := by rw [lightL, decide_eq_true hn, Bool.and_true]
    rw [this]; exact light_few l A c w hr hn hz
  · have : lightL l = false := by rw [lightL, decide_eq_false hn, Bool.and_false]
    rw [this]; exact light_many l A c w hr (by omega) hx

end Go.Proofs.YtejncdhdkdhpmaaDoor
