/- The document's answer of layer 8: has a pattern this path? -/
import Derived.Test.YtekjpcmobgdgpaaDoorRfStr
namespace Go.Proofs.YtekjpcmobgdgpaaDoor
open Go.RowKit Pl

theorem kd_le (s : Seg) : kd s ≤ 2 := by
  cases s with
  | nil => simp [kd]
  | cons c r => rw [kd]; split <;> (try split) <;> omega
theorem has_step (p x : List Seg) (k : Nat) (h1 : k < p.length) (h2 : k < x.length) : hasL (p.drop k) (x.drop k) = if kd p[k] = 2 then true else if kd p[k] = 1 then decide (x[k] ≠ []) && hasL (p.drop (k + 1)) (x.drop (k + 1)) else decide (p[k] = x[k]) && hasL (p.drop (k + 1)) (x.drop (k + 1)) := by
  rw [List.drop_eq_getElem_cons h1, List.drop_eq_getElem_cons h2, hasL]
theorem has_short (p x : List Seg) (k : Nat) (h1 : k < p.length) (h2 : x.length ≤ k) : hasL (p.drop k) (x.drop k) = false := by
  rw [List.drop_eq_getElem_cons h1, List.drop_of_length_le h2]; rfl
theorem has_end (p x : List Seg) (h : p.length ≤ x.length) : hasL (p.drop p.length) (x.drop p.length) = decide (p.length = x.length) := by
  rw [List.drop_of_length_le (Nat.le_refl _)]
  by_cases he : p.length = x.length
  · rw [List.drop_of_length_le (by omega), decide_eq_true he]; rfl
  · rw [List.drop_eq_getElem_cons (by omega), decide_eq_false he]; rfl
theorem str_eqb (s t : List UInt8) : ((mkB s).toList == (mkB t).toList) = decide (s = t) := by
  rw [Lib.toList_data, Lib.toList_data, mkB_data, mkB_data]
  exact Bool.beq_eq_decide_eq _ _
theorem str_nil (s : List UInt8) : (mkB s).toList.isEmpty = decide (s = []) := by
  rw [Lib.toList_data, mkB_data]
  cases s <;> rfl

set_option maxRecDepth 100000 in
set_option maxHeartbeats 4000000 in
theorem has_any (p x : List Seg) (PA XA : Option Addr) (pc xc : Nat) (w : World) (hp : Rd w w.heap.size 1 PA p.length (p.map strV)) (hx : Rd w w.heap.size 1 XA x.length (x.map strV)) (hpn : ∀ s ∈ p, s ≠ []) (hpl : p.length ≤ 1000000) (hxl : x.length ≤ 1000000) :
    Calls Tryd.prog 28 #[.slice PA p.length pc, .slice XA x.length xc] w fun e w' => e = .returned (.bool (hasL p x)) ∧ Below w.heap.size w w' := by
  have HP := Lib.hid hp
  have HX := Lib.hid hx
  have HPN := Lib.hid hpn
  obtain ⟨r, hr⟩ : ∃ r, hasL p x = r := ⟨_, rfl⟩
  rw [hr]
  have HR := Lib.hid hr
  clear hp hx hpn hr
  go_enter Tryd.func28, Tryd.ntmps28
  go_wp2_with fail
  go_loopw [5] (fun i wr => ∃ (k : Nat), k ≤ p.length ∧ k ≤ x.length ∧ i = .int .i64 k ∧ Hid (hasL (p.drop k) (x.drop k) = r) ∧ Hid (Below w.heap.size w wr)) (fun i _ => p.length - (intOf i).toNat)
  case atStart => exact ⟨0, by omega, by omega, rfl, HR.out, Below.refl _ _⟩
  case round =>
    obtain ⟨k, hk1, hk2, rfl, HS, HB⟩ := hrel
    by_cases h1 : k < p.length
    · by_cases h2 : k < x.length
      · obtain ⟨a, rfl, hab, ka⟩ := seg_in (HP.out.below HB.out (Nat.le_refl _)) rfl k h1
        obtain ⟨b, rfl, hbb, kb⟩ := seg_in (HX.out.below HB.out (Nat.le_refl _)) rfl k h2
        have HST := Lib.hid ((has_step p x k h1 h2).symm.trans HS.out)
        have hz1 : 0 < (mkB p[k]).size := by
          rw [mkB_size]
          have := HPN.out p[k] (List.getElem_mem h1)
          exact List.length_pos_iff.2 this
        have HKP := Lib.hid (fun wx => rkind_any (mkB p[k]) wx hz1)
        rw [mkB_data] at HKP
        have hd2 := kd_le p[k]
        have heq := str_eqb p[k] x[k]
        have hnl := str_nil x[k]
        rw [show decide (x[k] ≠ []) = !decide (x[k] = []) from decide_not] at HST
        generalize kd p[k] = d at *
        generalize decide (p[k] = x[k]) = eb at *
        generalize decide (x[k] = []) = nb at *
        generalize mkB p[k] = pb at *
        generalize mkB x[k] = xb at *
        clear hz1
        have hd3 : d = 0 ∨ d = 1 ∨ d = 2 := by omega
        rcases hd3 with rfl | rfl | rfl
        · cases eb
          · have HE : Hid (false = r) := by
              have := HST.out
              rw [if_neg (by decide), if_neg (by decide)] at this
              exact this
            clear HST
            go_wp2_with fail
            refine (HKP.out _).mono ?_
            rintro e w1 ⟨rfl, rfl⟩
            go_wp2_with fail
            go_quiet (fail)
            have HB1 := Lib.hid (HB.out.trans (below_drewN3 w.heap.size wr nq))
            generalize wr.drewN nq = w1 at *
            go_wp2_with fail
            go_ret
            exact ⟨congrArg (fun b => Ending.returned (Value.bool b)) HE.out, HB1.out⟩
          · have HE : Hid (hasL (p.drop (k + 1)) (x.drop (k + 1)) = r) := by
              have := HST.out
              rw [if_neg (by decide), if_neg (by decide)] at this
              exact this
            clear HST
            go_wp2_with fail
            refine (HKP.out _).mono ?_
            rintro e w1 ⟨rfl, rfl⟩
            go_wp2_with fail
            go_quiet (fail)
            have HB1 := Lib.hid (HB.out.trans (below_drewN3 w.heap.size wr nq))
            generalize wr.drewN nq = w1 at *
            go_wp2_with fail
            go_roundw
            case rel => exact ⟨k + 1, by omega, by omega, by go_num, HE, HB1⟩
            case measure => simp [intOf]; omega
        · cases nb
          · have HE : Hid (hasL (p.drop (k + 1)) (x.drop (k + 1)) = r) := by
              have := HST.out
              rw [if_neg (by decide), if_pos rfl] at this
              exact this
            clear HST
            go_wp2_with fail
            refine (HKP.out _).mono ?_
            rintro e w1 ⟨rfl, rfl⟩
            go_wp2_with fail
            go_quiet (fail)
            have HB1 := Lib.hid (HB.out.trans (below_drewN3 w.heap.size wr nq))
            generalize wr.drewN nq = w1 at *
            go_wp2_with fail
            go_roundw
            case rel => exact ⟨k + 1, by omega, by omega, by go_num, HE, HB1⟩
            case measure => simp [intOf]; omega
          · have HE : Hid (false = r) := by
              have := HST.out
              rw [if_neg (by decide), if_pos rfl] at this
              exact this
            clear HST
            go_wp2_with fail
            refine (HKP.out _).mono ?_
            rintro e w1 ⟨rfl, rfl⟩
            go_wp2_with fail
            go_quiet (fail)
            have HB1 := Lib.hid (HB.out.trans (below_drewN3 w.heap.size wr nq))
            generalize wr.drewN nq = w1 at *
            go_wp2_with fail
            go_ret
            exact ⟨congrArg (fun b => Ending.returned (Value.bool b)) HE.out, HB1.out⟩
        · have HE : Hid (true = r) := by
            have := HST.out
            rw [if_pos rfl] at this
            exact this
          go_wp2_with fail
          refine (HKP.out _).mono ?_
          rintro e w1 ⟨rfl, rfl⟩
          go_wp2_with fail
          go_ret
          exact ⟨congrArg (fun b => Ending.returned (Value.bool b)) HE.out, HB.out⟩
      · have HE : Hid (false = r) := (has_short p x k h1 (by omega)).symm.trans HS.out
        go_wp2_with fail
        go_ret
        exact ⟨congrArg (fun b => Ending.returned (Value.bool b)) HE.out, HB.out⟩
    · have hk : k = p.length := by omega
      subst hk
      have HE : Hid (((p.length : Int) == (x.length : Int)) = r) := by
        have := (has_end p x hk2).symm.trans HS.out
        show _ = _
        rw [← this, Bool.eq_iff_iff]
        simp
        omega
      go_wp2_with fail
      go_ret
      exact ⟨congrArg (fun b => Ending.returned (Value.bool b)) HE.out, HB.out⟩
end Go.Proofs.YtekjpcmobgdgpaaDoor
