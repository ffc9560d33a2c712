/- The document's answer of layer 8: is a pattern stronger than another? -/
import Derived.Test.YtekjpcmobgdgpaaDoorRfKind
import Derived.BigQuiet
import Derived.Deep.DrawnRows
namespace Go.Proofs.YtekjpcmobgdgpaaDoor
open Go.RowKit Pl

theorem below_drewN3 (B : Nat) (w : World) (n : Nat) : Below B w (w.drewN n) := ⟨rfl, rfl, rfl, Nat.le_refl _, fun _ _ => rfl⟩
theorem str_step (p q : List Seg) (k : Nat) (h1 : k < p.length) (h2 : k < q.length) : strL (p.drop k) (q.drop k) = if kd p[k] = kd q[k] then strL (p.drop (k + 1)) (q.drop (k + 1)) else decide (kd p[k] < kd q[k]) := by
  rw [List.drop_eq_getElem_cons h1, List.drop_eq_getElem_cons h2, strL]
theorem str_end (p q : List Seg) (k : Nat) (h : ¬ (k < p.length ∧ k < q.length)) : strL (p.drop k) (q.drop k) = false := by
  by_cases h1 : k < p.length
  · rw [List.drop_of_length_le (l := q) (by omega)]
    cases p.drop k <;> rfl
  · rw [List.drop_of_length_le (l := p) (by omega)]
    rfl

set_option maxRecDepth 100000 in
set_option maxHeartbeats 4000000 in
theorem stronger_any (p q : List Seg) (PA QA : Option Addr) (pc qc : Nat) (w : World) (hp : Rd w w.heap.size 1 PA p.length (p.map strV)) (hq : Rd w w.heap.size 1 QA q.length (q.map strV)) (hpn : ∀ s ∈ p, s ≠ []) (hqn : ∀ s ∈ q, s ≠ []) (hpl : p.length ≤ 1000000) (hql : q.length ≤ 1000000) :
    Calls Tryd.prog 29 #[.slice PA p.length pc, .slice QA q.length qc] w fun e w' => e = .returned (.bool (strL p q)) ∧ Below w.heap.size w w' := by
  have HP := Lib.hid hp
  have HQ := Lib.hid hq
  have HPN := Lib.hid hpn
  have HQN := Lib.hid hqn
  obtain ⟨r, hr⟩ : ∃ r, strL p q = r := ⟨_, rfl⟩
  rw [hr]
  have HR := Lib.hid hr
  clear hp hq hpn hqn hr
  go_enter Tryd.func29, Tryd.ntmps29
  go_wp2_with fail
  go_loopw [5] (fun i wr => ∃ (k : Nat), k ≤ p.length ∧ k ≤ q.length ∧ i = .int .i64 k ∧ Hid (strL (p.drop k) (q.drop k) = r) ∧ Hid (Below w.heap.size w wr)) (fun i _ => p.length - (intOf i).toNat)
  case atStart => exact ⟨0, by omega, by omega, rfl, HR.out, Below.refl _ _⟩
  case round =>
    obtain ⟨k, hk1, hk2, rfl, HS, HB⟩ := hrel
    by_cases hlt : k < p.length ∧ k < q.length
    · obtain ⟨h1, h2⟩ := hlt
      obtain ⟨a, rfl, hab, ka⟩ := seg_in (HP.out.below HB.out (Nat.le_refl _)) rfl k h1
      obtain ⟨b, rfl, hbb, kb⟩ := seg_in (HQ.out.below HB.out (Nat.le_refl _)) rfl k h2
      have HST := Lib.hid ((str_step p q k h1 h2).symm.trans HS.out)
      have hz1 : 0 < (mkB p[k]).size := by
        rw [mkB_size]
        have := HPN.out p[k] (List.getElem_mem h1)
        exact List.length_pos_iff.2 this
      have hz2 : 0 < (mkB q[k]).size := by
        rw [mkB_size]
        have := HQN.out q[k] (List.getElem_mem h2)
        exact List.length_pos_iff.2 this
      have HKP := Lib.hid (fun wx => rkind_any (mkB p[k]) wx hz1)
      have HKQ := Lib.hid (fun wx => rkind_any (mkB q[k]) wx hz2)
      rw [mkB_data] at HKP HKQ
      clear hz1 hz2
      generalize kd p[k] = d1 at *
      generalize kd q[k] = d2 at *
      generalize mkB p[k] = pb at *
      generalize mkB q[k] = qb at *
      have HP1 : Hid (∀ j, Calls Tryd.prog 30 #[.string pb] (wr.drewN j) fun e w'' => e = .returned (.int .i64 d1) ∧ ∃ q, w'' = wr.drewN q) := fun j => (HKP.out _).mono fun _ _ h => ⟨h.1, j, h.2.symm⟩
      have HQ1 : Hid (∀ j, Calls Tryd.prog 30 #[.string qb] (wr.drewN j) fun e w'' => e = .returned (.int .i64 d2) ∧ ∃ q, w'' = wr.drewN q) := fun j => (HKQ.out _).mono fun _ _ h => ⟨h.1, j, h.2.symm⟩
      go_wp2_with fail
      go_quiet ((first | (go_at_call 30; exact HP1.out _) | (go_at_call 30; exact HQ1.out _)))
      have HB1 := Lib.hid (HB.out.trans (below_drewN3 w.heap.size wr nq))
      have ka1 : (wr.drewN nq).cell? (a.add k) = some (.string pb) := ka
      have kb1 : (wr.drewN nq).cell? (b.add k) = some (.string qb) := kb
      generalize wr.drewN nq = w1 at *
      clear ka kb HP1 HQ1
      by_cases hd : d1 = d2
      · subst hd
        have HSN : Hid (strL (p.drop (k + 1)) (q.drop (k + 1)) = r) := by
          have := HST.out
          rw [if_pos rfl] at this
          exact this
        clear HST HKP HKQ ka1 kb1
        go_wp2_with fail
        go_roundw
        case rel => exact ⟨k + 1, by omega, by omega, by go_num, HSN, HB1⟩
        case measure => simp [intOf]; omega
      · have HSN : Hid (decide (d1 < d2) = r) := by
          have := HST.out
          rw [if_neg hd] at this
          exact this
        have hdi : ¬ (d1 : Int) = (d2 : Int) := by omega
        have HP1 : Hid (∀ j, Calls Tryd.prog 30 #[.string pb] (w1.drewN j) fun e w'' => e = .returned (.int .i64 d1) ∧ ∃ q, w'' = w1.drewN q) := fun j => (HKP.out _).mono fun _ _ h => ⟨h.1, j, h.2.symm⟩
        have HQ1 : Hid (∀ j, Calls Tryd.prog 30 #[.string qb] (w1.drewN j) fun e w'' => e = .returned (.int .i64 d2) ∧ ∃ q, w'' = w1.drewN q) := fun j => (HKQ.out _).mono fun _ _ h => ⟨h.1, j, h.2.symm⟩
        clear HST HKP HKQ hd
        go_wp2_with fail
        go_quiet ((first | (go_at_call 30; exact HP1.out _) | (go_at_call 30; exact HQ1.out _)))
        have HB2 := Lib.hid (HB1.out.trans (below_drewN3 w.heap.size w1 nq))
        generalize w1.drewN nq = w2 at *
        go_wp2_with fail
        go_ret
        exact ⟨congrArg (fun b => Ending.returned (Value.bool b)) HSN.out, HB2.out⟩
    · have HE : Hid (r = false) := by
        show _ = _
        rw [← HS.out]
        exact str_end p q k hlt
      have hcase : (¬ (k : Int) < (p.length : Int)) ∨ ((k : Int) < (p.length : Int) ∧ ¬ (k : Int) < (q.length : Int)) := by omega
      rcases hcase with h1 | ⟨h1, h2⟩
      · go_wp2_with fail
        go_ret
        exact ⟨congrArg (fun b => Ending.returned (Value.bool b)) HE.out.symm, HB.out⟩
      · go_wp2_with fail
        go_ret
        exact ⟨congrArg (fun b => Ending.returned (Value.bool b)) HE.out.symm, HB.out⟩
end Go.Proofs.YtekjpcmobgdgpaaDoor
