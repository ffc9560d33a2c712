/- The walk of TableChecks. -/
import Derived.Test.YtejncdhdkdhpmaaDoorChP
import Derived.Test.YtejncdhdkdhpmaaDoorTbFit
import Derived.Test.YtejncdhdkdhpmaaDoorTbLight
import Derived.Test.YtejncdhdkdhpmaaDoorTbClash
import Derived.BigQuiet
namespace Go.Proofs.YtejncdhdkdhpmaaDoor
open Go.RowKit Pl

def nameCs : Array Value := #[.string ⟨#[103, 101, 116]⟩, .string ⟨#[112, 117, 116]⟩, .string ⟨#[100, 101, 108, 101, 116, 101]⟩, .string ⟨#[108, 105, 115, 116]⟩, .string ⟨#[119, 97, 108, 107]⟩, .string ⟨#[104, 101, 97, 108, 116, 104]⟩, .string ⟨#[114, 101, 108, 111, 97, 100]⟩, .string ⟨#[115, 104, 117, 116, 100, 111, 119, 110]⟩]
theorem nameCs_at (j : Nat) (hj : j < 8) : nameCs[j]? = some (.string (mkB (names8[j]'hj))) := by
  have : ∀ j : Fin 8, nameCs[j.1]? = some (.string (mkB (names8[j.1]'j.2))) := fun j => match j with
    | ⟨0, _⟩ => rfl | ⟨1, _⟩ => rfl | ⟨2, _⟩ => rfl | ⟨3, _⟩ => rfl | ⟨4, _⟩ => rfl | ⟨5, _⟩ => rfl | ⟨6, _⟩ => rfl | ⟨7, _⟩ => rfl
  exact this ⟨j, hj⟩
/-- Three cells of a block. -/
def C3 (w : World) (g : Nat) (a b c : Value) : Prop := w.cell? ⟨g, 0, none⟩ = some a ∧ w.cell? ⟨g, 1, none⟩ = some b ∧ w.cell? ⟨g, 2, none⟩ = some c
theorem C3.lt {w : World} {g : Nat} {a b c : Value} (h : C3 w g a b c) : g < w.heap.size := World.block_lt_of_cell? _ _ h.1
theorem C3.below {w w' : World} {g : Nat} {a b c : Value} (h : C3 w g a b c) (hb : Below w.heap.size w w') : C3 w' g a b c :=
  ⟨(hb.cell (p := ⟨g, 0, none⟩) h.lt).trans h.1, (hb.cell (p := ⟨g, 1, none⟩) h.lt).trans h.2.1, (hb.cell (p := ⟨g, 2, none⟩) h.lt).trans h.2.2⟩
theorem C3.new (w : World) (a b c : Value) (t : TypeId) : C3 (w.alloc (.cells #[a, b, c] t)) w.heap.size a b c := ⟨new_cell w _ t 0, new_cell w _ t 1, new_cell w _ t 2⟩

set_option maxRecDepth 100000 in
set_option maxHeartbeats 20000000 in
theorem checks_go (l : List Rt) (A : Option Addr) (c : Nat) (w : World) (hr : Rd w w.heap.size 3 A l.length (rtCells l)) (hz : ∀ r ∈ l, r.m.length ≤ 140737488355328 ∧ r.p.length ≤ 140737488355328 ∧ r.h.length ≤ 140737488355328) (hw : HB w) (hL : lightL l = true) :
    Calls Tryd.prog 4 #[.slice A l.length c] w fun e w' => e = .returned (.bool true) ∧ Below w.heap.size w w' := by
  have HF := Lib.hid (fit_any w hw)
  have HW := Lib.hid hw
  have HR := Lib.hid hr
  have hl60 := (light_sizes hL).1
  have HP := Lib.hid (light_pat hL)
  have HLT := Lib.hid (fun w hr => light_any l A c w hr (by omega) hz)
  rw [hL] at HLT
  have HCK := Lib.hid (fun w hr hw => check_any l A c w hr hw (by omega) HP.out)
  rw [check_want] at HCK
  clear hw hr hz hL
  go_enter Tryd.func4, Tryd.ntmps4
  go_wp2_with fail
  refine HF.out.mono ?_
  rintro e w1 ⟨rfl, hb1⟩
  have HB1 := Lib.hid hb1
  have HR1 := Lib.hid ((HR.out.below hb1 (Nat.le_refl _)).wide hb1.size)
  clear hb1
  go_wp2_with fail
  refine (HLT.out _ HR1.out).mono ?_
  rintro e w2 ⟨rfl, hb2⟩
  have HB2 := Lib.hid (bt HB1.out hb2)
  have HR2 := Lib.hid ((HR1.out.below hb2 (Nat.le_refl _)).wide hb2.size)
  clear hb2
  go_wp2_with fail
  go_loopw [3, 25] (fun v i wr => ∃ (k : Nat) (b : Bool), k ≤ l.length ∧ v = .int .i64 (wn1 b) ∧ i = .int .i64 k ∧ Hid (Below w2.heap.size w2 wr) ∧ Hid (hitTo l k = b)) (fun _ i _ => l.length - (intOf i).toNat)
  case atStart => exact ⟨0, false, by omega, rfl, rfl, Below.refl _ _, by show _ = _; rfl⟩
  case round =>
    obtain ⟨k, b, hk, rfl, rfl, HB, HH⟩ := hrel
    by_cases hlt : k < l.length
    · obtain ⟨a, rfl, hab, k0, k1, k2⟩ := rt_in (HR2.out.below HB.out (Nat.le_refl _)) rfl k hlt
      have hps : (mkB l[k].p).size ≤ 10000 := by rw [mkB_size]; exact HP.out _ (List.getElem_mem hlt)
      have HPT := Lib.hid (fun w => pat_any (mkB l[k].p) w hps)
      have HPS := Lib.hid (pat_small (mkB l[k].p) hps)
      rw [mkB_data] at HPT HPS
      have HCL0 : Hid (∀ s, cl2 l[k] s = ((patL l[k].p).isSome && (patL s.p).isSome && decide (s.m = l[k].m) && decide (shapeL ((patL l[k].p).getD []) = shapeL ((patL s.p).getD [])))) := fun _ => rfl
      generalize (patL l[k].p).isSome = o1 at *
      generalize (patL l[k].p).getD [] = sg1 at *
      have HA := Lib.hid (HB.out.alloc HB.out.size (.cells #[.string (mkB l[k].m), .string (mkB l[k].p), .string (mkB l[k].h)] 31))
      have HC0 := Lib.hid (fun w' (h : Below (wr.alloc (.cells #[.string (mkB l[k].m), .string (mkB l[k].p), .string (mkB l[k].h)] 31)).heap.size (wr.alloc (.cells #[.string (mkB l[k].m), .string (mkB l[k].p), .string (mkB l[k].h)] 31)) w') => (h.cell (p := ⟨wr.heap.size, 0, none⟩) (by simp)).trans (new_cell wr _ 31 0))
      obtain ⟨xm, hxm⟩ : ∃ x, mkB l[k].m = x := ⟨_, rfl⟩
      rw [hxm] at k0 HA HC0
      have HXM := Lib.hid hxm
      clear hxm
      generalize mkB l[k].p = xp at *
      generalize mkB l[k].h = xh at *
      go_wp2_with fail
      refine (HPT.out _).mono ?_
      rintro e w3 ⟨v3, rfl, ho3, hb3⟩
      obtain ⟨A3, c3, rfl, hr3⟩ := Rd.own ho3
      have HB3 : Hid (Below w2.heap.size w2 w3) := bt HA.out hb3
      have HD0 : Hid (∀ w', Below w3.heap.size w3 w' → w'.cell? ⟨wr.heap.size, 0, none⟩ = some (.string xm)) := fun w' h => HC0.out w' (bt hb3 h)
      have HRP := Lib.hid hr3
      have HGL : Hid (wr.heap.size < w3.heap.size) := by
        have := hb3.size
        simp at this
        show _ < _
        omega
      clear ho3 hr3 hb3 HA HC0 HPT k0 k1 k2
      obtain ⟨g, hg⟩ : ∃ g, wr.heap.size = g := ⟨_, rfl⟩
      rw [hg] at HD0 HGL ⊢
      clear hg
      go_wp2_with fail
      go_loopw [3, 37] (fun v i wr => ∃ (m : Nat) (b2 : Bool), m ≤ k ∧ v = .int .i64 (wn1 b2) ∧ i = .int .i64 m ∧ Hid (Below w3.heap.size w3 wr) ∧ Hid ((hitTo l k || inTo l k m) = b2)) (fun _ i _ => k - (intOf i).toNat)
      case atStart => exact ⟨0, b, by omega, rfl, rfl, Below.refl _ _, by show _ = _; rw [in_zero, Bool.or_false]; exact HH.out⟩
      case round =>
        obtain ⟨m, b2, hm, rfl, rfl, HBi, HHi⟩ := hrel
        by_cases hlt2 : m < k
        · have hlm : m < l.length := by omega
          obtain ⟨a', ea, hab', k0, k1, k2⟩ := rt_in (HR2.out.below (bt HB3.out HBi.out) (Nat.le_refl _)) rfl m hlm
          cases ea
          have hps2 : (mkB l[m].p).size ≤ 10000 := by rw [mkB_size]; exact HP.out _ (List.getElem_mem hlm)
          have HPT := Lib.hid (fun w => pat_any (mkB l[m].p) w hps2)
          have HPS2 := Lib.hid (pat_small (mkB l[m].p) hps2)
          rw [mkB_data] at HPT HPS2
          have HCL := Lib.hid (HCL0.out l[m])
          generalize (patL l[m].p).isSome = o2 at *
          generalize (patL l[m].p).getD [] = sg2 at *
          have HIS := Lib.hid (in_succ l k m hlt hlm)
          obtain ⟨ym, hym⟩ : ∃ x, mkB l[m].m = x := ⟨_, rfl⟩
          rw [hym] at k0
          have HYM := Lib.hid hym
          clear hym
          generalize mkB l[m].p = yp at *
          generalize mkB l[m].h = yh at *
          have d0 := HD0.out _ HBi.out
          obtain ⟨em, hem, HEM⟩ : ∃ em, (ym.toList == xm.toList) = em ∧ Hid (decide (l[m].m = l[k].m) = em) := by
            refine ⟨_, rfl, ?_⟩
            show _ = _
            rw [eq_test, ← HYM.out, ← HXM.out, decide_eq_decide]
            exact ⟨fun h => by rw [h], fun h => by have := congrArg (fun x : ByteArray => x.data.toList) h; simpa only [mkB_data] using this⟩
          rw [HEM.out] at HCL
          have HCLs := Lib.hid HIS.out
          rw [HCL.out] at HCLs
          have HQ0 := Lib.hid k0
          have HLQ : Hid ((a.add (m * 3)).block < wr.heap.size) := World.block_lt_of_cell? _ _ k0
          have hml : (m : Int) < (l.length : Int) := by omega
          have hml0 : (0 : Int) ≤ (m : Int) := by omega
          clear k0 d0
          rcases Bool.eq_false_or_eq_true o1 with ho1 | ho1
          rotate_left
          · subst ho1
            have HN : Hid ((hitTo l k || inTo l k (m + 1)) = b2) := by
              show _ = _
              rw [HCLs.out, ← HHi.out]
              simp
            go_wp2_with fail
            refine (HPT.out _).mono ?_
            rintro e w5 ⟨v5, rfl, ho5, hb5⟩
            obtain ⟨A5, c5, rfl, hr5⟩ := Rd.own ho5
            have HB5 : Hid (Below w3.heap.size w3 w5) := bt HBi.out hb5
            have HR5 := Lib.hid hr5
            have d1 := HD0.out _ HB5.out
            have q0 := (hb5.cell (p := a.add (m * 3)) HLQ.out).trans HQ0.out
            clear ho5 hr5 hb5
            go_wp2_with fail
            go_quiet (fail)
            have HBq : Hid (Below w3.heap.size w3 (w5.drewN nq)) := below_drewN HB5.out nq
            go_wp2_with fail
            go_roundw
            case rel => exact ⟨m + 1, b2, by omega, rfl, by go_num, HBq, HN⟩
            case measure => simp [intOf]; omega
          subst ho1
          rcases Bool.eq_false_or_eq_true o2 with ho2 | ho2
          rotate_left
          · subst ho2
            have HN : Hid ((hitTo l k || inTo l k (m + 1)) = b2) := by
              show _ = _
              rw [HCLs.out, ← HHi.out]
              simp
            go_wp2_with fail
            refine (HPT.out _).mono ?_
            rintro e w5 ⟨v5, rfl, ho5, hb5⟩
            obtain ⟨A5, c5, rfl, hr5⟩ := Rd.own ho5
            have HB5 : Hid (Below w3.heap.size w3 w5) := bt HBi.out hb5
            have HR5 := Lib.hid hr5
            have d1 := HD0.out _ HB5.out
            have q0 := (hb5.cell (p := a.add (m * 3)) HLQ.out).trans HQ0.out
            clear ho5 hr5 hb5
            go_wp2_with fail
            go_quiet (fail)
            have HBq : Hid (Below w3.heap.size w3 (w5.drewN nq)) := below_drewN HB5.out nq
            go_wp2_with fail
            go_roundw
            case rel => exact ⟨m + 1, b2, by omega, rfl, by go_num, HBq, HN⟩
            case measure => simp [intOf]; omega
          subst ho2
          rcases Bool.eq_false_or_eq_true em with he2 | he2
          rotate_left
          · subst he2
            have HN : Hid ((hitTo l k || inTo l k (m + 1)) = b2) := by
              show _ = _
              rw [HCLs.out, ← HHi.out]
              simp
            go_wp2_with fail
            refine (HPT.out _).mono ?_
            rintro e w5 ⟨v5, rfl, ho5, hb5⟩
            obtain ⟨A5, c5, rfl, hr5⟩ := Rd.own ho5
            have HB5 : Hid (Below w3.heap.size w3 w5) := bt HBi.out hb5
            have HR5 := Lib.hid hr5
            have d1 := HD0.out _ HB5.out
            have q0 := (hb5.cell (p := a.add (m * 3)) HLQ.out).trans HQ0.out
            clear ho5 hr5 hb5
            go_wp2_with fail
            go_quiet (fail)
            have HBq : Hid (Below w3.heap.size w3 (w5.drewN nq)) := below_drewN HB5.out nq
            go_wp2_with fail
            go_roundw
            case rel => exact ⟨m + 1, b2, by omega, rfl, by go_num, HBq, HN⟩
            case measure => simp [intOf]; omega
          subst he2
          obtain ⟨SX, hSX⟩ : ∃ q, mkB (shapeL sg1) = q := ⟨_, rfl⟩
          obtain ⟨SY, hSY⟩ : ∃ q, mkB (shapeL sg2) = q := ⟨_, rfl⟩
          have HSXA := Lib.hid (fun wx (h : Below w3.heap.size w3 wx) => shape_any sg1 A3 c3 wx ((HRP.out.below h (Nat.le_refl _)).wide h.size) HPS.out.1 HPS.out.2)
          have HSYA := Lib.hid (fun A5 c5 wx h => shape_any sg2 A5 c5 wx h HPS2.out.1 HPS2.out.2)
          rw [hSX] at HSXA
          rw [hSY] at HSYA
          obtain ⟨es, hes, HES⟩ : ∃ es, (SX.toList == SY.toList) = es ∧ Hid (decide (shapeL sg1 = shapeL sg2) = es) := by
            refine ⟨_, rfl, ?_⟩
            show _ = _
            rw [eq_test, ← hSX, ← hSY, decide_eq_decide]
            exact ⟨fun h => by rw [h], fun h => by have := congrArg (fun x : ByteArray => x.data.toList) h; simpa only [mkB_data] using this⟩
          rw [HES.out] at HCLs
          clear hSX hSY
          rcases Bool.eq_false_or_eq_true es with he3 | he3
          · subst he3
            obtain ⟨z, hz⟩ : ∃ z, wn1 b2 = z := ⟨_, rfl⟩
            have HN : Hid ((hitTo l k || inTo l k (m + 1)) = true) := by
              show _ = _
              rw [HCLs.out]
              simp
            rw [hz]
            rcases Bool.eq_false_or_eq_true b2 with hb2 | hb2
            · subst hb2
              have HZ := Lib.hid hz
              have hz0 : (z == (0 : Int)) = false := by rw [← hz]; rfl
              clear hz
              go_wp2_with fail
              refine (HPT.out _).mono ?_
              rintro e w5 ⟨v5, rfl, ho5, hb5⟩
              obtain ⟨A5, c5, rfl, hr5⟩ := Rd.own ho5
              have HB5 : Hid (Below w3.heap.size w3 w5) := bt HBi.out hb5
              have HR5 := Lib.hid hr5
              have HK : Hid (∀ W, Below w5.heap.size w5 W → W.cell? (a.add (m * 3)) = some (.string ym) ∧ W.cell? ⟨g, 0, none⟩ = some (.string xm)) := fun W h => ⟨(h.cell (p := a.add (m * 3)) (Nat.lt_of_lt_of_le HLQ.out hb5.size)).trans ((hb5.cell (p := a.add (m * 3)) HLQ.out).trans HQ0.out), HD0.out _ (bt HB5.out h)⟩
              have hb0 : Below w5.heap.size w5 w5.drew := (Below.refl _ _).drew
              have HS1 := Lib.hid (HSXA.out _ (bt HB5.out hb0))
              have HS2 : Hid (∀ wx, Below w5.heap.size w5 wx → Calls Tryd.prog 16 #[.slice A5 sg2.length c5] wx fun e w' => e = .returned (.string SY) ∧ Below wx.heap.size wx w') := fun wx h => HSYA.out A5 c5 wx ((HR5.out.below h (Nat.le_refl _)).wide h.size)
              clear ho5 hr5 hb5 HSXA HSYA HRP
              go_wp2_with fail
              go_region_held3 (fun W => W.cell? (a.add (m * 3)) = some (.string ym) ∧ W.cell? ⟨g, 0, none⟩ = some (.string xm)) ((refine HK.out _ ?_; first | (exact hb7) | (exact hb6) | (exact hb0))) ((first | (go_at_call 16; refine (HS2.out _ hb6).mono ?_; rintro e w7 ⟨rfl, hb7'⟩; have hb7 : Below w5.heap.size w5 w7 := bt hb6 hb7') | (go_at_call 16; refine HS1.out.mono ?_; rintro e w6 ⟨rfl, hb6'⟩; have hb6 : Below w5.heap.size w5 w6 := bt hb0 hb6')))
              have HBq : Hid (Below w3.heap.size w3 w7) := bt HB5.out hb7
              go_wp2_with fail
              go_roundw
              case rel => exact ⟨m + 1, true, by omega, by first | rfl | (rw [HZ.out]), by go_num, HBq, HN⟩
              case measure => simp [intOf]; omega
            · subst hb2
              have HZ := Lib.hid hz
              have hz0 : (z == (0 : Int)) = true := by rw [← hz]; rfl
              clear hz
              go_wp2_with fail
              refine (HPT.out _).mono ?_
              rintro e w5 ⟨v5, rfl, ho5, hb5⟩
              obtain ⟨A5, c5, rfl, hr5⟩ := Rd.own ho5
              have HB5 : Hid (Below w3.heap.size w3 w5) := bt HBi.out hb5
              have HR5 := Lib.hid hr5
              have HK : Hid (∀ W, Below w5.heap.size w5 W → W.cell? (a.add (m * 3)) = some (.string ym) ∧ W.cell? ⟨g, 0, none⟩ = some (.string xm)) := fun W h => ⟨(h.cell (p := a.add (m * 3)) (Nat.lt_of_lt_of_le HLQ.out hb5.size)).trans ((hb5.cell (p := a.add (m * 3)) HLQ.out).trans HQ0.out), HD0.out _ (bt HB5.out h)⟩
              have hb0 : Below w5.heap.size w5 w5.drew := (Below.refl _ _).drew
              have HS1 := Lib.hid (HSXA.out _ (bt HB5.out hb0))
              have HS2 : Hid (∀ wx, Below w5.heap.size w5 wx → Calls Tryd.prog 16 #[.slice A5 sg2.length c5] wx fun e w' => e = .returned (.string SY) ∧ Below wx.heap.size wx w') := fun wx h => HSYA.out A5 c5 wx ((HR5.out.below h (Nat.le_refl _)).wide h.size)
              clear ho5 hr5 hb5 HSXA HSYA HRP
              go_wp2_with fail
              go_region_held3 (fun W => W.cell? (a.add (m * 3)) = some (.string ym) ∧ W.cell? ⟨g, 0, none⟩ = some (.string xm)) ((refine HK.out _ ?_; first | (exact hb7) | (exact hb6) | (exact hb0))) ((first | (go_at_call 16; refine (HS2.out _ hb6).mono ?_; rintro e w7 ⟨rfl, hb7'⟩; have hb7 : Below w5.heap.size w5 w7 := bt hb6 hb7') | (go_at_call 16; refine HS1.out.mono ?_; rintro e w6 ⟨rfl, hb6'⟩; have hb6 : Below w5.heap.size w5 w6 := bt hb0 hb6')))
              have HBq : Hid (Below w3.heap.size w3 w7) := bt HB5.out hb7
              go_wp2_with fail
              go_roundw
              case rel => exact ⟨m + 1, true, by omega, rfl, by go_num, HBq, HN⟩
              case measure => simp [intOf]; omega
          · subst he3
            have HN : Hid ((hitTo l k || inTo l k (m + 1)) = b2) := by
              show _ = _
              rw [HCLs.out, ← HHi.out]
              simp
            obtain ⟨z, hz⟩ : ∃ z, wn1 b2 = z := ⟨_, rfl⟩
            have HZ := Lib.hid hz
            rw [hz]
            clear hz
            go_wp2_with fail
            refine (HPT.out _).mono ?_
            rintro e w5 ⟨v5, rfl, ho5, hb5⟩
            obtain ⟨A5, c5, rfl, hr5⟩ := Rd.own ho5
            have HB5 : Hid (Below w3.heap.size w3 w5) := bt HBi.out hb5
            have HR5 := Lib.hid hr5
            have HK : Hid (∀ W, Below w5.heap.size w5 W → W.cell? (a.add (m * 3)) = some (.string ym) ∧ W.cell? ⟨g, 0, none⟩ = some (.string xm)) := fun W h => ⟨(h.cell (p := a.add (m * 3)) (Nat.lt_of_lt_of_le HLQ.out hb5.size)).trans ((hb5.cell (p := a.add (m * 3)) HLQ.out).trans HQ0.out), HD0.out _ (bt HB5.out h)⟩
            have hb0 : Below w5.heap.size w5 w5.drew := (Below.refl _ _).drew
            have HS1 := Lib.hid (HSXA.out _ (bt HB5.out hb0))
            have HS2 : Hid (∀ wx, Below w5.heap.size w5 wx → Calls Tryd.prog 16 #[.slice A5 sg2.length c5] wx fun e w' => e = .returned (.string SY) ∧ Below wx.heap.size wx w') := fun wx h => HSYA.out A5 c5 wx ((HR5.out.below h (Nat.le_refl _)).wide h.size)
            clear ho5 hr5 hb5 HSXA HSYA HRP
            go_wp2_with fail
            refine wp_region_held_drew (S := fun W => W.cell? (a.add (m * 3)) = some (.string ym) ∧ W.cell? ⟨g, 0, none⟩ = some (.string xm)) (by kernel_rfl) (HK.out _ hb0) (fun hHeld => ?_)
            refine give_at 0 49 (.bool true) rfl rfl (by kernel_rfl) (by kernel_rfl) (by kernel_rfl) (fun _ _ _ h => h) (by rfl) (by intro w hSw; obtain ⟨hs1, hs2⟩ := hSw; go_simp) (by assumption) ?_
            simp only [Act.put, List.setIfInBounds_toArray, List.set_cons_zero, List.set_cons_succ]
            refine give_at 1 50 (.bool true) rfl rfl (by kernel_rfl) (by kernel_rfl) (by kernel_rfl) (fun _ _ _ h => h) (by rfl) (by intro w hSw; obtain ⟨hs1, hs2⟩ := hSw; go_simp) (by assumption) ?_
            simp only [Act.put, List.setIfInBounds_toArray, List.set_cons_zero, List.set_cons_succ]
            refine give_at 2 51 (.bool true) rfl rfl (by kernel_rfl) (by kernel_rfl) (by kernel_rfl) (fun _ _ _ h => h) (by rfl) (by intro w hSw; obtain ⟨hs1, hs2⟩ := hSw; go_simp) (by assumption) ?_
            simp only [Act.put, List.setIfInBounds_toArray, List.set_cons_zero, List.set_cons_succ]
            refine give_at 3 52 (.bool true) rfl rfl (by kernel_rfl) (by kernel_rfl) (by kernel_rfl) (fun _ _ _ h => h) (by rfl) (by intro w hSw; obtain ⟨hs1, hs2⟩ := hSw; go_simp) (by assumption) ?_
            simp only [Act.put, List.setIfInBounds_toArray, List.set_cons_zero, List.set_cons_succ]
            refine give_at 4 53 (.bool true) rfl rfl (by kernel_rfl) (by kernel_rfl) (by kernel_rfl) (fun _ _ _ h => h) (by rfl) (by intro w hSw; obtain ⟨hs1, hs2⟩ := hSw; go_simp) (by assumption) ?_
            simp only [Act.put, List.setIfInBounds_toArray, List.set_cons_zero, List.set_cons_succ]
            refine give_at 5 54 (.slice (some a) l.length c) rfl rfl (by kernel_rfl) (by kernel_rfl) (by kernel_rfl) (fun _ _ _ h => h) (by rfl) (by intro w hSw; obtain ⟨hs1, hs2⟩ := hSw; go_simp) (by assumption) ?_
            simp only [Act.put, List.setIfInBounds_toArray, List.set_cons_zero, List.set_cons_succ]
            refine give_at 6 55 (.int .i64 (m : Int)) rfl rfl (by kernel_rfl) (by kernel_rfl) (by kernel_rfl) (fun _ _ _ h => h) (by rfl) (by intro w hSw; obtain ⟨hs1, hs2⟩ := hSw; go_simp) (by assumption) ?_
            simp only [Act.put, List.setIfInBounds_toArray, List.set_cons_zero, List.set_cons_succ]
            refine give_at 7 56 (.pointer (some (a.add (m * 3)))) rfl rfl (by kernel_rfl) (by kernel_rfl) (by kernel_rfl) (fun _ _ _ h => h) (by rfl) (by intro w hSw; obtain ⟨hs1, hs2⟩ := hSw; go_simp) (by assumption) ?_
            simp only [Act.put, List.setIfInBounds_toArray, List.set_cons_zero, List.set_cons_succ]
            refine give_at 8 57 (.pointer (some (a.add (m * 3)))) rfl rfl (by kernel_rfl) (by kernel_rfl) (by kernel_rfl) (fun _ _ _ h => h) (by rfl) (by intro w hSw; obtain ⟨hs1, hs2⟩ := hSw; go_simp) (by assumption) ?_
            simp only [Act.put, List.setIfInBounds_toArray, List.set_cons_zero, List.set_cons_succ]
            refine give_at 9 58 (.string ym) rfl rfl (by kernel_rfl) (by kernel_rfl) (by kernel_rfl) (fun _ _ _ h => h) (by rfl) (by intro w hSw; obtain ⟨hs1, hs2⟩ := hSw; go_simp) (by assumption) ?_
            simp only [Act.put, List.setIfInBounds_toArray, List.set_cons_zero, List.set_cons_succ]
            refine give_at 10 59 (.pointer (some ⟨g, 0, none⟩)) rfl rfl (by kernel_rfl) (by kernel_rfl) (by kernel_rfl) (fun _ _ _ h => h) (by rfl) (by intro w hSw; obtain ⟨hs1, hs2⟩ := hSw; go_simp) (by assumption) ?_
            simp only [Act.put, List.setIfInBounds_toArray, List.set_cons_zero, List.set_cons_succ]
            refine give_at 11 60 (.string xm) rfl rfl (by kernel_rfl) (by kernel_rfl) (by kernel_rfl) (fun _ _ _ h => h) (by rfl) (by intro w hSw; obtain ⟨hs1, hs2⟩ := hSw; go_simp) (by assumption) ?_
            simp only [Act.put, List.setIfInBounds_toArray, List.set_cons_zero, List.set_cons_succ]
            refine give_at 12 61 (.bool true) rfl rfl (by kernel_rfl) (by kernel_rfl) (by kernel_rfl) (fun _ _ _ h => h) (by rfl) (by intro w hSw; obtain ⟨hs1, hs2⟩ := hSw; go_simp) (by assumption) ?_
            simp only [Act.put, List.setIfInBounds_toArray, List.set_cons_zero, List.set_cons_succ]
            refine give_at 13 62 (.bool true) rfl rfl (by kernel_rfl) (by kernel_rfl) (by kernel_rfl) (fun _ _ _ h => h) (by rfl) (by intro w hSw; obtain ⟨hs1, hs2⟩ := hSw; go_simp) (by assumption) ?_
            simp only [Act.put, List.setIfInBounds_toArray, List.set_cons_zero, List.set_cons_succ]
            refine give_at 14 63 (.bool true) rfl rfl (by kernel_rfl) (by kernel_rfl) (by kernel_rfl) (fun _ _ _ h => h) (by rfl) (by intro w hSw; obtain ⟨hs1, hs2⟩ := hSw; go_simp) (by assumption) ?_
            simp only [Act.put, List.setIfInBounds_toArray, List.set_cons_zero, List.set_cons_succ]
            refine give_at 15 64 (.slice A3 sg1.length c3) rfl rfl (by kernel_rfl) (by kernel_rfl) (by kernel_rfl) (fun _ _ _ h => h) (by rfl) (by intro w hSw; obtain ⟨hs1, hs2⟩ := hSw; go_simp) (by assumption) ?_
            simp only [Act.put, List.setIfInBounds_toArray, List.set_cons_zero, List.set_cons_succ]
            refine give_at 17 66 (.slice A5 sg2.length c5) rfl rfl (by kernel_rfl) (by kernel_rfl) (by kernel_rfl) (fun _ _ _ h => h) (by rfl) (by intro w hSw; obtain ⟨hs1, hs2⟩ := hSw; go_simp) (by assumption) ?_
            simp only [Act.put, List.setIfInBounds_toArray, List.set_cons_zero, List.set_cons_succ]
            refine wpAnyH_ready (rs := [16]) (by kernel_rfl) (by simp) ?_
            refine AllReadyH.cons (o := { dst := some 65, op := Op.call { callee := Callee.value (Operand.func 16), args := #[Operand.tmp 64], argTypes := #[35] }, type := 9, pos := "law.go:72", after := #[{ on := 15, ground := Ground.data }, { on := 14, ground := Ground.chain }, { on := 14, ground := Ground.guard }], guard := some (14, true) }) rfl (fun K hK => ?_) AllReadyH.nil
            go_simp
            (go_at_call 16; refine HS1.out.mono ?_; rintro e w6 ⟨rfl, hb6'⟩; have hb6 : Below w5.heap.size w5 w6 := bt hb0 hb6')
            refine hK.out _ _ (HK.out _ hb6) (fun hHeld => ?_)
            clear hK K
            try simp only [Act.put, List.setIfInBounds_toArray, List.set_cons_zero, List.set_cons_succ]
            refine wpAnyH_ready (rs := [18]) (by kernel_rfl) (by simp) ?_
            refine AllReadyH.cons (o := { dst := some 67, op := Op.call { callee := Callee.value (Operand.func 16), args := #[Operand.tmp 66], argTypes := #[35] }, type := 9, pos := "law.go:72", after := #[{ on := 17, ground := Ground.data }, { on := 16, ground := Ground.chain }, { on := 14, ground := Ground.guard }], guard := some (14, true) }) rfl (fun K hK => ?_) AllReadyH.nil
            go_simp
            (go_at_call 16; refine (HS2.out _ hb6).mono ?_; rintro e w7 ⟨rfl, hb7'⟩; have hb7 : Below w5.heap.size w5 w7 := bt hb6 hb7')
            refine hK.out _ _ (HK.out _ hb7) (fun hHeld => ?_)
            clear hK K
            try simp only [Act.put, List.setIfInBounds_toArray, List.set_cons_zero, List.set_cons_succ]
            refine give_at 19 68 (.bool false) rfl rfl (by kernel_rfl) (by kernel_rfl) (by kernel_rfl) (fun _ _ _ h => h) (by rfl) (by intro w hSw; obtain ⟨hs1, hs2⟩ := hSw; go_simp) (by assumption) ?_
            simp only [Act.put, List.setIfInBounds_toArray, List.set_cons_zero, List.set_cons_succ]
            refine give_at 20 69 (.bool false) rfl rfl (by kernel_rfl) (by kernel_rfl) (by kernel_rfl) (fun _ _ _ h => h) (by rfl) (by intro w hSw; obtain ⟨hs1, hs2⟩ := hSw; go_simp) (by assumption) ?_
            simp only [Act.put, List.setIfInBounds_toArray, List.set_cons_zero, List.set_cons_succ]
            refine give_at 21 70 (.bool false) rfl rfl (by kernel_rfl) (by kernel_rfl) (by kernel_rfl) (fun _ _ _ h => h) (by rfl) (by intro w hSw; obtain ⟨hs1, hs2⟩ := hSw; go_simp) (by assumption) ?_
            simp only [Act.put, List.setIfInBounds_toArray, List.set_cons_zero, List.set_cons_succ]
            refine skip_at 22 71 rfl rfl (by kernel_rfl) (by kernel_rfl) (by kernel_rfl) (fun _ _ _ h => h) (by rfl) (by assumption) ?_
            simp only [Act.put, List.setIfInBounds_toArray, List.set_cons_zero, List.set_cons_succ]
            refine skip_at 23 72 rfl rfl (by kernel_rfl) (by kernel_rfl) (by kernel_rfl) (fun _ _ _ h => h) (by rfl) (by assumption) ?_
            simp only [Act.put, List.setIfInBounds_toArray, List.set_cons_zero, List.set_cons_succ]
            refine give_at 24 73 (.bool false) rfl rfl (by kernel_rfl) (by kernel_rfl) (by kernel_rfl) (fun _ _ _ h => h) (by rfl) (by intro w hSw; obtain ⟨hs1, hs2⟩ := hSw; go_simp) (by assumption) ?_
            simp only [Act.put, List.setIfInBounds_toArray, List.set_cons_zero, List.set_cons_succ]
            refine wpAnyH_done (by kernel_rfl) ?_ _
            have HBq : Hid (Below w3.heap.size w3 w7) := bt HB5.out hb7
            go_wp2_with fail
            go_roundw
            case rel => exact ⟨m + 1, b2, by omega, by rw [HZ.out], by go_num, HBq, HN⟩
            case measure => simp [intOf]; omega
        · obtain rfl : m = k := by omega
          have HN : Hid (hitTo l (m + 1) = b2) := by
            show _ = _
            rw [hit_succ]; exact HHi.out
          have HBo : Hid (Below w2.heap.size w2 wr) := bt HB3.out HBi.out
          go_wp2_with fail
          go_roundw
          case rel => exact ⟨m + 1, b2, by omega, rfl, by go_num, HBo, HN⟩
          case measure => simp [intOf]; omega
    · have HHE : Hid (hitTo l l.length = b) := by
        have e : k = l.length := by omega
        have := HH.out
        rw [e] at this
        exact this
      by_cases h24 : 24 < l.length
      · have h24i : decide (24 < (l.length : Int)) = true := by simp only [decide_eq_true_eq]; omega
        have HZ : Hid (wn2 l = 2) := by show _ = _; rw [wn2, if_pos h24]
        clear HHE HH
        go_wp2_with fail
        go_loopw [3, 81] (fun v i wr => ∃ (k : Nat) (z : Int), k ≤ l.length ∧ v = .int .i64 z ∧ i = .int .i64 k ∧ Hid (Below w2.heap.size w2 wr) ∧ Hid (wn3 ((l.take k).all rightL) (wn2 l) = z)) (fun _ i _ => l.length - (intOf i).toNat)
        case atStart => exact ⟨0, _, by omega, rfl, rfl, HB, by show _ = _; rw [HZ.out]; rfl⟩
        case round =>
          obtain ⟨k, z, hk, rfl, rfl, HB, HZ3⟩ := hrel
          by_cases hlt : k < l.length
          · obtain ⟨a, rfl, hab, k0, k1, k2⟩ := rt_in (HR2.out.below HB.out (Nat.le_refl _)) rfl k hlt
            have hps : (mkB l[k].p).size ≤ 10000 := by rw [mkB_size]; exact HP.out _ (List.getElem_mem hlt)
            have HPT := Lib.hid (fun w => pat_any (mkB l[k].p) w hps)
            have HRT := Lib.hid (fun w hw => right_any (mkB l[k].m) (mkB l[k].p) (mkB l[k].h) w hw hps)
            have HTK := Lib.hid (fun w => tok_any (mkB l[k].m) w)
            have HHD := Lib.hid (fun w hw => hand_any (mkB l[k].h) w hw)
            rw [mkB_data] at HPT HTK HHD
            rw [rt_mk] at HRT
            have HRE : Hid (rightL l[k] = ((patL l[k].p).isSome && tokB l[k].m && handL l[k].h)) := by show _ = _; rfl
            have HAS := Lib.hid (all_snoc rightL l k hlt)
            have HA := Lib.hid (HB.out.alloc HB.out.size (.cells #[.string (mkB l[k].m), .string (mkB l[k].p), .string (mkB l[k].h)] 31))
            have HC0 := Lib.hid (fun w' (h : Below (wr.alloc (.cells #[.string (mkB l[k].m), .string (mkB l[k].p), .string (mkB l[k].h)] 31)).heap.size (wr.alloc (.cells #[.string (mkB l[k].m), .string (mkB l[k].p), .string (mkB l[k].h)] 31)) w') => (C3.new wr (.string (mkB l[k].m)) (.string (mkB l[k].p)) (.string (mkB l[k].h)) 31).below h)
            generalize (patL l[k].p).isSome = ok at *
            generalize (patL l[k].p).getD [] = sg at *
            generalize mkB l[k].m = xm at *
            generalize mkB l[k].p = xp at *
            obtain ⟨xh, hxh⟩ : ∃ x, mkB l[k].h = x := ⟨_, rfl⟩
            rw [hxh] at k2 HRT HHD HA HC0
            have HXH := Lib.hid hxh
            clear hxh
            go_wp2_with fail
            refine (HPT.out _).mono ?_
            rintro e w3 ⟨v3, rfl, ho3, hb3⟩
            obtain ⟨A3, c3, rfl, hr3⟩ := Rd.own ho3
            have HB3 : Hid (Below w2.heap.size w2 w3) := bt HA.out hb3
            have HD0 : Hid (∀ w', Below w3.heap.size w3 w' → C3 w' wr.heap.size (.string xm) (.string xp) (.string xh)) := fun w' h => HC0.out w' (bt hb3 h)
            clear ho3 hr3 hb3 HA HC0 HPT k0 k1 k2
            obtain ⟨g, hg⟩ : ∃ g, wr.heap.size = g := ⟨_, rfl⟩
            rw [hg] at HD0 ⊢
            clear hg
            go_wp2_with fail
            have HHL := Lib.hid (inN_all l[k].h)
            have HNM : Hid (∀ j, j < 8 → (w3.alloc (.cells nameCs 9)).cell? ⟨w3.heap.size, j, none⟩ = (nameCs[j]?)) := fun j _ => new_cell w3 _ 9 j
            have HBN : Hid (Below w3.heap.size w3 (w3.alloc (.cells nameCs 9))) := (Below.refl _ _).alloc (Nat.le_refl _) _
            unfold nameCs at HNM HBN
            generalize hW4 : w3.alloc (.cells #[.string ⟨#[103, 101, 116]⟩, .string ⟨#[112, 117, 116]⟩, .string ⟨#[100, 101, 108, 101, 116, 101]⟩, .string ⟨#[108, 105, 115, 116]⟩, .string ⟨#[119, 97, 108, 107]⟩, .string ⟨#[104, 101, 97, 108, 116, 104]⟩, .string ⟨#[114, 101, 108, 111, 97, 100]⟩, .string ⟨#[115, 104, 117, 116, 100, 111, 119, 110]⟩] 9) = W4 at *
            clear hW4
            have HNS : Hid (∀ j (hj : j < 8), W4.cell? ⟨w3.heap.size, j, none⟩ = some (.string (mkB (names8[j]'hj)))) := fun j hj => (HNM.out j hj).trans (nameCs_at j hj)
            obtain ⟨d0, d1, d2⟩ := HD0.out _ HBN.out
            clear HNM
            go_loop [15, 93] (fun v i => ∃ (j : Nat) (q : Bool), j ≤ 8 ∧ i = .int .i64 j ∧ v = .bool q ∧ Hid (inN j l[k].h = q)) (fun _ i => 8 - (intOf i).toNat)
            case atStart => exact ⟨0, false, by omega, rfl, rfl, by show _ = _; rfl⟩
            case round =>
              obtain ⟨j, q, hj, rfl, rfl, HQ⟩ := hrel
              by_cases hj8 : j < 8
              · have hst := inN_succ j hj8 l[k].h
                have hcl := HNS.out j hj8
                rw [HQ.out] at hst
                have hnq : ((mkB (names8[j]'hj8)).toList == xh.toList) = decide (names8[j]'hj8 = l[k].h) := by
                  rw [eq_test, ← HXH.out, decide_eq_decide]
                  exact ⟨fun h => by have := congrArg (fun x : ByteArray => x.data.toList) h; simpa only [mkB_data] using this, fun h => by rw [h]⟩
                have HST := Lib.hid hst
                clear hst
                generalize decide (names8[j]'hj8 = l[k].h) = t at *
                generalize mkB (names8[j]'hj8) = nm at *
                cases q with
                | true =>
                  go_wp2_with fail
                  go_round
                  case rel => exact ⟨j + 1, true, by omega, by go_num, rfl, by show _ = _; rw [HST.out]; rfl⟩
                  case measure => simp [intOf]; omega
                | false =>
                  go_wp2_with fail
                  go_round
                  case rel => exact ⟨j + 1, t, by omega, by go_num, rfl, by show _ = _; rw [HST.out]; rfl⟩
                  case measure => simp [intOf]; omega
              · obtain rfl : j = 8 := by omega
                have HHN : Hid (handL l[k].h = q) := by rw [← HHL.out]; exact HQ
                rw [HHN.out] at HHD HRE
                have HW4 := Lib.hid (HW.out.below (bt (bt HB2.out HB3.out) HBN.out))
                have hT : ∃ t, tokB l[k].m = t := ⟨_, rfl⟩
                obtain ⟨t, hT⟩ := hT
                rw [hT] at HTK HRE
                clear hT
                cases q with
                | true =>
                  cases ok with
                  | true =>
                    cases t with
                    | true =>
                      have hR : rightL l[k] = true := HRE.out
                      rw [hR] at HRT HAS
                      clear hR
                      have HN : Hid (wn3 ((l.take (k + 1)).all rightL) (wn2 l) = z) := by show _ = _; rw [HAS.out, Bool.and_true]; exact HZ3.out
                      go_wp2_with fail
                      refine (HHD.out _ HW4.out).mono ?_
                      rintro e w5 ⟨rfl, rfl⟩
                      go_wp2_with fail
                      refine (HRT.out _ HW4.out).mono ?_
                      rintro e w6 ⟨rfl, hb6⟩
                      clear d0 d1 d2
                      have HB6 : Hid (Below w3.heap.size w3 w6) := bt HBN.out hb6
                      have HW6 := Lib.hid (HW4.out.below hb6)
                      obtain ⟨d0, d1, d2⟩ := HD0.out _ HB6.out
                      clear hb6
                      go_wp2_with fail
                      refine (HTK.out _).mono ?_
                      rintro e w7 ⟨rfl, hb7⟩
                      clear d0 d1 d2
                      have HB7 : Hid (Below w3.heap.size w3 w7) := bt HB6.out hb7
                      have HW7 := Lib.hid (HW6.out.below hb7)
                      obtain ⟨d0, d1, d2⟩ := HD0.out _ HB7.out
                      clear hb7
                      go_wp2_with fail
                      refine (HRT.out _ HW7.out).mono ?_
                      rintro e w8 ⟨rfl, hb8⟩
                      have HB8 : Hid (Below w2.heap.size w2 w8) := bt HB3.out (bt HB7.out hb8)
                      clear hb8 d0 d1 d2
                      go_wp2_with fail
                      go_roundw
                      case rel => exact ⟨k + 1, z, by omega, rfl, by go_num, HB8, HN⟩
                      case measure => simp [intOf]; omega
                    | false =>
                      have hR : rightL l[k] = false := HRE.out
                      rw [hR] at HRT HAS
                      clear hR
                      have HN : Hid (wn3 ((l.take (k + 1)).all rightL) (wn2 l) = 1) := by show _ = _; rw [HAS.out, Bool.and_false]; rfl
                      go_wp2_with fail
                      refine (HHD.out _ HW4.out).mono ?_
                      rintro e w5 ⟨rfl, rfl⟩
                      go_wp2_with fail
                      refine (HRT.out _ HW4.out).mono ?_
                      rintro e w6 ⟨rfl, hb6⟩
                      clear d0 d1 d2
                      have HB6 : Hid (Below w3.heap.size w3 w6) := bt HBN.out hb6
                      have HW6 := Lib.hid (HW4.out.below hb6)
                      obtain ⟨d0, d1, d2⟩ := HD0.out _ HB6.out
                      clear hb6
                      go_wp2_with fail
                      refine (HTK.out _).mono ?_
                      rintro e w7 ⟨rfl, hb7⟩
                      clear d0 d1 d2
                      have HB7 : Hid (Below w3.heap.size w3 w7) := bt HB6.out hb7
                      have HW7 := Lib.hid (HW6.out.below hb7)
                      obtain ⟨d0, d1, d2⟩ := HD0.out _ HB7.out
                      clear hb7
                      go_wp2_with fail
                      refine (HRT.out _ HW7.out).mono ?_
                      rintro e w8 ⟨rfl, hb8⟩
                      have HB8 : Hid (Below w2.heap.size w2 w8) := bt HB3.out (bt HB7.out hb8)
                      clear hb8 d0 d1 d2
                      go_wp2_with fail
                      go_roundw
                      case rel => exact ⟨k + 1, 1, by omega, rfl, by go_num, HB8, HN⟩
                      case measure => simp [intOf]; omega
                  | false =>
                    cases t with
                    | true =>
                      have hR : rightL l[k] = false := HRE.out
                      rw [hR] at HRT HAS
                      clear hR
                      have HN : Hid (wn3 ((l.take (k + 1)).all rightL) (wn2 l) = 1) := by show _ = _; rw [HAS.out, Bool.and_false]; rfl
                      go_wp2_with fail
                      refine (HHD.out _ HW4.out).mono ?_
                      rintro e w5 ⟨rfl, rfl⟩
                      go_wp2_with fail
                      refine (HRT.out _ HW4.out).mono ?_
                      rintro e w6 ⟨rfl, hb6⟩
                      clear d0 d1 d2
                      have HB6 : Hid (Below w3.heap.size w3 w6) := bt HBN.out hb6
                      have HW6 := Lib.hid (HW4.out.below hb6)
                      obtain ⟨d0, d1, d2⟩ := HD0.out _ HB6.out
                      clear hb6
                      go_wp2_with fail
                      refine (HRT.out _ HW6.out).mono ?_
                      rintro e w8 ⟨rfl, hb8⟩
                      have HB8 : Hid (Below w2.heap.size w2 w8) := bt HB3.out (bt HB6.out hb8)
                      clear hb8 d0 d1 d2
                      go_wp2_with fail
                      go_roundw
                      case rel => exact ⟨k + 1, 1, by omega, rfl, by go_num, HB8, HN⟩
                      case measure => simp [intOf]; omega
                    | false =>
                      have hR : rightL l[k] = false := HRE.out
                      rw [hR] at HRT HAS
                      clear hR
                      have HN : Hid (wn3 ((l.take (k + 1)).all rightL) (wn2 l) = 1) := by show _ = _; rw [HAS.out, Bool.and_false]; rfl
                      go_wp2_with fail
                      refine (HHD.out _ HW4.out).mono ?_
                      rintro e w5 ⟨rfl, rfl⟩
                      go_wp2_with fail
                      refine (HRT.out _ HW4.out).mono ?_
                      rintro e w6 ⟨rfl, hb6⟩
                      clear d0 d1 d2
                      have HB6 : Hid (Below w3.heap.size w3 w6) := bt HBN.out hb6
                      have HW6 := Lib.hid (HW4.out.below hb6)
                      obtain ⟨d0, d1, d2⟩ := HD0.out _ HB6.out
                      clear hb6
                      go_wp2_with fail
                      refine (HRT.out _ HW6.out).mono ?_
                      rintro e w8 ⟨rfl, hb8⟩
                      have HB8 : Hid (Below w2.heap.size w2 w8) := bt HB3.out (bt HB6.out hb8)
                      clear hb8 d0 d1 d2
                      go_wp2_with fail
                      go_roundw
                      case rel => exact ⟨k + 1, 1, by omega, rfl, by go_num, HB8, HN⟩
                      case measure => simp [intOf]; omega
                | false =>
                  cases ok with
                  | true =>
                    cases t with
                    | true =>
                      have hR : rightL l[k] = false := HRE.out
                      rw [hR] at HRT HAS
                      clear hR
                      have HN : Hid (wn3 ((l.take (k + 1)).all rightL) (wn2 l) = 1) := by show _ = _; rw [HAS.out, Bool.and_false]; rfl
                      go_wp2_with fail
                      refine (HHD.out _ HW4.out).mono ?_
                      rintro e w5 ⟨rfl, rfl⟩
                      go_wp2_with fail
                      refine (HRT.out _ HW4.out).mono ?_
                      rintro e w6 ⟨rfl, hb6⟩
                      clear d0 d1 d2
                      have HB6 : Hid (Below w3.heap.size w3 w6) := bt HBN.out hb6
                      have HW6 := Lib.hid (HW4.out.below hb6)
                      obtain ⟨d0, d1, d2⟩ := HD0.out _ HB6.out
                      clear hb6
                      go_wp2_with fail
                      refine (HRT.out _ HW6.out).mono ?_
                      rintro e w8 ⟨rfl, hb8⟩
                      have HB8 : Hid (Below w2.heap.size w2 w8) := bt HB3.out (bt HB6.out hb8)
                      clear hb8 d0 d1 d2
                      go_wp2_with fail
                      go_roundw
                      case rel => exact ⟨k + 1, 1, by omega, rfl, by go_num, HB8, HN⟩
                      case measure => simp [intOf]; omega
                    | false =>
                      have hR : rightL l[k] = false := HRE.out
                      rw [hR] at HRT HAS
                      clear hR
                      have HN : Hid (wn3 ((l.take (k + 1)).all rightL) (wn2 l) = 1) := by show _ = _; rw [HAS.out, Bool.and_false]; rfl
                      go_wp2_with fail
                      refine (HHD.out _ HW4.out).mono ?_
                      rintro e w5 ⟨rfl, rfl⟩
                      go_wp2_with fail
                      refine (HRT.out _ HW4.out).mono ?_
                      rintro e w6 ⟨rfl, hb6⟩
                      clear d0 d1 d2
                      have HB6 : Hid (Below w3.heap.size w3 w6) := bt HBN.out hb6
                      have HW6 := Lib.hid (HW4.out.below hb6)
                      obtain ⟨d0, d1, d2⟩ := HD0.out _ HB6.out
                      clear hb6
                      go_wp2_with fail
                      refine (HRT.out _ HW6.out).mono ?_
                      rintro e w8 ⟨rfl, hb8⟩
                      have HB8 : Hid (Below w2.heap.size w2 w8) := bt HB3.out (bt HB6.out hb8)
                      clear hb8 d0 d1 d2
                      go_wp2_with fail
                      go_roundw
                      case rel => exact ⟨k + 1, 1, by omega, rfl, by go_num, HB8, HN⟩
                      case measure => simp [intOf]; omega
                  | false =>
                    cases t with
                    | true =>
                      have hR : rightL l[k] = false := HRE.out
                      rw [hR] at HRT HAS
                      clear hR
                      have HN : Hid (wn3 ((l.take (k + 1)).all rightL) (wn2 l) = 1) := by show _ = _; rw [HAS.out, Bool.and_false]; rfl
                      go_wp2_with fail
                      refine (HHD.out _ HW4.out).mono ?_
                      rintro e w5 ⟨rfl, rfl⟩
                      go_wp2_with fail
                      refine (HRT.out _ HW4.out).mono ?_
                      rintro e w6 ⟨rfl, hb6⟩
                      clear d0 d1 d2
                      have HB6 : Hid (Below w3.heap.size w3 w6) := bt HBN.out hb6
                      have HW6 := Lib.hid (HW4.out.below hb6)
                      obtain ⟨d0, d1, d2⟩ := HD0.out _ HB6.out
                      clear hb6
                      go_wp2_with fail
                      refine (HRT.out _ HW6.out).mono ?_
                      rintro e w8 ⟨rfl, hb8⟩
                      have HB8 : Hid (Below w2.heap.size w2 w8) := bt HB3.out (bt HB6.out hb8)
                      clear hb8 d0 d1 d2
                      go_wp2_with fail
                      go_roundw
                      case rel => exact ⟨k + 1, 1, by omega, rfl, by go_num, HB8, HN⟩
                      case measure => simp [intOf]; omega
                    | false =>
                      have hR : rightL l[k] = false := HRE.out
                      rw [hR] at HRT HAS
                      clear hR
                      have HN : Hid (wn3 ((l.take (k + 1)).all rightL) (wn2 l) = 1) := by show _ = _; rw [HAS.out, Bool.and_false]; rfl
                      go_wp2_with fail
                      refine (HHD.out _ HW4.out).mono ?_
                      rintro e w5 ⟨rfl, rfl⟩
                      go_wp2_with fail
                      refine (HRT.out _ HW4.out).mono ?_
                      rintro e w6 ⟨rfl, hb6⟩
                      clear d0 d1 d2
                      have HB6 : Hid (Below w3.heap.size w3 w6) := bt HBN.out hb6
                      have HW6 := Lib.hid (HW4.out.below hb6)
                      obtain ⟨d0, d1, d2⟩ := HD0.out _ HB6.out
                      clear hb6
                      go_wp2_with fail
                      refine (HRT.out _ HW6.out).mono ?_
                      rintro e w8 ⟨rfl, hb8⟩
                      have HB8 : Hid (Below w2.heap.size w2 w8) := bt HB3.out (bt HB6.out hb8)
                      clear hb8 d0 d1 d2
                      go_wp2_with fail
                      go_roundw
                      case rel => exact ⟨k + 1, 1, by omega, rfl, by go_num, HB8, HN⟩
                      case measure => simp [intOf]; omega
          · have HAL : Hid (wn3 (l.all rightL) (wn2 l) = z) := by
              have := HZ3.out
              rw [List.take_of_length_le (by omega)] at this
              exact this
            have HRr := Lib.hid ((HR2.out.below HB.out (Nat.le_refl _)).wide HB.out.size)
            have HBr := Lib.hid (bt HB2.out HB.out)
            have HC := Lib.hid (HCK.out _ HRr.out (HW.out.below HBr.out))
            rw [HAL.out] at HC
            go_wp2_with fail
            refine HC.out.mono ?_
            rintro e w9 ⟨rfl, hb9⟩
            go_wp2_with fail
            go_ret
            exact ⟨rfl, bt HBr.out hb9⟩
      · have h24i : decide (24 < (l.length : Int)) = false := by simp only [decide_eq_false_iff_not]; omega
        have HZ : Hid (wn2 l = wn1 b) := by show _ = _; rw [wn2, if_neg h24, HHE.out]
        clear HHE HH
        go_wp2_with fail
        go_loopw [3, 81] (fun v i wr => ∃ (k : Nat) (z : Int), k ≤ l.length ∧ v = .int .i64 z ∧ i = .int .i64 k ∧ Hid (Below w2.heap.size w2 wr) ∧ Hid (wn3 ((l.take k).all rightL) (wn2 l) = z)) (fun _ i _ => l.length - (intOf i).toNat)
        case atStart => exact ⟨0, _, by omega, rfl, rfl, HB, by show _ = _; rw [HZ.out]; rfl⟩
        case round =>
          obtain ⟨k, z, hk, rfl, rfl, HB, HZ3⟩ := hrel
          by_cases hlt : k < l.length
          · obtain ⟨a, rfl, hab, k0, k1, k2⟩ := rt_in (HR2.out.below HB.out (Nat.le_refl _)) rfl k hlt
            have hps : (mkB l[k].p).size ≤ 10000 := by rw [mkB_size]; exact HP.out _ (List.getElem_mem hlt)
            have HPT := Lib.hid (fun w => pat_any (mkB l[k].p) w hps)
            have HRT := Lib.hid (fun w hw => right_any (mkB l[k].m) (mkB l[k].p) (mkB l[k].h) w hw hps)
            have HTK := Lib.hid (fun w => tok_any (mkB l[k].m) w)
            have HHD := Lib.hid (fun w hw => hand_any (mkB l[k].h) w hw)
            rw [mkB_data] at HPT HTK HHD
            rw [rt_mk] at HRT
            have HRE : Hid (rightL l[k] = ((patL l[k].p).isSome && tokB l[k].m && handL l[k].h)) := by show _ = _; rfl
            have HAS := Lib.hid (all_snoc rightL l k hlt)
            have HA := Lib.hid (HB.out.alloc HB.out.size (.cells #[.string (mkB l[k].m), .string (mkB l[k].p), .string (mkB l[k].h)] 31))
            have HC0 := Lib.hid (fun w' (h : Below (wr.alloc (.cells #[.string (mkB l[k].m), .string (mkB l[k].p), .string (mkB l[k].h)] 31)).heap.size (wr.alloc (.cells #[.string (mkB l[k].m), .string (mkB l[k].p), .string (mkB l[k].h)] 31)) w') => (C3.new wr (.string (mkB l[k].m)) (.string (mkB l[k].p)) (.string (mkB l[k].h)) 31).below h)
            generalize (patL l[k].p).isSome = ok at *
            generalize (patL l[k].p).getD [] = sg at *
            generalize mkB l[k].m = xm at *
            generalize mkB l[k].p = xp at *
            obtain ⟨xh, hxh⟩ : ∃ x, mkB l[k].h = x := ⟨_, rfl⟩
            rw [hxh] at k2 HRT HHD HA HC0
            have HXH := Lib.hid hxh
            clear hxh
            go_wp2_with fail
            refine (HPT.out _).mono ?_
            rintro e w3 ⟨v3, rfl, ho3, hb3⟩
            obtain ⟨A3, c3, rfl, hr3⟩ := Rd.own ho3
            have HB3 : Hid (Below w2.heap.size w2 w3) := bt HA.out hb3
            have HD0 : Hid (∀ w', Below w3.heap.size w3 w' → C3 w' wr.heap.size (.string xm) (.string xp) (.string xh)) := fun w' h => HC0.out w' (bt hb3 h)
            clear ho3 hr3 hb3 HA HC0 HPT k0 k1 k2
            obtain ⟨g, hg⟩ : ∃ g, wr.heap.size = g := ⟨_, rfl⟩
            rw [hg] at HD0 ⊢
            clear hg
            go_wp2_with fail
            have HHL := Lib.hid (inN_all l[k].h)
            have HNM : Hid (∀ j, j < 8 → (w3.alloc (.cells nameCs 9)).cell? ⟨w3.heap.size, j, none⟩ = (nameCs[j]?)) := fun j _ => new_cell w3 _ 9 j
            have HBN : Hid (Below w3.heap.size w3 (w3.alloc (.cells nameCs 9))) := (Below.refl _ _).alloc (Nat.le_refl _) _
            unfold nameCs at HNM HBN
            generalize hW4 : w3.alloc (.cells #[.string ⟨#[103, 101, 116]⟩, .string ⟨#[112, 117, 116]⟩, .string ⟨#[100, 101, 108, 101, 116, 101]⟩, .string ⟨#[108, 105, 115, 116]⟩, .string ⟨#[119, 97, 108, 107]⟩, .string ⟨#[104, 101, 97, 108, 116, 104]⟩, .string ⟨#[114, 101, 108, 111, 97, 100]⟩, .string ⟨#[115, 104, 117, 116, 100, 111, 119, 110]⟩] 9) = W4 at *
            clear hW4
            have HNS : Hid (∀ j (hj : j < 8), W4.cell? ⟨w3.heap.size, j, none⟩ = some (.string (mkB (names8[j]'hj)))) := fun j hj => (HNM.out j hj).trans (nameCs_at j hj)
            obtain ⟨d0, d1, d2⟩ := HD0.out _ HBN.out
            clear HNM
            go_loop [15, 93] (fun v i => ∃ (j : Nat) (q : Bool), j ≤ 8 ∧ i = .int .i64 j ∧ v = .bool q ∧ Hid (inN j l[k].h = q)) (fun _ i => 8 - (intOf i).toNat)
            case atStart => exact ⟨0, false, by omega, rfl, rfl, by show _ = _; rfl⟩
            case round =>
              obtain ⟨j, q, hj, rfl, rfl, HQ⟩ := hrel
              by_cases hj8 : j < 8
              · have hst := inN_succ j hj8 l[k].h
                have hcl := HNS.out j hj8
                rw [HQ.out] at hst
                have hnq : ((mkB (names8[j]'hj8)).toList == xh.toList) = decide (names8[j]'hj8 = l[k].h) := by
                  rw [eq_test, ← HXH.out, decide_eq_decide]
                  exact ⟨fun h => by have := congrArg (fun x : ByteArray => x.data.toList) h; simpa only [mkB_data] using this, fun h => by rw [h]⟩
                have HST := Lib.hid hst
                clear hst
                generalize decide (names8[j]'hj8 = l[k].h) = t at *
                generalize mkB (names8[j]'hj8) = nm at *
                cases q with
                | true =>
                  go_wp2_with fail
                  go_round
                  case rel => exact ⟨j + 1, true, by omega, by go_num, rfl, by show _ = _; rw [HST.out]; rfl⟩
                  case measure => simp [intOf]; omega
                | false =>
                  go_wp2_with fail
                  go_round
                  case rel => exact ⟨j + 1, t, by omega, by go_num, rfl, by show _ = _; rw [HST.out]; rfl⟩
                  case measure => simp [intOf]; omega
              · obtain rfl : j = 8 := by omega
                have HHN : Hid (handL l[k].h = q) := by rw [← HHL.out]; exact HQ
                rw [HHN.out] at HHD HRE
                have HW4 := Lib.hid (HW.out.below (bt (bt HB2.out HB3.out) HBN.out))
                have hT : ∃ t, tokB l[k].m = t := ⟨_, rfl⟩
                obtain ⟨t, hT⟩ := hT
                rw [hT] at HTK HRE
                clear hT
                cases q with
                | true =>
                  cases ok with
                  | true =>
                    cases t with
                    | true =>
                      have hR : rightL l[k] = true := HRE.out
                      rw [hR] at HRT HAS
                      clear hR
                      have HN : Hid (wn3 ((l.take (k + 1)).all rightL) (wn2 l) = z) := by show _ = _; rw [HAS.out, Bool.and_true]; exact HZ3.out
                      go_wp2_with fail
                      refine (HHD.out _ HW4.out).mono ?_
                      rintro e w5 ⟨rfl, rfl⟩
                      go_wp2_with fail
                      refine (HRT.out _ HW4.out).mono ?_
                      rintro e w6 ⟨rfl, hb6⟩
                      clear d0 d1 d2
                      have HB6 : Hid (Below w3.heap.size w3 w6) := bt HBN.out hb6
                      have HW6 := Lib.hid (HW4.out.below hb6)
                      obtain ⟨d0, d1, d2⟩ := HD0.out _ HB6.out
                      clear hb6
                      go_wp2_with fail
                      refine (HTK.out _).mono ?_
                      rintro e w7 ⟨rfl, hb7⟩
                      clear d0 d1 d2
                      have HB7 : Hid (Below w3.heap.size w3 w7) := bt HB6.out hb7
                      have HW7 := Lib.hid (HW6.out.below hb7)
                      obtain ⟨d0, d1, d2⟩ := HD0.out _ HB7.out
                      clear hb7
                      go_wp2_with fail
                      refine (HRT.out _ HW7.out).mono ?_
                      rintro e w8 ⟨rfl, hb8⟩
                      have HB8 : Hid (Below w2.heap.size w2 w8) := bt HB3.out (bt HB7.out hb8)
                      clear hb8 d0 d1 d2
                      go_wp2_with fail
                      go_roundw
                      case rel => exact ⟨k + 1, z, by omega, rfl, by go_num, HB8, HN⟩
                      case measure => simp [intOf]; omega
                    | false =>
                      have hR : rightL l[k] = false := HRE.out
                      rw [hR] at HRT HAS
                      clear hR
                      have HN : Hid (wn3 ((l.take (k + 1)).all rightL) (wn2 l) = 1) := by show _ = _; rw [HAS.out, Bool.and_false]; rfl
                      go_wp2_with fail
                      refine (HHD.out _ HW4.out).mono ?_
                      rintro e w5 ⟨rfl, rfl⟩
                      go_wp2_with fail
                      refine (HRT.out _ HW4.out).mono ?_
                      rintro e w6 ⟨rfl, hb6⟩
                      clear d0 d1 d2
                      have HB6 : Hid (Below w3.heap.size w3 w6) := bt HBN.out hb6
                      have HW6 := Lib.hid (HW4.out.below hb6)
                      obtain ⟨d0, d1, d2⟩ := HD0.out _ HB6.out
                      clear hb6
                      go_wp2_with fail
                      refine (HTK.out _).mono ?_
                      rintro e w7 ⟨rfl, hb7⟩
                      clear d0 d1 d2
                      have HB7 : Hid (Below w3.heap.size w3 w7) := bt HB6.out hb7
                      have HW7 := Lib.hid (HW6.out.below hb7)
                      obtain ⟨d0, d1, d2⟩ := HD0.out _ HB7.out
                      clear hb7
                      go_wp2_with fail
                      refine (HRT.out _ HW7.out).mono ?_
                      rintro e w8 ⟨rfl, hb8⟩
                      have HB8 : Hid (Below w2.heap.size w2 w8) := bt HB3.out (bt HB7.out hb8)
                      clear hb8 d0 d1 d2
                      go_wp2_with fail
                      go_roundw
                      case rel => exact ⟨k + 1, 1, by omega, rfl, by go_num, HB8, HN⟩
                      case measure => simp [intOf]; omega
                  | false =>
                    cases t with
                    | true =>
                      have hR : rightL l[k] = false := HRE.out
                      rw [hR] at HRT HAS
                      clear hR
                      have HN : Hid (wn3 ((l.take (k + 1)).all rightL) (wn2 l) = 1) := by show _ = _; rw [HAS.out, Bool.and_false]; rfl
                      go_wp2_with fail
                      refine (HHD.out _ HW4.out).mono ?_
                      rintro e w5 ⟨rfl, rfl⟩
                      go_wp2_with fail
                      refine (HRT.out _ HW4.out).mono ?_
                      rintro e w6 ⟨rfl, hb6⟩
                      clear d0 d1 d2
                      have HB6 : Hid (Below w3.heap.size w3 w6) := bt HBN.out hb6
                      have HW6 := Lib.hid (HW4.out.below hb6)
                      obtain ⟨d0, d1, d2⟩ := HD0.out _ HB6.out
                      clear hb6
                      go_wp2_with fail
                      refine (HRT.out _ HW6.out).mono ?_
                      rintro e w8 ⟨rfl, hb8⟩
                      have HB8 : Hid (Below w2.heap.size w2 w8) := bt HB3.out (bt HB6.out hb8)
                      clear hb8 d0 d1 d2
                      go_wp2_with fail
                      go_roundw
                      case rel => exact ⟨k + 1, 1, by omega, rfl, by go_num, HB8, HN⟩
                      case measure => simp [intOf]; omega
                    | false =>
                      have hR : rightL l[k] = false := HRE.out
                      rw [hR] at HRT HAS
                      clear hR
                      have HN : Hid (wn3 ((l.take (k + 1)).all rightL) (wn2 l) = 1) := by show _ = _; rw [HAS.out, Bool.and_false]; rfl
                      go_wp2_with fail
                      refine (HHD.out _ HW4.out).mono ?_
                      rintro e w5 ⟨rfl, rfl⟩
                      go_wp2_with fail
                      refine (HRT.out _ HW4.out).mono ?_
                      rintro e w6 ⟨rfl, hb6⟩
                      clear d0 d1 d2
                      have HB6 : Hid (Below w3.heap.size w3 w6) := bt HBN.out hb6
                      have HW6 := Lib.hid (HW4.out.below hb6)
                      obtain ⟨d0, d1, d2⟩ := HD0.out _ HB6.out
                      clear hb6
                      go_wp2_with fail
                      refine (HRT.out _ HW6.out).mono ?_
                      rintro e w8 ⟨rfl, hb8⟩
                      have HB8 : Hid (Below w2.heap.size w2 w8) := bt HB3.out (bt HB6.out hb8)
                      clear hb8 d0 d1 d2
                      go_wp2_with fail
                      go_roundw
                      case rel => exact ⟨k + 1, 1, by omega, rfl, by go_num, HB8, HN⟩
                      case measure => simp [intOf]; omega
                | false =>
                  cases ok with
                  | true =>
                    cases t with
                    | true =>
                      have hR : rightL l[k] = false := HRE.out
                      rw [hR] at HRT HAS
                      clear hR
                      have HN : Hid (wn3 ((l.take (k + 1)).all rightL) (wn2 l) = 1) := by show _ = _; rw [HAS.out, Bool.and_false]; rfl
                      go_wp2_with fail
                      refine (HHD.out _ HW4.out).mono ?_
                      rintro e w5 ⟨rfl, rfl⟩
                      go_wp2_with fail
                      refine (HRT.out _ HW4.out).mono ?_
                      rintro e w6 ⟨rfl, hb6⟩
                      clear d0 d1 d2
                      have HB6 : Hid (Below w3.heap.size w3 w6) := bt HBN.out hb6
                      have HW6 := Lib.hid (HW4.out.below hb6)
                      obtain ⟨d0, d1, d2⟩ := HD0.out _ HB6.out
                      clear hb6
                      go_wp2_with fail
                      refine (HRT.out _ HW6.out).mono ?_
                      rintro e w8 ⟨rfl, hb8⟩
                      have HB8 : Hid (Below w2.heap.size w2 w8) := bt HB3.out (bt HB6.out hb8)
                      clear hb8 d0 d1 d2
                      go_wp2_with fail
                      go_roundw
                      case rel => exact ⟨k + 1, 1, by omega, rfl, by go_num, HB8, HN⟩
                      case measure => simp [intOf]; omega
                    | false =>
                      have hR : rightL l[k] = false := HRE.out
                      rw [hR] at HRT HAS
                      clear hR
                      have HN : Hid (wn3 ((l.take (k + 1)).all rightL) (wn2 l) = 1) := by show _ = _; rw [HAS.out, Bool.and_false]; rfl
                      go_wp2_with fail
                      refine (HHD.out _ HW4.out).mono ?_
                      rintro e w5 ⟨rfl, rfl⟩
                      go_wp2_with fail
                      refine (HRT.out _ HW4.out).mono ?_
                      rintro e w6 ⟨rfl, hb6⟩
                      clear d0 d1 d2
                      have HB6 : Hid (Below w3.heap.size w3 w6) := bt HBN.out hb6
                      have HW6 := Lib.hid (HW4.out.below hb6)
                      obtain ⟨d0, d1, d2⟩ := HD0.out _ HB6.out
                      clear hb6
                      go_wp2_with fail
                      refine (HRT.out _ HW6.out).mono ?_
                      rintro e w8 ⟨rfl, hb8⟩
                      have HB8 : Hid (Below w2.heap.size w2 w8) := bt HB3.out (bt HB6.out hb8)
                      clear hb8 d0 d1 d2
                      go_wp2_with fail
                      go_roundw
                      case rel => exact ⟨k + 1, 1, by omega, rfl, by go_num, HB8, HN⟩
                      case measure => simp [intOf]; omega
                  | false =>
                    cases t with
                    | true =>
                      have hR : rightL l[k] = false := HRE.out
                      rw [hR] at HRT HAS
                      clear hR
                      have HN : Hid (wn3 ((l.take (k + 1)).all rightL) (wn2 l) = 1) := by show _ = _; rw [HAS.out, Bool.and_false]; rfl
                      go_wp2_with fail
                      refine (HHD.out _ HW4.out).mono ?_
                      rintro e w5 ⟨rfl, rfl⟩
                      go_wp2_with fail
                      refine (HRT.out _ HW4.out).mono ?_
                      rintro e w6 ⟨rfl, hb6⟩
                      clear d0 d1 d2
                      have HB6 : Hid (Below w3.heap.size w3 w6) := bt HBN.out hb6
                      have HW6 := Lib.hid (HW4.out.below hb6)
                      obtain ⟨d0, d1, d2⟩ := HD0.out _ HB6.out
                      clear hb6
                      go_wp2_with fail
                      refine (HRT.out _ HW6.out).mono ?_
                      rintro e w8 ⟨rfl, hb8⟩
                      have HB8 : Hid (Below w2.heap.size w2 w8) := bt HB3.out (bt HB6.out hb8)
                      clear hb8 d0 d1 d2
                      go_wp2_with fail
                      go_roundw
                      case rel => exact ⟨k + 1, 1, by omega, rfl, by go_num, HB8, HN⟩
                      case measure => simp [intOf]; omega
                    | false =>
                      have hR : rightL l[k] = false := HRE.out
                      rw [hR] at HRT HAS
                      clear hR
                      have HN : Hid (wn3 ((l.take (k + 1)).all rightL) (wn2 l) = 1) := by show _ = _; rw [HAS.out, Bool.and_false]; rfl
                      go_wp2_with fail
                      refine (HHD.out _ HW4.out).mono ?_
                      rintro e w5 ⟨rfl, rfl⟩
                      go_wp2_with fail
                      refine (HRT.out _ HW4.out).mono ?_
                      rintro e w6 ⟨rfl, hb6⟩
                      clear d0 d1 d2
                      have HB6 : Hid (Below w3.heap.size w3 w6) := bt HBN.out hb6
                      have HW6 := Lib.hid (HW4.out.below hb6)
                      obtain ⟨d0, d1, d2⟩ := HD0.out _ HB6.out
                      clear hb6
                      go_wp2_with fail
                      refine (HRT.out _ HW6.out).mono ?_
                      rintro e w8 ⟨rfl, hb8⟩
                      have HB8 : Hid (Below w2.heap.size w2 w8) := bt HB3.out (bt HB6.out hb8)
                      clear hb8 d0 d1 d2
                      go_wp2_with fail
                      go_roundw
                      case rel => exact ⟨k + 1, 1, by omega, rfl, by go_num, HB8, HN⟩
                      case measure => simp [intOf]; omega
          · have HAL : Hid (wn3 (l.all rightL) (wn2 l) = z) := by
              have := HZ3.out
              rw [List.take_of_length_le (by omega)] at this
              exact this
            have HRr := Lib.hid ((HR2.out.below HB.out (Nat.le_refl _)).wide HB.out.size)
            have HBr := Lib.hid (bt HB2.out HB.out)
            have HC := Lib.hid (HCK.out _ HRr.out (HW.out.below HBr.out))
            rw [HAL.out] at HC
            go_wp2_with fail
            refine HC.out.mono ?_
            rintro e w9 ⟨rfl, hb9⟩
            go_wp2_with fail
            go_ret
            exact ⟨rfl, bt HBr.out hb9⟩

set_option maxRecDepth 100000 in
set_option maxHeartbeats 8000000 in
theorem checks_heavy (l : List Rt) (A : Option Addr) (c : Nat) (w : World) (hr : Rd w w.heap.size 3 A l.length (rtCells l)) (hlc : l.length ≤ c) (hc : c ≤ maxLen) (hz : ∀ r ∈ l, r.m.length ≤ 140737488355328 ∧ r.p.length ≤ 140737488355328 ∧ r.h.length ≤ 140737488355328) (hw : HB w) (hL : lightL l = false) :
    Calls Tryd.prog 4 #[.slice A l.length c] w fun e w' => e = .returned (.bool true) ∧ Below w.heap.size w w' := by
  have HF := Lib.hid (fit_any w hw)
  have HR := Lib.hid hr
  unfold maxLen at hc
  have HLT := Lib.hid (fun w hr => light_any l A c w hr (by omega) hz)
  rw [hL] at HLT
  clear hw hr hz hL
  go_enter Tryd.func4, Tryd.ntmps4
  go_wp2_with fail
  refine HF.out.mono ?_
  rintro e w1 ⟨rfl, hb1⟩
  have HB1 := Lib.hid hb1
  have HR1 := Lib.hid ((HR.out.below hb1 (Nat.le_refl _)).wide hb1.size)
  clear hb1
  go_wp2_with fail
  refine (HLT.out _ HR1.out).mono ?_
  rintro e w2 ⟨rfl, hb2⟩
  go_wp2_with fail
  go_ret
  exact ⟨rfl, bt HB1.out hb2⟩

theorem checks_row (l : List Rt) (A : Option Addr) (c : Nat) (w : World) (hr : Rd w w.heap.size 3 A l.length (rtCells l)) (hlc : l.length ≤ c) (hc : c ≤ maxLen) (hz : ∀ r ∈ l, r.m.length ≤ 140737488355328 ∧ r.p.length ≤ 140737488355328 ∧ r.h.length ≤ 140737488355328) (hw : HB w) :
    Calls Tryd.prog 4 #[.slice A l.length c] w fun e w' => e = .returned (.bool true) ∧ Below w.heap.size w w' := by
  cases hL : lightL l with
  | false => exact checks_heavy l A c w hr hlc hc hz hw hL
  | true => exact checks_go l A c w hr hz hw hL

end Go.Proofs.YtejncdhdkdhpmaaDoor
