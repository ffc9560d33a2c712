/- The contract of table.Check. -/
import Derived.Test.YtgfjkpfjajjidaaDoorTbClash
namespace Go.Proofs.YtgfjkpfjajjidaaDoor
open Go.RowKit Pl

theorem all_snoc {α : Type} (p : α → Bool) (l : List α) (k : Nat) (h : k < l.length) : (l.take (k + 1)).all p = ((l.take k).all p && p l[k]) := by
  rw [List.take_succ_eq_append_getElem h, List.all_append, List.all_cons, List.all_nil, Bool.and_true]
theorem all_miss {α : Type} (p : α → Bool) (l : List α) (k : Nat) (h : k < l.length) (hp : p l[k] = false) : l.all p = false := by
  rw [Bool.eq_false_iff]
  intro ha
  rw [List.all_eq_true] at ha
  rw [ha _ (List.getElem_mem h)] at hp
  cases hp

set_option maxRecDepth 100000 in
set_option maxHeartbeats 4000000 in
theorem check_any (l : List Rt) (A : Option Addr) (c : Nat) (w : World) (hr : Rd w w.heap.size 3 A l.length (rtCells l)) (hw : HB w) (hn : l.length ≤ 100000) (hs : ∀ r ∈ l, r.p.length ≤ 10000) :
    Calls Tryd.prog 26 #[.slice A l.length c] w fun e w' => e = .returned (.int .i64 (checkL l)) ∧ Below w.heap.size w w' := by
  have HR := Lib.hid hr
  have HS := Lib.hid hs
  have HW := Lib.hid hw
  clear hr hs hw
  obtain ⟨CK, hCK⟩ : ∃ b, checkL l = b := ⟨_, rfl⟩
  rw [hCK]
  have HCK := Lib.hid hCK
  clear hCK
  go_enter Tryd.func26, Tryd.ntmps26
  go_wp2_with fail
  go_loopw [7] (fun i wr => ∃ (k : Nat), k ≤ l.length ∧ i = .int .i64 k ∧ Hid (Below w.heap.size w wr) ∧ Hid ((l.take k).all rightL = true)) (fun i _ => l.length - (intOf i).toNat)
  case atStart => exact ⟨0, by omega, rfl, Below.refl _ _, by show _ = _; rfl⟩
  case round =>
    obtain ⟨k, hk, rfl, HB, HV⟩ := hrel
    by_cases hlt : k < l.length
    · obtain ⟨a, rfl, hab, k0, k1, k2⟩ := rt_in (HR.out.below HB.out (Nat.le_refl _)) rfl k hlt
      have hps : (mkB l[k].p).size ≤ 10000 := by rw [mkB_size]; exact HS.out _ (List.getElem_mem hlt)
      have HA := Lib.hid ((Below.refl wr.heap.size wr).alloc (Nat.le_refl _) (.cells #[.string (mkB l[k].m), .string (mkB l[k].p), .string (mkB l[k].h)] 31))
      have HRT := Lib.hid (right_any (mkB l[k].m) (mkB l[k].p) (mkB l[k].h) (wr.alloc (.cells #[.string (mkB l[k].m), .string (mkB l[k].p), .string (mkB l[k].h)] 31)) ((HW.out.below HB.out).below HA.out) hps)
      rw [rt_mk] at HRT
      have h1 := all_snoc rightL l k hlt
      rw [HV.out, Bool.true_and] at h1
      have h2 := all_miss rightL l k hlt
      generalize rightL l[k] = q at *
      generalize mkB l[k].m = xm at *
      generalize mkB l[k].p = xp at *
      generalize mkB l[k].h = xh at *
      cases q with
      | true =>
        have H1 := Lib.hid h1
        clear h1 h2
        go_wp2_with fail
        refine HRT.out.mono ?_
        rintro e w1 ⟨rfl, hb1⟩
        have HB1 : Hid (Below w.heap.size w w1) := bt HB.out (HA.out.trans (hb1.mono (by simp)))
        clear hb1
        go_wp2_with fail
        go_roundw
        case rel => exact ⟨k + 1, by omega, by go_num, HB1, H1⟩
        case measure => simp [intOf]; omega
      | false =>
        have H2 : Hid (CK = 1) := by show _ = _; rw [← HCK.out, checkL, h2 rfl]; rfl
        clear h1 h2
        go_wp2_with fail
        refine HRT.out.mono ?_
        rintro e w1 ⟨rfl, hb1⟩
        have HB1 : Hid (Below w.heap.size w w1) := bt HB.out (HA.out.trans (hb1.mono (by simp)))
        clear hb1
        go_wp2_with fail
        go_ret
        exact ⟨ret_int H2.out.symm, HB1.out⟩
    · have hck : CK = if 24 < l.length then 2 else if clashL l then 3 else 0 := by
        have := HV.out
        rw [List.take_of_length_le (by omega)] at this
        rw [← HCK.out, checkL, this]; rfl
      by_cases h24 : 24 < l.length
      · rw [if_pos h24] at hck
        have H2 := Lib.hid hck
        clear hck
        go_wp2_with fail
        go_ret
        exact ⟨ret_int H2.out.symm, HB.out⟩
      · rw [if_neg h24] at hck
        have HCL := Lib.hid (clash_any l A c wr ((HR.out.below HB.out (Nat.le_refl _)).wide HB.out.size) (by omega) HS.out)
        generalize clashL l = q at *
        cases q with
        | true =>
          have H2 : Hid (CK = 3) := hck
          clear hck
          go_wp2_with fail
          refine HCL.out.mono ?_
          rintro e w1 ⟨rfl, hb1⟩
          go_wp2_with fail
          go_ret
          exact ⟨ret_int H2.out.symm, bt HB.out hb1⟩
        | false =>
          have H2 : Hid (CK = 0) := hck
          clear hck
          go_wp2_with fail
          refine HCL.out.mono ?_
          rintro e w1 ⟨rfl, hb1⟩
          go_wp2_with fail
          go_ret
          exact ⟨ret_int H2.out.symm, bt HB.out hb1⟩

end Go.Proofs.YtgfjkpfjajjidaaDoor
