/- The law AnswerParts, walked. -/
import Derived.Test.YtkbigfjaaiobfaaDoorPartsP
import Derived.Deep.RegionHeld3
import Derived.Test.YtkbigfjaaiobfaaDoorAnsRight
namespace Go.Proofs.YtkbigfjaaiobfaaDoor
open Go.RowKit Pl Go.Shelf

theorem region_one {P : Program} {c : Code} {Q : Exit → Act → World → Prop} {a a' : Act} {w w' : World} (h : c.wp P (fun e x y => e = .normal ∧ x = a' ∧ y = w') a w) (k : Q .normal a' w') : c.wp P Q a w :=
  Code.wp_mono (fun e x y h => by obtain ⟨rfl, rfl, rfl⟩ := h; exact k) h

set_option maxRecDepth 100000 in
set_option maxHeartbeats 8000000 in
theorem parts_walk (r : Rsp) (A : Option Addr) (c : Nat) (w : World) (hr : Rd w w.heap.size 2 A r.fs.length (fldCells r.fs)) (hz : ∀ f ∈ r.fs, f.1.size ≤ 140737488355328 ∧ f.2.size ≤ 140737488355328) (hg : GB w) :
    Calls Tryd.prog 4 #[.agg #[.int .i64 r.st, .slice A r.fs.length c, .string r.body, .bool r.cl]] w fun e w' => e = .returned (.bool true) ∧ Below w.heap.size w w' := by
  obtain ⟨st, fl, bd, cl, b, K0, e1, e2, e3, e4⟩ := rk_of r
  rw [e1, e2, e3, e4]
  have KK := Lib.hid K0
  have HX0 := Lib.hid (new_rk KK.out c hr)
  have HB0 := Lib.hid ((Below.refl w.heap.size w).alloc (Nat.le_refl _) (.cells #[.int .i64 st, .slice A fl c, .string bd, .bool cl] 24))
  have HG := Lib.hid hg
  have HFIT := Lib.hid (fit_any _ (hg.on HB0.out))
  have HZ := Lib.hid hz
  clear hr hz hg K0
  obtain ⟨p0, p1, p2, p3⟩ := HX0.out.cs KK.out
  cases b with
  | false =>
    clear e1 e2 e3 e4
    go_enter Tryd.func4, Tryd.ntmps4
    go_wp2_with fail
    generalize w.alloc (.cells #[.int .i64 st, .slice A fl c, .string bd, .bool cl] 24) = W0 at *
    refine HFIT.out.mono ?_
    rintro e w1 ⟨rfl, hb1⟩
    have HX1 := Lib.hid (HX0.out.on hb1)
    have HB1 := Lib.hid (bt HB0.out hb1)
    clear hb1 p0 p1 p2 p3
    obtain ⟨p0, p1, p2, p3⟩ := HX1.out.cs KK.out
    go_wp2_with fail
    refine (right_rk KK.out HX1.out HZ.out).mono ?_
    rintro e w2 ⟨rfl, hb2⟩
    go_wp2_with fail
    go_ret
    exact ⟨rfl, bt HB1.out hb2⟩
  | true =>
    have hp := right_parts KK.out.b
    have hst0 : 100 ≤ st := by have := hp.1; rw [e1] at this; omega
    have hst1 : st ≤ 999 := by have := hp.2.1; rw [e1] at this; omega
    obtain ⟨X, Y10, Y, Z, X8, Y8, Z8, dx, dy, dz, t1, t2, t3, t4, u1, u2, u3, u4, u5, u6, u7, u8, v1, v2, v3, hit⟩ := three_int st hst0 hst1
    have hcv3 := fun (W : World) => conv3 W X8 Y8 Z8 dx dy dz v1 v2 v3
    have HIT := Lib.hid hit
    clear v1 v2 v3 hit
    have HLE := Lib.hid (show (encTo st r.fs r.fs.length).length + r.body.size + 20 ≤ 10000 by have h1 := encL_ge r; have h2 := right_len KK.out.b; rw [e1] at h1; omega)
    have HBD := Lib.hid (show bd.size ≤ 2000 by rw [← e3]; exact hp.2.2.2.1)
    have hfl20 : fl ≤ 20 := by rw [← e2]; exact hp.2.2.1
    clear e1 e2 e3 e4 hp
    have HW := Lib.hid (word_any st)
    have hwl : (mkB (wordL st)).size ≤ 31 := by rw [mkB_size]; exact word_len st
    have k1 := add_str ⟨#[72, 84, 84, 80, 47, 49, 46, 49, 32]⟩ ⟨#[dx, dy, dz]⟩ (by show 9 + 3 ≤ _; omega)
    have k2 := add_str (⟨#[72, 84, 84, 80, 47, 49, 46, 49, 32]⟩ ++ ⟨#[dx, dy, dz]⟩) ⟨#[32]⟩ (by rw [app_size]; show 9 + 3 + 1 ≤ _; omega)
    have k3 := add_str (⟨#[72, 84, 84, 80, 47, 49, 46, 49, 32]⟩ ++ ⟨#[dx, dy, dz]⟩ ++ ⟨#[32]⟩) (mkB (wordL st)) (by rw [app_size, app_size]; show 9 + 3 + 1 + _ ≤ _; omega)
    have k4 := add_str (⟨#[72, 84, 84, 80, 47, 49, 46, 49, 32]⟩ ++ ⟨#[dx, dy, dz]⟩ ++ ⟨#[32]⟩ ++ mkB (wordL st)) ⟨#[13, 10]⟩ (by rw [app_size, app_size, app_size]; show 9 + 3 + 1 + _ + 2 ≤ _; omega)
    have HS4 : Hid (⟨#[72, 84, 84, 80, 47, 49, 46, 49, 32]⟩ ++ ⟨#[dx, dy, dz]⟩ ++ ⟨#[32]⟩ ++ mkB (wordL st) ++ ⟨#[13, 10]⟩ = mkB (encTo st r.fs 0)) := bytes_ext (by
      simp only [app_data, mkB_data, encTo, firstL, HIT.out]
      simp [httpL, crlf])
    clear hwl
    generalize (⟨#[72, 84, 84, 80, 47, 49, 46, 49, 32]⟩ ++ ⟨#[dx, dy, dz]⟩ ++ ⟨#[32]⟩ ++ mkB (wordL st) ++ ⟨#[13, 10]⟩ : ByteArray) = S4 at *
    generalize (⟨#[72, 84, 84, 80, 47, 49, 46, 49, 32]⟩ ++ ⟨#[dx, dy, dz]⟩ ++ ⟨#[32]⟩ ++ mkB (wordL st) : ByteArray) = S3 at *
    generalize (⟨#[72, 84, 84, 80, 47, 49, 46, 49, 32]⟩ ++ ⟨#[dx, dy, dz]⟩ ++ ⟨#[32]⟩ : ByteArray) = S2 at *
    generalize (⟨#[72, 84, 84, 80, 47, 49, 46, 49, 32]⟩ ++ ⟨#[dx, dy, dz]⟩ : ByteArray) = S1 at *
    generalize (⟨#[dx, dy, dz]⟩ : ByteArray) = E0 at *
    generalize mkB (wordL st) = WD at *
    go_enter Tryd.func4, Tryd.ntmps4
    go_wp2_with fail
    generalize w.alloc (.cells #[.int .i64 st, .slice A fl c, .string bd, .bool cl] 24) = W0 at *
    refine HFIT.out.mono ?_
    rintro e w1 ⟨rfl, hb1⟩
    have HX1 := Lib.hid (HX0.out.on hb1)
    have HB1 := Lib.hid (bt HB0.out hb1)
    clear hb1 p0 p1 p2 p3
    obtain ⟨p0, p1, p2, p3⟩ := HX1.out.cs KK.out
    go_wp2_with fail
    refine (right_rk KK.out HX1.out HZ.out).mono ?_
    rintro e w2 ⟨rfl, hb2⟩
    have HX2 := Lib.hid (HX1.out.on hb2)
    have HB2 := Lib.hid (bt HB1.out hb2)
    clear hb2 p0 p1 p2 p3
    obtain ⟨p0, p1, p2, p3⟩ := HX2.out.cs KK.out
    have HK : Hid (∀ W, Below w2.heap.size w2.drew W → W.cell? ⟨w.heap.size, 0, none⟩ = some (.int .i64 st)) := fun W h => ((HX2.out.drew.on h).cs KK.out).1
    have hcv : (convert 32 9 (.slice (some ⟨w2.heap.size, 0, none⟩) 3 3)).run Tryd.prog (w2.alloc (.cells #[.int .u8 X8, .int .u8 Y8, .int .u8 Z8] 5)).drew = .ok (.string E0) (w2.alloc (.cells #[.int .u8 X8, .int .u8 Y8, .int .u8 Z8] 5)).drew := hcv3 w2.drew
    clear hcv3
    have hb0 : Below w2.heap.size w2.drew w2.drew := Below.refl _ _
    have hb5 : Below w2.heap.size w2.drew (w2.drew.alloc (.cells #[.int .u8 X8, .int .u8 Y8, .int .u8 Z8] 5)) := hb0.alloc (Nat.le_refl _) _
    go_wp2_with fail
    apply region_one
    · refine wp_region_held_drew (S := fun W => W.cell? ⟨w.heap.size, 0, none⟩ = some (.int .i64 st)) (by kernel_rfl) (HK.out _ hb0) (fun hHeld => ?_)
      refine give_at 0 15 (.pointer (some ⟨w.heap.size, 0, none⟩)) rfl rfl (by kernel_rfl) (by kernel_rfl) (by kernel_rfl) (fun _ _ _ h => nomatch h.1) (by rfl) (by intro w hSw; (try dsimp only at hSw); go_simp) (by assumption) ?_
      simp only [Act.put, List.setIfInBounds_toArray, List.set_cons_zero, List.set_cons_succ]
      refine give_at 1 16 (.int .i64 st) rfl rfl (by kernel_rfl) (by kernel_rfl) (by kernel_rfl) (fun _ _ _ h => nomatch h.1) (by rfl) (by intro w hSw; (try dsimp only at hSw); go_simp) (by assumption) ?_
      simp only [Act.put, List.setIfInBounds_toArray, List.set_cons_zero, List.set_cons_succ]
      refine give_at 2 17 (.int .i64 X) rfl rfl (by kernel_rfl) (by kernel_rfl) (by kernel_rfl) (fun _ _ _ h => nomatch h.1) (by rfl) (by intro w hSw; (try dsimp only at hSw); go_simp) (by assumption) ?_
      simp only [Act.put, List.setIfInBounds_toArray, List.set_cons_zero, List.set_cons_succ]
      refine give_at 3 18 (.int .i64 X8) rfl rfl (by kernel_rfl) (by kernel_rfl) (by kernel_rfl) (fun _ _ _ h => nomatch h.1) (by rfl) (by intro w hSw; (try dsimp only at hSw); go_simp) (by assumption) ?_
      simp only [Act.put, List.setIfInBounds_toArray, List.set_cons_zero, List.set_cons_succ]
      refine give_at 4 19 (.int .u8 X8) rfl rfl (by kernel_rfl) (by kernel_rfl) (by kernel_rfl) (fun _ _ _ h => nomatch h.1) (by rfl) (by intro w hSw; (try dsimp only at hSw); go_simp) (by assumption) ?_
      simp only [Act.put, List.setIfInBounds_toArray, List.set_cons_zero, List.set_cons_succ]
      refine give_at 5 20 (.pointer (some ⟨w.heap.size, 0, none⟩)) rfl rfl (by kernel_rfl) (by kernel_rfl) (by kernel_rfl) (fun _ _ _ h => nomatch h.1) (by rfl) (by intro w hSw; (try dsimp only at hSw); go_simp) (by assumption) ?_
      simp only [Act.put, List.setIfInBounds_toArray, List.set_cons_zero, List.set_cons_succ]
      refine give_at 6 21 (.int .i64 st) rfl rfl (by kernel_rfl) (by kernel_rfl) (by kernel_rfl) (fun _ _ _ h => nomatch h.1) (by rfl) (by intro w hSw; (try dsimp only at hSw); go_simp) (by assumption) ?_
      simp only [Act.put, List.setIfInBounds_toArray, List.set_cons_zero, List.set_cons_succ]
      refine give_at 7 22 (.int .i64 Y10) rfl rfl (by kernel_rfl) (by kernel_rfl) (by kernel_rfl) (fun _ _ _ h => nomatch h.1) (by rfl) (by intro w hSw; (try dsimp only at hSw); go_simp) (by assumption) ?_
      simp only [Act.put, List.setIfInBounds_toArray, List.set_cons_zero, List.set_cons_succ]
      refine give_at 8 23 (.int .i64 Y) rfl rfl (by kernel_rfl) (by kernel_rfl) (by kernel_rfl) (fun _ _ _ h => nomatch h.1) (by rfl) (by intro w hSw; (try dsimp only at hSw); go_simp) (by assumption) ?_
      simp only [Act.put, List.setIfInBounds_toArray, List.set_cons_zero, List.set_cons_succ]
      refine give_at 9 24 (.int .i64 Y8) rfl rfl (by kernel_rfl) (by kernel_rfl) (by kernel_rfl) (fun _ _ _ h => nomatch h.1) (by rfl) (by intro w hSw; (try dsimp only at hSw); go_simp) (by assumption) ?_
      simp only [Act.put, List.setIfInBounds_toArray, List.set_cons_zero, List.set_cons_succ]
      refine give_at 10 25 (.int .u8 Y8) rfl rfl (by kernel_rfl) (by kernel_rfl) (by kernel_rfl) (fun _ _ _ h => nomatch h.1) (by rfl) (by intro w hSw; (try dsimp only at hSw); go_simp) (by assumption) ?_
      simp only [Act.put, List.setIfInBounds_toArray, List.set_cons_zero, List.set_cons_succ]
      refine give_at 11 26 (.pointer (some ⟨w.heap.size, 0, none⟩)) rfl rfl (by kernel_rfl) (by kernel_rfl) (by kernel_rfl) (fun _ _ _ h => nomatch h.1) (by rfl) (by intro w hSw; (try dsimp only at hSw); go_simp) (by assumption) ?_
      simp only [Act.put, List.setIfInBounds_toArray, List.set_cons_zero, List.set_cons_succ]
      refine give_at 12 27 (.int .i64 st) rfl rfl (by kernel_rfl) (by kernel_rfl) (by kernel_rfl) (fun _ _ _ h => nomatch h.1) (by rfl) (by intro w hSw; (try dsimp only at hSw); go_simp) (by assumption) ?_
      simp only [Act.put, List.setIfInBounds_toArray, List.set_cons_zero, List.set_cons_succ]
      refine give_at 13 28 (.int .i64 Z) rfl rfl (by kernel_rfl) (by kernel_rfl) (by kernel_rfl) (fun _ _ _ h => nomatch h.1) (by rfl) (by intro w hSw; (try dsimp only at hSw); go_simp) (by assumption) ?_
      simp only [Act.put, List.setIfInBounds_toArray, List.set_cons_zero, List.set_cons_succ]
      refine give_at 14 29 (.int .i64 Z8) rfl rfl (by kernel_rfl) (by kernel_rfl) (by kernel_rfl) (fun _ _ _ h => nomatch h.1) (by rfl) (by intro w hSw; (try dsimp only at hSw); go_simp) (by assumption) ?_
      simp only [Act.put, List.setIfInBounds_toArray, List.set_cons_zero, List.set_cons_succ]
      refine give_at 15 30 (.int .u8 Z8) rfl rfl (by kernel_rfl) (by kernel_rfl) (by kernel_rfl) (fun _ _ _ h => nomatch h.1) (by rfl) (by intro w hSw; (try dsimp only at hSw); go_simp) (by assumption) ?_
      simp only [Act.put, List.setIfInBounds_toArray, List.set_cons_zero, List.set_cons_succ]
      refine give_at 20 35 (.pointer (some ⟨w.heap.size, 0, none⟩)) rfl rfl (by kernel_rfl) (by kernel_rfl) (by kernel_rfl) (fun _ _ _ h => nomatch h.1) (by rfl) (by intro w hSw; (try dsimp only at hSw); go_simp) (by assumption) ?_
      simp only [Act.put, List.setIfInBounds_toArray, List.set_cons_zero, List.set_cons_succ]
      refine give_at 21 36 (.int .i64 st) rfl rfl (by kernel_rfl) (by kernel_rfl) (by kernel_rfl) (fun _ _ _ h => nomatch h.1) (by rfl) (by intro w hSw; (try dsimp only at hSw); go_simp) (by assumption) ?_
      simp only [Act.put, List.setIfInBounds_toArray, List.set_cons_zero, List.set_cons_succ]
      refine wpAnyH_ready (rs := [16, 22]) (by kernel_rfl) (by simp) ?_
      refine AllReadyH.cons (o := { dst := some 31, op := Op.buildSlice 32 3 #[(0, Operand.tmp 19), (1, Operand.tmp 25), (2, Operand.tmp 30)], type := 32, pos := "law.go:87", after := #[{ on := 4, ground := Ground.data }, { on := 10, ground := Ground.data }, { on := 15, ground := Ground.data }], guard := none }) rfl (fun K hK => ?_) (AllReadyH.cons (o := { dst := some 37, op := Op.call { callee := Callee.value (Operand.func 14), args := #[Operand.tmp 36], argTypes := #[3] }, type := 9, pos := "law.go:87", after := #[{ on := 21, ground := Ground.data }], guard := none }) rfl (fun K hK => ?_) AllReadyH.nil)
      · go_simp
        refine hK.out _ _ ?_ (fun hHeld => ?_)
        · exact HK.out _ hb5
        clear hK K
        try simp only [Act.put, List.setIfInBounds_toArray, List.set_cons_zero, List.set_cons_succ]
        refine wpAnyH_ready (rs := [17, 22]) (by kernel_rfl) (by simp) ?_
        refine AllReadyH.cons (o := { dst := some 32, op := Op.convert 32 9 (Operand.tmp 31), type := 9, pos := "law.go:87", after := #[{ on := 16, ground := Ground.data }], guard := none }) rfl (fun K hK => ?_) (AllReadyH.cons (o := { dst := some 37, op := Op.call { callee := Callee.value (Operand.func 14), args := #[Operand.tmp 36], argTypes := #[3] }, type := 9, pos := "law.go:87", after := #[{ on := 21, ground := Ground.data }], guard := none }) rfl (fun K hK => ?_) AllReadyH.nil)
        · go_simp
          refine hK.out _ _ ?_ (fun hHeld => ?_)
          · exact HK.out _ hb5
          clear hK K
          try simp only [Act.put, List.setIfInBounds_toArray, List.set_cons_zero, List.set_cons_succ]
          refine give_at 18 33 (.string S1) rfl rfl (by kernel_rfl) (by kernel_rfl) (by kernel_rfl) (fun _ _ _ h => nomatch h.1) (by rfl) (by intro w hSw; (try dsimp only at hSw); go_simp) (by assumption) ?_
          simp only [Act.put, List.setIfInBounds_toArray, List.set_cons_zero, List.set_cons_succ]
          refine give_at 19 34 (.string S2) rfl rfl (by kernel_rfl) (by kernel_rfl) (by kernel_rfl) (fun _ _ _ h => nomatch h.1) (by rfl) (by intro w hSw; (try dsimp only at hSw); go_simp) (by assumption) ?_
          simp only [Act.put, List.setIfInBounds_toArray, List.set_cons_zero, List.set_cons_succ]
          refine wpAnyH_ready (rs := [22]) (by kernel_rfl) (by simp) ?_
          refine AllReadyH.cons (o := { dst := some 37, op := Op.call { callee := Callee.value (Operand.func 14), args := #[Operand.tmp 36], argTypes := #[3] }, type := 9, pos := "law.go:87", after := #[{ on := 21, ground := Ground.data }], guard := none }) rfl (fun K hK => ?_) AllReadyH.nil
          go_simp
          (go_at_call 14; refine (HW.out _).mono ?_; rintro e w5 ⟨rfl, rfl⟩)
          go_wp2_with fail
          refine hK.out _ _ ?_ (fun hHeld => ?_)
          · exact HK.out _ hb5
          clear hK K
          try simp only [Act.put, List.setIfInBounds_toArray, List.set_cons_zero, List.set_cons_succ]
          refine give_at 23 38 (.string S3) rfl rfl (by kernel_rfl) (by kernel_rfl) (by kernel_rfl) (fun _ _ _ h => nomatch h.1) (by rfl) (by intro w hSw; (try dsimp only at hSw); go_simp) (by assumption) ?_
          simp only [Act.put, List.setIfInBounds_toArray, List.set_cons_zero, List.set_cons_succ]
          refine give_at 24 39 (.string S4) rfl rfl (by kernel_rfl) (by kernel_rfl) (by kernel_rfl) (fun _ _ _ h => nomatch h.1) (by rfl) (by intro w hSw; (try dsimp only at hSw); go_simp) (by assumption) ?_
          simp only [Act.put, List.setIfInBounds_toArray, List.set_cons_zero, List.set_cons_succ]
          refine give_at 25 3 (.string S4) rfl rfl (by kernel_rfl) (by kernel_rfl) (by kernel_rfl) (fun _ _ _ h => nomatch h.1) (by rfl) (by intro w hSw; (try dsimp only at hSw); go_simp) (by assumption) ?_
          simp only [Act.put, List.setIfInBounds_toArray, List.set_cons_zero, List.set_cons_succ]
          refine wpAnyH_done (by kernel_rfl) ?_ _
          exact ⟨rfl, rfl, rfl⟩
        · go_simp
          (go_at_call 14; refine (HW.out _).mono ?_; rintro e w5 ⟨rfl, rfl⟩)
          go_wp2_with fail
          refine hK.out _ _ ?_ (fun hHeld => ?_)
          · exact HK.out _ hb5
          clear hK K
          try simp only [Act.put, List.setIfInBounds_toArray, List.set_cons_zero, List.set_cons_succ]
          refine wpAnyH_ready (rs := [17]) (by kernel_rfl) (by simp) ?_
          refine AllReadyH.cons (o := { dst := some 32, op := Op.convert 32 9 (Operand.tmp 31), type := 9, pos := "law.go:87", after := #[{ on := 16, ground := Ground.data }], guard := none }) rfl (fun K hK => ?_) AllReadyH.nil
          go_simp
          refine hK.out _ _ ?_ (fun hHeld => ?_)
          · exact HK.out _ hb5
          clear hK K
          try simp only [Act.put, List.setIfInBounds_toArray, List.set_cons_zero, List.set_cons_succ]
          refine give_at 18 33 (.string S1) rfl rfl (by kernel_rfl) (by kernel_rfl) (by kernel_rfl) (fun _ _ _ h => nomatch h.1) (by rfl) (by intro w hSw; (try dsimp only at hSw); go_simp) (by assumption) ?_
          simp only [Act.put, List.setIfInBounds_toArray, List.set_cons_zero, List.set_cons_succ]
          refine give_at 19 34 (.string S2) rfl rfl (by kernel_rfl) (by kernel_rfl) (by kernel_rfl) (fun _ _ _ h => nomatch h.1) (by rfl) (by intro w hSw; (try dsimp only at hSw); go_simp) (by assumption) ?_
          simp only [Act.put, List.setIfInBounds_toArray, List.set_cons_zero, List.set_cons_succ]
          refine give_at 23 38 (.string S3) rfl rfl (by kernel_rfl) (by kernel_rfl) (by kernel_rfl) (fun _ _ _ h => nomatch h.1) (by rfl) (by intro w hSw; (try dsimp only at hSw); go_simp) (by assumption) ?_
          simp only [Act.put, List.setIfInBounds_toArray, List.set_cons_zero, List.set_cons_succ]
          refine give_at 24 39 (.string S4) rfl rfl (by kernel_rfl) (by kernel_rfl) (by kernel_rfl) (fun _ _ _ h => nomatch h.1) (by rfl) (by intro w hSw; (try dsimp only at hSw); go_simp) (by assumption) ?_
          simp only [Act.put, List.setIfInBounds_toArray, List.set_cons_zero, List.set_cons_succ]
          refine give_at 25 3 (.string S4) rfl rfl (by kernel_rfl) (by kernel_rfl) (by kernel_rfl) (fun _ _ _ h => nomatch h.1) (by rfl) (by intro w hSw; (try dsimp only at hSw); go_simp) (by assumption) ?_
          simp only [Act.put, List.setIfInBounds_toArray, List.set_cons_zero, List.set_cons_succ]
          refine wpAnyH_done (by kernel_rfl) ?_ _
          exact ⟨rfl, rfl, rfl⟩
      · go_simp
        (go_at_call 14; refine (HW.out _).mono ?_; rintro e w5 ⟨rfl, rfl⟩)
        go_wp2_with fail
        refine hK.out _ _ ?_ (fun hHeld => ?_)
        · exact HK.out _ hb0
        clear hK K
        try simp only [Act.put, List.setIfInBounds_toArray, List.set_cons_zero, List.set_cons_succ]
        refine wpAnyH_ready (rs := [16]) (by kernel_rfl) (by simp) ?_
        refine AllReadyH.cons (o := { dst := some 31, op := Op.buildSlice 32 3 #[(0, Operand.tmp 19), (1, Operand.tmp 25), (2, Operand.tmp 30)], type := 32, pos := "law.go:87", after := #[{ on := 4, ground := Ground.data }, { on := 10, ground := Ground.data }, { on := 15, ground := Ground.data }], guard := none }) rfl (fun K hK => ?_) AllReadyH.nil
        go_simp
        refine hK.out _ _ ?_ (fun hHeld => ?_)
        · exact HK.out _ hb5
        clear hK K
        try simp only [Act.put, List.setIfInBounds_toArray, List.set_cons_zero, List.set_cons_succ]
        refine wpAnyH_ready (rs := [17]) (by kernel_rfl) (by simp) ?_
        refine AllReadyH.cons (o := { dst := some 32, op := Op.convert 32 9 (Operand.tmp 31), type := 9, pos := "law.go:87", after := #[{ on := 16, ground := Ground.data }], guard := none }) rfl (fun K hK => ?_) AllReadyH.nil
        go_simp
        refine hK.out _ _ ?_ (fun hHeld => ?_)
        · exact HK.out _ hb5
        clear hK K
        try simp only [Act.put, List.setIfInBounds_toArray, List.set_cons_zero, List.set_cons_succ]
        refine give_at 18 33 (.string S1) rfl rfl (by kernel_rfl) (by kernel_rfl) (by kernel_rfl) (fun _ _ _ h => nomatch h.1) (by rfl) (by intro w hSw; (try dsimp only at hSw); go_simp) (by assumption) ?_
        simp only [Act.put, List.setIfInBounds_toArray, List.set_cons_zero, List.set_cons_succ]
        refine give_at 19 34 (.string S2) rfl rfl (by kernel_rfl) (by kernel_rfl) (by kernel_rfl) (fun _ _ _ h => nomatch h.1) (by rfl) (by intro w hSw; (try dsimp only at hSw); go_simp) (by assumption) ?_
        simp only [Act.put, List.setIfInBounds_toArray, List.set_cons_zero, List.set_cons_succ]
        refine give_at 23 38 (.string S3) rfl rfl (by kernel_rfl) (by kernel_rfl) (by kernel_rfl) (fun _ _ _ h => nomatch h.1) (by rfl) (by intro w hSw; (try dsimp only at hSw); go_simp) (by assumption) ?_
        simp only [Act.put, List.setIfInBounds_toArray, List.set_cons_zero, List.set_cons_succ]
        refine give_at 24 39 (.string S4) rfl rfl (by kernel_rfl) (by kernel_rfl) (by kernel_rfl) (fun _ _ _ h => nomatch h.1) (by rfl) (by intro w hSw; (try dsimp only at hSw); go_simp) (by assumption) ?_
        simp only [Act.put, List.setIfInBounds_toArray, List.set_cons_zero, List.set_cons_succ]
        refine give_at 25 3 (.string S4) rfl rfl (by kernel_rfl) (by kernel_rfl) (by kernel_rfl) (fun _ _ _ h => nomatch h.1) (by rfl) (by intro w hSw; (try dsimp only at hSw); go_simp) (by assumption) ?_
        simp only [Act.put, List.setIfInBounds_toArray, List.set_cons_zero, List.set_cons_succ]
        refine wpAnyH_done (by kernel_rfl) ?_ _
        exact ⟨rfl, rfl, rfl⟩
    · have HX3 := Lib.hid (HX2.out.on ((Below.refl _ w2).alloc (Nat.le_refl _) (.cells #[.int .u8 X8, .int .u8 Y8, .int .u8 Z8] 5)))
      have HBZ : Hid (Below w2.heap.size w2 (w2.alloc (.cells #[.int .u8 X8, .int .u8 Y8, .int .u8 Z8] 5)).drew) := ((Below.refl _ w2).alloc (Nat.le_refl _) _).drew
      clear p0 p1 p2 p3 hcv HK hb0 hb5 k1 k2 k3 k4 HW
      obtain ⟨p0, p1, p2, p3⟩ := HX3.out.cs KK.out
      go_wp2_with fail
      clear p0 p1 p2 p3
      go_loopw [3, 43] (fun s i wr => ∃ (k : Nat) (S : ByteArray), k ≤ fl ∧ s = .string S ∧ i = .int .i64 k ∧ Hid (S = mkB (encTo st r.fs k)) ∧ Hid (Below w2.heap.size w2 wr)) (fun _ i _ => fl - (intOf i).toNat)
      case atStart => exact ⟨0, S4, by omega, rfl, rfl, HS4, HBZ⟩
      case round =>
        obtain ⟨k, S, hk, rfl, rfl, HS, HBR⟩ := hrel
        have HXR := Lib.hid (HX2.out.on HBR.out)
        have hSz : S.size ≤ 10000 := by
          have h1 := encTo_len st r.fs k
          have h2 := HLE.out
          rw [HS.out, mkB_size]
          omega
        by_cases hlt : k < fl
        · have hlt2 : k < r.fs.length := by have := KK.out.fl; omega
          obtain ⟨a, rfl, hab, hc⟩ := HXR.out.fl.2 (by omega)
          have hc0 : wr.cell? (a.add (k * 2)) = some (.string (r.fs[k]).1) := hc _ _ (fldCells_at r.fs k hlt2).1
          have hc1 : wr.cell? ⟨(a.add (k * 2)).block, (a.add (k * 2)).off + 1, none⟩ = some (.string (r.fs[k]).2) := by rw [add_next]; exact hc _ _ (fldCells_at r.fs k hlt2).2
          have hsn := encTo_snoc st r.fs k hlt2
          have hsz : (r.fs[k]).1.size + (r.fs[k]).2.size ≤ 10000 := by
            have h1 := encTo_len st r.fs (k + 1)
            have h2 := HLE.out
            rw [hsn, List.length_append, data_len, app_size, app_size, app_size] at h1
            omega
          have HSN : Hid (S ++ ((r.fs[k]).1 ++ ⟨#[58, 32]⟩ ++ (r.fs[k]).2 ++ ⟨#[13, 10]⟩) = mkB (encTo st r.fs (k + 1))) := bytes_ext (by rw [app_data, mkB_data, hsn, HS.out, mkB_data])
          clear hc hsn
          generalize (r.fs[k]).1 = f1 at *
          generalize (r.fs[k]).2 = f2 at *
          have k1 := add_str f1 ⟨#[58, 32]⟩ (by show _ + 2 ≤ _; omega)
          have k2 := add_str (f1 ++ ⟨#[58, 32]⟩) f2 (by rw [app_size]; show _ + 2 + _ ≤ _; omega)
          have k3 := add_str (f1 ++ ⟨#[58, 32]⟩ ++ f2) ⟨#[13, 10]⟩ (by rw [app_size, app_size]; show _ + 2 + _ + 2 ≤ _; omega)
          have k4 := add_str S (f1 ++ ⟨#[58, 32]⟩ ++ f2 ++ ⟨#[13, 10]⟩) (by rw [app_size, app_size, app_size]; show _ + (_ + 2 + _ + 2) ≤ _; omega)
          generalize (S ++ (f1 ++ ⟨#[58, 32]⟩ ++ f2 ++ ⟨#[13, 10]⟩) : ByteArray) = SS at *
          generalize (f1 ++ ⟨#[58, 32]⟩ ++ f2 ++ ⟨#[13, 10]⟩ : ByteArray) = y3 at *
          generalize (f1 ++ ⟨#[58, 32]⟩ ++ f2 : ByteArray) = y2 at *
          generalize (f1 ++ ⟨#[58, 32]⟩ : ByteArray) = y1 at *
          have HBN : Hid (Below w2.heap.size w2 (wr.alloc (.cells #[.string f1, .string f2] 35))) := HBR.out.alloc HBR.out.size _
          go_wp2_with fail
          go_roundw
          case rel => exact ⟨k + 1, SS, by omega, rfl, by go_num, HSN, HBN⟩
          case measure => simp [intOf]; omega
        · obtain rfl : k = fl := by omega
          obtain ⟨p0, p1, p2, p3⟩ := HXR.out.cs KK.out
          obtain ⟨SC, hSC⟩ : ∃ SC : ByteArray, SC = if cl = true then S ++ closeB else S := ⟨_, rfl⟩
          have hSCz : SC.size ≤ 10019 := by
            rw [hSC]
            have : closeB.size = 19 := rfl
            split
            · rw [app_size]; omega
            · omega
          have HSC : Hid (SC.data.toList = encTo st r.fs r.fs.length ++ (if cl = true then closingL else [])) := by
            have e0 := KK.out.fl
            have h1 : S.data.toList = encTo st r.fs r.fs.length := by rw [HS.out, mkB_data, e0]
            show _ = _
            rw [hSC]
            cases cl
            · simp only [Bool.false_eq_true, if_false, List.append_nil]; exact h1
            · simp only [if_true]; rw [app_data, h1]; rfl
          have kc := add_str S closeB (by have : closeB.size = 19 := rfl; omega)
          have HSX : Hid (cl = true → S ++ closeB = SC) := fun h => by rw [hSC, if_pos h]
          have HSY : Hid (cl = false → S = SC) := fun h => by rw [hSC, h]; rfl
          clear hSC HS hSz
          unfold closeB at kc
          have key : ∀ (s0 : ByteArray), s0 = SC → True := fun _ _ => trivial
          clear key
          cases cl with
          | true =>
            have hx := HSX.out rfl
            unfold closeB at hx
            rw [hx] at kc
            clear hx HSX HSY
            go_wp2_with fail
            clear p0 p1 p2 p3
            go_loopw [6, 7, 8] (fun n d o wq => ∃ (m : Nat) (Dd : ByteArray) (ok : Bool), n = .int .i64 (m : Int) ∧ d = .string Dd ∧ o = .bool ok ∧ m ≤ 2000 ∧ Hid (DS bd.size m Dd ok) ∧ Hid (Below w2.heap.size w2 wq)) (fun n _ o _ => match o with | .bool true => (intOf n).toNat + 1 | _ => 0)
            case atStart => exact ⟨bd.size, ⟨#[]⟩, true, rfl, rfl, rfl, HBD.out, ds_start _, HBR⟩
            case round =>
              obtain ⟨m, Dd, ok, rfl, rfl, rfl, hm, HDS, HBQ⟩ := hrel
              have hDz : Dd.size ≤ 21 := by
                have h1 := Lib.itoa_length_le (bd.size : Int) (by omega) (by have := HBD.out; omega)
                rw [itoa_nat] at h1
                rcases HDS.out with ⟨_, h2⟩ | ⟨_, h2⟩
                · rw [h2, List.length_append, data_len] at h1; omega
                · rw [h2, data_len] at h1; omega
              cases ok with
              | true =>
                obtain ⟨Q, Q8, M2, dq, a1, a2, a3, a4, a5, a6, a7, a8⟩ := dig_int m hm
                have hcv : (convert 32 9 (.slice (some ⟨wr.heap.size, 0, none⟩) 1 1)).run Tryd.prog (wr.alloc (.cells #[.int .u8 Q8] 5)) = .ok (.string ⟨#[dq]⟩) (wr.alloc (.cells #[.int .u8 Q8] 5)) := conv1 wr Q8 dq a6
                have kd := add_str ⟨#[dq]⟩ Dd (by show 1 + _ ≤ _; omega)
                have HDN : Hid (DS bd.size (m / 10) (⟨#[dq]⟩ ++ Dd) (decide (0 < m / 10))) := ds_more HDS.out (by rw [app_data, a7]; rfl)
                have HBN : Hid (Below w2.heap.size w2 (wr.alloc (.cells #[.int .u8 Q8] 5))) := HBQ.out.alloc HBQ.out.size _
                clear a6 a7
                generalize (⟨#[dq]⟩ ++ Dd : ByteArray) = D2 at *
                generalize (⟨#[dq]⟩ : ByteArray) = B1 at *
                by_cases h10 : m < 10
                · obtain rfl : M2 = 0 := by omega
                  have HDF : Hid (DS bd.size 0 D2 false) := by
                    have := HDN.out
                    have e : m / 10 = 0 := by omega
                    rw [e] at this
                    exact this
                  clear a8 HDN
                  go_wp2_with fail
                  go_roundw
                  case rel => exact ⟨0, D2, false, rfl, rfl, rfl, by omega, HDF, HBN⟩
                  case measure => simp [intOf]
                · have hpos : 0 < M2 := by omega
                  have HM2 := Lib.hid a8
                  have HDF : Hid (DS bd.size (m / 10) D2 true) := by
                    have := HDN.out
                    rw [decide_eq_true (by omega)] at this
                    exact this
                  clear a8 HDN
                  go_wp2_with fail
                  go_roundw
                  case rel => exact ⟨m / 10, D2, true, by rw [HM2.out], rfl, rfl, by omega, HDF, HBN⟩
                  case measure => simp [intOf]; have := HM2.out; omega
              | false =>
                have HXQ := Lib.hid (HX2.out.on HBQ.out)
                have HDD : Hid (Lib.decDigits bd.size = Dd.data.toList) := by
                  rcases HDS.out with ⟨h, _⟩ | ⟨_, h⟩
                  · cases h
                  · exact h
                have hlb : lenB.size = 16 := rfl
                have hcc : (⟨#[13, 10, 13, 10]⟩ : ByteArray).size = 4 := rfl
                have hbz := HBD.out
                have z1 := add_str SC lenB (by omega)
                have z2 := add_str (SC ++ lenB) Dd (by rw [app_size]; omega)
                have z3 := add_str (SC ++ lenB ++ Dd) ⟨#[13, 10, 13, 10]⟩ (by rw [app_size, app_size]; omega)
                have z4 := add_str (SC ++ lenB ++ Dd ++ ⟨#[13, 10, 13, 10]⟩) bd (by rw [app_size, app_size, app_size]; omega)
                have hE : SC ++ lenB ++ Dd ++ ⟨#[13, 10, 13, 10]⟩ ++ bd = mkB (encL r) := bytes_ext (by
                  simp only [app_data]
                  rw [HSC.out, mkB_data, ← HDD.out, encTo_all, KK.out.st]
                  unfold tailL
                  rw [KK.out.cl, KK.out.bd, itoa_nat]
                  simp [lenB, lengthIs, crlf])
                rw [hE] at z4
                clear hE HDS HDD HSC
                generalize (SC ++ lenB ++ Dd ++ ⟨#[13, 10, 13, 10]⟩ : ByteArray) = Z3 at *
                generalize (SC ++ lenB ++ Dd : ByteArray) = Z2 at *
                generalize (SC ++ lenB : ByteArray) = Z1 at *
                unfold lenB at z1
                have HEN := Lib.hid (fun (w : World) (g : Nat) (h : RB w g r A c) (hg : GB w) => enc_rk KK.out h hg)
                have HP := Lib.hid (fun (w : World) => plain_any st true w)
                have HW := Lib.hid (fun (w : World) => word_any st w)
                have hwl : (mkB (wordL st)).size ≤ 31 := by rw [mkB_size]; exact word_len st
                have y1 := add_str (mkB (wordL st)) ⟨#[10]⟩ (by show _ + 1 ≤ _; omega)
                have he : mkB (wordL st) ++ ⟨#[10]⟩ = mkB (wordL st ++ [10]) := bytes_ext (by rw [app_data, mkB_data, mkB_data])
                rw [he] at y1
                clear he hwl
                generalize mkB (wordL st ++ [10]) = PB at *
                generalize mkB (wordL st) = WQ at *
                generalize mkB (encL r) = EE at *
                have hq1 : (EE.toList == EE.toList) = true := by simp
                have hq2 : (PB.toList == PB.toList) = true := by simp
                obtain ⟨p0, p1, p2, p3⟩ := HXQ.out.cs KK.out
                go_wp2_with fail
                refine (HP.out wr).mono ?_
                rintro e w8 ⟨rfl, hb8⟩
                have HAL := Lib.hid ((Below.refl _ w8).alloc (Nat.le_refl _) (.cells #[.int .i64 st, .slice none 0 0, .string PB, .bool true] 24))
                have HX8 := Lib.hid ((HXQ.out.on hb8).on HAL.out)
                have HB8 : Hid (Below w.heap.size w (w8.alloc (.cells #[.int .i64 st, .slice none 0 0, .string PB, .bool true] 24))) := bt (bt (bt HB2.out HBQ.out) hb8) HAL.out
                have HPB := Lib.hid (heap_alloc_new w8 (.cells #[.int .i64 st, .slice none 0 0, .string PB, .bool true] 24))
                clear hb8 p0 p1 p2 p3
                have HKK : Hid (∀ W, Below (w8.alloc (.cells #[.int .i64 st, .slice none 0 0, .string PB, .bool true] 24)).heap.size (w8.alloc (.cells #[.int .i64 st, .slice none 0 0, .string PB, .bool true] 24)).drew W → (W.cell? ⟨w.heap.size, 0, none⟩ = some (.int .i64 st) ∧ W.cell? ⟨w.heap.size, 1, none⟩ = some (.slice A k c) ∧ W.cell? ⟨w.heap.size, 2, none⟩ = some (.string bd) ∧ W.cell? ⟨w.heap.size, 3, none⟩ = some (.bool true)) ∧ W.cell? ⟨w8.heap.size, 1, none⟩ = some (.slice none 0 0) ∧ W.cell? ⟨w8.heap.size, 2, none⟩ = some (.string PB) ∧ W.cell? ⟨w8.heap.size, 3, none⟩ = some (.bool true)) := fun W h => by
                  have hk := (h.block w8.heap.size (blk_lt HPB.out)).trans HPB.out
                  exact ⟨(HX8.out.drew.on h).cs KK.out, blk_cell hk 1, blk_cell hk 2, blk_cell hk 3⟩
                have HEE : Hid (∀ W, Below (w8.alloc (.cells #[.int .i64 st, .slice none 0 0, .string PB, .bool true] 24)).heap.size (w8.alloc (.cells #[.int .i64 st, .slice none 0 0, .string PB, .bool true] 24)).drew W → Calls Tryd.prog 11 #[.agg #[.int .i64 st, .slice A k c, .string bd, .bool true]] W fun e w' => e = .returned (.string EE) ∧ Below W.heap.size W w') := fun W h => HEN.out W _ (HX8.out.drew.on h) ((HG.out.on HB8.out).on ((Below.refl _ _).drew.trans h))
                have hb0 : Below (w8.alloc (.cells #[.int .i64 st, .slice none 0 0, .string PB, .bool true] 24)).heap.size (w8.alloc (.cells #[.int .i64 st, .slice none 0 0, .string PB, .bool true] 24)).drew (w8.alloc (.cells #[.int .i64 st, .slice none 0 0, .string PB, .bool true] 24)).drew := Below.refl _ _
                go_wp2_with fail
                generalize w8.alloc (.cells #[.int .i64 st, .slice none 0 0, .string PB, .bool true] 24) = W8 at *
                generalize w8.heap.size = G8 at *
                go_region_held3 (fun W => (W.cell? ⟨w.heap.size, 0, none⟩ = some (.int .i64 st) ∧ W.cell? ⟨w.heap.size, 1, none⟩ = some (.slice A k c) ∧ W.cell? ⟨w.heap.size, 2, none⟩ = some (.string bd) ∧ W.cell? ⟨w.heap.size, 3, none⟩ = some (.bool true)) ∧ W.cell? ⟨G8, 1, none⟩ = some (.slice none 0 0) ∧ W.cell? ⟨G8, 2, none⟩ = some (.string PB) ∧ W.cell? ⟨G8, 3, none⟩ = some (.bool true))
                  ((refine HKK.out _ ?_; first | (exact hb9) | (exact hb0)))
                  ((first | (go_at_call 11; refine (HEE.out _ hb0).mono ?_; rintro e w9 ⟨rfl, hb9⟩) | (go_at_call 14; refine (HW.out _).mono ?_; rintro e w10 ⟨rfl, rfl⟩)))
                go_wp2_with fail
                go_ret
                exact ⟨rfl, HB8.out.drew.trans (hb9.mono HB8.out.size)⟩
          | false =>
            have hx := (HSY.out rfl).symm
            subst hx
            clear HSX HSY kc
            go_wp2_with fail
            clear p0 p1 p2 p3
            go_loopw [6, 7, 8] (fun n d o wq => ∃ (m : Nat) (Dd : ByteArray) (ok : Bool), n = .int .i64 (m : Int) ∧ d = .string Dd ∧ o = .bool ok ∧ m ≤ 2000 ∧ Hid (DS bd.size m Dd ok) ∧ Hid (Below w2.heap.size w2 wq)) (fun n _ o _ => match o with | .bool true => (intOf n).toNat + 1 | _ => 0)
            case atStart => exact ⟨bd.size, ⟨#[]⟩, true, rfl, rfl, rfl, HBD.out, ds_start _, HBR⟩
            case round =>
              obtain ⟨m, Dd, ok, rfl, rfl, rfl, hm, HDS, HBQ⟩ := hrel
              have hDz : Dd.size ≤ 21 := by
                have h1 := Lib.itoa_length_le (bd.size : Int) (by omega) (by have := HBD.out; omega)
                rw [itoa_nat] at h1
                rcases HDS.out with ⟨_, h2⟩ | ⟨_, h2⟩
                · rw [h2, List.length_append, data_len] at h1; omega
                · rw [h2, data_len] at h1; omega
              cases ok with
              | true =>
                obtain ⟨Q, Q8, M2, dq, a1, a2, a3, a4, a5, a6, a7, a8⟩ := dig_int m hm
                have hcv : (convert 32 9 (.slice (some ⟨wr.heap.size, 0, none⟩) 1 1)).run Tryd.prog (wr.alloc (.cells #[.int .u8 Q8] 5)) = .ok (.string ⟨#[dq]⟩) (wr.alloc (.cells #[.int .u8 Q8] 5)) := conv1 wr Q8 dq a6
                have kd := add_str ⟨#[dq]⟩ Dd (by show 1 + _ ≤ _; omega)
                have HDN : Hid (DS bd.size (m / 10) (⟨#[dq]⟩ ++ Dd) (decide (0 < m / 10))) := ds_more HDS.out (by rw [app_data, a7]; rfl)
                have HBN : Hid (Below w2.heap.size w2 (wr.alloc (.cells #[.int .u8 Q8] 5))) := HBQ.out.alloc HBQ.out.size _
                clear a6 a7
                generalize (⟨#[dq]⟩ ++ Dd : ByteArray) = D2 at *
                generalize (⟨#[dq]⟩ : ByteArray) = B1 at *
                by_cases h10 : m < 10
                · obtain rfl : M2 = 0 := by omega
                  have HDF : Hid (DS bd.size 0 D2 false) := by
                    have := HDN.out
                    have e : m / 10 = 0 := by omega
                    rw [e] at this
                    exact this
                  clear a8 HDN
                  go_wp2_with fail
                  go_roundw
                  case rel => exact ⟨0, D2, false, rfl, rfl, rfl, by omega, HDF, HBN⟩
                  case measure => simp [intOf]
                · have hpos : 0 < M2 := by omega
                  have HM2 := Lib.hid a8
                  have HDF : Hid (DS bd.size (m / 10) D2 true) := by
                    have := HDN.out
                    rw [decide_eq_true (by omega)] at this
                    exact this
                  clear a8 HDN
                  go_wp2_with fail
                  go_roundw
                  case rel => exact ⟨m / 10, D2, true, by rw [HM2.out], rfl, rfl, by omega, HDF, HBN⟩
                  case measure => simp [intOf]; have := HM2.out; omega
              | false =>
                have HXQ := Lib.hid (HX2.out.on HBQ.out)
                have HDD : Hid (Lib.decDigits bd.size = Dd.data.toList) := by
                  rcases HDS.out with ⟨h, _⟩ | ⟨_, h⟩
                  · cases h
                  · exact h
                have hlb : lenB.size = 16 := rfl
                have hcc : (⟨#[13, 10, 13, 10]⟩ : ByteArray).size = 4 := rfl
                have hbz := HBD.out
                have z1 := add_str SC lenB (by omega)
                have z2 := add_str (SC ++ lenB) Dd (by rw [app_size]; omega)
                have z3 := add_str (SC ++ lenB ++ Dd) ⟨#[13, 10, 13, 10]⟩ (by rw [app_size, app_size]; omega)
                have z4 := add_str (SC ++ lenB ++ Dd ++ ⟨#[13, 10, 13, 10]⟩) bd (by rw [app_size, app_size, app_size]; omega)
                have hE : SC ++ lenB ++ Dd ++ ⟨#[13, 10, 13, 10]⟩ ++ bd = mkB (encL r) := bytes_ext (by
                  simp only [app_data]
                  rw [HSC.out, mkB_data, ← HDD.out, encTo_all, KK.out.st]
                  unfold tailL
                  rw [KK.out.cl, KK.out.bd, itoa_nat]
                  simp [lenB, lengthIs, crlf])
                rw [hE] at z4
                clear hE HDS HDD HSC
                generalize (SC ++ lenB ++ Dd ++ ⟨#[13, 10, 13, 10]⟩ : ByteArray) = Z3 at *
                generalize (SC ++ lenB ++ Dd : ByteArray) = Z2 at *
                generalize (SC ++ lenB : ByteArray) = Z1 at *
                unfold lenB at z1
                have HEN := Lib.hid (fun (w : World) (g : Nat) (h : RB w g r A c) (hg : GB w) => enc_rk KK.out h hg)
                have HP := Lib.hid (fun (w : World) => plain_any st false w)
                have HW := Lib.hid (fun (w : World) => word_any st w)
                have hwl : (mkB (wordL st)).size ≤ 31 := by rw [mkB_size]; exact word_len st
                have y1 := add_str (mkB (wordL st)) ⟨#[10]⟩ (by show _ + 1 ≤ _; omega)
                have he : mkB (wordL st) ++ ⟨#[10]⟩ = mkB (wordL st ++ [10]) := bytes_ext (by rw [app_data, mkB_data, mkB_data])
                rw [he] at y1
                clear he hwl
                generalize mkB (wordL st ++ [10]) = PB at *
                generalize mkB (wordL st) = WQ at *
                generalize mkB (encL r) = EE at *
                have hq1 : (EE.toList == EE.toList) = true := by simp
                have hq2 : (PB.toList == PB.toList) = true := by simp
                obtain ⟨p0, p1, p2, p3⟩ := HXQ.out.cs KK.out
                go_wp2_with fail
                refine (HP.out wr).mono ?_
                rintro e w8 ⟨rfl, hb8⟩
                have HAL := Lib.hid ((Below.refl _ w8).alloc (Nat.le_refl _) (.cells #[.int .i64 st, .slice none 0 0, .string PB, .bool false] 24))
                have HX8 := Lib.hid ((HXQ.out.on hb8).on HAL.out)
                have HB8 : Hid (Below w.heap.size w (w8.alloc (.cells #[.int .i64 st, .slice none 0 0, .string PB, .bool false] 24))) := bt (bt (bt HB2.out HBQ.out) hb8) HAL.out
                have HPB := Lib.hid (heap_alloc_new w8 (.cells #[.int .i64 st, .slice none 0 0, .string PB, .bool false] 24))
                clear hb8 p0 p1 p2 p3
                have HKK : Hid (∀ W, Below (w8.alloc (.cells #[.int .i64 st, .slice none 0 0, .string PB, .bool false] 24)).heap.size (w8.alloc (.cells #[.int .i64 st, .slice none 0 0, .string PB, .bool false] 24)).drew W → (W.cell? ⟨w.heap.size, 0, none⟩ = some (.int .i64 st) ∧ W.cell? ⟨w.heap.size, 1, none⟩ = some (.slice A k c) ∧ W.cell? ⟨w.heap.size, 2, none⟩ = some (.string bd) ∧ W.cell? ⟨w.heap.size, 3, none⟩ = some (.bool false)) ∧ W.cell? ⟨w8.heap.size, 1, none⟩ = some (.slice none 0 0) ∧ W.cell? ⟨w8.heap.size, 2, none⟩ = some (.string PB) ∧ W.cell? ⟨w8.heap.size, 3, none⟩ = some (.bool false)) := fun W h => by
                  have hk := (h.block w8.heap.size (blk_lt HPB.out)).trans HPB.out
                  exact ⟨(HX8.out.drew.on h).cs KK.out, blk_cell hk 1, blk_cell hk 2, blk_cell hk 3⟩
                have HEE : Hid (∀ W, Below (w8.alloc (.cells #[.int .i64 st, .slice none 0 0, .string PB, .bool false] 24)).heap.size (w8.alloc (.cells #[.int .i64 st, .slice none 0 0, .string PB, .bool false] 24)).drew W → Calls Tryd.prog 11 #[.agg #[.int .i64 st, .slice A k c, .string bd, .bool false]] W fun e w' => e = .returned (.string EE) ∧ Below W.heap.size W w') := fun W h => HEN.out W _ (HX8.out.drew.on h) ((HG.out.on HB8.out).on ((Below.refl _ _).drew.trans h))
                have hb0 : Below (w8.alloc (.cells #[.int .i64 st, .slice none 0 0, .string PB, .bool false] 24)).heap.size (w8.alloc (.cells #[.int .i64 st, .slice none 0 0, .string PB, .bool false] 24)).drew (w8.alloc (.cells #[.int .i64 st, .slice none 0 0, .string PB, .bool false] 24)).drew := Below.refl _ _
                go_wp2_with fail
                generalize w8.alloc (.cells #[.int .i64 st, .slice none 0 0, .string PB, .bool false] 24) = W8 at *
                generalize w8.heap.size = G8 at *
                go_region_held3 (fun W => (W.cell? ⟨w.heap.size, 0, none⟩ = some (.int .i64 st) ∧ W.cell? ⟨w.heap.size, 1, none⟩ = some (.slice A k c) ∧ W.cell? ⟨w.heap.size, 2, none⟩ = some (.string bd) ∧ W.cell? ⟨w.heap.size, 3, none⟩ = some (.bool false)) ∧ W.cell? ⟨G8, 1, none⟩ = some (.slice none 0 0) ∧ W.cell? ⟨G8, 2, none⟩ = some (.string PB) ∧ W.cell? ⟨G8, 3, none⟩ = some (.bool false))
                  ((refine HKK.out _ ?_; first | (exact hb9) | (exact hb0)))
                  ((first | (go_at_call 11; refine (HEE.out _ hb0).mono ?_; rintro e w9 ⟨rfl, hb9⟩) | (go_at_call 14; refine (HW.out _).mono ?_; rintro e w10 ⟨rfl, rfl⟩)))
                go_wp2_with fail
                go_ret
                exact ⟨rfl, HB8.out.drew.trans (hb9.mono HB8.out.size)⟩

end Go.Proofs.YtkbigfjaaiobfaaDoor
