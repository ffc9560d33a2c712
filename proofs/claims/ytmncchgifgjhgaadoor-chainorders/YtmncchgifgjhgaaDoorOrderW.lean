/- The walk of ChainOrders. -/
import Derived.Test.YtmncchgifgjhgaaDoorOrderC
namespace Go.Proofs.YtmncchgifgjhgaaDoor
open Go.RowKit Go.Shelf

theorem Tryd.info47 : (Tryd.prog.info? 47).map (fun i => (i.zero, i.size, i.bytes)) = some (some .nilFunc, 1, 8) := by kernel_rfl

set_option maxRecDepth 100000 in
set_option maxHeartbeats 4000000 in
theorem orders_walk (n : Int) (w : World) (hg : GB w) :
    Calls Tryd.prog 4 #[.int .i64 n] w fun e w' => e = .returned (.bool true) ∧ Below w.heap.size w w' := by
  have HF := Lib.hid (fit_any w hg)
  obtain ⟨N, hN, hN16⟩ : ∃ N : Nat, bits .and .i64 n 15 = (N : Int) ∧ N < 16 := ⟨(n % 16).toNat, by rw [i64_and15]; omega, by omega⟩
  have HN16 := Lib.hid hN16
  obtain ⟨i0, hi, hz0, hz1, hz2⟩ := info_parts Tryd.info47
  have HI := Lib.hid hi; have HZ0 := Lib.hid hz0; have HZ1 := Lib.hid hz1; have HZ2 := Lib.hid hz2
  clear hi hz0 hz1 hz2 hg hN16
  go_enter Tryd.func4, Tryd.ntmps4
  go_wp2_with fail
  refine HF.out.mono ?_
  rintro e w3 ⟨rfl, hb3⟩
  have HB3 := Lib.hid hb3
  clear hb3 HF
  go_wp2_with fail
  clear hN
  go_loopw [3, 13] (fun v i wr => ∃ gs : List Nat, gs.length ≤ N ∧ i = .int .i64 gs.length ∧ wr.ownsRow w3.heap.size 47 1 v gs.length (gs.map fnO) ∧ Hid (Ints wr gs 0 ∧ Below w3.heap.size w3 wr)) (fun _ i _ => N - (intOf i).toNat)
  case atStart => exact ⟨[], Nat.zero_le _, rfl, World.ownsRow_nil _ _ _ _, trivial, Below.refl _ _⟩
  case round =>
    obtain ⟨gs, hk, rfl, hown, HX⟩ := hrel
    have hn16 := HN16.out
    by_cases hlt : gs.length < N
    · have hb1 := HX.out.2.alloc HX.out.2.size (.cells #[.int .i64 (gs.length : Int)] 3)
      have hi1 := HX.out.1.on ((Below.refl wr.heap.size wr).alloc (Nat.le_refl _) (.cells #[.int .i64 (gs.length : Int)] 3)) (Nat.le_refl _)
      have hkn := heap_alloc_new wr (.cells #[.int .i64 (gs.length : Int)] 3)
      have hsz1 : (wr.alloc (.cells #[.int .i64 (gs.length : Int)] 3)).heap.size = wr.heap.size + 1 := by simp
      have hown2 := (hown.alloc (.cells #[.int .i64 (gs.length : Int)] 3)).alloc (.cells #[fnO wr.heap.size] 47)
      have HO2 := Lib.hid hown2
      have HK := Lib.hid (And.intro hb1 (And.intro hi1 (And.intro hkn hsz1)))
      clear hb1 hi1 hkn hown hown2 hsz1
      go_wp2_with (first | (at_builtin; refine wpList_append_own _ rfl _ _ 38 rfl w3.heap.size 47 i0 .nilFunc 1 8 Tryd.underlying38 HI.out HZ0.out HZ1.out HZ2.out rfl (by decide) _ _ _ rfl HO2.out ⟨wr.heap.size + 1, 0, none⟩ 1 1 [fnO wr.heap.size] rfl rfl ?c1 ?c2 ?c3 ?c4 ?c5 ?_))
      case c1 => exact fun j u hu => by have hx := cell_one_new (wr.alloc (.cells #[.int .i64 (gs.length : Int)] 3)) (fnO wr.heap.size) 47 j u hu; simp only [fnO, ptO] at hx; simpa using hx
      case c2 => intro u hu; simp at hu; subst hu; rfl
      case c3 => unfold maxLen; omega
      case c4 => omega
      case c5 => have := HX.out.2.size; simp; omega
      intro v' w1 hown' hgrow _
      have HO := Lib.hid hown'
      have HG := Lib.hid hgrow
      clear hown' hgrow
      go_wp2_with fail
      go_roundw
      case rel =>
        have hlen : ((gs ++ [wr.heap.size]).length : Int) = (gs.length : Int) + 1 := by simp
        obtain ⟨hb1, hi1, hkn, hsz1⟩ := HK.out
        have hb2 := (Below.refl _ (wr.alloc (.cells #[.int .i64 (gs.length : Int)] 3))).alloc (Nat.le_refl _) (.cells #[fnO wr.heap.size] 47)
        have key : ∀ (g : Nat) (i : Int), ((wr.alloc (.cells #[.int .i64 (gs.length : Int)] 3)).alloc (.cells #[fnO wr.heap.size] 47)).heap[g]? = some (Obj.cells #[.int .i64 i] 3 (0, 0)) → w1.heap[g]? = ((wr.alloc (.cells #[.int .i64 (gs.length : Int)] 3)).alloc (.cells #[fnO wr.heap.size] 47)).heap[g]? := fun g i h => HG.out.block g (blk_lt h) (by
          intro e
          rcases HO2.out.2 with ⟨e', _⟩ | ⟨g', cap, cur, e', _, hh, _⟩
          · rw [e'] at e; cases e
          · rw [e'] at e; cases e; rw [h] at hh; cases hh)
        have hkn2 := (hb2.block _ (blk_lt hkn)).trans hkn
        refine ⟨gs ++ [wr.heap.size], by simp; omega, by rw [hlen], by simpa using HO.out, ?_, ?_⟩
        · refine ((hi1.on hb2 (Nat.le_refl _)).keep key).snoc ((key _ _ hkn2).trans ?_)
          rw [hkn2, Nat.zero_add]
        · exact (hb1.alloc hb1.size _).grown HG.out (hb1.alloc hb1.size _).size (fun k hk => (HO2.out.lt k hk).1)
      case measure => simp [intOf]; omega
    · rename World => wo
      obtain rfl : N = gs.length := by omega
      obtain ⟨A, cp, rfl, hrd⟩ := Rd.own hown
      have HRD := Lib.hid hrd
      have hw1 : wrap64 ((gs.length : Int) - 1) = (gs.length : Int) - 1 := by unfold wrap64; omega
      clear hown hrd
      go_wp2_with fail
      clear hw1 hlt
      go_loopw [5, 6] (fun v i wx => ∃ k : Nat, k ≤ gs.length ∧ i = .int .i64 ((k : Int) - 1) ∧ v = .string (ordN k (gs.length - k)) ∧ Hid (Below wo.heap.size wo wx)) (fun _ i _ => (intOf i + 1).toNat)
      case atStart => exact ⟨gs.length, Nat.le_refl _, rfl, by rw [Nat.sub_self]; rfl, Below.refl _ _⟩
      case round =>
        obtain ⟨k, hkl, rfl, rfl, HB⟩ := hrel
        cases k with
        | succ k =>
          have ej : ((k + 1 : Nat) : Int) - 1 = (k : Int) := by omega
          rw [ej]
          have HOB : Hid (ordN k (gs.length - k) = ordB k (ordN (k + 1) (gs.length - (k + 1)))) := by
            show _ = _
            rw [show gs.length - k = (gs.length - (k + 1)) + 1 by omega]
            rfl
          have hz := ordN_size (gs.length - (k + 1)) (k + 1) (by omega)
          have hz2 : (ordN (k + 1) (gs.length - (k + 1))).size ≤ 1000 := by omega
          generalize ordN (k + 1) (gs.length - (k + 1)) = b at *
          have l1 : (Lib.itoa (k : Int)).length ≤ 21 := Lib.itoa_length_le k (by omega) (by omega)
          have HDG := Lib.hid (fun wx => digits_any (k : Int) (by omega) (by omega) wx)
          have HOC : Hid (ordB k b = mkB (Lib.itoa k) ++ ⟨#[40]⟩ ++ b ++ ⟨#[41]⟩) := rfl
          generalize ordB k b = ob at *
          generalize hp1 : Lib.itoa k = p1 at *
          have a1 := fun wx => add_str (mkB p1) ⟨#[40]⟩ (by rw [mkB_size]; show p1.length + 1 ≤ _; omega) wx
          have e1 : (mkB p1 ++ ⟨#[40]⟩).size = p1.length + 1 := by rw [app_size, mkB_size]; rfl
          have a2 := fun wx => add_str (mkB p1 ++ ⟨#[40]⟩) b (by rw [e1]; omega) wx
          have a3 := fun wx => add_str (mkB p1 ++ ⟨#[40]⟩ ++ b) ⟨#[41]⟩ (by rw [app_size, e1]; show p1.length + 1 + b.size + 1 ≤ _; omega) wx
          rw [← HOC.out] at a3
          clear e1 HOC hp1 l1 hz hz2
          generalize mkB p1 ++ ⟨#[40]⟩ ++ b = m3 at *
          generalize mkB p1 ++ ⟨#[40]⟩ = m2 at *
          generalize mkB p1 = m1 at *
          have i0' : (0 : Int) ≤ (k : Int) := by omega
          have hw1 : wrap64 ((k : Int) - 1) = (k : Int) - 1 := by unfold wrap64; omega
          go_wp2_with fail
          refine (HDG.out _).mono ?_
          rintro e w5 ⟨rfl, hb5⟩
          have HB5 := Lib.hid (bt HB.out hb5)
          go_wp2_with fail
          go_roundw
          case rel => exact ⟨k, by omega, by go_num, by rw [HOB.out], HB5.out⟩
          case measure => simp [intOf] <;> omega
        | zero =>
          have e0 : ((0 : Nat) : Int) - 1 = -1 := rfl
          rw [e0, Nat.sub_zero]
          have HALL : Hid (Calls Tryd.prog 11 #[.func (.func 19) #[] #[], .slice A gs.length cp] wr fun e w' => ∃ H, e = .returned (.func (.func 33) #[] #[.pointer (some ⟨H, 0, none⟩)]) ∧ Below wr.heap.size wr w' ∧
              ∀ u0 u1 u2 u3 u4 u5 u6 u7 u8 u9 u10 u11 u12 : Value, Calls Tryd.prog 33 #[.agg #[u0, u1, u2, u3, u4, u5, u6, u7, u8, u9, u10, u11, u12], .pointer (some ⟨H, 0, none⟩)] w' fun e wy => (∃ A' n', e = .returned (.agg #[.int .i64 0, .slice A' 0 n', .string (ordN 0 gs.length), .bool false])) ∧ Below w'.heap.size w' wy) := by
            have h := all_any12 (gs.map lkO) (.func (.func 19) #[] #[]) ⟨_, _, rfl, enters_of Tryd.func19 (by kernel_rfl) rfl⟩ A cp wr (by simp; omega) (by rw [List.length_map, lvs_lkO]; exact (HRD.out.below HB.out (Nat.le_refl _)).wide HB.out.size)
            rw [List.length_map] at h
            refine h.mono ?_
            rintro e w' ⟨rfl, ⟨v, hk6, _, hch⟩, hb6⟩
            rw [kes_lkO] at hch
            refine ⟨_, rfl, hb6, fun u0 u1 u2 u3 u4 u5 u6 u7 u8 u9 u10 u11 u12 => ?_⟩
            have t0 := ords_hd (w0 := w') (orders2_hd (u0 := u0) (u1 := u1) (u2 := u2) (u3 := u3) (u4 := u4) (u5 := u5) (u6 := u6) (u7 := u7) (u8 := u8) (u9 := u9) (u10 := u10) (u11 := u11) (u12 := u12) w') gs 0 v (by omega) ((HX.out.1.on HB.out (Nat.le_refl _)).on hb6 (Nat.le_refl _)) hch
            have t1 := all1_hd t0 (fun _ q => q.elim) (of_any _) (of_any _) (blk_lt hk6) (fun q => q) (blk_cell hk6 0)
            obtain ⟨_, _, he, _, hcall⟩ := t1
            cases he
            refine (hcall w' (Frm.refl _ _) trivial).mono ?_
            rintro e wy ⟨⟨A', n', rfl, _⟩, hf, _⟩
            exact ⟨⟨A', n', rfl⟩, hf.below (Nat.le_refl _) (fun _ q => q.elim)⟩
          clear HRD
          generalize ordN 0 gs.length = b at *
          have e2 : (b.toList == b.toList) = true := by simp
          go_wp2_with fail
          refine HALL.out.mono ?_
          rintro e w6 ⟨H, rfl, hb6, hcall⟩
          have HB6 := Lib.hid (bt HB.out hb6)
          have HCALL := Lib.hid hcall
          clear hb6 hcall HALL
          go_wp2_with fail
          refine (HCALL.out _ _ _ _ _ _ _ _ _ _ _ _ _).mono ?_
          rintro e w7 ⟨⟨A', n', rfl⟩, hb7⟩
          have hfd : ∀ wx : World, (Instr.field 32 (.agg #[.int .i64 0, .slice A' 0 n', .string b, .bool false]) 2).run Tryd.prog wx = .ok (.string b) wx := fun _ => by kernel_rfl
          have HB7 := Lib.hid (bt HB6.out hb7)
          clear hb7 HCALL
          go_wp2_with fail
          refine (standard_any _).mono ?_
          rintro e w8 ⟨rfl, rfl⟩
          have HB8 := Lib.hid (HB7.out.alloc HB7.out.size (.cells #[.func (.func 26) #[] #[], .func (.func 25) #[] #[], .func (.func 21) #[] #[], .func (.func 22) #[] #[], .func (.func 23) #[] #[], .func (.func 24) #[] #[]] 47))
          go_wp2_with fail
          go_ret
          exact ⟨rfl, bt (bt HB3.out HX.out.2) HB8.out⟩
end Go.Proofs.YtmncchgifgjhgaaDoor
