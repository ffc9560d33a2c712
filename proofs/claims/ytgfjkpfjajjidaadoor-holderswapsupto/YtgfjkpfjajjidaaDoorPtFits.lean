/- The contracts of path.fits and path.Pattern. -/
import Derived.Test.YtgfjkpfjajjidaaDoorPtSplit
import Derived.Deep.RegionHeld3
import Derived.Deep.RegionWith
import Derived.BigQuiet
namespace Go.Proofs.YtgfjkpfjajjidaaDoor
open Go.RowKit Pl

theorem skip_at {P : Program} {ops : Array Oper} {Q : Exit → Act → World → Prop} {md : Region.Mode} {S : World → Prop} (i k : Nat) {oi : Oper} {fuel : Nat} {listed : Array Bool} {a : Act} {w : World} (hi : ops[i]? = some oi) (hd : oi.dst = some k)
    (hs : Region.noSelect ops = true) (hf : Region.free md ops listed i = true) (hr : (Region.ready md ops listed).contains i = true)
    (hQ : ∀ c a w, Q (.panic c) (a.put (some k) undef) w → Q (.panic c) a w) (hw : Region.wanted oi (yielded ops a.tmps) = false) (hS : S w)
    (h : wpAnyH P md ops Q S fuel (listed.setIfInBounds i true) (a.put (some k) undef) w) : wpAnyH P md ops Q S (fuel + 1) listed a w :=
  wpAnyH_take hi hs hf hr (by rw [hd]; exact hQ) (Or.inr ⟨hw, rfl⟩) hS (by rw [hd]; exact h)
theorem give_at {P : Program} {ops : Array Oper} {Q : Exit → Act → World → Prop} {md : Region.Mode} {S : World → Prop} (i k : Nat) (v : Value) {oi : Oper} {fuel : Nat} {listed : Array Bool} {a : Act} {w : World} (hi : ops[i]? = some oi) (hd : oi.dst = some k)
    (hs : Region.noSelect ops = true) (hf : Region.free md ops listed i = true) (hr : (Region.ready md ops listed).contains i = true)
    (hQ : ∀ c a w, Q (.panic c) (a.put (some k) v) w → Q (.panic c) a w) (hw : Region.wanted oi (yielded ops a.tmps) = true) (hv : ∀ w, S w → (execOp a.eval oi).run P w = .ok (.value v) w) (hS : S w)
    (h : wpAnyH P md ops Q S fuel (listed.setIfInBounds i true) (a.put (some k) v) w) : wpAnyH P md ops Q S (fuel + 1) listed a w :=
  wpAnyH_take hi hs hf hr (by rw [hd]; exact hQ) (Or.inl ⟨hw, hv⟩) hS (by rw [hd]; exact h)

theorem rd_take {w : World} {B : Nat} {A : Option Addr} {xs : List (List UInt8)} (h : Rd w B 1 A xs.length (xs.map strV)) (i : Nat) (hi : i ≤ xs.length) : Rd w B 1 A (xs.take i).length ((xs.take i).map strV) := by
  refine ⟨by simp, fun hn => ?_⟩
  obtain ⟨a, e, hl, hc⟩ := h.2 (by simp at hn; omega)
  refine ⟨a, e, hl, fun j u hu => hc j u ?_⟩
  rw [List.map_take, List.getElem?_take] at hu
  split at hu
  · exact hu
  · cases hu

set_option maxRecDepth 100000 in
set_option maxHeartbeats 4000000 in
theorem fits_any (xs : List (List UInt8)) (A : Option Addr) (c : Nat) (i : Nat) (hi : i < xs.length) (w : World) (hr : Rd w w.heap.size 1 A xs.length (xs.map strV)) (hn : xs.length ≤ 1000) (hc : xs.length ≤ c) (hs : ∀ x ∈ xs, x.length ≤ 1000000) :
    Calls Tryd.prog 32 #[.slice A xs.length c, .int .i64 i] w fun e w' => e = .returned (.bool (fitL xs i xs[i])) ∧ Below w.heap.size w w' := by
  obtain ⟨a, rfl, hab, hcl⟩ := hr.at hi (strV xs[i]) (by simp [hi])
  rw [strV_mk] at hcl
  have HK := Lib.hid (fun w => kind_any (mkB xs[i]) w)
  have HT := Lib.hid (fun w => tok_any (mkB xs[i]) w)
  have HCN := Lib.hid (fun w => cont_any (mkB xs[i]) 37 w)
  have HTT := Lib.hid (fun w => tok_any (tl (mkB xs[i])) w)
  have hlt : (xs.take i).length = i := by simp; omega
  have HNM := Lib.hid (fun W (hb : Below w.heap.size w W) => named_any (xs.take i) (some a) c (tl (mkB xs[i])) W (((rd_take hr i (by omega)).below hb (Nat.le_refl _)).wide hb.size) (by simp; omega) (fun x hx => hs x (List.mem_of_mem_take hx)))
  rw [hlt] at HNM
  have hsz : (mkB xs[i]).size ≤ 1000000 := by rw [mkB_size]; exact hs _ (List.getElem_mem hi)
  have hp := @kind_pos (mkB xs[i]).data.toList
  rw [data_len] at hp
  have hkc := kind_cases (mkB xs[i]).data.toList
  have hff : fitL xs i xs[i] = if kindL (mkB xs[i]).data.toList = 2 then decide (i + 1 = xs.length) && (tokB (tl (mkB xs[i])).data.toList && !namedL (xs.take i) (tl (mkB xs[i])).data.toList)
    else if kindL (mkB xs[i]).data.toList = 1 then tokB (tl (mkB xs[i])).data.toList && !namedL (xs.take i) (tl (mkB xs[i])).data.toList
    else tokB (mkB xs[i]).data.toList && !(mkB xs[i]).data.toList.contains 37 := by
    rw [tl_data, mkB_data]; rfl
  have HF := Lib.hid hff
  clear hff
  generalize fitL xs i xs[i] = FF at *
  generalize mkB xs[i] = s at *
  generalize namedL (xs.take i) (tl s).data.toList = nm at *
  generalize tokB (tl s).data.toList = tk at *
  generalize tokB s.data.toList = tw at *
  generalize s.data.toList.contains 37 = ct at *
  generalize kindL s.data.toList = q at *
  have HN2 : Hid (∀ W, Below w.heap.size w.drew W → Calls Tryd.prog 46 #[.slice (some a) i c, .string (s.extract 1 s.size)] W fun e w' => e = .returned (.bool nm) ∧ W = w') := fun W hb => HNM.out W ((Below.refl _ w).drew.trans hb)
  have HT2 : Hid (Calls Tryd.prog 45 #[.string (s.extract 1 s.size)] w.drew fun e w' => e = .returned (.bool tk) ∧ Below w.heap.size w.drew w') := HTT.out w.drew
  clear HNM HTT
  have hHR := Lib.hid hr
  clear hr hs
  rcases hkc with rfl | rfl | rfl
  · clear hp
    have HF0 : Hid (FF = (tw && !ct)) := HF.out
    clear HF HN2 HT2
    cases tw with
    | true =>
      go_enter Tryd.func32, Tryd.ntmps32
      go_wp2_with fail
      refine (HK.out _).mono ?_
      rintro e w1 ⟨rfl, rfl⟩
      go_wp2_with fail
      refine (HT.out _).mono ?_
      rintro e w1 ⟨rfl, hb1⟩
      go_wp2_with fail
      refine (HCN.out _).mono ?_
      rintro e w1 ⟨rfl, rfl⟩
      go_wp2_with fail
      go_ret
      exact ⟨ret_bool (by rw [HF0.out]; simp), hb1⟩
    | false =>
      go_enter Tryd.func32, Tryd.ntmps32
      go_wp2_with fail
      refine (HK.out _).mono ?_
      rintro e w1 ⟨rfl, rfl⟩
      go_wp2_with fail
      refine (HT.out _).mono ?_
      rintro e w1 ⟨rfl, hb1⟩
      go_wp2_with fail
      go_ret
      exact ⟨ret_bool (by rw [HF0.out]; rfl), hb1⟩
  · have hp1 := hp (by decide)
    have s1 : (1 : Int) ≤ (s.size : Int) := by omega
    have i0 : (0 : Int) ≤ (i : Int) := by omega
    have i1 : (i : Int) ≤ (c : Int) := by omega
    clear hp
    have HF0 : Hid (FF = (tk && !nm)) := HF.out
    clear HF HT HCN
    cases tk with
    | true =>
      go_enter Tryd.func32, Tryd.ntmps32
      go_wp2_with fail
      refine (HK.out _).mono ?_
      rintro e w1 ⟨rfl, rfl⟩
      go_wp2_with fail
      go_region_held3 (fun _ => True) (trivial) ((first | (go_at_call 45; refine HT2.out.mono ?_; rintro e w2 ⟨rfl, hb2⟩) | (go_at_call 46; refine (HN2.out _ hb2).mono ?_; rintro e w3 ⟨rfl, rfl⟩)))
      go_wp2_with fail
      go_ret
      exact ⟨ret_bool (by rw [HF0.out]; simp), (Below.refl _ w).drew.trans hb2⟩
    | false =>
      go_enter Tryd.func32, Tryd.ntmps32
      go_wp2_with fail
      refine (HK.out _).mono ?_
      rintro e w1 ⟨rfl, rfl⟩
      go_wp2_with fail
      refine wp_region_held_drew (S := fun _ => True) (by kernel_rfl) trivial (fun hHeld => ?_)
      refine give_at 0 21 (.string s) rfl rfl (by kernel_rfl) (by kernel_rfl) (by kernel_rfl) (fun _ _ _ h => h) (by rfl) (by intro w hSw; go_simp) (by assumption) ?_
      simp only [Act.put, List.setIfInBounds_toArray, List.set_cons_zero, List.set_cons_succ]
      refine give_at 1 22 (.string (s.extract 1 s.size)) rfl rfl (by kernel_rfl) (by kernel_rfl) (by kernel_rfl) (fun _ _ _ h => h) (by rfl) (by intro w hSw; go_simp) (by assumption) ?_
      simp only [Act.put, List.setIfInBounds_toArray, List.set_cons_zero, List.set_cons_succ]
      refine wpAnyH_ready (rs := [2]) (by kernel_rfl) (by simp) ?_
      refine AllReadyH.cons (o := { dst := some 23, op := Op.call { callee := Callee.value (Operand.func 45), args := #[Operand.tmp 22], argTypes := #[9] }, type := 4, pos := "path.go:105", after := #[{ on := 1, ground := Ground.data }], guard := none }) rfl (fun K hK => ?_) AllReadyH.nil
      go_simp
      (go_at_call 45; refine HT2.out.mono ?_; rintro e w2 ⟨rfl, hb2⟩)
      refine hK.out _ _ trivial (fun hHeld => ?_)
      clear hK K
      try simp only [Act.put, List.setIfInBounds_toArray, List.set_cons_zero, List.set_cons_succ]
      refine give_at 3 24 (.bool false) rfl rfl (by kernel_rfl) (by kernel_rfl) (by kernel_rfl) (fun _ _ _ h => h) (by rfl) (by intro w hSw; go_simp) (by assumption) ?_
      simp only [Act.put, List.setIfInBounds_toArray, List.set_cons_zero, List.set_cons_succ]
      refine skip_at 4 25 rfl rfl (by kernel_rfl) (by kernel_rfl) (by kernel_rfl) (fun _ _ _ h => h) (by rfl) (by assumption) ?_
      simp only [Act.put, List.setIfInBounds_toArray, List.set_cons_zero, List.set_cons_succ]
      refine skip_at 5 26 rfl rfl (by kernel_rfl) (by kernel_rfl) (by kernel_rfl) (fun _ _ _ h => h) (by rfl) (by assumption) ?_
      simp only [Act.put, List.setIfInBounds_toArray, List.set_cons_zero, List.set_cons_succ]
      refine skip_at 6 27 rfl rfl (by kernel_rfl) (by kernel_rfl) (by kernel_rfl) (fun _ _ _ h => h) (by rfl) (by assumption) ?_
      simp only [Act.put, List.setIfInBounds_toArray, List.set_cons_zero, List.set_cons_succ]
      refine skip_at 7 28 rfl rfl (by kernel_rfl) (by kernel_rfl) (by kernel_rfl) (fun _ _ _ h => h) (by rfl) (by assumption) ?_
      simp only [Act.put, List.setIfInBounds_toArray, List.set_cons_zero, List.set_cons_succ]
      refine skip_at 8 29 rfl rfl (by kernel_rfl) (by kernel_rfl) (by kernel_rfl) (fun _ _ _ h => h) (by rfl) (by assumption) ?_
      simp only [Act.put, List.setIfInBounds_toArray, List.set_cons_zero, List.set_cons_succ]
      refine skip_at 9 30 rfl rfl (by kernel_rfl) (by kernel_rfl) (by kernel_rfl) (fun _ _ _ h => h) (by rfl) (by assumption) ?_
      simp only [Act.put, List.setIfInBounds_toArray, List.set_cons_zero, List.set_cons_succ]
      refine skip_at 10 31 rfl rfl (by kernel_rfl) (by kernel_rfl) (by kernel_rfl) (fun _ _ _ h => h) (by rfl) (by assumption) ?_
      simp only [Act.put, List.setIfInBounds_toArray, List.set_cons_zero, List.set_cons_succ]
      refine give_at 11 32 (.bool false) rfl rfl (by kernel_rfl) (by kernel_rfl) (by kernel_rfl) (fun _ _ _ h => h) (by rfl) (by intro w hSw; go_simp) (by assumption) ?_
      simp only [Act.put, List.setIfInBounds_toArray, List.set_cons_zero, List.set_cons_succ]
      refine give_at 12 4 (.bool false) rfl rfl (by kernel_rfl) (by kernel_rfl) (by kernel_rfl) (fun _ _ _ h => h) (by rfl) (by intro w hSw; go_simp) (by assumption) ?_
      simp only [Act.put, List.setIfInBounds_toArray, List.set_cons_zero, List.set_cons_succ]
      refine wpAnyH_done (by kernel_rfl) ?_ _
      go_wp2_with fail
      go_ret
      exact ⟨ret_bool (by rw [HF0.out]; simp), (Below.refl _ w).drew.trans hb2⟩
  · have hp1 := hp (by decide)
    have s1 : (1 : Int) ≤ (s.size : Int) := by omega
    have i0 : (0 : Int) ≤ (i : Int) := by omega
    have i1 : (i : Int) ≤ (c : Int) := by omega
    clear hp
    by_cases hl : i + 1 = xs.length
    · have HF0 : Hid (FF = (tk && !nm)) := by
        have := HF.out
        rw [decide_eq_true hl] at this
        exact this
      clear HF HT HCN
      cases tk with
      | true =>
        go_enter Tryd.func32, Tryd.ntmps32
        go_wp2_with fail
        refine (HK.out _).mono ?_
        rintro e w1 ⟨rfl, rfl⟩
        go_wp2_with fail
        go_region_held3 (fun _ => True) (trivial) ((first | (go_at_call 45; refine HT2.out.mono ?_; rintro e w2 ⟨rfl, hb2⟩) | (go_at_call 46; refine (HN2.out _ hb2).mono ?_; rintro e w3 ⟨rfl, rfl⟩)))
        go_wp2_with fail
        go_ret
        exact ⟨ret_bool (by rw [HF0.out]; simp), (Below.refl _ w).drew.trans hb2⟩
      | false =>
        go_enter Tryd.func32, Tryd.ntmps32
        go_wp2_with fail
        refine (HK.out _).mono ?_
        rintro e w1 ⟨rfl, rfl⟩
        go_wp2_with fail
        refine wp_region_held_drew (S := fun _ => True) (by kernel_rfl) trivial (fun hHeld => ?_)
        refine give_at 0 21 (.string s) rfl rfl (by kernel_rfl) (by kernel_rfl) (by kernel_rfl) (fun _ _ _ h => h) (by rfl) (by intro w hSw; go_simp) (by assumption) ?_
        simp only [Act.put, List.setIfInBounds_toArray, List.set_cons_zero, List.set_cons_succ]
        refine give_at 1 22 (.string (s.extract 1 s.size)) rfl rfl (by kernel_rfl) (by kernel_rfl) (by kernel_rfl) (fun _ _ _ h => h) (by rfl) (by intro w hSw; go_simp) (by assumption) ?_
        simp only [Act.put, List.setIfInBounds_toArray, List.set_cons_zero, List.set_cons_succ]
        refine wpAnyH_ready (rs := [2]) (by kernel_rfl) (by simp) ?_
        refine AllReadyH.cons (o := { dst := some 23, op := Op.call { callee := Callee.value (Operand.func 45), args := #[Operand.tmp 22], argTypes := #[9] }, type := 4, pos := "path.go:105", after := #[{ on := 1, ground := Ground.data }], guard := none }) rfl (fun K hK => ?_) AllReadyH.nil
        go_simp
        (go_at_call 45; refine HT2.out.mono ?_; rintro e w2 ⟨rfl, hb2⟩)
        refine hK.out _ _ trivial (fun hHeld => ?_)
        clear hK K
        try simp only [Act.put, List.setIfInBounds_toArray, List.set_cons_zero, List.set_cons_succ]
        refine give_at 3 24 (.bool false) rfl rfl (by kernel_rfl) (by kernel_rfl) (by kernel_rfl) (fun _ _ _ h => h) (by rfl) (by intro w hSw; go_simp) (by assumption) ?_
        simp only [Act.put, List.setIfInBounds_toArray, List.set_cons_zero, List.set_cons_succ]
        refine skip_at 4 25 rfl rfl (by kernel_rfl) (by kernel_rfl) (by kernel_rfl) (fun _ _ _ h => h) (by rfl) (by assumption) ?_
        simp only [Act.put, List.setIfInBounds_toArray, List.set_cons_zero, List.set_cons_succ]
        refine skip_at 5 26 rfl rfl (by kernel_rfl) (by kernel_rfl) (by kernel_rfl) (fun _ _ _ h => h) (by rfl) (by assumption) ?_
        simp only [Act.put, List.setIfInBounds_toArray, List.set_cons_zero, List.set_cons_succ]
        refine skip_at 6 27 rfl rfl (by kernel_rfl) (by kernel_rfl) (by kernel_rfl) (fun _ _ _ h => h) (by rfl) (by assumption) ?_
        simp only [Act.put, List.setIfInBounds_toArray, List.set_cons_zero, List.set_cons_succ]
        refine skip_at 7 28 rfl rfl (by kernel_rfl) (by kernel_rfl) (by kernel_rfl) (fun _ _ _ h => h) (by rfl) (by assumption) ?_
        simp only [Act.put, List.setIfInBounds_toArray, List.set_cons_zero, List.set_cons_succ]
        refine skip_at 8 29 rfl rfl (by kernel_rfl) (by kernel_rfl) (by kernel_rfl) (fun _ _ _ h => h) (by rfl) (by assumption) ?_
        simp only [Act.put, List.setIfInBounds_toArray, List.set_cons_zero, List.set_cons_succ]
        refine skip_at 9 30 rfl rfl (by kernel_rfl) (by kernel_rfl) (by kernel_rfl) (fun _ _ _ h => h) (by rfl) (by assumption) ?_
        simp only [Act.put, List.setIfInBounds_toArray, List.set_cons_zero, List.set_cons_succ]
        refine skip_at 10 31 rfl rfl (by kernel_rfl) (by kernel_rfl) (by kernel_rfl) (fun _ _ _ h => h) (by rfl) (by assumption) ?_
        simp only [Act.put, List.setIfInBounds_toArray, List.set_cons_zero, List.set_cons_succ]
        refine give_at 11 32 (.bool false) rfl rfl (by kernel_rfl) (by kernel_rfl) (by kernel_rfl) (fun _ _ _ h => h) (by rfl) (by intro w hSw; go_simp) (by assumption) ?_
        simp only [Act.put, List.setIfInBounds_toArray, List.set_cons_zero, List.set_cons_succ]
        refine give_at 12 4 (.bool false) rfl rfl (by kernel_rfl) (by kernel_rfl) (by kernel_rfl) (fun _ _ _ h => h) (by rfl) (by intro w hSw; go_simp) (by assumption) ?_
        simp only [Act.put, List.setIfInBounds_toArray, List.set_cons_zero, List.set_cons_succ]
        refine wpAnyH_done (by kernel_rfl) ?_ _
        go_wp2_with fail
        go_ret
        exact ⟨ret_bool (by rw [HF0.out]; simp), (Below.refl _ w).drew.trans hb2⟩
    · have HF0 : Hid (FF = false) := by
        have := HF.out
        rw [decide_eq_false hl] at this
        exact this
      clear HF HT HCN HN2 HT2
      go_enter Tryd.func32, Tryd.ntmps32
      go_wp2_with fail
      refine (HK.out _).mono ?_
      rintro e w1 ⟨rfl, rfl⟩
      go_wp2_with fail
      go_ret
      exact ⟨ret_bool HF0.out.symm, Below.refl _ _⟩

end Go.Proofs.YtgfjkpfjajjidaaDoor
