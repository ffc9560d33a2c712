/- The walk of ChainLinks. -/
import Derived.Test.YtmncchgifgjhgaaDoorMarksH
import Derived.Test.YtmncchgifgjhgaaDoorLinkP
namespace Go.Proofs.YtmncchgifgjhgaaDoor
open Go.RowKit Go.Shelf

theorem not_both {m : ByteArray} {l k : List UInt8} (h : (m.toList == l) = true) (hn : l ≠ k) : (m.toList == k) = false := by
  rw [eq_list] at h ⊢
  have := of_decide_eq_true h
  exact decide_eq_false (by rw [this]; exact hn)

set_option maxRecDepth 100000 in
set_option maxHeartbeats 4000000 in
theorem links_walk (c : Cl) (which : Int) (w : World) (hg : GB w) (h : c.at w) :
    Calls Tryd.prog 5 #[c.v, .int .i64 which] w fun e w' => e = .returned (.bool true) ∧ Below w.heap.size w w' := by
  have HL := Lib.hid (fun wx (hb : Below w.heap.size w wx) => light_any c wx ⟨(h.row.below hb (Nat.le_refl _)).wide hb.size, (h.rowS.below hb (Nat.le_refl _)).wide hb.size, h.cap, h.fsz, h.alz, h.fsn, h.aln, h.z0, h.z1, h.z2, h.z3, h.icn, h.isq, h.ivs⟩)
  have HH := Lib.hid h
  have HF := Lib.hid (fun wx (hb : Below w.heap.size w wx) => fit_any wx (hg.on hb))
  have HG := Lib.hid hg
  clear h hg
  obtain ⟨m, tg, A1, fs, fc, bd, cc, cn, sq, vs, hn, pv, B1, al, ac, fd, tk⟩ := c
  simp only [Cl.v] at *
  have hb1 := (Below.refl w.heap.size w).alloc (Nat.le_refl _) (.cells #[.string m, .string tg, .slice A1 fs.length fc, .string bd, .bool cc, .int .i64 cn, .int .i64 sq, .int .i64 vs, .string hn, pv, .slice B1 al.length ac, .bool fd, .string tk] 30)
  have hkc := heap_alloc_new w (.cells #[.string m, .string tg, .slice A1 fs.length fc, .string bd, .bool cc, .int .i64 cn, .int .i64 sq, .int .i64 vs, .string hn, pv, .slice B1 al.length ac, .bool fd, .string tk] 30)
  have HC := Lib.hid hkc; have HB := Lib.hid hb1
  clear hkc hb1
  go_enter Tryd.func5, Tryd.ntmps5
  go_wp2_with fail
  generalize (w.alloc (.cells #[.string m, .string tg, .slice A1 fs.length fc, .string bd, .bool cc, .int .i64 cn, .int .i64 sq, .int .i64 vs, .string hn, pv, .slice B1 al.length ac, .bool fd, .string tk] 30)) = w2 at *
  refine (HF.out w2 HB.out).mono ?_
  rintro e w3 ⟨rfl, hb3⟩
  have HB3 := Lib.hid (bt HB.out hb3)
  have hkq := (hb3.block _ (blk_lt HC.out)).trans HC.out
  have HC3 := Lib.hid hkq
  
  have c0 := blk_cell hkq 0; have c1 := blk_cell hkq 1; have c2 := blk_cell hkq 2; have c3 := blk_cell hkq 3; have c4 := blk_cell hkq 4; have c5 := blk_cell hkq 5; have c6 := blk_cell hkq 6; have c7 := blk_cell hkq 7; have c8 := blk_cell hkq 8; have c9 := blk_cell hkq 9; have c10 := blk_cell hkq 10; have c11 := blk_cell hkq 11; have c12 := blk_cell hkq 12
  simp only [List.getElem?_toArray, List.getElem?_cons_zero, List.getElem?_cons_succ] at c0 c1 c2 c3 c4 c5 c6 c7 c8 c9 c10 c11 c12
  clear hkq hb3 HC HF
  go_wp2_with fail
  refine (HL.out _ HB3.out).mono ?_
  rintro e w4 ⟨⟨lr, rfl, hlr⟩, hb4⟩
  have HB4 := Lib.hid (bt HB3.out hb4)
  have HC4 := Lib.hid ((hb4.block _ (blk_lt HC3.out)).trans HC3.out)
  
  clear c0 c1 c2 c3 c4 c5 c6 c7 c8 c9 c10 c11 c12 HC3 HL hb4
  have hk4 := HC4.out
  have c0 := blk_cell hk4 0; have c1 := blk_cell hk4 1; have c2 := blk_cell hk4 2; have c3 := blk_cell hk4 3; have c4 := blk_cell hk4 4; have c5 := blk_cell hk4 5; have c6 := blk_cell hk4 6; have c7 := blk_cell hk4 7; have c8 := blk_cell hk4 8; have c9 := blk_cell hk4 9; have c10 := blk_cell hk4 10; have c11 := blk_cell hk4 11; have c12 := blk_cell hk4 12
  simp only [List.getElem?_toArray, List.getElem?_cons_zero, List.getElem?_cons_succ] at c0 c1 c2 c3 c4 c5 c6 c7 c8 c9 c10 c11 c12
  clear hk4
  cases lr with
  | false =>
    clear hlr
    go_wp2_with fail
    go_ret
    exact ⟨rfl, HB4.out⟩
  | true =>
    have HLI := Lib.hid (hlr rfl)
    clear hlr
    have HTK := Lib.hid (all_any fs ⟨#[116, 111, 107, 101, 110]⟩ A1 fc w4 ((HH.out.row.below HB4.out (Nat.le_refl _)).wide HB4.out.size) (by have := HLI.out.fsn; simp only at this; omega))
    generalize hvv : valsOf ⟨#[116, 111, 107, 101, 110]⟩ fs = vals at *
    go_wp2_with fail
    refine HTK.out.mono ?_
    rintro e w5 ⟨v, rfl, hown, hb5⟩
    have HB5 := Lib.hid (bt HB4.out hb5)
    have hk5 := (hb5.block _ (blk_lt HC4.out)).trans HC4.out
    have HC5 := Lib.hid hk5
    clear c0 c1 c2 c3 c4 c5 c6 c7 c8 c9 c10 c11 c12 HTK
    have c0 := blk_cell hk5 0; have c1 := blk_cell hk5 1; have c2 := blk_cell hk5 2; have c3 := blk_cell hk5 3; have c4 := blk_cell hk5 4; have c5 := blk_cell hk5 5; have c6 := blk_cell hk5 6; have c7 := blk_cell hk5 7; have c8 := blk_cell hk5 8; have c9 := blk_cell hk5 9; have c10 := blk_cell hk5 10; have c11 := blk_cell hk5 11; have c12 := blk_cell hk5 12
    simp only [List.getElem?_toArray, List.getElem?_cons_zero, List.getElem?_cons_succ] at c0 c1 c2 c3 c4 c5 c6 c7 c8 c9 c10 c11 c12
    obtain ⟨B, k, rfl, hrd⟩ := Rd.own hown
    have HRD := Lib.hid hrd
    clear hown hb5 hk5 hrd
    have HADM : Hid (preL admL tg.data.toList = preL admL tg.data.toList) := rfl
    obtain ⟨adm, hadm⟩ : ∃ x, preL admL tg.data.toList = x := ⟨_, rfl⟩
    have HAD := Lib.hid hadm
    clear hadm HADM
    go_upto_region 7 with fail
    go_cut [7] from 20 (fun v wx => v = .bool adm ∧ wx = w5)
    case first =>
      have hx : (tg.extract 0 7).data.toList = (tg.data.toList.drop 0).take (7 - 0) := ext_data tg 0 7
      have hl : tg.data.toList.length = tg.size := data_len tg
      by_cases ha7 : (7 : Int) ≤ (tg.size : Int)
      · have hq : preL admL tg.data.toList = ((tg.extract 0 7).toList == [47, 97, 100, 109, 105, 110, 47]) := by
          rw [Lib.toList_data, hx]
          unfold preL
          have h7 : admL.length = 7 := rfl
          rw [h7, hl, decide_eq_true (by omega)]
          rfl
        rw [HAD.out] at hq
        clear hx hl
        cases hp7 : ((tg.extract 0 7).toList == [47, 97, 100, 109, 105, 110, 47]) with
        | true =>
          rw [hp7] at hq
          go_wp2_with fail
          go_meet
          exact ⟨by rw [hq], rfl⟩
        | false =>
          rw [hp7] at hq
          go_wp2_with fail
          go_meet
          exact ⟨by rw [hq], rfl⟩
      · have hq : preL admL tg.data.toList = false := by
          unfold preL
          have h7 : admL.length = 7 := rfl
          rw [h7, hl, decide_eq_false (by omega)]
          rfl
        rw [HAD.out] at hq
        clear hx hl
        go_wp2_with fail
        go_meet
        exact ⟨by rw [hq], rfl⟩
    case rest =>
      obtain ⟨rfl, rfl⟩ := hcut
      obtain ⟨r, hA⟩ : ∃ r, Int.tmod which 5 = r := ⟨_, rfl⟩
      have hr0 : -5 < r ∧ r < 5 := by rw [← hA]; exact ⟨Int.lt_tmod_of_pos which (by decide), Int.tmod_lt_of_pos which (by decide)⟩
      obtain ⟨j, hB, hj5⟩ : ∃ j : Nat, Int.tmod (r + 5) 5 = (j : Int) ∧ j < 5 := by
        rw [Int.tmod_eq_emod_of_nonneg (by omega)]
        exact ⟨((r + 5) % 5).toNat, by omega, by omega⟩
      have hw5 : wrap64 (r + 5) = r + 5 := by unfold wrap64; omega
      have hw6 : IntKind.i64.wrap (r + 5) = r + 5 := by rw [IntKind.wrap_i64]; omega
      have hj5i : (j : Int) < 5 := by omega
      obtain ⟨hr0a, hr0b⟩ := hr0
      obtain ⟨M, hM⟩ : ∃ M : Nat, [21, 22, 23, 24, 25].getD j 0 = M := ⟨_, rfl⟩
      have HMM := Lib.hid hM
      have hcell : (wc.alloc (.cells #[.func (.func 21) #[] #[], .func (.func 22) #[] #[], .func (.func 23) #[] #[], .func (.func 24) #[] #[], .func (.func 25) #[] #[]] 47)).cell? ⟨wc.heap.size, j, none⟩ = some (.func (.func M) #[] #[]) := by
        rw [blk_cell (heap_alloc_new wc _) j]
        have : j = 0 ∨ j = 1 ∨ j = 2 ∨ j = 3 ∨ j = 4 := by omega
        rcases this with e | e | e | e | e <;> (subst e; rw [← hM]; rfl)
      clear hM
      obtain ⟨okv, hokv⟩ : ∃ x, pickB j (kbT m) (sbT m bd) (gbT tk tg vals) fd = x := ⟨_, rfl⟩
      have HOK := Lib.hid hokv
      clear hokv
      have hba := (Below.refl wc.heap.size wc).alloc (Nat.le_refl _) (.cells #[.func (.func 21) #[] #[], .func (.func 22) #[] #[], .func (.func 23) #[] #[], .func (.func 24) #[] #[], .func (.func 25) #[] #[]] 47)
      have hk6 := (hba.block _ (blk_lt HC5.out)).trans HC5.out
      have HC6 := Lib.hid hk6
      have HB6 := Lib.hid (bt HB5.out hba)
      have HRD6 := Lib.hid (((HRD.out.below hba (Nat.le_refl _)).wide hba.size))
      have hcell2 : ∀ (b0 b1 b2 b3 : Bool) (wx : World), (wx.alloc (.cells #[.bool b0, .bool b1, .bool b2, .bool b3, .bool true] 4)).cell? ⟨wx.heap.size, j, none⟩ = some (.bool (pickB j b0 b1 b2 b3)) := fun b0 b1 b2 b3 wx => by
        rw [blk_cell (heap_alloc_new wx _) j]
        have : j = 0 ∨ j = 1 ∨ j = 2 ∨ j = 3 ∨ j = 4 := by omega
        rcases this with e | e | e | e | e <;> (subst e; rfl)
      clear hk6 hba
      go_upto_region 9 with fail
      generalize wc.alloc (.cells #[.func (.func 21) #[] #[], .func (.func 22) #[] #[], .func (.func 23) #[] #[], .func (.func 24) #[] #[], .func (.func 25) #[] #[]] 47) = w6 at *
      clear hcell c0 c1 c2 c3 c4 c5 c6 c7 c8 c9 c10 c11 c12
      have hk6 := HC6.out
      have c0 := blk_cell hk6 0; have c1 := blk_cell hk6 1; have c2 := blk_cell hk6 2; have c3 := blk_cell hk6 3; have c4 := blk_cell hk6 4; have c5 := blk_cell hk6 5; have c6 := blk_cell hk6 6; have c7 := blk_cell hk6 7; have c8 := blk_cell hk6 8; have c9 := blk_cell hk6 9; have c10 := blk_cell hk6 10; have c11 := blk_cell hk6 11; have c12 := blk_cell hk6 12
      simp only [List.getElem?_toArray, List.getElem?_cons_zero, List.getElem?_cons_succ] at c0 c1 c2 c3 c4 c5 c6 c7 c8 c9 c10 c11 c12
      clear hk6
      go_cut [9] from 39 (fun v wx => v = .bool okv ∧ Hid (Below w.heap.size w wx ∧ Below w6.heap.size w6 wx))
      case first =>
        dsimp only [List.append]
        obtain ⟨g1, G1⟩ : ∃ x, (m.toList == [71, 69, 84]) = x := ⟨_, rfl⟩
        obtain ⟨g2, G2⟩ : ∃ x, (m.toList == [80, 85, 84]) = x := ⟨_, rfl⟩
        obtain ⟨g3, G3⟩ : ∃ x, (m.toList == [80, 79, 83, 84]) = x := ⟨_, rfl⟩
        obtain ⟨g4, G4⟩ : ∃ x, (m.toList == [68, 69, 76, 69, 84, 69]) = x := ⟨_, rfl⟩
        obtain ⟨ge, GE⟩ : ∃ x, (bd.toList == []) = x := ⟨_, rfl⟩
        obtain ⟨gt, GT⟩ : ∃ x, (tk.toList == []) = x := ⟨_, rfl⟩
        have HL := Lib.hid (And.intro G1 (And.intro G2 (And.intro G3 (And.intro G4 (And.intro GE GT)))))
        by_cases hl1 : vals.length = 1
        · obtain ⟨x, hx⟩ : ∃ x, vals = [x] := List.length_eq_one_iff.1 hl1
          obtain ⟨a, ea, hab, hc⟩ := HRD6.out.2 (by omega)
          have y0 : w6.cell? (a.add 0) = some (.string x) := hc 0 _ (by rw [hx]; rfl)
          have y1 : w6.cell? a = some (.string x) := y0
          have HV : Hid (decide (vals = [tk]) = (x.toList == tk.toList)) := by show _ = _; rw [eq_test, hx]; simp
          obtain ⟨vx, VX⟩ : ∃ x', (x.toList == tk.toList) = x' := ⟨_, rfl⟩
          have HVX := Lib.hid VX
          have hlt : (vals.length : Int) = 1 := by omega
          have hl : ((vals.length : Int) == 1) = true := by rw [hlt]; rfl
          have hl0 : (0 : Int) < (vals.length : Int) := by omega
          have hvne : ¬ vals = [] := by rw [hx]; simp
          have HSX : Hid (∀ W, Below w6.heap.size w6 W → W.cell? ⟨w.heap.size, 0, none⟩ = some (.string m) ∧ W.cell? ⟨w.heap.size, 3, none⟩ = some (.string bd) ∧ W.cell? ⟨w.heap.size, 11, none⟩ = some (.bool fd) ∧ W.cell? ⟨w.heap.size, 12, none⟩ = some (.string tk) ∧ W.cell? a = some (.string x)) := fun W hb => by
            have hk := (hb.block _ (blk_lt HC6.out)).trans HC6.out
            exact ⟨blk_cell hk 0, blk_cell hk 3, blk_cell hk 11, blk_cell hk 12, (hb.cell (p := a) hab).trans y1⟩
          subst ea
          clear hc hx hlt hl1 y0 y1 hab
          refine wp_region_held_drew (S := fun W => W.cell? ⟨w.heap.size, 0, none⟩ = some (.string m) ∧ W.cell? ⟨w.heap.size, 3, none⟩ = some (.string bd) ∧ W.cell? ⟨w.heap.size, 11, none⟩ = some (.bool fd) ∧ W.cell? ⟨w.heap.size, 12, none⟩ = some (.string tk) ∧ W.cell? a = some (.string x)) (by kernel_rfl) (HSX.out _ (Below.refl _ _).drew) (fun hHeld => ?_)
          refine wpAnyH_take (i := 0) (oi := ({ dst := some 39, op := Op.fieldAddr 30 (Operand.tmp 2) 0, type := 0, pos := "law.go:138", after := #[], guard := none } : Oper)) (v := ?_) rfl (by kernel_rfl) (by kernel_rfl) (by kernel_rfl) (fun _ _ _ h => h) ?_ (by assumption) ?_
          rotate_left 1
          · refine Or.inl ⟨by rfl, ?_⟩
            (intro wq hSw; (try dsimp only at hSw); go_simp) <;> (try with_reducible rfl)
          try simp only [Act.put, List.setIfInBounds_toArray, List.set_cons_zero, List.set_cons_succ]
          refine wpAnyH_take (i := 1) (oi := ({ dst := some 40, op := Op.fieldAddr 24 (Operand.tmp 39) 0, type := 0, pos := "law.go:138", after := #[{ on := 0, ground := Ground.data }], guard := none } : Oper)) (v := ?_) rfl (by kernel_rfl) (by kernel_rfl) (by kernel_rfl) (fun _ _ _ h => h) ?_ (by assumption) ?_
          rotate_left 1
          · refine Or.inl ⟨by rfl, ?_⟩
            (intro wq hSw; (try dsimp only at hSw); go_simp) <;> (try with_reducible rfl)
          try simp only [Act.put, List.setIfInBounds_toArray, List.set_cons_zero, List.set_cons_succ]
          refine wpAnyH_take (i := 2) (oi := ({ dst := some 41, op := Op.load 9 (Operand.tmp 40), type := 9, pos := "law.go:138", after := #[{ on := 1, ground := Ground.data }], guard := none } : Oper)) (v := ?_) rfl (by kernel_rfl) (by kernel_rfl) (by kernel_rfl) (fun _ _ _ h => h) ?_ (by assumption) ?_
          rotate_left 1
          · refine Or.inl ⟨by rfl, ?_⟩
            (intro wq hSw; (try dsimp only at hSw); go_simp) <;> (try with_reducible rfl)
          try simp only [Act.put, List.setIfInBounds_toArray, List.set_cons_zero, List.set_cons_succ]
          refine wpAnyH_take (i := 3) (oi := ({ dst := some 42, op := Op.binOp BinOp.eql 9 (Operand.tmp 41) (Operand.const (Value.string { data := #[71, 69, 84] })) 9, type := 4, pos := "law.go:138", after := #[{ on := 2, ground := Ground.data }], guard := none } : Oper)) (v := ?_) rfl (by kernel_rfl) (by kernel_rfl) (by kernel_rfl) (fun _ _ _ h => h) ?_ (by assumption) ?_
          rotate_left 1
          · refine Or.inl ⟨by rfl, ?_⟩
            (intro wq hSw; (try dsimp only at hSw); go_simp) <;> (try with_reducible rfl)
          try simp only [Act.put, List.setIfInBounds_toArray, List.set_cons_zero, List.set_cons_succ]
          refine wpAnyH_take (i := 4) (oi := ({ dst := some 43, op := Op.move (Operand.tmp 42), type := 4, pos := "law.go:138", after := #[{ on := 3, ground := Ground.data }], guard := none } : Oper)) (v := ?_) rfl (by kernel_rfl) (by kernel_rfl) (by kernel_rfl) (fun _ _ _ h => h) ?_ (by assumption) ?_
          rotate_left 1
          · refine Or.inl ⟨by rfl, ?_⟩
            (intro wq hSw; (try dsimp only at hSw); go_simp) <;> (try with_reducible rfl)
          try simp only [Act.put, List.setIfInBounds_toArray, List.set_cons_zero, List.set_cons_succ]
          refine wpAnyH_take (i := 5) (oi := ({ dst := some 44, op := Op.fieldAddr 30 (Operand.tmp 2) 0, type := 0, pos := "law.go:138", after := #[{ on := 4, ground := Ground.guard }], guard := some (4, false) } : Oper)) (v := (bif g1 then undef else .pointer (some ⟨w.heap.size, 0, none⟩))) rfl (by kernel_rfl) (by kernel_rfl) (by kernel_rfl) (fun _ _ _ h => h) ?_ (by assumption) ?_
          · cases g1 <;> first | exact Or.inr ⟨by rfl, by rfl⟩ | (refine Or.inl ⟨by rfl, ?_⟩; (intro wq hSw; (try dsimp only at hSw); go_simp) <;> (try with_reducible rfl); done) | (refine Or.inl ⟨by rfl, ?_⟩; (intro wq hSw; (try dsimp only at hSw); go_simp) <;> rfl)
          try simp only [Act.put, List.setIfInBounds_toArray, List.set_cons_zero, List.set_cons_succ]
          refine wpAnyH_take (i := 6) (oi := ({ dst := some 45, op := Op.fieldAddr 24 (Operand.tmp 44) 0, type := 0, pos := "law.go:138", after := #[{ on := 5, ground := Ground.data }, { on := 4, ground := Ground.guard }], guard := some (4, false) } : Oper)) (v := (bif g1 then undef else .pointer (some ⟨w.heap.size, 0, none⟩))) rfl (by kernel_rfl) (by kernel_rfl) (by kernel_rfl) (fun _ _ _ h => h) ?_ (by assumption) ?_
          · cases g1 <;> first | exact Or.inr ⟨by rfl, by rfl⟩ | (refine Or.inl ⟨by rfl, ?_⟩; (intro wq hSw; (try dsimp only at hSw); go_simp) <;> (try with_reducible rfl); done) | (refine Or.inl ⟨by rfl, ?_⟩; (intro wq hSw; (try dsimp only at hSw); go_simp) <;> rfl)
          try simp only [Act.put, List.setIfInBounds_toArray, List.set_cons_zero, List.set_cons_succ]
          refine wpAnyH_take (i := 7) (oi := ({ dst := some 46, op := Op.load 9 (Operand.tmp 45), type := 9, pos := "law.go:138", after := #[{ on := 6, ground := Ground.data }, { on := 4, ground := Ground.guard }], guard := some (4, false) } : Oper)) (v := (bif g1 then undef else .string m)) rfl (by kernel_rfl) (by kernel_rfl) (by kernel_rfl) (fun _ _ _ h => h) ?_ (by assumption) ?_
          · cases g1 <;> first | exact Or.inr ⟨by rfl, by rfl⟩ | (refine Or.inl ⟨by rfl, ?_⟩; (intro wq hSw; (try dsimp only at hSw); go_simp) <;> (try with_reducible rfl); done) | (refine Or.inl ⟨by rfl, ?_⟩; (intro wq hSw; (try dsimp only at hSw); go_simp) <;> rfl)
          try simp only [Act.put, List.setIfInBounds_toArray, List.set_cons_zero, List.set_cons_succ]
          refine wpAnyH_take (i := 8) (oi := ({ dst := some 47, op := Op.binOp BinOp.eql 9 (Operand.tmp 46) (Operand.const (Value.string { data := #[80, 85, 84] })) 9, type := 4, pos := "law.go:138", after := #[{ on := 7, ground := Ground.data }, { on := 4, ground := Ground.guard }], guard := some (4, false) } : Oper)) (v := (bif g1 then undef else .bool g2)) rfl (by kernel_rfl) (by kernel_rfl) (by kernel_rfl) (fun _ _ _ h => h) ?_ (by assumption) ?_
          · cases g1 <;> first | exact Or.inr ⟨by rfl, by rfl⟩ | (refine Or.inl ⟨by rfl, ?_⟩; (intro wq hSw; (try dsimp only at hSw); go_simp) <;> (try with_reducible rfl); done) | (refine Or.inl ⟨by rfl, ?_⟩; (intro wq hSw; (try dsimp only at hSw); go_simp) <;> rfl)
          try simp only [Act.put, List.setIfInBounds_toArray, List.set_cons_zero, List.set_cons_succ]
          refine wpAnyH_take (i := 9) (oi := ({ dst := some 48, op := Op.pick (Operand.tmp 43) (Operand.const (Value.bool true)) (Operand.tmp 47), type := 4, pos := "law.go:138", after := #[{ on := 4, ground := Ground.data }, { on := 8, ground := Ground.data }], guard := none } : Oper)) (v := .bool (g1 || g2)) rfl (by kernel_rfl) (by kernel_rfl) (by kernel_rfl) (fun _ _ _ h => h) ?_ (by assumption) ?_
          · cases g1 <;> first | exact Or.inr ⟨by rfl, by rfl⟩ | (refine Or.inl ⟨by rfl, ?_⟩; (intro wq hSw; (try dsimp only at hSw); go_simp) <;> (try with_reducible rfl); done) | (refine Or.inl ⟨by rfl, ?_⟩; (intro wq hSw; (try dsimp only at hSw); go_simp) <;> rfl)
          try simp only [Act.put, List.setIfInBounds_toArray, List.set_cons_zero, List.set_cons_succ]
          generalize hh2 : (g1 || g2) = h2
          refine wpAnyH_take (i := 10) (oi := ({ dst := some 49, op := Op.move (Operand.tmp 48), type := 4, pos := "law.go:138", after := #[{ on := 9, ground := Ground.data }, { on := 4, ground := Ground.chain }], guard := none } : Oper)) (v := ?_) rfl (by kernel_rfl) (by kernel_rfl) (by kernel_rfl) (fun _ _ _ h => h) ?_ (by assumption) ?_
          rotate_left 1
          · refine Or.inl ⟨by rfl, ?_⟩
            (intro wq hSw; (try dsimp only at hSw); go_simp) <;> (try with_reducible rfl)
          try simp only [Act.put, List.setIfInBounds_toArray, List.set_cons_zero, List.set_cons_succ]
          refine wpAnyH_take (i := 11) (oi := ({ dst := some 50, op := Op.fieldAddr 30 (Operand.tmp 2) 0, type := 0, pos := "law.go:138", after := #[{ on := 10, ground := Ground.guard }], guard := some (10, false) } : Oper)) (v := (bif h2 then undef else .pointer (some ⟨w.heap.size, 0, none⟩))) rfl (by kernel_rfl) (by kernel_rfl) (by kernel_rfl) (fun _ _ _ h => h) ?_ (by assumption) ?_
          · cases h2 <;> first | exact Or.inr ⟨by rfl, by rfl⟩ | (refine Or.inl ⟨by rfl, ?_⟩; (intro wq hSw; (try dsimp only at hSw); go_simp) <;> (try with_reducible rfl); done) | (refine Or.inl ⟨by rfl, ?_⟩; (intro wq hSw; (try dsimp only at hSw); go_simp) <;> rfl)
          try simp only [Act.put, List.setIfInBounds_toArray, List.set_cons_zero, List.set_cons_succ]
          refine wpAnyH_take (i := 12) (oi := ({ dst := some 51, op := Op.fieldAddr 24 (Operand.tmp 50) 0, type := 0, pos := "law.go:138", after := #[{ on := 11, ground := Ground.data }, { on := 10, ground := Ground.guard }], guard := some (10, false) } : Oper)) (v := (bif h2 then undef else .pointer (some ⟨w.heap.size, 0, none⟩))) rfl (by kernel_rfl) (by kernel_rfl) (by kernel_rfl) (fun _ _ _ h => h) ?_ (by assumption) ?_
          · cases h2 <;> first | exact Or.inr ⟨by rfl, by rfl⟩ | (refine Or.inl ⟨by rfl, ?_⟩; (intro wq hSw; (try dsimp only at hSw); go_simp) <;> (try with_reducible rfl); done) | (refine Or.inl ⟨by rfl, ?_⟩; (intro wq hSw; (try dsimp only at hSw); go_simp) <;> rfl)
          try simp only [Act.put, List.setIfInBounds_toArray, List.set_cons_zero, List.set_cons_succ]
          refine wpAnyH_take (i := 13) (oi := ({ dst := some 52, op := Op.load 9 (Operand.tmp 51), type := 9, pos := "law.go:138", after := #[{ on := 12, ground := Ground.data }, { on := 10, ground := Ground.guard }], guard := some (10, false) } : Oper)) (v := (bif h2 then undef else .string m)) rfl (by kernel_rfl) (by kernel_rfl) (by kernel_rfl) (fun _ _ _ h => h) ?_ (by assumption) ?_
          · cases h2 <;> first | exact Or.inr ⟨by rfl, by rfl⟩ | (refine Or.inl ⟨by rfl, ?_⟩; (intro wq hSw; (try dsimp only at hSw); go_simp) <;> (try with_reducible rfl); done) | (refine Or.inl ⟨by rfl, ?_⟩; (intro wq hSw; (try dsimp only at hSw); go_simp) <;> rfl)
          try simp only [Act.put, List.setIfInBounds_toArray, List.set_cons_zero, List.set_cons_succ]
          refine wpAnyH_take (i := 14) (oi := ({ dst := some 53, op := Op.binOp BinOp.eql 9 (Operand.tmp 52) (Operand.const (Value.string { data := #[80, 79, 83, 84] })) 9, type := 4, pos := "law.go:138", after := #[{ on := 13, ground := Ground.data }, { on := 10, ground := Ground.guard }], guard := some (10, false) } : Oper)) (v := (bif h2 then undef else .bool g3)) rfl (by kernel_rfl) (by kernel_rfl) (by kernel_rfl) (fun _ _ _ h => h) ?_ (by assumption) ?_
          · cases h2 <;> first | exact Or.inr ⟨by rfl, by rfl⟩ | (refine Or.inl ⟨by rfl, ?_⟩; (intro wq hSw; (try dsimp only at hSw); go_simp) <;> (try with_reducible rfl); done) | (refine Or.inl ⟨by rfl, ?_⟩; (intro wq hSw; (try dsimp only at hSw); go_simp) <;> rfl)
          try simp only [Act.put, List.setIfInBounds_toArray, List.set_cons_zero, List.set_cons_succ]
          refine wpAnyH_take (i := 15) (oi := ({ dst := some 54, op := Op.pick (Operand.tmp 49) (Operand.const (Value.bool true)) (Operand.tmp 53), type := 4, pos := "law.go:138", after := #[{ on := 10, ground := Ground.data }, { on := 14, ground := Ground.data }], guard := none } : Oper)) (v := .bool (h2 || g3)) rfl (by kernel_rfl) (by kernel_rfl) (by kernel_rfl) (fun _ _ _ h => h) ?_ (by assumption) ?_
          · cases h2 <;> first | exact Or.inr ⟨by rfl, by rfl⟩ | (refine Or.inl ⟨by rfl, ?_⟩; (intro wq hSw; (try dsimp only at hSw); go_simp) <;> (try with_reducible rfl); done) | (refine Or.inl ⟨by rfl, ?_⟩; (intro wq hSw; (try dsimp only at hSw); go_simp) <;> rfl)
          try simp only [Act.put, List.setIfInBounds_toArray, List.set_cons_zero, List.set_cons_succ]
          generalize hh3 : (h2 || g3) = h3
          refine wpAnyH_take (i := 16) (oi := ({ dst := some 55, op := Op.move (Operand.tmp 54), type := 4, pos := "law.go:138", after := #[{ on := 15, ground := Ground.data }, { on := 10, ground := Ground.chain }], guard := none } : Oper)) (v := ?_) rfl (by kernel_rfl) (by kernel_rfl) (by kernel_rfl) (fun _ _ _ h => h) ?_ (by assumption) ?_
          rotate_left 1
          · refine Or.inl ⟨by rfl, ?_⟩
            (intro wq hSw; (try dsimp only at hSw); go_simp) <;> (try with_reducible rfl)
          try simp only [Act.put, List.setIfInBounds_toArray, List.set_cons_zero, List.set_cons_succ]
          refine wpAnyH_take (i := 17) (oi := ({ dst := some 56, op := Op.fieldAddr 30 (Operand.tmp 2) 0, type := 0, pos := "law.go:138", after := #[{ on := 16, ground := Ground.guard }], guard := some (16, false) } : Oper)) (v := (bif h3 then undef else .pointer (some ⟨w.heap.size, 0, none⟩))) rfl (by kernel_rfl) (by kernel_rfl) (by kernel_rfl) (fun _ _ _ h => h) ?_ (by assumption) ?_
          · cases h3 <;> first | exact Or.inr ⟨by rfl, by rfl⟩ | (refine Or.inl ⟨by rfl, ?_⟩; (intro wq hSw; (try dsimp only at hSw); go_simp) <;> (try with_reducible rfl); done) | (refine Or.inl ⟨by rfl, ?_⟩; (intro wq hSw; (try dsimp only at hSw); go_simp) <;> rfl)
          try simp only [Act.put, List.setIfInBounds_toArray, List.set_cons_zero, List.set_cons_succ]
          refine wpAnyH_take (i := 18) (oi := ({ dst := some 57, op := Op.fieldAddr 24 (Operand.tmp 56) 0, type := 0, pos := "law.go:138", after := #[{ on := 17, ground := Ground.data }, { on := 16, ground := Ground.guard }], guard := some (16, false) } : Oper)) (v := (bif h3 then undef else .pointer (some ⟨w.heap.size, 0, none⟩))) rfl (by kernel_rfl) (by kernel_rfl) (by kernel_rfl) (fun _ _ _ h => h) ?_ (by assumption) ?_
          · cases h3 <;> first | exact Or.inr ⟨by rfl, by rfl⟩ | (refine Or.inl ⟨by rfl, ?_⟩; (intro wq hSw; (try dsimp only at hSw); go_simp) <;> (try with_reducible rfl); done) | (refine Or.inl ⟨by rfl, ?_⟩; (intro wq hSw; (try dsimp only at hSw); go_simp) <;> rfl)
          try simp only [Act.put, List.setIfInBounds_toArray, List.set_cons_zero, List.set_cons_succ]
          refine wpAnyH_take (i := 19) (oi := ({ dst := some 58, op := Op.load 9 (Operand.tmp 57), type := 9, pos := "law.go:138", after := #[{ on := 18, ground := Ground.data }, { on := 16, ground := Ground.guard }], guard := some (16, false) } : Oper)) (v := (bif h3 then undef else .string m)) rfl (by kernel_rfl) (by kernel_rfl) (by kernel_rfl) (fun _ _ _ h => h) ?_ (by assumption) ?_
          · cases h3 <;> first | exact Or.inr ⟨by rfl, by rfl⟩ | (refine Or.inl ⟨by rfl, ?_⟩; (intro wq hSw; (try dsimp only at hSw); go_simp) <;> (try with_reducible rfl); done) | (refine Or.inl ⟨by rfl, ?_⟩; (intro wq hSw; (try dsimp only at hSw); go_simp) <;> rfl)
          try simp only [Act.put, List.setIfInBounds_toArray, List.set_cons_zero, List.set_cons_succ]
          refine wpAnyH_take (i := 20) (oi := ({ dst := some 59, op := Op.binOp BinOp.eql 9 (Operand.tmp 58) (Operand.const (Value.string { data := #[68, 69, 76, 69, 84, 69] })) 9, type := 4, pos := "law.go:138", after := #[{ on := 19, ground := Ground.data }, { on := 16, ground := Ground.guard }], guard := some (16, false) } : Oper)) (v := (bif h3 then undef else .bool g4)) rfl (by kernel_rfl) (by kernel_rfl) (by kernel_rfl) (fun _ _ _ h => h) ?_ (by assumption) ?_
          · cases h3 <;> first | exact Or.inr ⟨by rfl, by rfl⟩ | (refine Or.inl ⟨by rfl, ?_⟩; (intro wq hSw; (try dsimp only at hSw); go_simp) <;> (try with_reducible rfl); done) | (refine Or.inl ⟨by rfl, ?_⟩; (intro wq hSw; (try dsimp only at hSw); go_simp) <;> rfl)
          try simp only [Act.put, List.setIfInBounds_toArray, List.set_cons_zero, List.set_cons_succ]
          refine wpAnyH_take (i := 21) (oi := ({ dst := some 60, op := Op.pick (Operand.tmp 55) (Operand.const (Value.bool true)) (Operand.tmp 59), type := 4, pos := "law.go:138", after := #[{ on := 16, ground := Ground.data }, { on := 20, ground := Ground.data }], guard := none } : Oper)) (v := .bool (h3 || g4)) rfl (by kernel_rfl) (by kernel_rfl) (by kernel_rfl) (fun _ _ _ h => h) ?_ (by assumption) ?_
          · cases h3 <;> first | exact Or.inr ⟨by rfl, by rfl⟩ | (refine Or.inl ⟨by rfl, ?_⟩; (intro wq hSw; (try dsimp only at hSw); go_simp) <;> (try with_reducible rfl); done) | (refine Or.inl ⟨by rfl, ?_⟩; (intro wq hSw; (try dsimp only at hSw); go_simp) <;> rfl)
          try simp only [Act.put, List.setIfInBounds_toArray, List.set_cons_zero, List.set_cons_succ]
          generalize hq0 : (h3 || g4) = q0
          refine wpAnyH_take (i := 22) (oi := ({ dst := some 61, op := Op.fieldAddr 30 (Operand.tmp 2) 0, type := 0, pos := "law.go:138", after := #[], guard := none } : Oper)) (v := ?_) rfl (by kernel_rfl) (by kernel_rfl) (by kernel_rfl) (fun _ _ _ h => h) ?_ (by assumption) ?_
          rotate_left 1
          · refine Or.inl ⟨by rfl, ?_⟩
            (intro wq hSw; (try dsimp only at hSw); go_simp) <;> (try with_reducible rfl)
          try simp only [Act.put, List.setIfInBounds_toArray, List.set_cons_zero, List.set_cons_succ]
          refine wpAnyH_take (i := 23) (oi := ({ dst := some 62, op := Op.fieldAddr 24 (Operand.tmp 61) 3, type := 0, pos := "law.go:138", after := #[{ on := 22, ground := Ground.data }], guard := none } : Oper)) (v := ?_) rfl (by kernel_rfl) (by kernel_rfl) (by kernel_rfl) (fun _ _ _ h => h) ?_ (by assumption) ?_
          rotate_left 1
          · refine Or.inl ⟨by rfl, ?_⟩
            (intro wq hSw; (try dsimp only at hSw); go_simp) <;> (try with_reducible rfl)
          try simp only [Act.put, List.setIfInBounds_toArray, List.set_cons_zero, List.set_cons_succ]
          refine wpAnyH_take (i := 24) (oi := ({ dst := some 63, op := Op.load 9 (Operand.tmp 62), type := 9, pos := "law.go:138", after := #[{ on := 23, ground := Ground.data }], guard := none } : Oper)) (v := ?_) rfl (by kernel_rfl) (by kernel_rfl) (by kernel_rfl) (fun _ _ _ h => h) ?_ (by assumption) ?_
          rotate_left 1
          · refine Or.inl ⟨by rfl, ?_⟩
            (intro wq hSw; (try dsimp only at hSw); go_simp) <;> (try with_reducible rfl)
          try simp only [Act.put, List.setIfInBounds_toArray, List.set_cons_zero, List.set_cons_succ]
          refine wpAnyH_take (i := 25) (oi := ({ dst := some 64, op := Op.binOp BinOp.eql 9 (Operand.tmp 63) (Operand.const (Value.string { data := #[] })) 9, type := 4, pos := "law.go:138", after := #[{ on := 24, ground := Ground.data }], guard := none } : Oper)) (v := ?_) rfl (by kernel_rfl) (by kernel_rfl) (by kernel_rfl) (fun _ _ _ h => h) ?_ (by assumption) ?_
          rotate_left 1
          · refine Or.inl ⟨by rfl, ?_⟩
            (intro wq hSw; (try dsimp only at hSw); go_simp) <;> (try with_reducible rfl)
          try simp only [Act.put, List.setIfInBounds_toArray, List.set_cons_zero, List.set_cons_succ]
          refine wpAnyH_take (i := 26) (oi := ({ dst := some 65, op := Op.move (Operand.tmp 64), type := 4, pos := "law.go:138", after := #[{ on := 25, ground := Ground.data }, { on := 16, ground := Ground.chain }], guard := none } : Oper)) (v := ?_) rfl (by kernel_rfl) (by kernel_rfl) (by kernel_rfl) (fun _ _ _ h => h) ?_ (by assumption) ?_
          rotate_left 1
          · refine Or.inl ⟨by rfl, ?_⟩
            (intro wq hSw; (try dsimp only at hSw); go_simp) <;> (try with_reducible rfl)
          try simp only [Act.put, List.setIfInBounds_toArray, List.set_cons_zero, List.set_cons_succ]
          refine wpAnyH_take (i := 27) (oi := ({ dst := some 66, op := Op.fieldAddr 30 (Operand.tmp 2) 0, type := 0, pos := "law.go:138", after := #[{ on := 26, ground := Ground.guard }], guard := some (26, false) } : Oper)) (v := (bif ge then undef else .pointer (some ⟨w.heap.size, 0, none⟩))) rfl (by kernel_rfl) (by kernel_rfl) (by kernel_rfl) (fun _ _ _ h => h) ?_ (by assumption) ?_
          · cases ge <;> first | exact Or.inr ⟨by rfl, by rfl⟩ | (refine Or.inl ⟨by rfl, ?_⟩; (intro wq hSw; (try dsimp only at hSw); go_simp) <;> (try with_reducible rfl); done) | (refine Or.inl ⟨by rfl, ?_⟩; (intro wq hSw; (try dsimp only at hSw); go_simp) <;> rfl)
          try simp only [Act.put, List.setIfInBounds_toArray, List.set_cons_zero, List.set_cons_succ]
          refine wpAnyH_take (i := 28) (oi := ({ dst := some 67, op := Op.fieldAddr 24 (Operand.tmp 66) 0, type := 0, pos := "law.go:138", after := #[{ on := 27, ground := Ground.data }, { on := 26, ground := Ground.guard }], guard := some (26, false) } : Oper)) (v := (bif ge then undef else .pointer (some ⟨w.heap.size, 0, none⟩))) rfl (by kernel_rfl) (by kernel_rfl) (by kernel_rfl) (fun _ _ _ h => h) ?_ (by assumption) ?_
          · cases ge <;> first | exact Or.inr ⟨by rfl, by rfl⟩ | (refine Or.inl ⟨by rfl, ?_⟩; (intro wq hSw; (try dsimp only at hSw); go_simp) <;> (try with_reducible rfl); done) | (refine Or.inl ⟨by rfl, ?_⟩; (intro wq hSw; (try dsimp only at hSw); go_simp) <;> rfl)
          try simp only [Act.put, List.setIfInBounds_toArray, List.set_cons_zero, List.set_cons_succ]
          refine wpAnyH_take (i := 29) (oi := ({ dst := some 68, op := Op.load 9 (Operand.tmp 67), type := 9, pos := "law.go:138", after := #[{ on := 28, ground := Ground.data }, { on := 26, ground := Ground.guard }], guard := some (26, false) } : Oper)) (v := (bif ge then undef else .string m)) rfl (by kernel_rfl) (by kernel_rfl) (by kernel_rfl) (fun _ _ _ h => h) ?_ (by assumption) ?_
          · cases ge <;> first | exact Or.inr ⟨by rfl, by rfl⟩ | (refine Or.inl ⟨by rfl, ?_⟩; (intro wq hSw; (try dsimp only at hSw); go_simp) <;> (try with_reducible rfl); done) | (refine Or.inl ⟨by rfl, ?_⟩; (intro wq hSw; (try dsimp only at hSw); go_simp) <;> rfl)
          try simp only [Act.put, List.setIfInBounds_toArray, List.set_cons_zero, List.set_cons_succ]
          refine wpAnyH_take (i := 30) (oi := ({ dst := some 69, op := Op.binOp BinOp.neq 9 (Operand.tmp 68) (Operand.const (Value.string { data := #[71, 69, 84] })) 9, type := 4, pos := "law.go:138", after := #[{ on := 29, ground := Ground.data }, { on := 26, ground := Ground.guard }], guard := some (26, false) } : Oper)) (v := (bif ge then undef else .bool (!g1))) rfl (by kernel_rfl) (by kernel_rfl) (by kernel_rfl) (fun _ _ _ h => h) ?_ (by assumption) ?_
          · cases ge <;> first | exact Or.inr ⟨by rfl, by rfl⟩ | (refine Or.inl ⟨by rfl, ?_⟩; (intro wq hSw; (try dsimp only at hSw); go_simp) <;> (try with_reducible rfl); done) | (refine Or.inl ⟨by rfl, ?_⟩; (intro wq hSw; (try dsimp only at hSw); go_simp) <;> rfl)
          try simp only [Act.put, List.setIfInBounds_toArray, List.set_cons_zero, List.set_cons_succ]
          refine wpAnyH_take (i := 31) (oi := ({ dst := some 70, op := Op.move (Operand.tmp 69), type := 4, pos := "law.go:138", after := #[{ on := 30, ground := Ground.data }, { on := 26, ground := Ground.chain }, { on := 26, ground := Ground.guard }], guard := some (26, false) } : Oper)) (v := (bif ge then undef else .bool (!g1))) rfl (by kernel_rfl) (by kernel_rfl) (by kernel_rfl) (fun _ _ _ h => h) ?_ (by assumption) ?_
          · cases ge <;> first | exact Or.inr ⟨by rfl, by rfl⟩ | (refine Or.inl ⟨by rfl, ?_⟩; (intro wq hSw; (try dsimp only at hSw); go_simp) <;> (try with_reducible rfl); done) | (refine Or.inl ⟨by rfl, ?_⟩; (intro wq hSw; (try dsimp only at hSw); go_simp) <;> rfl)
          try simp only [Act.put, List.setIfInBounds_toArray, List.set_cons_zero, List.set_cons_succ]
          refine wpAnyH_take (i := 32) (oi := ({ dst := some 71, op := Op.fieldAddr 30 (Operand.tmp 2) 0, type := 0, pos := "law.go:138", after := #[{ on := 31, ground := Ground.guard }], guard := some (31, true) } : Oper)) (v := (bif ge then undef else (bif (!g1) then .pointer (some ⟨w.heap.size, 0, none⟩) else undef))) rfl (by kernel_rfl) (by kernel_rfl) (by kernel_rfl) (fun _ _ _ h => h) ?_ (by assumption) ?_
          · cases ge <;> cases g1 <;> first | exact Or.inr ⟨by rfl, by rfl⟩ | (refine Or.inl ⟨by rfl, ?_⟩; (intro wq hSw; (try dsimp only at hSw); go_simp) <;> (try with_reducible rfl); done) | (refine Or.inl ⟨by rfl, ?_⟩; (intro wq hSw; (try dsimp only at hSw); go_simp) <;> rfl)
          try simp only [Act.put, List.setIfInBounds_toArray, List.set_cons_zero, List.set_cons_succ]
          refine wpAnyH_take (i := 33) (oi := ({ dst := some 72, op := Op.fieldAddr 24 (Operand.tmp 71) 0, type := 0, pos := "law.go:138", after := #[{ on := 32, ground := Ground.data }, { on := 31, ground := Ground.guard }], guard := some (31, true) } : Oper)) (v := (bif ge then undef else (bif (!g1) then .pointer (some ⟨w.heap.size, 0, none⟩) else undef))) rfl (by kernel_rfl) (by kernel_rfl) (by kernel_rfl) (fun _ _ _ h => h) ?_ (by assumption) ?_
          · cases ge <;> cases g1 <;> first | exact Or.inr ⟨by rfl, by rfl⟩ | (refine Or.inl ⟨by rfl, ?_⟩; (intro wq hSw; (try dsimp only at hSw); go_simp) <;> (try with_reducible rfl); done) | (refine Or.inl ⟨by rfl, ?_⟩; (intro wq hSw; (try dsimp only at hSw); go_simp) <;> rfl)
          try simp only [Act.put, List.setIfInBounds_toArray, List.set_cons_zero, List.set_cons_succ]
          refine wpAnyH_take (i := 34) (oi := ({ dst := some 73, op := Op.load 9 (Operand.tmp 72), type := 9, pos := "law.go:138", after := #[{ on := 33, ground := Ground.data }, { on := 31, ground := Ground.guard }], guard := some (31, true) } : Oper)) (v := (bif ge then undef else (bif (!g1) then .string m else undef))) rfl (by kernel_rfl) (by kernel_rfl) (by kernel_rfl) (fun _ _ _ h => h) ?_ (by assumption) ?_
          · cases ge <;> cases g1 <;> first | exact Or.inr ⟨by rfl, by rfl⟩ | (refine Or.inl ⟨by rfl, ?_⟩; (intro wq hSw; (try dsimp only at hSw); go_simp) <;> (try with_reducible rfl); done) | (refine Or.inl ⟨by rfl, ?_⟩; (intro wq hSw; (try dsimp only at hSw); go_simp) <;> rfl)
          try simp only [Act.put, List.setIfInBounds_toArray, List.set_cons_zero, List.set_cons_succ]
          refine wpAnyH_take (i := 35) (oi := ({ dst := some 74, op := Op.binOp BinOp.neq 9 (Operand.tmp 73) (Operand.const (Value.string { data := #[68, 69, 76, 69, 84, 69] })) 9, type := 4, pos := "law.go:138", after := #[{ on := 34, ground := Ground.data }, { on := 31, ground := Ground.guard }], guard := some (31, true) } : Oper)) (v := (bif ge then undef else (bif (!g1) then .bool (!g4) else undef))) rfl (by kernel_rfl) (by kernel_rfl) (by kernel_rfl) (fun _ _ _ h => h) ?_ (by assumption) ?_
          · cases ge <;> cases g1 <;> first | exact Or.inr ⟨by rfl, by rfl⟩ | (refine Or.inl ⟨by rfl, ?_⟩; (intro wq hSw; (try dsimp only at hSw); go_simp) <;> (try with_reducible rfl); done) | (refine Or.inl ⟨by rfl, ?_⟩; (intro wq hSw; (try dsimp only at hSw); go_simp) <;> rfl)
          try simp only [Act.put, List.setIfInBounds_toArray, List.set_cons_zero, List.set_cons_succ]
          refine wpAnyH_take (i := 36) (oi := ({ dst := some 75, op := Op.pick (Operand.tmp 70) (Operand.tmp 74) (Operand.const (Value.bool false)), type := 4, pos := "law.go:138", after := #[{ on := 31, ground := Ground.data }, { on := 35, ground := Ground.data }, { on := 26, ground := Ground.guard }], guard := some (26, false) } : Oper)) (v := (bif ge then undef else .bool (!g1 && !g4))) rfl (by kernel_rfl) (by kernel_rfl) (by kernel_rfl) (fun _ _ _ h => h) ?_ (by assumption) ?_
          · cases ge <;> cases g1 <;> first | exact Or.inr ⟨by rfl, by rfl⟩ | (refine Or.inl ⟨by rfl, ?_⟩; (intro wq hSw; (try dsimp only at hSw); go_simp) <;> (try with_reducible rfl); done) | (refine Or.inl ⟨by rfl, ?_⟩; (intro wq hSw; (try dsimp only at hSw); go_simp) <;> rfl)
          try simp only [Act.put, List.setIfInBounds_toArray, List.set_cons_zero, List.set_cons_succ]
          refine wpAnyH_take (i := 37) (oi := ({ dst := some 76, op := Op.pick (Operand.tmp 65) (Operand.const (Value.bool true)) (Operand.tmp 75), type := 4, pos := "law.go:138", after := #[{ on := 26, ground := Ground.data }, { on := 36, ground := Ground.data }], guard := none } : Oper)) (v := .bool (ge || (!g1 && !g4))) rfl (by kernel_rfl) (by kernel_rfl) (by kernel_rfl) (fun _ _ _ h => h) ?_ (by assumption) ?_
          · cases ge <;> first | exact Or.inr ⟨by rfl, by rfl⟩ | (refine Or.inl ⟨by rfl, ?_⟩; (intro wq hSw; (try dsimp only at hSw); go_simp) <;> (try with_reducible rfl); done) | (refine Or.inl ⟨by rfl, ?_⟩; (intro wq hSw; (try dsimp only at hSw); go_simp) <;> rfl)
          try simp only [Act.put, List.setIfInBounds_toArray, List.set_cons_zero, List.set_cons_succ]
          generalize hq1 : (ge || (!g1 && !g4)) = q1
          refine wpAnyH_take (i := 38) (oi := ({ dst := some 77, op := Op.fieldAddr 30 (Operand.tmp 2) 6, type := 0, pos := "law.go:138", after := #[], guard := none } : Oper)) (v := ?_) rfl (by kernel_rfl) (by kernel_rfl) (by kernel_rfl) (fun _ _ _ h => h) ?_ (by assumption) ?_
          rotate_left 1
          · refine Or.inl ⟨by rfl, ?_⟩
            (intro wq hSw; (try dsimp only at hSw); go_simp) <;> (try with_reducible rfl)
          try simp only [Act.put, List.setIfInBounds_toArray, List.set_cons_zero, List.set_cons_succ]
          refine wpAnyH_take (i := 39) (oi := ({ dst := some 78, op := Op.load 9 (Operand.tmp 77), type := 9, pos := "law.go:138", after := #[{ on := 38, ground := Ground.data }], guard := none } : Oper)) (v := ?_) rfl (by kernel_rfl) (by kernel_rfl) (by kernel_rfl) (fun _ _ _ h => h) ?_ (by assumption) ?_
          rotate_left 1
          · refine Or.inl ⟨by rfl, ?_⟩
            (intro wq hSw; (try dsimp only at hSw); go_simp) <;> (try with_reducible rfl)
          try simp only [Act.put, List.setIfInBounds_toArray, List.set_cons_zero, List.set_cons_succ]
          refine wpAnyH_take (i := 40) (oi := ({ dst := some 79, op := Op.binOp BinOp.eql 9 (Operand.tmp 78) (Operand.const (Value.string { data := #[] })) 9, type := 4, pos := "law.go:138", after := #[{ on := 39, ground := Ground.data }], guard := none } : Oper)) (v := ?_) rfl (by kernel_rfl) (by kernel_rfl) (by kernel_rfl) (fun _ _ _ h => h) ?_ (by assumption) ?_
          rotate_left 1
          · refine Or.inl ⟨by rfl, ?_⟩
            (intro wq hSw; (try dsimp only at hSw); go_simp) <;> (try with_reducible rfl)
          try simp only [Act.put, List.setIfInBounds_toArray, List.set_cons_zero, List.set_cons_succ]
          refine wpAnyH_take (i := 41) (oi := ({ dst := some 80, op := Op.move (Operand.tmp 79), type := 4, pos := "law.go:138", after := #[{ on := 40, ground := Ground.data }, { on := 31, ground := Ground.chain }], guard := none } : Oper)) (v := ?_) rfl (by kernel_rfl) (by kernel_rfl) (by kernel_rfl) (fun _ _ _ h => h) ?_ (by assumption) ?_
          rotate_left 1
          · refine Or.inl ⟨by rfl, ?_⟩
            (intro wq hSw; (try dsimp only at hSw); go_simp) <;> (try with_reducible rfl)
          try simp only [Act.put, List.setIfInBounds_toArray, List.set_cons_zero, List.set_cons_succ]
          refine wpAnyH_take (i := 42) (oi := ({ dst := some 81, op := Op.move (Operand.tmp 7), type := 4, pos := "law.go:138", after := #[{ on := 41, ground := Ground.guard }], guard := some (41, false) } : Oper)) (v := (bif gt then undef else .bool adm)) rfl (by kernel_rfl) (by kernel_rfl) (by kernel_rfl) (fun _ _ _ h => h) ?_ (by assumption) ?_
          · cases gt <;> first | exact Or.inr ⟨by rfl, by rfl⟩ | (refine Or.inl ⟨by rfl, ?_⟩; (intro wq hSw; (try dsimp only at hSw); go_simp) <;> (try with_reducible rfl); done) | (refine Or.inl ⟨by rfl, ?_⟩; (intro wq hSw; (try dsimp only at hSw); go_simp) <;> rfl)
          try simp only [Act.put, List.setIfInBounds_toArray, List.set_cons_zero, List.set_cons_succ]
          refine wpAnyH_take (i := 43) (oi := ({ dst := some 82, op := Op.unOp UnOp.not 4 (Operand.tmp 81), type := 4, pos := "law.go:138", after := #[{ on := 42, ground := Ground.data }, { on := 41, ground := Ground.guard }], guard := some (41, false) } : Oper)) (v := (bif gt then undef else .bool (!adm))) rfl (by kernel_rfl) (by kernel_rfl) (by kernel_rfl) (fun _ _ _ h => h) ?_ (by assumption) ?_
          · cases gt <;> cases adm <;> first | exact Or.inr ⟨by rfl, by rfl⟩ | (refine Or.inl ⟨by rfl, ?_⟩; (intro wq hSw; (try dsimp only at hSw); go_simp) <;> (try with_reducible rfl); done) | (refine Or.inl ⟨by rfl, ?_⟩; (intro wq hSw; (try dsimp only at hSw); go_simp) <;> rfl)
          try simp only [Act.put, List.setIfInBounds_toArray, List.set_cons_zero, List.set_cons_succ]
          refine wpAnyH_take (i := 44) (oi := ({ dst := some 83, op := Op.pick (Operand.tmp 80) (Operand.const (Value.bool true)) (Operand.tmp 82), type := 4, pos := "law.go:138", after := #[{ on := 41, ground := Ground.data }, { on := 43, ground := Ground.data }], guard := none } : Oper)) (v := .bool (gt || !adm)) rfl (by kernel_rfl) (by kernel_rfl) (by kernel_rfl) (fun _ _ _ h => h) ?_ (by assumption) ?_
          · cases gt <;> first | exact Or.inr ⟨by rfl, by rfl⟩ | (refine Or.inl ⟨by rfl, ?_⟩; (intro wq hSw; (try dsimp only at hSw); go_simp) <;> (try with_reducible rfl); done) | (refine Or.inl ⟨by rfl, ?_⟩; (intro wq hSw; (try dsimp only at hSw); go_simp) <;> rfl)
          try simp only [Act.put, List.setIfInBounds_toArray, List.set_cons_zero, List.set_cons_succ]
          generalize hqq : (gt || !adm) = qq
          refine wpAnyH_take (i := 45) (oi := ({ dst := some 84, op := Op.move (Operand.tmp 83), type := 4, pos := "law.go:138", after := #[{ on := 44, ground := Ground.data }, { on := 41, ground := Ground.chain }], guard := none } : Oper)) (v := ?_) rfl (by kernel_rfl) (by kernel_rfl) (by kernel_rfl) (fun _ _ _ h => h) ?_ (by assumption) ?_
          rotate_left 1
          · refine Or.inl ⟨by rfl, ?_⟩
            (intro wq hSw; (try dsimp only at hSw); go_simp) <;> (try with_reducible rfl)
          try simp only [Act.put, List.setIfInBounds_toArray, List.set_cons_zero, List.set_cons_succ]
          refine wpAnyH_take (i := 46) (oi := ({ dst := some 85, op := Op.move (Operand.tmp 6), type := 26, pos := "law.go:138", after := #[{ on := 45, ground := Ground.guard }], guard := some (45, false) } : Oper)) (v := (bif qq then undef else .slice (some a) vals.length k)) rfl (by kernel_rfl) (by kernel_rfl) (by kernel_rfl) (fun _ _ _ h => h) ?_ (by assumption) ?_
          · cases qq <;> first | exact Or.inr ⟨by rfl, by rfl⟩ | (refine Or.inl ⟨by rfl, ?_⟩; (intro wq hSw; (try dsimp only at hSw); go_simp) <;> (try with_reducible rfl); done) | (refine Or.inl ⟨by rfl, ?_⟩; (intro wq hSw; (try dsimp only at hSw); go_simp) <;> rfl)
          try simp only [Act.put, List.setIfInBounds_toArray, List.set_cons_zero, List.set_cons_succ]
          refine wpAnyH_take (i := 47) (oi := ({ dst := some 86, op := Op.call { callee := Callee.builtin Builtin.len, args := #[Operand.tmp 85], argTypes := #[26] }, type := 3, pos := "law.go:138", after := #[{ on := 46, ground := Ground.data }, { on := 45, ground := Ground.guard }], guard := some (45, false) } : Oper)) (v := (bif qq then undef else .int .i64 (vals.length : Int))) rfl (by kernel_rfl) (by kernel_rfl) (by kernel_rfl) (fun _ _ _ h => h) ?_ (by assumption) ?_
          · cases qq <;> first | exact Or.inr ⟨by rfl, by rfl⟩ | (refine Or.inl ⟨by rfl, ?_⟩; (intro wq hSw; (try dsimp only at hSw); go_simp) <;> (try with_reducible rfl); done) | (refine Or.inl ⟨by rfl, ?_⟩; (intro wq hSw; (try dsimp only at hSw); go_simp) <;> rfl)
          try simp only [Act.put, List.setIfInBounds_toArray, List.set_cons_zero, List.set_cons_succ]
          refine wpAnyH_take (i := 48) (oi := ({ dst := some 87, op := Op.binOp BinOp.eql 3 (Operand.tmp 86) (Operand.const (Value.int IntKind.i64 1)) 3, type := 4, pos := "law.go:138", after := #[{ on := 47, ground := Ground.data }, { on := 45, ground := Ground.guard }], guard := some (45, false) } : Oper)) (v := (bif qq then undef else .bool true)) rfl (by kernel_rfl) (by kernel_rfl) (by kernel_rfl) (fun _ _ _ h => h) ?_ (by assumption) ?_
          · cases qq <;> first | exact Or.inr ⟨by rfl, by rfl⟩ | (refine Or.inl ⟨by rfl, ?_⟩; (intro wq hSw; (try dsimp only at hSw); go_simp) <;> (try with_reducible rfl); done) | (refine Or.inl ⟨by rfl, ?_⟩; (intro wq hSw; (try dsimp only at hSw); go_simp) <;> rfl)
          try simp only [Act.put, List.setIfInBounds_toArray, List.set_cons_zero, List.set_cons_succ]
          refine wpAnyH_take (i := 49) (oi := ({ dst := some 88, op := Op.move (Operand.tmp 87), type := 4, pos := "law.go:138", after := #[{ on := 48, ground := Ground.data }, { on := 45, ground := Ground.chain }, { on := 45, ground := Ground.guard }], guard := some (45, false) } : Oper)) (v := (bif qq then undef else .bool true)) rfl (by kernel_rfl) (by kernel_rfl) (by kernel_rfl) (fun _ _ _ h => h) ?_ (by assumption) ?_
          · cases qq <;> first | exact Or.inr ⟨by rfl, by rfl⟩ | (refine Or.inl ⟨by rfl, ?_⟩; (intro wq hSw; (try dsimp only at hSw); go_simp) <;> (try with_reducible rfl); done) | (refine Or.inl ⟨by rfl, ?_⟩; (intro wq hSw; (try dsimp only at hSw); go_simp) <;> rfl)
          try simp only [Act.put, List.setIfInBounds_toArray, List.set_cons_zero, List.set_cons_succ]
          refine wpAnyH_take (i := 50) (oi := ({ dst := some 89, op := Op.move (Operand.tmp 6), type := 26, pos := "law.go:138", after := #[{ on := 49, ground := Ground.guard }], guard := some (49, true) } : Oper)) (v := (bif qq then undef else .slice (some a) vals.length k)) rfl (by kernel_rfl) (by kernel_rfl) (by kernel_rfl) (fun _ _ _ h => h) ?_ (by assumption) ?_
          · cases qq <;> first | exact Or.inr ⟨by rfl, by rfl⟩ | (refine Or.inl ⟨by rfl, ?_⟩; (intro wq hSw; (try dsimp only at hSw); go_simp) <;> (try with_reducible rfl); done) | (refine Or.inl ⟨by rfl, ?_⟩; (intro wq hSw; (try dsimp only at hSw); go_simp) <;> rfl)
          try simp only [Act.put, List.setIfInBounds_toArray, List.set_cons_zero, List.set_cons_succ]
          refine wpAnyH_take (i := 51) (oi := ({ dst := some 90, op := Op.indexAddr 26 (Operand.tmp 89) (Operand.const (Value.int IntKind.i64 0)), type := 0, pos := "law.go:138", after := #[{ on := 50, ground := Ground.data }, { on := 49, ground := Ground.guard }], guard := some (49, true) } : Oper)) (v := (bif qq then undef else .pointer (some a))) rfl (by kernel_rfl) (by kernel_rfl) (by kernel_rfl) (fun _ _ _ h => h) ?_ (by assumption) ?_
          · cases qq <;> first | exact Or.inr ⟨by rfl, by rfl⟩ | (refine Or.inl ⟨by rfl, ?_⟩; (intro wq hSw; (try dsimp only at hSw); go_simp) <;> (try with_reducible rfl); done) | (refine Or.inl ⟨by rfl, ?_⟩; (intro wq hSw; (try dsimp only at hSw); go_simp) <;> rfl)
          try simp only [Act.put, List.setIfInBounds_toArray, List.set_cons_zero, List.set_cons_succ]
          refine wpAnyH_take (i := 52) (oi := ({ dst := some 91, op := Op.load 9 (Operand.tmp 90), type := 9, pos := "law.go:138", after := #[{ on := 51, ground := Ground.data }, { on := 49, ground := Ground.guard }], guard := some (49, true) } : Oper)) (v := (bif qq then undef else .string x)) rfl (by kernel_rfl) (by kernel_rfl) (by kernel_rfl) (fun _ _ _ h => h) ?_ (by assumption) ?_
          · cases qq <;> first | exact Or.inr ⟨by rfl, by rfl⟩ | (refine Or.inl ⟨by rfl, ?_⟩; (intro wq hSw; (try dsimp only at hSw); go_simp) <;> (try with_reducible rfl); done) | (refine Or.inl ⟨by rfl, ?_⟩; (intro wq hSw; (try dsimp only at hSw); go_simp) <;> rfl)
          try simp only [Act.put, List.setIfInBounds_toArray, List.set_cons_zero, List.set_cons_succ]
          refine wpAnyH_take (i := 53) (oi := ({ dst := some 92, op := Op.fieldAddr 30 (Operand.tmp 2) 6, type := 0, pos := "law.go:138", after := #[{ on := 49, ground := Ground.guard }], guard := some (49, true) } : Oper)) (v := (bif qq then undef else .pointer (some ⟨w.heap.size, 12, none⟩))) rfl (by kernel_rfl) (by kernel_rfl) (by kernel_rfl) (fun _ _ _ h => h) ?_ (by assumption) ?_
          · cases qq <;> first | exact Or.inr ⟨by rfl, by rfl⟩ | (refine Or.inl ⟨by rfl, ?_⟩; (intro wq hSw; (try dsimp only at hSw); go_simp) <;> (try with_reducible rfl); done) | (refine Or.inl ⟨by rfl, ?_⟩; (intro wq hSw; (try dsimp only at hSw); go_simp) <;> rfl)
          try simp only [Act.put, List.setIfInBounds_toArray, List.set_cons_zero, List.set_cons_succ]
          refine wpAnyH_take (i := 54) (oi := ({ dst := some 93, op := Op.load 9 (Operand.tmp 92), type := 9, pos := "law.go:138", after := #[{ on := 53, ground := Ground.data }, { on := 49, ground := Ground.guard }], guard := some (49, true) } : Oper)) (v := (bif qq then undef else .string tk)) rfl (by kernel_rfl) (by kernel_rfl) (by kernel_rfl) (fun _ _ _ h => h) ?_ (by assumption) ?_
          · cases qq <;> first | exact Or.inr ⟨by rfl, by rfl⟩ | (refine Or.inl ⟨by rfl, ?_⟩; (intro wq hSw; (try dsimp only at hSw); go_simp) <;> (try with_reducible rfl); done) | (refine Or.inl ⟨by rfl, ?_⟩; (intro wq hSw; (try dsimp only at hSw); go_simp) <;> rfl)
          try simp only [Act.put, List.setIfInBounds_toArray, List.set_cons_zero, List.set_cons_succ]
          refine wpAnyH_take (i := 55) (oi := ({ dst := some 94, op := Op.binOp BinOp.eql 9 (Operand.tmp 91) (Operand.tmp 93) 9, type := 4, pos := "law.go:138", after := #[{ on := 52, ground := Ground.data }, { on := 54, ground := Ground.data }, { on := 49, ground := Ground.guard }], guard := some (49, true) } : Oper)) (v := (bif qq then undef else .bool vx)) rfl (by kernel_rfl) (by kernel_rfl) (by kernel_rfl) (fun _ _ _ h => h) ?_ (by assumption) ?_
          · cases qq <;> first | exact Or.inr ⟨by rfl, by rfl⟩ | (refine Or.inl ⟨by rfl, ?_⟩; (intro wq hSw; (try dsimp only at hSw); go_simp) <;> (try with_reducible rfl); done) | (refine Or.inl ⟨by rfl, ?_⟩; (intro wq hSw; (try dsimp only at hSw); go_simp) <;> rfl)
          try simp only [Act.put, List.setIfInBounds_toArray, List.set_cons_zero, List.set_cons_succ]
          refine wpAnyH_take (i := 56) (oi := ({ dst := some 95, op := Op.pick (Operand.tmp 88) (Operand.tmp 94) (Operand.const (Value.bool false)), type := 4, pos := "law.go:138", after := #[{ on := 49, ground := Ground.data }, { on := 55, ground := Ground.data }, { on := 45, ground := Ground.guard }], guard := some (45, false) } : Oper)) (v := (bif qq then undef else .bool vx)) rfl (by kernel_rfl) (by kernel_rfl) (by kernel_rfl) (fun _ _ _ h => h) ?_ (by assumption) ?_
          · cases qq <;> first | exact Or.inr ⟨by rfl, by rfl⟩ | (refine Or.inl ⟨by rfl, ?_⟩; (intro wq hSw; (try dsimp only at hSw); go_simp) <;> (try with_reducible rfl); done) | (refine Or.inl ⟨by rfl, ?_⟩; (intro wq hSw; (try dsimp only at hSw); go_simp) <;> rfl)
          try simp only [Act.put, List.setIfInBounds_toArray, List.set_cons_zero, List.set_cons_succ]
          refine wpAnyH_take (i := 57) (oi := ({ dst := some 96, op := Op.pick (Operand.tmp 84) (Operand.const (Value.bool true)) (Operand.tmp 95), type := 4, pos := "law.go:138", after := #[{ on := 45, ground := Ground.data }, { on := 56, ground := Ground.data }], guard := none } : Oper)) (v := .bool (qq || vx)) rfl (by kernel_rfl) (by kernel_rfl) (by kernel_rfl) (fun _ _ _ h => h) ?_ (by assumption) ?_
          · cases qq <;> first | exact Or.inr ⟨by rfl, by rfl⟩ | (refine Or.inl ⟨by rfl, ?_⟩; (intro wq hSw; (try dsimp only at hSw); go_simp) <;> (try with_reducible rfl); done) | (refine Or.inl ⟨by rfl, ?_⟩; (intro wq hSw; (try dsimp only at hSw); go_simp) <;> rfl)
          try simp only [Act.put, List.setIfInBounds_toArray, List.set_cons_zero, List.set_cons_succ]
          generalize hq2 : (qq || vx) = q2
          refine wpAnyH_take (i := 58) (oi := ({ dst := some 97, op := Op.fieldAddr 30 (Operand.tmp 2) 5, type := 0, pos := "law.go:138", after := #[], guard := none } : Oper)) (v := ?_) rfl (by kernel_rfl) (by kernel_rfl) (by kernel_rfl) (fun _ _ _ h => h) ?_ (by assumption) ?_
          rotate_left 1
          · refine Or.inl ⟨by rfl, ?_⟩
            (intro wq hSw; (try dsimp only at hSw); go_simp) <;> (try with_reducible rfl)
          try simp only [Act.put, List.setIfInBounds_toArray, List.set_cons_zero, List.set_cons_succ]
          refine wpAnyH_take (i := 59) (oi := ({ dst := some 98, op := Op.load 4 (Operand.tmp 97), type := 4, pos := "law.go:138", after := #[{ on := 58, ground := Ground.data }], guard := none } : Oper)) (v := ?_) rfl (by kernel_rfl) (by kernel_rfl) (by kernel_rfl) (fun _ _ _ h => h) ?_ (by assumption) ?_
          rotate_left 1
          · refine Or.inl ⟨by rfl, ?_⟩
            (intro wq hSw; (try dsimp only at hSw); go_simp) <;> (try with_reducible rfl)
          try simp only [Act.put, List.setIfInBounds_toArray, List.set_cons_zero, List.set_cons_succ]
          refine wpAnyH_take (i := 61) (oi := ({ dst := some 100, op := Op.move (Operand.tmp 1), type := 3, pos := "law.go:138", after := #[], guard := none } : Oper)) (v := ?_) rfl (by kernel_rfl) (by kernel_rfl) (by kernel_rfl) (fun _ _ _ h => h) ?_ (by assumption) ?_
          rotate_left 1
          · refine Or.inl ⟨by rfl, ?_⟩
            (intro wq hSw; (try dsimp only at hSw); go_simp) <;> (try with_reducible rfl)
          try simp only [Act.put, List.setIfInBounds_toArray, List.set_cons_zero, List.set_cons_succ]
          refine wpAnyH_take (i := 62) (oi := ({ dst := some 101, op := Op.binOp BinOp.rem 3 (Operand.tmp 100) (Operand.const (Value.int IntKind.i64 5)) 3, type := 3, pos := "law.go:138", after := #[{ on := 61, ground := Ground.data }], guard := none } : Oper)) (v := ?_) rfl (by kernel_rfl) (by kernel_rfl) (by kernel_rfl) (fun _ _ _ h => h) ?_ (by assumption) ?_
          rotate_left 1
          · refine Or.inl ⟨by rfl, ?_⟩
            (intro wq hSw; (try dsimp only at hSw); go_simp) <;> (try with_reducible rfl)
          try simp only [Act.put, List.setIfInBounds_toArray, List.set_cons_zero, List.set_cons_succ]
          refine wpAnyH_take (i := 63) (oi := ({ dst := some 102, op := Op.binOp BinOp.add 3 (Operand.tmp 101) (Operand.const (Value.int IntKind.i64 5)) 3, type := 3, pos := "law.go:138", after := #[{ on := 62, ground := Ground.data }], guard := none } : Oper)) (v := ?_) rfl (by kernel_rfl) (by kernel_rfl) (by kernel_rfl) (fun _ _ _ h => h) ?_ (by assumption) ?_
          rotate_left 1
          · refine Or.inl ⟨by rfl, ?_⟩
            (intro wq hSw; (try dsimp only at hSw); go_simp) <;> (try with_reducible rfl)
          try simp only [Act.put, List.setIfInBounds_toArray, List.set_cons_zero, List.set_cons_succ]
          refine wpAnyH_take (i := 64) (oi := ({ dst := some 103, op := Op.binOp BinOp.rem 3 (Operand.tmp 102) (Operand.const (Value.int IntKind.i64 5)) 3, type := 3, pos := "law.go:138", after := #[{ on := 63, ground := Ground.data }], guard := none } : Oper)) (v := ?_) rfl (by kernel_rfl) (by kernel_rfl) (by kernel_rfl) (fun _ _ _ h => h) ?_ (by assumption) ?_
          rotate_left 1
          · refine Or.inl ⟨by rfl, ?_⟩
            (intro wq hSw; (try dsimp only at hSw); go_simp) <;> (try with_reducible rfl)
          try simp only [Act.put, List.setIfInBounds_toArray, List.set_cons_zero, List.set_cons_succ]
          refine wpAnyH_ready (rs := [60]) (by kernel_rfl) (by simp) ?_
          refine AllReadyH.cons (o := ({ dst := some 99, op := Op.buildSlice 48 5 #[(0, Operand.tmp 60), (1, Operand.tmp 76), (2, Operand.tmp 96), (3, Operand.tmp 98), (4, Operand.const (Value.bool true))], type := 48, pos := "law.go:138", after := #[{ on := 21, ground := Ground.data }, { on := 37, ground := Ground.data }, { on := 57, ground := Ground.data }, { on := 59, ground := Ground.data }], guard := none } : Oper)) rfl (fun K hK => ?_) AllReadyH.nil
          go_simp
          refine hK.out _ _ ?_ (fun hHeld => ?_)
          · exact HSX.out _ ((Below.refl _ _).drew.alloc (Nat.le_refl _) _)
          clear hK K
          try simp only [Act.put, List.setIfInBounds_toArray, List.set_cons_zero, List.set_cons_succ]
          refine wpAnyH_take (i := 65) (oi := ({ dst := some 104, op := Op.indexAddr 48 (Operand.tmp 99) (Operand.tmp 103), type := 0, pos := "law.go:138", after := #[{ on := 60, ground := Ground.data }, { on := 64, ground := Ground.data }], guard := none } : Oper)) (v := ?_) rfl (by kernel_rfl) (by kernel_rfl) (by kernel_rfl) (fun _ _ _ h => h) ?_ (by assumption) ?_
          rotate_left 1
          · refine Or.inl ⟨by rfl, ?_⟩
            (intro wq hSw; (try dsimp only at hSw); go_simp) <;> (try with_reducible rfl)
          try simp only [Act.put, List.setIfInBounds_toArray, List.set_cons_zero, List.set_cons_succ]
          refine wpAnyH_ready (rs := [66]) (by kernel_rfl) (by simp) ?_
          refine AllReadyH.cons (o := ({ dst := some 105, op := Op.load 4 (Operand.tmp 104), type := 4, pos := "law.go:138", after := #[{ on := 65, ground := Ground.data }], guard := none } : Oper)) rfl (fun K hK => ?_) AllReadyH.nil
          go_simp
          refine hK.out _ _ ?_ (fun hHeld => ?_)
          · exact HSX.out _ ((Below.refl _ _).drew.alloc (Nat.le_refl _) _)
          clear hK K
          try simp only [Act.put, List.setIfInBounds_toArray, List.set_cons_zero, List.set_cons_succ]
          refine wpAnyH_take (i := 67) (oi := ({ dst := some 9, op := Op.assign (Operand.tmp 105), type := 4, pos := "law.go:138", after := #[{ on := 66, ground := Ground.data }, { on := 49, ground := Ground.chain }, { on := 0, ground := Ground.phase }, { on := 1, ground := Ground.phase }, { on := 2, ground := Ground.phase }, { on := 3, ground := Ground.phase }, { on := 4, ground := Ground.phase }, { on := 5, ground := Ground.phase }, { on := 6, ground := Ground.phase }, { on := 7, ground := Ground.phase }, { on := 8, ground := Ground.phase }, { on := 9, ground := Ground.phase }, { on := 10, ground := Ground.phase }, { on := 11, ground := Ground.phase }, { on := 12, ground := Ground.phase }, { on := 13, ground := Ground.phase }, { on := 14, ground := Ground.phase }, { on := 15, ground := Ground.phase }, { on := 16, ground := Ground.phase }, { on := 17, ground := Ground.phase }, { on := 18, ground := Ground.phase }, { on := 19, ground := Ground.phase }, { on := 20, ground := Ground.phase }, { on := 21, ground := Ground.phase }, { on := 22, ground := Ground.phase }, { on := 23, ground := Ground.phase }, { on := 24, ground := Ground.phase }, { on := 25, ground := Ground.phase }, { on := 26, ground := Ground.phase }, { on := 27, ground := Ground.phase }, { on := 28, ground := Ground.phase }, { on := 29, ground := Ground.phase }, { on := 30, ground := Ground.phase }, { on := 31, ground := Ground.phase }, { on := 32, ground := Ground.phase }, { on := 33, ground := Ground.phase }, { on := 34, ground := Ground.phase }, { on := 35, ground := Ground.phase }, { on := 36, ground := Ground.phase }, { on := 37, ground := Ground.phase }, { on := 38, ground := Ground.phase }, { on := 39, ground := Ground.phase }, { on := 40, ground := Ground.phase }, { on := 41, ground := Ground.phase }, { on := 42, ground := Ground.phase }, { on := 43, ground := Ground.phase }, { on := 44, ground := Ground.phase }, { on := 45, ground := Ground.phase }, { on := 46, ground := Ground.phase }, { on := 47, ground := Ground.phase }, { on := 48, ground := Ground.phase }, { on := 49, ground := Ground.phase }, { on := 50, ground := Ground.phase }, { on := 51, ground := Ground.phase }, { on := 52, ground := Ground.phase }, { on := 53, ground := Ground.phase }, { on := 54, ground := Ground.phase }, { on := 55, ground := Ground.phase }, { on := 56, ground := Ground.phase }, { on := 57, ground := Ground.phase }, { on := 58, ground := Ground.phase }, { on := 59, ground := Ground.phase }, { on := 60, ground := Ground.phase }, { on := 61, ground := Ground.phase }, { on := 62, ground := Ground.phase }, { on := 63, ground := Ground.phase }, { on := 64, ground := Ground.phase }, { on := 65, ground := Ground.phase }, { on := 66, ground := Ground.phase }], guard := none } : Oper)) (v := ?_) rfl (by kernel_rfl) (by kernel_rfl) (by kernel_rfl) (fun _ _ _ h => h) ?_ (by assumption) ?_
          rotate_left 1
          · refine Or.inl ⟨by rfl, ?_⟩
            (intro wq hSw; (try dsimp only at hSw); go_simp) <;> (try with_reducible rfl)
          try simp only [Act.put, List.setIfInBounds_toArray, List.set_cons_zero, List.set_cons_succ]
          refine wpAnyH_done (by kernel_rfl) ?_ _
          have e0 : q0 = kbT m := by rw [← hq0, ← hh3, ← hh2]; unfold kbT; rw [HL.out.1, HL.out.2.1, HL.out.2.2.1, HL.out.2.2.2.1]; cases g1 <;> cases g2 <;> cases g3 <;> rfl
          have e1 : q1 = sbT m bd := by unfold sbT; rw [HL.out.1, HL.out.2.2.2.1, HL.out.2.2.2.2.1]; exact hq1.symm
          have e2 : q2 = gbT tk tg vals := by unfold gbT; rw [HL.out.2.2.2.2.2, HAD.out, HV.out, HVX.out, ← hq2, ← hqq, Bool.or_assoc]
          have hok : pickB j q0 q1 q2 fd = okv := by rw [e0, e1, e2]; exact HOK.out
          clear e0 e1 e2 hq0 hq1 hq2 hqq hh2 hh3
          go_wp2_with fail
          go_meet
          exact ⟨by rw [hok], HB6.out.drew.alloc HB6.out.size _, (Below.refl _ _).drew.alloc (Nat.le_refl _) _⟩
        · have hl : ((vals.length : Int) == 1) = false := by rw [beq_eq_false_iff_ne]; omega
          have HV : Hid (decide (vals = [tk]) = false) := by show _ = _; exact decide_eq_false (fun e => hl1 (by rw [e]; rfl))
          have HSX : Hid (∀ W, Below w6.heap.size w6 W → W.cell? ⟨w.heap.size, 0, none⟩ = some (.string m) ∧ W.cell? ⟨w.heap.size, 3, none⟩ = some (.string bd) ∧ W.cell? ⟨w.heap.size, 11, none⟩ = some (.bool fd) ∧ W.cell? ⟨w.heap.size, 12, none⟩ = some (.string tk)) := fun W hb => by
            have hk := (hb.block _ (blk_lt HC6.out)).trans HC6.out
            exact ⟨blk_cell hk 0, blk_cell hk 3, blk_cell hk 11, blk_cell hk 12⟩
          clear hl1
          refine wp_region_held_drew (S := fun W => W.cell? ⟨w.heap.size, 0, none⟩ = some (.string m) ∧ W.cell? ⟨w.heap.size, 3, none⟩ = some (.string bd) ∧ W.cell? ⟨w.heap.size, 11, none⟩ = some (.bool fd) ∧ W.cell? ⟨w.heap.size, 12, none⟩ = some (.string tk)) (by kernel_rfl) (HSX.out _ (Below.refl _ _).drew) (fun hHeld => ?_)
          refine wpAnyH_take (i := 0) (oi := ({ dst := some 39, op := Op.fieldAddr 30 (Operand.tmp 2) 0, type := 0, pos := "law.go:138", after := #[], guard := none } : Oper)) (v := ?_) rfl (by kernel_rfl) (by kernel_rfl) (by kernel_rfl) (fun _ _ _ h => h) ?_ (by assumption) ?_
          rotate_left 1
          · refine Or.inl ⟨by rfl, ?_⟩
            (intro wq hSw; (try dsimp only at hSw); go_simp) <;> (try with_reducible rfl)
          try simp only [Act.put, List.setIfInBounds_toArray, List.set_cons_zero, List.set_cons_succ]
          refine wpAnyH_take (i := 1) (oi := ({ dst := some 40, op := Op.fieldAddr 24 (Operand.tmp 39) 0, type := 0, pos := "law.go:138", after := #[{ on := 0, ground := Ground.data }], guard := none } : Oper)) (v := ?_) rfl (by kernel_rfl) (by kernel_rfl) (by kernel_rfl) (fun _ _ _ h => h) ?_ (by assumption) ?_
          rotate_left 1
          · refine Or.inl ⟨by rfl, ?_⟩
            (intro wq hSw; (try dsimp only at hSw); go_simp) <;> (try with_reducible rfl)
          try simp only [Act.put, List.setIfInBounds_toArray, List.set_cons_zero, List.set_cons_succ]
          refine wpAnyH_take (i := 2) (oi := ({ dst := some 41, op := Op.load 9 (Operand.tmp 40), type := 9, pos := "law.go:138", after := #[{ on := 1, ground := Ground.data }], guard := none } : Oper)) (v := ?_) rfl (by kernel_rfl) (by kernel_rfl) (by kernel_rfl) (fun _ _ _ h => h) ?_ (by assumption) ?_
          rotate_left 1
          · refine Or.inl ⟨by rfl, ?_⟩
            (intro wq hSw; (try dsimp only at hSw); go_simp) <;> (try with_reducible rfl)
          try simp only [Act.put, List.setIfInBounds_toArray, List.set_cons_zero, List.set_cons_succ]
          refine wpAnyH_take (i := 3) (oi := ({ dst := some 42, op := Op.binOp BinOp.eql 9 (Operand.tmp 41) (Operand.const (Value.string { data := #[71, 69, 84] })) 9, type := 4, pos := "law.go:138", after := #[{ on := 2, ground := Ground.data }], guard := none } : Oper)) (v := ?_) rfl (by kernel_rfl) (by kernel_rfl) (by kernel_rfl) (fun _ _ _ h => h) ?_ (by assumption) ?_
          rotate_left 1
          · refine Or.inl ⟨by rfl, ?_⟩
            (intro wq hSw; (try dsimp only at hSw); go_simp) <;> (try with_reducible rfl)
          try simp only [Act.put, List.setIfInBounds_toArray, List.set_cons_zero, List.set_cons_succ]
          refine wpAnyH_take (i := 4) (oi := ({ dst := some 43, op := Op.move (Operand.tmp 42), type := 4, pos := "law.go:138", after := #[{ on := 3, ground := Ground.data }], guard := none } : Oper)) (v := ?_) rfl (by kernel_rfl) (by kernel_rfl) (by kernel_rfl) (fun _ _ _ h => h) ?_ (by assumption) ?_
          rotate_left 1
          · refine Or.inl ⟨by rfl, ?_⟩
            (intro wq hSw; (try dsimp only at hSw); go_simp) <;> (try with_reducible rfl)
          try simp only [Act.put, List.setIfInBounds_toArray, List.set_cons_zero, List.set_cons_succ]
          refine wpAnyH_take (i := 5) (oi := ({ dst := some 44, op := Op.fieldAddr 30 (Operand.tmp 2) 0, type := 0, pos := "law.go:138", after := #[{ on := 4, ground := Ground.guard }], guard := some (4, false) } : Oper)) (v := (bif g1 then undef else .pointer (some ⟨w.heap.size, 0, none⟩))) rfl (by kernel_rfl) (by kernel_rfl) (by kernel_rfl) (fun _ _ _ h => h) ?_ (by assumption) ?_
          · cases g1 <;> first | exact Or.inr ⟨by rfl, by rfl⟩ | (refine Or.inl ⟨by rfl, ?_⟩; (intro wq hSw; (try dsimp only at hSw); go_simp) <;> (try with_reducible rfl); done) | (refine Or.inl ⟨by rfl, ?_⟩; (intro wq hSw; (try dsimp only at hSw); go_simp) <;> rfl)
          try simp only [Act.put, List.setIfInBounds_toArray, List.set_cons_zero, List.set_cons_succ]
          refine wpAnyH_take (i := 6) (oi := ({ dst := some 45, op := Op.fieldAddr 24 (Operand.tmp 44) 0, type := 0, pos := "law.go:138", after := #[{ on := 5, ground := Ground.data }, { on := 4, ground := Ground.guard }], guard := some (4, false) } : Oper)) (v := (bif g1 then undef else .pointer (some ⟨w.heap.size, 0, none⟩))) rfl (by kernel_rfl) (by kernel_rfl) (by kernel_rfl) (fun _ _ _ h => h) ?_ (by assumption) ?_
          · cases g1 <;> first | exact Or.inr ⟨by rfl, by rfl⟩ | (refine Or.inl ⟨by rfl, ?_⟩; (intro wq hSw; (try dsimp only at hSw); go_simp) <;> (try with_reducible rfl); done) | (refine Or.inl ⟨by rfl, ?_⟩; (intro wq hSw; (try dsimp only at hSw); go_simp) <;> rfl)
          try simp only [Act.put, List.setIfInBounds_toArray, List.set_cons_zero, List.set_cons_succ]
          refine wpAnyH_take (i := 7) (oi := ({ dst := some 46, op := Op.load 9 (Operand.tmp 45), type := 9, pos := "law.go:138", after := #[{ on := 6, ground := Ground.data }, { on := 4, ground := Ground.guard }], guard := some (4, false) } : Oper)) (v := (bif g1 then undef else .string m)) rfl (by kernel_rfl) (by kernel_rfl) (by kernel_rfl) (fun _ _ _ h => h) ?_ (by assumption) ?_
          · cases g1 <;> first | exact Or.inr ⟨by rfl, by rfl⟩ | (refine Or.inl ⟨by rfl, ?_⟩; (intro wq hSw; (try dsimp only at hSw); go_simp) <;> (try with_reducible rfl); done) | (refine Or.inl ⟨by rfl, ?_⟩; (intro wq hSw; (try dsimp only at hSw); go_simp) <;> rfl)
          try simp only [Act.put, List.setIfInBounds_toArray, List.set_cons_zero, List.set_cons_succ]
          refine wpAnyH_take (i := 8) (oi := ({ dst := some 47, op := Op.binOp BinOp.eql 9 (Operand.tmp 46) (Operand.const (Value.string { data := #[80, 85, 84] })) 9, type := 4, pos := "law.go:138", after := #[{ on := 7, ground := Ground.data }, { on := 4, ground := Ground.guard }], guard := some (4, false) } : Oper)) (v := (bif g1 then undef else .bool g2)) rfl (by kernel_rfl) (by kernel_rfl) (by kernel_rfl) (fun _ _ _ h => h) ?_ (by assumption) ?_
          · cases g1 <;> first | exact Or.inr ⟨by rfl, by rfl⟩ | (refine Or.inl ⟨by rfl, ?_⟩; (intro wq hSw; (try dsimp only at hSw); go_simp) <;> (try with_reducible rfl); done) | (refine Or.inl ⟨by rfl, ?_⟩; (intro wq hSw; (try dsimp only at hSw); go_simp) <;> rfl)
          try simp only [Act.put, List.setIfInBounds_toArray, List.set_cons_zero, List.set_cons_succ]
          refine wpAnyH_take (i := 9) (oi := ({ dst := some 48, op := Op.pick (Operand.tmp 43) (Operand.const (Value.bool true)) (Operand.tmp 47), type := 4, pos := "law.go:138", after := #[{ on := 4, ground := Ground.data }, { on := 8, ground := Ground.data }], guard := none } : Oper)) (v := .bool (g1 || g2)) rfl (by kernel_rfl) (by kernel_rfl) (by kernel_rfl) (fun _ _ _ h => h) ?_ (by assumption) ?_
          · cases g1 <;> first | exact Or.inr ⟨by rfl, by rfl⟩ | (refine Or.inl ⟨by rfl, ?_⟩; (intro wq hSw; (try dsimp only at hSw); go_simp) <;> (try with_reducible rfl); done) | (refine Or.inl ⟨by rfl, ?_⟩; (intro wq hSw; (try dsimp only at hSw); go_simp) <;> rfl)
          try simp only [Act.put, List.setIfInBounds_toArray, List.set_cons_zero, List.set_cons_succ]
          generalize hh2 : (g1 || g2) = h2
          refine wpAnyH_take (i := 10) (oi := ({ dst := some 49, op := Op.move (Operand.tmp 48), type := 4, pos := "law.go:138", after := #[{ on := 9, ground := Ground.data }, { on := 4, ground := Ground.chain }], guard := none } : Oper)) (v := ?_) rfl (by kernel_rfl) (by kernel_rfl) (by kernel_rfl) (fun _ _ _ h => h) ?_ (by assumption) ?_
          rotate_left 1
          · refine Or.inl ⟨by rfl, ?_⟩
            (intro wq hSw; (try dsimp only at hSw); go_simp) <;> (try with_reducible rfl)
          try simp only [Act.put, List.setIfInBounds_toArray, List.set_cons_zero, List.set_cons_succ]
          refine wpAnyH_take (i := 11) (oi := ({ dst := some 50, op := Op.fieldAddr 30 (Operand.tmp 2) 0, type := 0, pos := "law.go:138", after := #[{ on := 10, ground := Ground.guard }], guard := some (10, false) } : Oper)) (v := (bif h2 then undef else .pointer (some ⟨w.heap.size, 0, none⟩))) rfl (by kernel_rfl) (by kernel_rfl) (by kernel_rfl) (fun _ _ _ h => h) ?_ (by assumption) ?_
          · cases h2 <;> first | exact Or.inr ⟨by rfl, by rfl⟩ | (refine Or.inl ⟨by rfl, ?_⟩; (intro wq hSw; (try dsimp only at hSw); go_simp) <;> (try with_reducible rfl); done) | (refine Or.inl ⟨by rfl, ?_⟩; (intro wq hSw; (try dsimp only at hSw); go_simp) <;> rfl)
          try simp only [Act.put, List.setIfInBounds_toArray, List.set_cons_zero, List.set_cons_succ]
          refine wpAnyH_take (i := 12) (oi := ({ dst := some 51, op := Op.fieldAddr 24 (Operand.tmp 50) 0, type := 0, pos := "law.go:138", after := #[{ on := 11, ground := Ground.data }, { on := 10, ground := Ground.guard }], guard := some (10, false) } : Oper)) (v := (bif h2 then undef else .pointer (some ⟨w.heap.size, 0, none⟩))) rfl (by kernel_rfl) (by kernel_rfl) (by kernel_rfl) (fun _ _ _ h => h) ?_ (by assumption) ?_
          · cases h2 <;> first | exact Or.inr ⟨by rfl, by rfl⟩ | (refine Or.inl ⟨by rfl, ?_⟩; (intro wq hSw; (try dsimp only at hSw); go_simp) <;> (try with_reducible rfl); done) | (refine Or.inl ⟨by rfl, ?_⟩; (intro wq hSw; (try dsimp only at hSw); go_simp) <;> rfl)
          try simp only [Act.put, List.setIfInBounds_toArray, List.set_cons_zero, List.set_cons_succ]
          refine wpAnyH_take (i := 13) (oi := ({ dst := some 52, op := Op.load 9 (Operand.tmp 51), type := 9, pos := "law.go:138", after := #[{ on := 12, ground := Ground.data }, { on := 10, ground := Ground.guard }], guard := some (10, false) } : Oper)) (v := (bif h2 then undef else .string m)) rfl (by kernel_rfl) (by kernel_rfl) (by kernel_rfl) (fun _ _ _ h => h) ?_ (by assumption) ?_
          · cases h2 <;> first | exact Or.inr ⟨by rfl, by rfl⟩ | (refine Or.inl ⟨by rfl, ?_⟩; (intro wq hSw; (try dsimp only at hSw); go_simp) <;> (try with_reducible rfl); done) | (refine Or.inl ⟨by rfl, ?_⟩; (intro wq hSw; (try dsimp only at hSw); go_simp) <;> rfl)
          try simp only [Act.put, List.setIfInBounds_toArray, List.set_cons_zero, List.set_cons_succ]
          refine wpAnyH_take (i := 14) (oi := ({ dst := some 53, op := Op.binOp BinOp.eql 9 (Operand.tmp 52) (Operand.const (Value.string { data := #[80, 79, 83, 84] })) 9, type := 4, pos := "law.go:138", after := #[{ on := 13, ground := Ground.data }, { on := 10, ground := Ground.guard }], guard := some (10, false) } : Oper)) (v := (bif h2 then undef else .bool g3)) rfl (by kernel_rfl) (by kernel_rfl) (by kernel_rfl) (fun _ _ _ h => h) ?_ (by assumption) ?_
          · cases h2 <;> first | exact Or.inr ⟨by rfl, by rfl⟩ | (refine Or.inl ⟨by rfl, ?_⟩; (intro wq hSw; (try dsimp only at hSw); go_simp) <;> (try with_reducible rfl); done) | (refine Or.inl ⟨by rfl, ?_⟩; (intro wq hSw; (try dsimp only at hSw); go_simp) <;> rfl)
          try simp only [Act.put, List.setIfInBounds_toArray, List.set_cons_zero, List.set_cons_succ]
          refine wpAnyH_take (i := 15) (oi := ({ dst := some 54, op := Op.pick (Operand.tmp 49) (Operand.const (Value.bool true)) (Operand.tmp 53), type := 4, pos := "law.go:138", after := #[{ on := 10, ground := Ground.data }, { on := 14, ground := Ground.data }], guard := none } : Oper)) (v := .bool (h2 || g3)) rfl (by kernel_rfl) (by kernel_rfl) (by kernel_rfl) (fun _ _ _ h => h) ?_ (by assumption) ?_
          · cases h2 <;> first | exact Or.inr ⟨by rfl, by rfl⟩ | (refine Or.inl ⟨by rfl, ?_⟩; (intro wq hSw; (try dsimp only at hSw); go_simp) <;> (try with_reducible rfl); done) | (refine Or.inl ⟨by rfl, ?_⟩; (intro wq hSw; (try dsimp only at hSw); go_simp) <;> rfl)
          try simp only [Act.put, List.setIfInBounds_toArray, List.set_cons_zero, List.set_cons_succ]
          generalize hh3 : (h2 || g3) = h3
          refine wpAnyH_take (i := 16) (oi := ({ dst := some 55, op := Op.move (Operand.tmp 54), type := 4, pos := "law.go:138", after := #[{ on := 15, ground := Ground.data }, { on := 10, ground := Ground.chain }], guard := none } : Oper)) (v := ?_) rfl (by kernel_rfl) (by kernel_rfl) (by kernel_rfl) (fun _ _ _ h => h) ?_ (by assumption) ?_
          rotate_left 1
          · refine Or.inl ⟨by rfl, ?_⟩
            (intro wq hSw; (try dsimp only at hSw); go_simp) <;> (try with_reducible rfl)
          try simp only [Act.put, List.setIfInBounds_toArray, List.set_cons_zero, List.set_cons_succ]
          refine wpAnyH_take (i := 17) (oi := ({ dst := some 56, op := Op.fieldAddr 30 (Operand.tmp 2) 0, type := 0, pos := "law.go:138", after := #[{ on := 16, ground := Ground.guard }], guard := some (16, false) } : Oper)) (v := (bif h3 then undef else .pointer (some ⟨w.heap.size, 0, none⟩))) rfl (by kernel_rfl) (by kernel_rfl) (by kernel_rfl) (fun _ _ _ h => h) ?_ (by assumption) ?_
          · cases h3 <;> first | exact Or.inr ⟨by rfl, by rfl⟩ | (refine Or.inl ⟨by rfl, ?_⟩; (intro wq hSw; (try dsimp only at hSw); go_simp) <;> (try with_reducible rfl); done) | (refine Or.inl ⟨by rfl, ?_⟩; (intro wq hSw; (try dsimp only at hSw); go_simp) <;> rfl)
          try simp only [Act.put, List.setIfInBounds_toArray, List.set_cons_zero, List.set_cons_succ]
          refine wpAnyH_take (i := 18) (oi := ({ dst := some 57, op := Op.fieldAddr 24 (Operand.tmp 56) 0, type := 0, pos := "law.go:138", after := #[{ on := 17, ground := Ground.data }, { on := 16, ground := Ground.guard }], guard := some (16, false) } : Oper)) (v := (bif h3 then undef else .pointer (some ⟨w.heap.size, 0, none⟩))) rfl (by kernel_rfl) (by kernel_rfl) (by kernel_rfl) (fun _ _ _ h => h) ?_ (by assumption) ?_
          · cases h3 <;> first | exact Or.inr ⟨by rfl, by rfl⟩ | (refine Or.inl ⟨by rfl, ?_⟩; (intro wq hSw; (try dsimp only at hSw); go_simp) <;> (try with_reducible rfl); done) | (refine Or.inl ⟨by rfl, ?_⟩; (intro wq hSw; (try dsimp only at hSw); go_simp) <;> rfl)
          try simp only [Act.put, List.setIfInBounds_toArray, List.set_cons_zero, List.set_cons_succ]
          refine wpAnyH_take (i := 19) (oi := ({ dst := some 58, op := Op.load 9 (Operand.tmp 57), type := 9, pos := "law.go:138", after := #[{ on := 18, ground := Ground.data }, { on := 16, ground := Ground.guard }], guard := some (16, false) } : Oper)) (v := (bif h3 then undef else .string m)) rfl (by kernel_rfl) (by kernel_rfl) (by kernel_rfl) (fun _ _ _ h => h) ?_ (by assumption) ?_
          · cases h3 <;> first | exact Or.inr ⟨by rfl, by rfl⟩ | (refine Or.inl ⟨by rfl, ?_⟩; (intro wq hSw; (try dsimp only at hSw); go_simp) <;> (try with_reducible rfl); done) | (refine Or.inl ⟨by rfl, ?_⟩; (intro wq hSw; (try dsimp only at hSw); go_simp) <;> rfl)
          try simp only [Act.put, List.setIfInBounds_toArray, List.set_cons_zero, List.set_cons_succ]
          refine wpAnyH_take (i := 20) (oi := ({ dst := some 59, op := Op.binOp BinOp.eql 9 (Operand.tmp 58) (Operand.const (Value.string { data := #[68, 69, 76, 69, 84, 69] })) 9, type := 4, pos := "law.go:138", after := #[{ on := 19, ground := Ground.data }, { on := 16, ground := Ground.guard }], guard := some (16, false) } : Oper)) (v := (bif h3 then undef else .bool g4)) rfl (by kernel_rfl) (by kernel_rfl) (by kernel_rfl) (fun _ _ _ h => h) ?_ (by assumption) ?_
          · cases h3 <;> first | exact Or.inr ⟨by rfl, by rfl⟩ | (refine Or.inl ⟨by rfl, ?_⟩; (intro wq hSw; (try dsimp only at hSw); go_simp) <;> (try with_reducible rfl); done) | (refine Or.inl ⟨by rfl, ?_⟩; (intro wq hSw; (try dsimp only at hSw); go_simp) <;> rfl)
          try simp only [Act.put, List.setIfInBounds_toArray, List.set_cons_zero, List.set_cons_succ]
          refine wpAnyH_take (i := 21) (oi := ({ dst := some 60, op := Op.pick (Operand.tmp 55) (Operand.const (Value.bool true)) (Operand.tmp 59), type := 4, pos := "law.go:138", after := #[{ on := 16, ground := Ground.data }, { on := 20, ground := Ground.data }], guard := none } : Oper)) (v := .bool (h3 || g4)) rfl (by kernel_rfl) (by kernel_rfl) (by kernel_rfl) (fun _ _ _ h => h) ?_ (by assumption) ?_
          · cases h3 <;> first | exact Or.inr ⟨by rfl, by rfl⟩ | (refine Or.inl ⟨by rfl, ?_⟩; (intro wq hSw; (try dsimp only at hSw); go_simp) <;> (try with_reducible rfl); done) | (refine Or.inl ⟨by rfl, ?_⟩; (intro wq hSw; (try dsimp only at hSw); go_simp) <;> rfl)
          try simp only [Act.put, List.setIfInBounds_toArray, List.set_cons_zero, List.set_cons_succ]
          generalize hq0 : (h3 || g4) = q0
          refine wpAnyH_take (i := 22) (oi := ({ dst := some 61, op := Op.fieldAddr 30 (Operand.tmp 2) 0, type := 0, pos := "law.go:138", after := #[], guard := none } : Oper)) (v := ?_) rfl (by kernel_rfl) (by kernel_rfl) (by kernel_rfl) (fun _ _ _ h => h) ?_ (by assumption) ?_
          rotate_left 1
          · refine Or.inl ⟨by rfl, ?_⟩
            (intro wq hSw; (try dsimp only at hSw); go_simp) <;> (try with_reducible rfl)
          try simp only [Act.put, List.setIfInBounds_toArray, List.set_cons_zero, List.set_cons_succ]
          refine wpAnyH_take (i := 23) (oi := ({ dst := some 62, op := Op.fieldAddr 24 (Operand.tmp 61) 3, type := 0, pos := "law.go:138", after := #[{ on := 22, ground := Ground.data }], guard := none } : Oper)) (v := ?_) rfl (by kernel_rfl) (by kernel_rfl) (by kernel_rfl) (fun _ _ _ h => h) ?_ (by assumption) ?_
          rotate_left 1
          · refine Or.inl ⟨by rfl, ?_⟩
            (intro wq hSw; (try dsimp only at hSw); go_simp) <;> (try with_reducible rfl)
          try simp only [Act.put, List.setIfInBounds_toArray, List.set_cons_zero, List.set_cons_succ]
          refine wpAnyH_take (i := 24) (oi := ({ dst := some 63, op := Op.load 9 (Operand.tmp 62), type := 9, pos := "law.go:138", after := #[{ on := 23, ground := Ground.data }], guard := none } : Oper)) (v := ?_) rfl (by kernel_rfl) (by kernel_rfl) (by kernel_rfl) (fun _ _ _ h => h) ?_ (by assumption) ?_
          rotate_left 1
          · refine Or.inl ⟨by rfl, ?_⟩
            (intro wq hSw; (try dsimp only at hSw); go_simp) <;> (try with_reducible rfl)
          try simp only [Act.put, List.setIfInBounds_toArray, List.set_cons_zero, List.set_cons_succ]
          refine wpAnyH_take (i := 25) (oi := ({ dst := some 64, op := Op.binOp BinOp.eql 9 (Operand.tmp 63) (Operand.const (Value.string { data := #[] })) 9, type := 4, pos := "law.go:138", after := #[{ on := 24, ground := Ground.data }], guard := none } : Oper)) (v := ?_) rfl (by kernel_rfl) (by kernel_rfl) (by kernel_rfl) (fun _ _ _ h => h) ?_ (by assumption) ?_
          rotate_left 1
          · refine Or.inl ⟨by rfl, ?_⟩
            (intro wq hSw; (try dsimp only at hSw); go_simp) <;> (try with_reducible rfl)
          try simp only [Act.put, List.setIfInBounds_toArray, List.set_cons_zero, List.set_cons_succ]
          refine wpAnyH_take (i := 26) (oi := ({ dst := some 65, op := Op.move (Operand.tmp 64), type := 4, pos := "law.go:138", after := #[{ on := 25, ground := Ground.data }, { on := 16, ground := Ground.chain }], guard := none } : Oper)) (v := ?_) rfl (by kernel_rfl) (by kernel_rfl) (by kernel_rfl) (fun _ _ _ h => h) ?_ (by assumption) ?_
          rotate_left 1
          · refine Or.inl ⟨by rfl, ?_⟩
            (intro wq hSw; (try dsimp only at hSw); go_simp) <;> (try with_reducible rfl)
          try simp only [Act.put, List.setIfInBounds_toArray, List.set_cons_zero, List.set_cons_succ]
          refine wpAnyH_take (i := 27) (oi := ({ dst := some 66, op := Op.fieldAddr 30 (Operand.tmp 2) 0, type := 0, pos := "law.go:138", after := #[{ on := 26, ground := Ground.guard }], guard := some (26, false) } : Oper)) (v := (bif ge then undef else .pointer (some ⟨w.heap.size, 0, none⟩))) rfl (by kernel_rfl) (by kernel_rfl) (by kernel_rfl) (fun _ _ _ h => h) ?_ (by assumption) ?_
          · cases ge <;> first | exact Or.inr ⟨by rfl, by rfl⟩ | (refine Or.inl ⟨by rfl, ?_⟩; (intro wq hSw; (try dsimp only at hSw); go_simp) <;> (try with_reducible rfl); done) | (refine Or.inl ⟨by rfl, ?_⟩; (intro wq hSw; (try dsimp only at hSw); go_simp) <;> rfl)
          try simp only [Act.put, List.setIfInBounds_toArray, List.set_cons_zero, List.set_cons_succ]
          refine wpAnyH_take (i := 28) (oi := ({ dst := some 67, op := Op.fieldAddr 24 (Operand.tmp 66) 0, type := 0, pos := "law.go:138", after := #[{ on := 27, ground := Ground.data }, { on := 26, ground := Ground.guard }], guard := some (26, false) } : Oper)) (v := (bif ge then undef else .pointer (some ⟨w.heap.size, 0, none⟩))) rfl (by kernel_rfl) (by kernel_rfl) (by kernel_rfl) (fun _ _ _ h => h) ?_ (by assumption) ?_
          · cases ge <;> first | exact Or.inr ⟨by rfl, by rfl⟩ | (refine Or.inl ⟨by rfl, ?_⟩; (intro wq hSw; (try dsimp only at hSw); go_simp) <;> (try with_reducible rfl); done) | (refine Or.inl ⟨by rfl, ?_⟩; (intro wq hSw; (try dsimp only at hSw); go_simp) <;> rfl)
          try simp only [Act.put, List.setIfInBounds_toArray, List.set_cons_zero, List.set_cons_succ]
          refine wpAnyH_take (i := 29) (oi := ({ dst := some 68, op := Op.load 9 (Operand.tmp 67), type := 9, pos := "law.go:138", after := #[{ on := 28, ground := Ground.data }, { on := 26, ground := Ground.guard }], guard := some (26, false) } : Oper)) (v := (bif ge then undef else .string m)) rfl (by kernel_rfl) (by kernel_rfl) (by kernel_rfl) (fun _ _ _ h => h) ?_ (by assumption) ?_
          · cases ge <;> first | exact Or.inr ⟨by rfl, by rfl⟩ | (refine Or.inl ⟨by rfl, ?_⟩; (intro wq hSw; (try dsimp only at hSw); go_simp) <;> (try with_reducible rfl); done) | (refine Or.inl ⟨by rfl, ?_⟩; (intro wq hSw; (try dsimp only at hSw); go_simp) <;> rfl)
          try simp only [Act.put, List.setIfInBounds_toArray, List.set_cons_zero, List.set_cons_succ]
          refine wpAnyH_take (i := 30) (oi := ({ dst := some 69, op := Op.binOp BinOp.neq 9 (Operand.tmp 68) (Operand.const (Value.string { data := #[71, 69, 84] })) 9, type := 4, pos := "law.go:138", after := #[{ on := 29, ground := Ground.data }, { on := 26, ground := Ground.guard }], guard := some (26, false) } : Oper)) (v := (bif ge then undef else .bool (!g1))) rfl (by kernel_rfl) (by kernel_rfl) (by kernel_rfl) (fun _ _ _ h => h) ?_ (by assumption) ?_
          · cases ge <;> first | exact Or.inr ⟨by rfl, by rfl⟩ | (refine Or.inl ⟨by rfl, ?_⟩; (intro wq hSw; (try dsimp only at hSw); go_simp) <;> (try with_reducible rfl); done) | (refine Or.inl ⟨by rfl, ?_⟩; (intro wq hSw; (try dsimp only at hSw); go_simp) <;> rfl)
          try simp only [Act.put, List.setIfInBounds_toArray, List.set_cons_zero, List.set_cons_succ]
          refine wpAnyH_take (i := 31) (oi := ({ dst := some 70, op := Op.move (Operand.tmp 69), type := 4, pos := "law.go:138", after := #[{ on := 30, ground := Ground.data }, { on := 26, ground := Ground.chain }, { on := 26, ground := Ground.guard }], guard := some (26, false) } : Oper)) (v := (bif ge then undef else .bool (!g1))) rfl (by kernel_rfl) (by kernel_rfl) (by kernel_rfl) (fun _ _ _ h => h) ?_ (by assumption) ?_
          · cases ge <;> first | exact Or.inr ⟨by rfl, by rfl⟩ | (refine Or.inl ⟨by rfl, ?_⟩; (intro wq hSw; (try dsimp only at hSw); go_simp) <;> (try with_reducible rfl); done) | (refine Or.inl ⟨by rfl, ?_⟩; (intro wq hSw; (try dsimp only at hSw); go_simp) <;> rfl)
          try simp only [Act.put, List.setIfInBounds_toArray, List.set_cons_zero, List.set_cons_succ]
          refine wpAnyH_take (i := 32) (oi := ({ dst := some 71, op := Op.fieldAddr 30 (Operand.tmp 2) 0, type := 0, pos := "law.go:138", after := #[{ on := 31, ground := Ground.guard }], guard := some (31, true) } : Oper)) (v := (bif ge then undef else (bif (!g1) then .pointer (some ⟨w.heap.size, 0, none⟩) else undef))) rfl (by kernel_rfl) (by kernel_rfl) (by kernel_rfl) (fun _ _ _ h => h) ?_ (by assumption) ?_
          · cases ge <;> cases g1 <;> first | exact Or.inr ⟨by rfl, by rfl⟩ | (refine Or.inl ⟨by rfl, ?_⟩; (intro wq hSw; (try dsimp only at hSw); go_simp) <;> (try with_reducible rfl); done) | (refine Or.inl ⟨by rfl, ?_⟩; (intro wq hSw; (try dsimp only at hSw); go_simp) <;> rfl)
          try simp only [Act.put, List.setIfInBounds_toArray, List.set_cons_zero, List.set_cons_succ]
          refine wpAnyH_take (i := 33) (oi := ({ dst := some 72, op := Op.fieldAddr 24 (Operand.tmp 71) 0, type := 0, pos := "law.go:138", after := #[{ on := 32, ground := Ground.data }, { on := 31, ground := Ground.guard }], guard := some (31, true) } : Oper)) (v := (bif ge then undef else (bif (!g1) then .pointer (some ⟨w.heap.size, 0, none⟩) else undef))) rfl (by kernel_rfl) (by kernel_rfl) (by kernel_rfl) (fun _ _ _ h => h) ?_ (by assumption) ?_
          · cases ge <;> cases g1 <;> first | exact Or.inr ⟨by rfl, by rfl⟩ | (refine Or.inl ⟨by rfl, ?_⟩; (intro wq hSw; (try dsimp only at hSw); go_simp) <;> (try with_reducible rfl); done) | (refine Or.inl ⟨by rfl, ?_⟩; (intro wq hSw; (try dsimp only at hSw); go_simp) <;> rfl)
          try simp only [Act.put, List.setIfInBounds_toArray, List.set_cons_zero, List.set_cons_succ]
          refine wpAnyH_take (i := 34) (oi := ({ dst := some 73, op := Op.load 9 (Operand.tmp 72), type := 9, pos := "law.go:138", after := #[{ on := 33, ground := Ground.data }, { on := 31, ground := Ground.guard }], guard := some (31, true) } : Oper)) (v := (bif ge then undef else (bif (!g1) then .string m else undef))) rfl (by kernel_rfl) (by kernel_rfl) (by kernel_rfl) (fun _ _ _ h => h) ?_ (by assumption) ?_
          · cases ge <;> cases g1 <;> first | exact Or.inr ⟨by rfl, by rfl⟩ | (refine Or.inl ⟨by rfl, ?_⟩; (intro wq hSw; (try dsimp only at hSw); go_simp) <;> (try with_reducible rfl); done) | (refine Or.inl ⟨by rfl, ?_⟩; (intro wq hSw; (try dsimp only at hSw); go_simp) <;> rfl)
          try simp only [Act.put, List.setIfInBounds_toArray, List.set_cons_zero, List.set_cons_succ]
          refine wpAnyH_take (i := 35) (oi := ({ dst := some 74, op := Op.binOp BinOp.neq 9 (Operand.tmp 73) (Operand.const (Value.string { data := #[68, 69, 76, 69, 84, 69] })) 9, type := 4, pos := "law.go:138", after := #[{ on := 34, ground := Ground.data }, { on := 31, ground := Ground.guard }], guard := some (31, true) } : Oper)) (v := (bif ge then undef else (bif (!g1) then .bool (!g4) else undef))) rfl (by kernel_rfl) (by kernel_rfl) (by kernel_rfl) (fun _ _ _ h => h) ?_ (by assumption) ?_
          · cases ge <;> cases g1 <;> first | exact Or.inr ⟨by rfl, by rfl⟩ | (refine Or.inl ⟨by rfl, ?_⟩; (intro wq hSw; (try dsimp only at hSw); go_simp) <;> (try with_reducible rfl); done) | (refine Or.inl ⟨by rfl, ?_⟩; (intro wq hSw; (try dsimp only at hSw); go_simp) <;> rfl)
          try simp only [Act.put, List.setIfInBounds_toArray, List.set_cons_zero, List.set_cons_succ]
          refine wpAnyH_take (i := 36) (oi := ({ dst := some 75, op := Op.pick (Operand.tmp 70) (Operand.tmp 74) (Operand.const (Value.bool false)), type := 4, pos := "law.go:138", after := #[{ on := 31, ground := Ground.data }, { on := 35, ground := Ground.data }, { on := 26, ground := Ground.guard }], guard := some (26, false) } : Oper)) (v := (bif ge then undef else .bool (!g1 && !g4))) rfl (by kernel_rfl) (by kernel_rfl) (by kernel_rfl) (fun _ _ _ h => h) ?_ (by assumption) ?_
          · cases ge <;> cases g1 <;> first | exact Or.inr ⟨by rfl, by rfl⟩ | (refine Or.inl ⟨by rfl, ?_⟩; (intro wq hSw; (try dsimp only at hSw); go_simp) <;> (try with_reducible rfl); done) | (refine Or.inl ⟨by rfl, ?_⟩; (intro wq hSw; (try dsimp only at hSw); go_simp) <;> rfl)
          try simp only [Act.put, List.setIfInBounds_toArray, List.set_cons_zero, List.set_cons_succ]
          refine wpAnyH_take (i := 37) (oi := ({ dst := some 76, op := Op.pick (Operand.tmp 65) (Operand.const (Value.bool true)) (Operand.tmp 75), type := 4, pos := "law.go:138", after := #[{ on := 26, ground := Ground.data }, { on := 36, ground := Ground.data }], guard := none } : Oper)) (v := .bool (ge || (!g1 && !g4))) rfl (by kernel_rfl) (by kernel_rfl) (by kernel_rfl) (fun _ _ _ h => h) ?_ (by assumption) ?_
          · cases ge <;> first | exact Or.inr ⟨by rfl, by rfl⟩ | (refine Or.inl ⟨by rfl, ?_⟩; (intro wq hSw; (try dsimp only at hSw); go_simp) <;> (try with_reducible rfl); done) | (refine Or.inl ⟨by rfl, ?_⟩; (intro wq hSw; (try dsimp only at hSw); go_simp) <;> rfl)
          try simp only [Act.put, List.setIfInBounds_toArray, List.set_cons_zero, List.set_cons_succ]
          generalize hq1 : (ge || (!g1 && !g4)) = q1
          refine wpAnyH_take (i := 38) (oi := ({ dst := some 77, op := Op.fieldAddr 30 (Operand.tmp 2) 6, type := 0, pos := "law.go:138", after := #[], guard := none } : Oper)) (v := ?_) rfl (by kernel_rfl) (by kernel_rfl) (by kernel_rfl) (fun _ _ _ h => h) ?_ (by assumption) ?_
          rotate_left 1
          · refine Or.inl ⟨by rfl, ?_⟩
            (intro wq hSw; (try dsimp only at hSw); go_simp) <;> (try with_reducible rfl)
          try simp only [Act.put, List.setIfInBounds_toArray, List.set_cons_zero, List.set_cons_succ]
          refine wpAnyH_take (i := 39) (oi := ({ dst := some 78, op := Op.load 9 (Operand.tmp 77), type := 9, pos := "law.go:138", after := #[{ on := 38, ground := Ground.data }], guard := none } : Oper)) (v := ?_) rfl (by kernel_rfl) (by kernel_rfl) (by kernel_rfl) (fun _ _ _ h => h) ?_ (by assumption) ?_
          rotate_left 1
          · refine Or.inl ⟨by rfl, ?_⟩
            (intro wq hSw; (try dsimp only at hSw); go_simp) <;> (try with_reducible rfl)
          try simp only [Act.put, List.setIfInBounds_toArray, List.set_cons_zero, List.set_cons_succ]
          refine wpAnyH_take (i := 40) (oi := ({ dst := some 79, op := Op.binOp BinOp.eql 9 (Operand.tmp 78) (Operand.const (Value.string { data := #[] })) 9, type := 4, pos := "law.go:138", after := #[{ on := 39, ground := Ground.data }], guard := none } : Oper)) (v := ?_) rfl (by kernel_rfl) (by kernel_rfl) (by kernel_rfl) (fun _ _ _ h => h) ?_ (by assumption) ?_
          rotate_left 1
          · refine Or.inl ⟨by rfl, ?_⟩
            (intro wq hSw; (try dsimp only at hSw); go_simp) <;> (try with_reducible rfl)
          try simp only [Act.put, List.setIfInBounds_toArray, List.set_cons_zero, List.set_cons_succ]
          refine wpAnyH_take (i := 41) (oi := ({ dst := some 80, op := Op.move (Operand.tmp 79), type := 4, pos := "law.go:138", after := #[{ on := 40, ground := Ground.data }, { on := 31, ground := Ground.chain }], guard := none } : Oper)) (v := ?_) rfl (by kernel_rfl) (by kernel_rfl) (by kernel_rfl) (fun _ _ _ h => h) ?_ (by assumption) ?_
          rotate_left 1
          · refine Or.inl ⟨by rfl, ?_⟩
            (intro wq hSw; (try dsimp only at hSw); go_simp) <;> (try with_reducible rfl)
          try simp only [Act.put, List.setIfInBounds_toArray, List.set_cons_zero, List.set_cons_succ]
          refine wpAnyH_take (i := 42) (oi := ({ dst := some 81, op := Op.move (Operand.tmp 7), type := 4, pos := "law.go:138", after := #[{ on := 41, ground := Ground.guard }], guard := some (41, false) } : Oper)) (v := (bif gt then undef else .bool adm)) rfl (by kernel_rfl) (by kernel_rfl) (by kernel_rfl) (fun _ _ _ h => h) ?_ (by assumption) ?_
          · cases gt <;> first | exact Or.inr ⟨by rfl, by rfl⟩ | (refine Or.inl ⟨by rfl, ?_⟩; (intro wq hSw; (try dsimp only at hSw); go_simp) <;> (try with_reducible rfl); done) | (refine Or.inl ⟨by rfl, ?_⟩; (intro wq hSw; (try dsimp only at hSw); go_simp) <;> rfl)
          try simp only [Act.put, List.setIfInBounds_toArray, List.set_cons_zero, List.set_cons_succ]
          refine wpAnyH_take (i := 43) (oi := ({ dst := some 82, op := Op.unOp UnOp.not 4 (Operand.tmp 81), type := 4, pos := "law.go:138", after := #[{ on := 42, ground := Ground.data }, { on := 41, ground := Ground.guard }], guard := some (41, false) } : Oper)) (v := (bif gt then undef else .bool (!adm))) rfl (by kernel_rfl) (by kernel_rfl) (by kernel_rfl) (fun _ _ _ h => h) ?_ (by assumption) ?_
          · cases gt <;> cases adm <;> first | exact Or.inr ⟨by rfl, by rfl⟩ | (refine Or.inl ⟨by rfl, ?_⟩; (intro wq hSw; (try dsimp only at hSw); go_simp) <;> (try with_reducible rfl); done) | (refine Or.inl ⟨by rfl, ?_⟩; (intro wq hSw; (try dsimp only at hSw); go_simp) <;> rfl)
          try simp only [Act.put, List.setIfInBounds_toArray, List.set_cons_zero, List.set_cons_succ]
          refine wpAnyH_take (i := 44) (oi := ({ dst := some 83, op := Op.pick (Operand.tmp 80) (Operand.const (Value.bool true)) (Operand.tmp 82), type := 4, pos := "law.go:138", after := #[{ on := 41, ground := Ground.data }, { on := 43, ground := Ground.data }], guard := none } : Oper)) (v := .bool (gt || !adm)) rfl (by kernel_rfl) (by kernel_rfl) (by kernel_rfl) (fun _ _ _ h => h) ?_ (by assumption) ?_
          · cases gt <;> first | exact Or.inr ⟨by rfl, by rfl⟩ | (refine Or.inl ⟨by rfl, ?_⟩; (intro wq hSw; (try dsimp only at hSw); go_simp) <;> (try with_reducible rfl); done) | (refine Or.inl ⟨by rfl, ?_⟩; (intro wq hSw; (try dsimp only at hSw); go_simp) <;> rfl)
          try simp only [Act.put, List.setIfInBounds_toArray, List.set_cons_zero, List.set_cons_succ]
          generalize hqq : (gt || !adm) = qq
          refine wpAnyH_take (i := 45) (oi := ({ dst := some 84, op := Op.move (Operand.tmp 83), type := 4, pos := "law.go:138", after := #[{ on := 44, ground := Ground.data }, { on := 41, ground := Ground.chain }], guard := none } : Oper)) (v := ?_) rfl (by kernel_rfl) (by kernel_rfl) (by kernel_rfl) (fun _ _ _ h => h) ?_ (by assumption) ?_
          rotate_left 1
          · refine Or.inl ⟨by rfl, ?_⟩
            (intro wq hSw; (try dsimp only at hSw); go_simp) <;> (try with_reducible rfl)
          try simp only [Act.put, List.setIfInBounds_toArray, List.set_cons_zero, List.set_cons_succ]
          refine wpAnyH_take (i := 46) (oi := ({ dst := some 85, op := Op.move (Operand.tmp 6), type := 26, pos := "law.go:138", after := #[{ on := 45, ground := Ground.guard }], guard := some (45, false) } : Oper)) (v := (bif qq then undef else .slice B vals.length k)) rfl (by kernel_rfl) (by kernel_rfl) (by kernel_rfl) (fun _ _ _ h => h) ?_ (by assumption) ?_
          · cases qq <;> first | exact Or.inr ⟨by rfl, by rfl⟩ | (refine Or.inl ⟨by rfl, ?_⟩; (intro wq hSw; (try dsimp only at hSw); go_simp) <;> (try with_reducible rfl); done) | (refine Or.inl ⟨by rfl, ?_⟩; (intro wq hSw; (try dsimp only at hSw); go_simp) <;> rfl)
          try simp only [Act.put, List.setIfInBounds_toArray, List.set_cons_zero, List.set_cons_succ]
          refine wpAnyH_take (i := 47) (oi := ({ dst := some 86, op := Op.call { callee := Callee.builtin Builtin.len, args := #[Operand.tmp 85], argTypes := #[26] }, type := 3, pos := "law.go:138", after := #[{ on := 46, ground := Ground.data }, { on := 45, ground := Ground.guard }], guard := some (45, false) } : Oper)) (v := (bif qq then undef else .int .i64 (vals.length : Int))) rfl (by kernel_rfl) (by kernel_rfl) (by kernel_rfl) (fun _ _ _ h => h) ?_ (by assumption) ?_
          · cases qq <;> first | exact Or.inr ⟨by rfl, by rfl⟩ | (refine Or.inl ⟨by rfl, ?_⟩; (intro wq hSw; (try dsimp only at hSw); go_simp) <;> (try with_reducible rfl); done) | (refine Or.inl ⟨by rfl, ?_⟩; (intro wq hSw; (try dsimp only at hSw); go_simp) <;> rfl)
          try simp only [Act.put, List.setIfInBounds_toArray, List.set_cons_zero, List.set_cons_succ]
          refine wpAnyH_take (i := 48) (oi := ({ dst := some 87, op := Op.binOp BinOp.eql 3 (Operand.tmp 86) (Operand.const (Value.int IntKind.i64 1)) 3, type := 4, pos := "law.go:138", after := #[{ on := 47, ground := Ground.data }, { on := 45, ground := Ground.guard }], guard := some (45, false) } : Oper)) (v := (bif qq then undef else .bool false)) rfl (by kernel_rfl) (by kernel_rfl) (by kernel_rfl) (fun _ _ _ h => h) ?_ (by assumption) ?_
          · cases qq <;> first | exact Or.inr ⟨by rfl, by rfl⟩ | (refine Or.inl ⟨by rfl, ?_⟩; (intro wq hSw; (try dsimp only at hSw); go_simp) <;> (try with_reducible rfl); done) | (refine Or.inl ⟨by rfl, ?_⟩; (intro wq hSw; (try dsimp only at hSw); go_simp) <;> rfl)
          try simp only [Act.put, List.setIfInBounds_toArray, List.set_cons_zero, List.set_cons_succ]
          refine wpAnyH_take (i := 49) (oi := ({ dst := some 88, op := Op.move (Operand.tmp 87), type := 4, pos := "law.go:138", after := #[{ on := 48, ground := Ground.data }, { on := 45, ground := Ground.chain }, { on := 45, ground := Ground.guard }], guard := some (45, false) } : Oper)) (v := (bif qq then undef else .bool false)) rfl (by kernel_rfl) (by kernel_rfl) (by kernel_rfl) (fun _ _ _ h => h) ?_ (by assumption) ?_
          · cases qq <;> first | exact Or.inr ⟨by rfl, by rfl⟩ | (refine Or.inl ⟨by rfl, ?_⟩; (intro wq hSw; (try dsimp only at hSw); go_simp) <;> (try with_reducible rfl); done) | (refine Or.inl ⟨by rfl, ?_⟩; (intro wq hSw; (try dsimp only at hSw); go_simp) <;> rfl)
          try simp only [Act.put, List.setIfInBounds_toArray, List.set_cons_zero, List.set_cons_succ]
          refine wpAnyH_take (i := 50) (oi := ({ dst := some 89, op := Op.move (Operand.tmp 6), type := 26, pos := "law.go:138", after := #[{ on := 49, ground := Ground.guard }], guard := some (49, true) } : Oper)) (v := undef) rfl (by kernel_rfl) (by kernel_rfl) (by kernel_rfl) (fun _ _ _ h => h) ?_ (by assumption) ?_
          · cases qq <;> first | exact Or.inr ⟨by rfl, by rfl⟩ | (refine Or.inl ⟨by rfl, ?_⟩; (intro wq hSw; (try dsimp only at hSw); go_simp) <;> (try with_reducible rfl); done) | (refine Or.inl ⟨by rfl, ?_⟩; (intro wq hSw; (try dsimp only at hSw); go_simp) <;> rfl)
          try simp only [Act.put, List.setIfInBounds_toArray, List.set_cons_zero, List.set_cons_succ]
          refine wpAnyH_take (i := 51) (oi := ({ dst := some 90, op := Op.indexAddr 26 (Operand.tmp 89) (Operand.const (Value.int IntKind.i64 0)), type := 0, pos := "law.go:138", after := #[{ on := 50, ground := Ground.data }, { on := 49, ground := Ground.guard }], guard := some (49, true) } : Oper)) (v := undef) rfl (by kernel_rfl) (by kernel_rfl) (by kernel_rfl) (fun _ _ _ h => h) ?_ (by assumption) ?_
          · cases qq <;> first | exact Or.inr ⟨by rfl, by rfl⟩ | (refine Or.inl ⟨by rfl, ?_⟩; (intro wq hSw; (try dsimp only at hSw); go_simp) <;> (try with_reducible rfl); done) | (refine Or.inl ⟨by rfl, ?_⟩; (intro wq hSw; (try dsimp only at hSw); go_simp) <;> rfl)
          try simp only [Act.put, List.setIfInBounds_toArray, List.set_cons_zero, List.set_cons_succ]
          refine wpAnyH_take (i := 52) (oi := ({ dst := some 91, op := Op.load 9 (Operand.tmp 90), type := 9, pos := "law.go:138", after := #[{ on := 51, ground := Ground.data }, { on := 49, ground := Ground.guard }], guard := some (49, true) } : Oper)) (v := undef) rfl (by kernel_rfl) (by kernel_rfl) (by kernel_rfl) (fun _ _ _ h => h) ?_ (by assumption) ?_
          · cases qq <;> first | exact Or.inr ⟨by rfl, by rfl⟩ | (refine Or.inl ⟨by rfl, ?_⟩; (intro wq hSw; (try dsimp only at hSw); go_simp) <;> (try with_reducible rfl); done) | (refine Or.inl ⟨by rfl, ?_⟩; (intro wq hSw; (try dsimp only at hSw); go_simp) <;> rfl)
          try simp only [Act.put, List.setIfInBounds_toArray, List.set_cons_zero, List.set_cons_succ]
          refine wpAnyH_take (i := 53) (oi := ({ dst := some 92, op := Op.fieldAddr 30 (Operand.tmp 2) 6, type := 0, pos := "law.go:138", after := #[{ on := 49, ground := Ground.guard }], guard := some (49, true) } : Oper)) (v := undef) rfl (by kernel_rfl) (by kernel_rfl) (by kernel_rfl) (fun _ _ _ h => h) ?_ (by assumption) ?_
          · cases qq <;> first | exact Or.inr ⟨by rfl, by rfl⟩ | (refine Or.inl ⟨by rfl, ?_⟩; (intro wq hSw; (try dsimp only at hSw); go_simp) <;> (try with_reducible rfl); done) | (refine Or.inl ⟨by rfl, ?_⟩; (intro wq hSw; (try dsimp only at hSw); go_simp) <;> rfl)
          try simp only [Act.put, List.setIfInBounds_toArray, List.set_cons_zero, List.set_cons_succ]
          refine wpAnyH_take (i := 54) (oi := ({ dst := some 93, op := Op.load 9 (Operand.tmp 92), type := 9, pos := "law.go:138", after := #[{ on := 53, ground := Ground.data }, { on := 49, ground := Ground.guard }], guard := some (49, true) } : Oper)) (v := undef) rfl (by kernel_rfl) (by kernel_rfl) (by kernel_rfl) (fun _ _ _ h => h) ?_ (by assumption) ?_
          · cases qq <;> first | exact Or.inr ⟨by rfl, by rfl⟩ | (refine Or.inl ⟨by rfl, ?_⟩; (intro wq hSw; (try dsimp only at hSw); go_simp) <;> (try with_reducible rfl); done) | (refine Or.inl ⟨by rfl, ?_⟩; (intro wq hSw; (try dsimp only at hSw); go_simp) <;> rfl)
          try simp only [Act.put, List.setIfInBounds_toArray, List.set_cons_zero, List.set_cons_succ]
          refine wpAnyH_take (i := 55) (oi := ({ dst := some 94, op := Op.binOp BinOp.eql 9 (Operand.tmp 91) (Operand.tmp 93) 9, type := 4, pos := "law.go:138", after := #[{ on := 52, ground := Ground.data }, { on := 54, ground := Ground.data }, { on := 49, ground := Ground.guard }], guard := some (49, true) } : Oper)) (v := undef) rfl (by kernel_rfl) (by kernel_rfl) (by kernel_rfl) (fun _ _ _ h => h) ?_ (by assumption) ?_
          · cases qq <;> first | exact Or.inr ⟨by rfl, by rfl⟩ | (refine Or.inl ⟨by rfl, ?_⟩; (intro wq hSw; (try dsimp only at hSw); go_simp) <;> (try with_reducible rfl); done) | (refine Or.inl ⟨by rfl, ?_⟩; (intro wq hSw; (try dsimp only at hSw); go_simp) <;> rfl)
          try simp only [Act.put, List.setIfInBounds_toArray, List.set_cons_zero, List.set_cons_succ]
          refine wpAnyH_take (i := 56) (oi := ({ dst := some 95, op := Op.pick (Operand.tmp 88) (Operand.tmp 94) (Operand.const (Value.bool false)), type := 4, pos := "law.go:138", after := #[{ on := 49, ground := Ground.data }, { on := 55, ground := Ground.data }, { on := 45, ground := Ground.guard }], guard := some (45, false) } : Oper)) (v := (bif qq then undef else .bool false)) rfl (by kernel_rfl) (by kernel_rfl) (by kernel_rfl) (fun _ _ _ h => h) ?_ (by assumption) ?_
          · cases qq <;> first | exact Or.inr ⟨by rfl, by rfl⟩ | (refine Or.inl ⟨by rfl, ?_⟩; (intro wq hSw; (try dsimp only at hSw); go_simp) <;> (try with_reducible rfl); done) | (refine Or.inl ⟨by rfl, ?_⟩; (intro wq hSw; (try dsimp only at hSw); go_simp) <;> rfl)
          try simp only [Act.put, List.setIfInBounds_toArray, List.set_cons_zero, List.set_cons_succ]
          refine wpAnyH_take (i := 57) (oi := ({ dst := some 96, op := Op.pick (Operand.tmp 84) (Operand.const (Value.bool true)) (Operand.tmp 95), type := 4, pos := "law.go:138", after := #[{ on := 45, ground := Ground.data }, { on := 56, ground := Ground.data }], guard := none } : Oper)) (v := .bool (qq || false)) rfl (by kernel_rfl) (by kernel_rfl) (by kernel_rfl) (fun _ _ _ h => h) ?_ (by assumption) ?_
          · cases qq <;> first | exact Or.inr ⟨by rfl, by rfl⟩ | (refine Or.inl ⟨by rfl, ?_⟩; (intro wq hSw; (try dsimp only at hSw); go_simp) <;> (try with_reducible rfl); done) | (refine Or.inl ⟨by rfl, ?_⟩; (intro wq hSw; (try dsimp only at hSw); go_simp) <;> rfl)
          try simp only [Act.put, List.setIfInBounds_toArray, List.set_cons_zero, List.set_cons_succ]
          generalize hq2 : (qq || false) = q2
          refine wpAnyH_take (i := 58) (oi := ({ dst := some 97, op := Op.fieldAddr 30 (Operand.tmp 2) 5, type := 0, pos := "law.go:138", after := #[], guard := none } : Oper)) (v := ?_) rfl (by kernel_rfl) (by kernel_rfl) (by kernel_rfl) (fun _ _ _ h => h) ?_ (by assumption) ?_
          rotate_left 1
          · refine Or.inl ⟨by rfl, ?_⟩
            (intro wq hSw; (try dsimp only at hSw); go_simp) <;> (try with_reducible rfl)
          try simp only [Act.put, List.setIfInBounds_toArray, List.set_cons_zero, List.set_cons_succ]
          refine wpAnyH_take (i := 59) (oi := ({ dst := some 98, op := Op.load 4 (Operand.tmp 97), type := 4, pos := "law.go:138", after := #[{ on := 58, ground := Ground.data }], guard := none } : Oper)) (v := ?_) rfl (by kernel_rfl) (by kernel_rfl) (by kernel_rfl) (fun _ _ _ h => h) ?_ (by assumption) ?_
          rotate_left 1
          · refine Or.inl ⟨by rfl, ?_⟩
            (intro wq hSw; (try dsimp only at hSw); go_simp) <;> (try with_reducible rfl)
          try simp only [Act.put, List.setIfInBounds_toArray, List.set_cons_zero, List.set_cons_succ]
          refine wpAnyH_take (i := 61) (oi := ({ dst := some 100, op := Op.move (Operand.tmp 1), type := 3, pos := "law.go:138", after := #[], guard := none } : Oper)) (v := ?_) rfl (by kernel_rfl) (by kernel_rfl) (by kernel_rfl) (fun _ _ _ h => h) ?_ (by assumption) ?_
          rotate_left 1
          · refine Or.inl ⟨by rfl, ?_⟩
            (intro wq hSw; (try dsimp only at hSw); go_simp) <;> (try with_reducible rfl)
          try simp only [Act.put, List.setIfInBounds_toArray, List.set_cons_zero, List.set_cons_succ]
          refine wpAnyH_take (i := 62) (oi := ({ dst := some 101, op := Op.binOp BinOp.rem 3 (Operand.tmp 100) (Operand.const (Value.int IntKind.i64 5)) 3, type := 3, pos := "law.go:138", after := #[{ on := 61, ground := Ground.data }], guard := none } : Oper)) (v := ?_) rfl (by kernel_rfl) (by kernel_rfl) (by kernel_rfl) (fun _ _ _ h => h) ?_ (by assumption) ?_
          rotate_left 1
          · refine Or.inl ⟨by rfl, ?_⟩
            (intro wq hSw; (try dsimp only at hSw); go_simp) <;> (try with_reducible rfl)
          try simp only [Act.put, List.setIfInBounds_toArray, List.set_cons_zero, List.set_cons_succ]
          refine wpAnyH_take (i := 63) (oi := ({ dst := some 102, op := Op.binOp BinOp.add 3 (Operand.tmp 101) (Operand.const (Value.int IntKind.i64 5)) 3, type := 3, pos := "law.go:138", after := #[{ on := 62, ground := Ground.data }], guard := none } : Oper)) (v := ?_) rfl (by kernel_rfl) (by kernel_rfl) (by kernel_rfl) (fun _ _ _ h => h) ?_ (by assumption) ?_
          rotate_left 1
          · refine Or.inl ⟨by rfl, ?_⟩
            (intro wq hSw; (try dsimp only at hSw); go_simp) <;> (try with_reducible rfl)
          try simp only [Act.put, List.setIfInBounds_toArray, List.set_cons_zero, List.set_cons_succ]
          refine wpAnyH_take (i := 64) (oi := ({ dst := some 103, op := Op.binOp BinOp.rem 3 (Operand.tmp 102) (Operand.const (Value.int IntKind.i64 5)) 3, type := 3, pos := "law.go:138", after := #[{ on := 63, ground := Ground.data }], guard := none } : Oper)) (v := ?_) rfl (by kernel_rfl) (by kernel_rfl) (by kernel_rfl) (fun _ _ _ h => h) ?_ (by assumption) ?_
          rotate_left 1
          · refine Or.inl ⟨by rfl, ?_⟩
            (intro wq hSw; (try dsimp only at hSw); go_simp) <;> (try with_reducible rfl)
          try simp only [Act.put, List.setIfInBounds_toArray, List.set_cons_zero, List.set_cons_succ]
          refine wpAnyH_ready (rs := [60]) (by kernel_rfl) (by simp) ?_
          refine AllReadyH.cons (o := ({ dst := some 99, op := Op.buildSlice 48 5 #[(0, Operand.tmp 60), (1, Operand.tmp 76), (2, Operand.tmp 96), (3, Operand.tmp 98), (4, Operand.const (Value.bool true))], type := 48, pos := "law.go:138", after := #[{ on := 21, ground := Ground.data }, { on := 37, ground := Ground.data }, { on := 57, ground := Ground.data }, { on := 59, ground := Ground.data }], guard := none } : Oper)) rfl (fun K hK => ?_) AllReadyH.nil
          go_simp
          refine hK.out _ _ ?_ (fun hHeld => ?_)
          · exact HSX.out _ ((Below.refl _ _).drew.alloc (Nat.le_refl _) _)
          clear hK K
          try simp only [Act.put, List.setIfInBounds_toArray, List.set_cons_zero, List.set_cons_succ]
          refine wpAnyH_take (i := 65) (oi := ({ dst := some 104, op := Op.indexAddr 48 (Operand.tmp 99) (Operand.tmp 103), type := 0, pos := "law.go:138", after := #[{ on := 60, ground := Ground.data }, { on := 64, ground := Ground.data }], guard := none } : Oper)) (v := ?_) rfl (by kernel_rfl) (by kernel_rfl) (by kernel_rfl) (fun _ _ _ h => h) ?_ (by assumption) ?_
          rotate_left 1
          · refine Or.inl ⟨by rfl, ?_⟩
            (intro wq hSw; (try dsimp only at hSw); go_simp) <;> (try with_reducible rfl)
          try simp only [Act.put, List.setIfInBounds_toArray, List.set_cons_zero, List.set_cons_succ]
          refine wpAnyH_ready (rs := [66]) (by kernel_rfl) (by simp) ?_
          refine AllReadyH.cons (o := ({ dst := some 105, op := Op.load 4 (Operand.tmp 104), type := 4, pos := "law.go:138", after := #[{ on := 65, ground := Ground.data }], guard := none } : Oper)) rfl (fun K hK => ?_) AllReadyH.nil
          go_simp
          refine hK.out _ _ ?_ (fun hHeld => ?_)
          · exact HSX.out _ ((Below.refl _ _).drew.alloc (Nat.le_refl _) _)
          clear hK K
          try simp only [Act.put, List.setIfInBounds_toArray, List.set_cons_zero, List.set_cons_succ]
          refine wpAnyH_take (i := 67) (oi := ({ dst := some 9, op := Op.assign (Operand.tmp 105), type := 4, pos := "law.go:138", after := #[{ on := 66, ground := Ground.data }, { on := 49, ground := Ground.chain }, { on := 0, ground := Ground.phase }, { on := 1, ground := Ground.phase }, { on := 2, ground := Ground.phase }, { on := 3, ground := Ground.phase }, { on := 4, ground := Ground.phase }, { on := 5, ground := Ground.phase }, { on := 6, ground := Ground.phase }, { on := 7, ground := Ground.phase }, { on := 8, ground := Ground.phase }, { on := 9, ground := Ground.phase }, { on := 10, ground := Ground.phase }, { on := 11, ground := Ground.phase }, { on := 12, ground := Ground.phase }, { on := 13, ground := Ground.phase }, { on := 14, ground := Ground.phase }, { on := 15, ground := Ground.phase }, { on := 16, ground := Ground.phase }, { on := 17, ground := Ground.phase }, { on := 18, ground := Ground.phase }, { on := 19, ground := Ground.phase }, { on := 20, ground := Ground.phase }, { on := 21, ground := Ground.phase }, { on := 22, ground := Ground.phase }, { on := 23, ground := Ground.phase }, { on := 24, ground := Ground.phase }, { on := 25, ground := Ground.phase }, { on := 26, ground := Ground.phase }, { on := 27, ground := Ground.phase }, { on := 28, ground := Ground.phase }, { on := 29, ground := Ground.phase }, { on := 30, ground := Ground.phase }, { on := 31, ground := Ground.phase }, { on := 32, ground := Ground.phase }, { on := 33, ground := Ground.phase }, { on := 34, ground := Ground.phase }, { on := 35, ground := Ground.phase }, { on := 36, ground := Ground.phase }, { on := 37, ground := Ground.phase }, { on := 38, ground := Ground.phase }, { on := 39, ground := Ground.phase }, { on := 40, ground := Ground.phase }, { on := 41, ground := Ground.phase }, { on := 42, ground := Ground.phase }, { on := 43, ground := Ground.phase }, { on := 44, ground := Ground.phase }, { on := 45, ground := Ground.phase }, { on := 46, ground := Ground.phase }, { on := 47, ground := Ground.phase }, { on := 48, ground := Ground.phase }, { on := 49, ground := Ground.phase }, { on := 50, ground := Ground.phase }, { on := 51, ground := Ground.phase }, { on := 52, ground := Ground.phase }, { on := 53, ground := Ground.phase }, { on := 54, ground := Ground.phase }, { on := 55, ground := Ground.phase }, { on := 56, ground := Ground.phase }, { on := 57, ground := Ground.phase }, { on := 58, ground := Ground.phase }, { on := 59, ground := Ground.phase }, { on := 60, ground := Ground.phase }, { on := 61, ground := Ground.phase }, { on := 62, ground := Ground.phase }, { on := 63, ground := Ground.phase }, { on := 64, ground := Ground.phase }, { on := 65, ground := Ground.phase }, { on := 66, ground := Ground.phase }], guard := none } : Oper)) (v := ?_) rfl (by kernel_rfl) (by kernel_rfl) (by kernel_rfl) (fun _ _ _ h => h) ?_ (by assumption) ?_
          rotate_left 1
          · refine Or.inl ⟨by rfl, ?_⟩
            (intro wq hSw; (try dsimp only at hSw); go_simp) <;> (try with_reducible rfl)
          try simp only [Act.put, List.setIfInBounds_toArray, List.set_cons_zero, List.set_cons_succ]
          refine wpAnyH_done (by kernel_rfl) ?_ _
          have e0 : q0 = kbT m := by rw [← hq0, ← hh3, ← hh2]; unfold kbT; rw [HL.out.1, HL.out.2.1, HL.out.2.2.1, HL.out.2.2.2.1]; cases g1 <;> cases g2 <;> cases g3 <;> rfl
          have e1 : q1 = sbT m bd := by unfold sbT; rw [HL.out.1, HL.out.2.2.2.1, HL.out.2.2.2.2.1]; exact hq1.symm
          have e2 : q2 = gbT tk tg vals := by unfold gbT; rw [HL.out.2.2.2.2.2, HAD.out, HV.out, ← hq2, ← hqq, Bool.or_assoc]
          have hok : pickB j q0 q1 q2 fd = okv := by rw [e0, e1, e2]; exact HOK.out
          clear e0 e1 e2 hq0 hq1 hq2 hqq hh2 hh3
          go_wp2_with fail
          go_meet
          exact ⟨by rw [hok], HB6.out.drew.alloc HB6.out.size _, (Below.refl _ _).drew.alloc (Nat.le_refl _) _⟩
      case rest =>
        obtain ⟨rfl, hBX⟩ := hcut
        rename World => wG
        obtain ⟨K, hlk, hgo⟩ := link_at j hj5 ⟨m, tg, A1, fs, fc, bd, cc, cn, sq, vs, hn, pv, B1, al, ac, fd, tk⟩
        rw [HMM.out] at hlk
        obtain ⟨m', mc', e', henM, henK, hh⟩ := hlk
        cases e'
        have hok2 : pickB j (kbT m) (sbT m bd) (gbT tk tg (valsOf tokB fs)) fd = okv := by have h := HOK.out; rw [← hvv] at h; exact h
        have HBG := Lib.hid hBX.out.1
        have HCG := Lib.hid ((hBX.out.2.block _ (blk_lt HC6.out)).trans HC6.out)
        have HRDY : Hid (∀ wx, Below wG.heap.size wG wx → Calls Tryd.prog M #[.func (.func 20) #[] #[]] wx fun e w' => ∃ H, e = .returned (.func (.func K) #[] #[.pointer (some ⟨H, 0, none⟩)]) ∧
            Hid (∀ wz, Below w'.heap.size w' wz → Calls Tryd.prog K #[.agg #[.string m, .string tg, .slice A1 fs.length fc, .string bd, .bool cc, .int .i64 cn, .int .i64 sq, .int .i64 vs, .string hn, pv, .slice B1 al.length ac, .bool fd, .string tk], .pointer (some ⟨H, 0, none⟩)] wz fun e wy => ∃ st b cl A' ln n', e = .returned (.agg #[.int .i64 st, .slice A' ln n', .string b, .bool cl]) ∧ (st == 222) = okv ∧ (okv = true → b = tg ∧ ln = 0) ∧ Below wz.heap.size wz wy) ∧ Below wx.heap.size wx w') := fun wx hbx => by
          refine (hh (.func (.func 20) #[] #[]) wx ⟨_, _, rfl, enters_of Tryd.func20 (by kernel_rfl) rfl⟩).mono fun e w' ⟨he, hw'⟩ => ?_
          subst hw'
          have hb' := (Below.refl wx.heap.size wx).alloc (Nat.le_refl _) (.cells #[.func (.func 20) #[] #[]] 36)
          have hk := heap_alloc_new wx (.cells #[.func (.func 20) #[] #[]] 36)
          generalize wx.alloc (.cells #[.func (.func 20) #[] #[]] 36) = w' at *
          refine ⟨_, he, ?_, hb'⟩
          show ∀ wz, _
          intro wz hbz
          have hbww := bt HBG.out (bt hbx hb')
          obtain ⟨o, hd, hgood⟩ := hgo w' _ _ (HH.out.ok HLI.out hbww (fun _ q => q.elim)) (links1_hd w') (blk_lt hk) (blk_cell hk 0)
          obtain ⟨st, l, b, cl, rfl, hst, hb0⟩ := hgood
          obtain ⟨_, _, he2, _, hcall⟩ := hd
          cases he2
          refine (hcall wz (Frm.of hbz) trivial).mono fun e wy ⟨⟨A', n', he3, _, _, _⟩, hfy, _⟩ => ?_
          exact ⟨st, b, cl, A', l.length, n', he3, hst.trans hok2, fun h => ⟨(hb0 (hok2.trans h)).1, by rw [(hb0 (hok2.trans h)).2]; rfl⟩, hfy.below (Nat.le_refl _) (fun _ q => q.elim)⟩
        have hM' := henM #[.func (.func 20) #[] #[]]
        have hK' := fun H : Nat => henK #[.agg #[.string m, .string tg, .slice A1 fs.length fc, .string bd, .bool cc, .int .i64 cn, .int .i64 sq, .int .i64 vs, .string hn, pv, .slice B1 al.length ac, .bool fd, .string tk], .pointer (some ⟨H, 0, none⟩)]
        have HCD : Hid (∀ wx, Below wG.heap.size wG wx → wx.cell? ⟨w.heap.size, 0, none⟩ = some (.string m) ∧ wx.cell? ⟨w.heap.size, 1, none⟩ = some (.string tg) ∧ wx.cell? ⟨w.heap.size, 2, none⟩ = some (.slice A1 fs.length fc) ∧ wx.cell? ⟨w.heap.size, 3, none⟩ = some (.string bd) ∧ wx.cell? ⟨w.heap.size, 4, none⟩ = some (.bool cc) ∧ wx.cell? ⟨w.heap.size, 5, none⟩ = some (.int .i64 cn) ∧ wx.cell? ⟨w.heap.size, 6, none⟩ = some (.int .i64 sq) ∧ wx.cell? ⟨w.heap.size, 7, none⟩ = some (.int .i64 vs) ∧ wx.cell? ⟨w.heap.size, 8, none⟩ = some (.string hn) ∧ wx.cell? ⟨w.heap.size, 9, none⟩ = some (pv) ∧ wx.cell? ⟨w.heap.size, 10, none⟩ = some (.slice B1 al.length ac) ∧ wx.cell? ⟨w.heap.size, 11, none⟩ = some (.bool fd) ∧ wx.cell? ⟨w.heap.size, 12, none⟩ = some (.string tk)) := fun wx hb => by
          have h5 := HCG.out
          have hk := (hb.block _ (blk_lt h5)).trans h5
          exact ⟨blk_cell hk 0, blk_cell hk 1, blk_cell hk 2, blk_cell hk 3, blk_cell hk 4, blk_cell hk 5, blk_cell hk 6, blk_cell hk 7, blk_cell hk 8, blk_cell hk 9, blk_cell hk 10, blk_cell hk 11, blk_cell hk 12⟩
        have HD0 := Lib.hid (Below.refl wG.heap.size wG).drew
        have HD1 := Lib.hid ((Below.refl wG.heap.size wG).drew.alloc (Nat.le_refl _) (.cells #[.int .i64 0, .slice none 0 0, .string ⟨#[]⟩, .bool false] 32))
        have HKZ : Hid ((wG.drew.alloc (.cells #[.int .i64 0, .slice none 0 0, .string ⟨#[]⟩, .bool false] 32)).heap[wG.heap.size]? = some (.cells #[.int .i64 0, .slice none 0 0, .string ⟨#[]⟩, .bool false] 32 (0, 0))) := heap_alloc_new wG.drew _
        clear henM henK hh hgo hok2 hcell2 hA hB hw5 hw6 hj5 hj5i hr0a hr0b c0 c1 c2 c3 c4 c5 c6 c7 c8 c9 c10 c11 c12
        go_upto_region 10 with fail
        go_cut [10] from 106 (fun gv wx => ∃ G st b cl A' ln n', gv = .pointer (some ⟨G, 0, none⟩) ∧ Hid (wx.heap[G]? = some (.cells #[.int .i64 st, .slice A' ln n', .string b, .bool cl] 32 (0, 0))) ∧ Hid ((st == 222) = okv ∧ (okv = true → b = tg ∧ ln = 0)) ∧ Hid (Below wG.heap.size wG wx))
        case first =>
          go_region_held3 (fun W => W.cell? ⟨w.heap.size, 0, none⟩ = some (.string m) ∧ W.cell? ⟨w.heap.size, 1, none⟩ = some (.string tg) ∧ W.cell? ⟨w.heap.size, 2, none⟩ = some (.slice A1 fs.length fc) ∧ W.cell? ⟨w.heap.size, 3, none⟩ = some (.string bd) ∧ W.cell? ⟨w.heap.size, 4, none⟩ = some (.bool cc) ∧ W.cell? ⟨w.heap.size, 5, none⟩ = some (.int .i64 cn) ∧ W.cell? ⟨w.heap.size, 6, none⟩ = some (.int .i64 sq) ∧ W.cell? ⟨w.heap.size, 7, none⟩ = some (.int .i64 vs) ∧ W.cell? ⟨w.heap.size, 8, none⟩ = some (.string hn) ∧ W.cell? ⟨w.heap.size, 9, none⟩ = some (pv) ∧ W.cell? ⟨w.heap.size, 10, none⟩ = some (.slice B1 al.length ac) ∧ W.cell? ⟨w.heap.size, 11, none⟩ = some (.bool fd) ∧ W.cell? ⟨w.heap.size, 12, none⟩ = some (.string tk)) (first | (exact HCD.out _ HD0.out) | (exact HCD.out _ HD1.out) | (exact HCD.out _ hc6) | (exact HCD.out _ (hc6.alloc hc6.size _)) | (exact HCD.out _ hc7) | (exact HCD.out _ (hc7.alloc hc7.size _)) | (exact HCD.out _ (put4_lo hc7 hgz _ _ _ _))) ((first
            | (go_at_fn M; refine (HRDY.out _ HD1.out).mono ?_; rintro e w6x ⟨H, rfl, hrd, hb6⟩
               have hc6 := HD1.out.trans (hb6.mono HD1.out.size)
               have hkz6 := (hb6.block _ (blk_lt HKZ.out)).trans HKZ.out)
            | (go_at_fn M; refine (HRDY.out _ HD0.out).mono ?_; rintro e w6x ⟨H, rfl, hrd, hb6⟩
               have hc6 := HD0.out.trans (hb6.mono HD0.out.size))
            | (go_at_fn K; refine (hrd.out _ ?_).mono ?_
               (first | exact Below.refl _ _ | exact (Below.refl _ _).alloc (Nat.le_refl _) _)
               rintro e w7 ⟨st, b, cl, A', ln, n', rfl, hst, hbl, hb7⟩
               have hsb := And.intro hst hbl
               have hc7 : Below wG.heap.size wG w7 := by first | exact hc6.trans (hb7.mono hc6.size) | exact (hc6.alloc hc6.size _).trans (hb7.mono (hc6.alloc hc6.size _).size)
               (first
                 | (have hkz7 := (hb7.block wG.heap.size (blk_lt hkz6)).trans hkz6; have hgz : wG.heap.size ≤ wG.heap.size := Nat.le_refl _; have r0 := blk_cell hkz7 0; have r1 := blk_cell hkz7 1; have r2 := blk_cell hkz7 2; have r3 := blk_cell hkz7 3; have z0 := blk_free hkz7 0; have z1 := blk_free hkz7 1; have z2 := blk_free hkz7 2; have z3 := blk_free hkz7 3; simp only [List.getElem?_toArray, List.getElem?_cons_zero, List.getElem?_cons_succ] at r0 r1 r2 r3)
                 | (have hkz7 := (hb7.block w6x.heap.size (by simp)).trans (heap_alloc_new w6x (.cells #[.int .i64 0, .slice none 0 0, .string ⟨#[]⟩, .bool false] 32)); have hgz : wG.heap.size ≤ w6x.heap.size := hc6.size; have r0 := blk_cell hkz7 0; have r1 := blk_cell hkz7 1; have r2 := blk_cell hkz7 2; have r3 := blk_cell hkz7 3; have z0 := blk_free hkz7 0; have z1 := blk_free hkz7 1; have z2 := blk_free hkz7 2; have z3 := blk_free hkz7 3; simp only [List.getElem?_toArray, List.getElem?_cons_zero, List.getElem?_cons_succ] at r0 r1 r2 r3)
                 | skip))))
          all_goals
            have HC7 := Lib.hid hc7
            have HSB := Lib.hid hsb
            clear hc7 hc6 hb6 hrd hb7 hsb hst hbl
            go_wp2_with fail
            go_meet
            first
            | exact ⟨_, st, b, cl, A', ln, n', rfl, heap_alloc_new w7 _, HSB, HC7.out.alloc HC7.out.size _⟩
            | exact ⟨_, st, b, cl, A', ln, n', rfl, put4_blk hkz7 _ _ _ _, HSB, put4_lo HC7.out hgz _ _ _ _⟩
        case rest =>
          obtain ⟨G, st, b, cl, A', ln, n', rfl, hkG, hsb, hbG⟩ := hcut
          have x0 := blk_cell hkG.out 0; have x1 := blk_cell hkG.out 1; have x2 := blk_cell hkG.out 2; have x3 := blk_cell hkG.out 3
          obtain ⟨c0, c1, c2, c3, c4, c5, c6, c7, c8, c9, c10, c11, c12⟩ := HCD.out _ hbG.out
          simp only [List.getElem?_toArray, List.getElem?_cons_zero, List.getElem?_cons_succ] at x0 x1 x2 x3
          have HFIN := Lib.hid (bt HBG.out hbG.out)
          clear HRDY HCD HD0 HD1 HKZ hM' hK'
          have hst := hsb.out.1
          cases okv with
          | true =>
            obtain ⟨rfl, rfl⟩ := hsb.out.2 rfl
            have e2 : (b.toList == b.toList) = true := by simp
            go_wp2_with fail
            go_ret
            exact ⟨rfl, HFIN.out⟩
          | false =>
            go_wp2_with fail
            go_ret
            exact ⟨rfl, HFIN.out⟩
end Go.Proofs.YtmncchgifgjhgaaDoor
