/- The walk of TrieParams. -/
import Derived.Test.YtgfjkpfjajjidaaDoorParamsN
import Derived.BigQuiet
import Derived.Deep.RegionHeld3
import Derived.Deep.LoopGhost
import Derived.Deep.CutRange
import Derived.Deep.CutBlock
import Derived.Deep.DrawnRows
import Derived.Test.YtgfjkpfjajjidaaDoorWordsW
namespace Go.Proofs.YtgfjkpfjajjidaaDoor
open Go.RowKit Pl

theorem str_nil (s : List UInt8) : (mkB s).toList.isEmpty = decide (s = []) := by
  rw [Lib.toList_data, mkB_data]
  cases s <;> rfl
theorem pm_len (rest : Bool) (n : Nat) : ∀ k, (pmP rest n k).length = 4 * k
  | 0 => rfl
  | k + 1 => by rw [pm_succ, List.length_append, pm_len rest n k]; simp [pmS]; omega
theorem wrap_u8 (k : Nat) (h : k < 7) : IntKind.u8.wrap (48 + (k : Int)) = 48 + (k : Int) := by
  have hk : k = 0 ∨ k = 1 ∨ k = 2 ∨ k = 3 ∨ k = 4 ∨ k = 5 ∨ k = 6 := by omega
  rcases hk with rfl | rfl | rfl | rfl | rfl | rfl | rfl <;> rfl
theorem cell_new (w : World) (v : Value) : (w.alloc (.cells #[v] 5)).cell? ⟨w.heap.size, 0, none⟩ = some v := new_cell4 w #[v] 5 0

set_option maxRecDepth 100000 in
set_option maxHeartbeats 8000000 in
theorem params_walk0 (xs : List Seg) (A : Option Addr) (c : Nat) (rest : Bool) (nm : Nat) (w : World) (hr : Rd w w.heap.size 1 A xs.length (xs.map strV)) (hxc : xs.length ≤ c) (hz : ∀ s ∈ xs, s.length ≤ 140737488355328) (hw : HB w) (hn : xs.length = nm + 1) (h7 : xs.length ≤ 7) (hli : lightL xs = true) :
    Calls Tryd.prog 3 #[.slice A xs.length c, .bool rest] w fun e w' => e = .returned (.bool true) ∧ Below w.heap.size w w' := by
  have HW := Lib.hid hw
  have HR := Lib.hid hr
  have HF := Lib.hid (fit_any w hw)
  have HLT := Lib.hid (fun wx (h : Below w.heap.size w wx) => light_any xs A c wx ((hr.below h (Nat.le_refl _)).wide h.size) (by omega) (fun s hs => by have := hz s hs; omega))
  rw [hli] at HLT
  obtain ⟨hx12, hx1000⟩ := light_le hli
  have HSH := Lib.hid hx1000
  clear hr hw hz hli hx1000
  have g1 : ((xs.length : Int) == 0) = false := by rw [beq_eq_false_iff_ne]; omega
  have g2 : (xs.length : Int) ≤ 7 := by omega
  have hmm := @run_makeMap Tryd.prog
  have HNM := Lib.hid hn
  clear hn
  obtain ⟨i0, hi, hz0, hz1, hz2⟩ := info_parts Tryd.info9
  have HZ := Lib.hid (And.intro hz0 (And.intro hz1 hz2))
  clear hz0 hz1 hz2
  go_enter Tryd.func3, Tryd.ntmps3
  go_wp2_with fail
  refine HF.out.mono ?_
  rintro e w1 ⟨rfl, hb1⟩
  have HB1 := Lib.hid hb1
  clear hb1
  go_wp2_with fail
  refine (HLT.out w1 HB1.out).mono ?_
  rintro e w2 ⟨rfl, rfl⟩
  go_wp2_with fail
  go_loopg [5, 32] xs.length (fun gk v i wr => ∃ (k : Nat), k ≤ xs.length ∧ gk = xs.length - k ∧ i = .int .i64 k ∧ v = .string (mkB (pmP rest xs.length k)) ∧ Hid (∀ j (h : j < xs.length), j < k → xs[j] ≠ []) ∧ Hid (Below w1.heap.size w1 wr))
  case atStart => exact ⟨0, by omega, by omega, rfl, rfl, fun j h hj => absurd hj (by omega), Below.refl _ _⟩
  case round =>
    obtain ⟨k, hk, rfl, rfl, rfl, HJ, HB⟩ := hrel
    have HBW := Lib.hid (bt HB1.out HB.out)
    by_cases hlt : k < xs.length
    · obtain ⟨a, rfl, hab, k0⟩ := seg_in (HR.out.below HBW.out (Nat.le_refl _)) rfl k hlt
      obtain ⟨x, hx⟩ : ∃ x, xs[k] = x := ⟨_, rfl⟩
      have HJ2 : Hid (x ≠ [] → ∀ j (h : j < xs.length), j < k + 1 → xs[j] ≠ []) := fun hne j h hj => by
        by_cases e : j = k
        · subst e; rw [hx]; exact hne
        · exact HJ.out j h (by omega)
      rw [hx] at k0
      clear hx
      have hnl := str_nil x
      generalize mkB x = xb at *
      have HPS := Lib.hid (pm_succ rest xs.length k)
      go_upto_block 1 with fail
      go_cut [5] from 33 to 61 (fun v wx => v = .string (mkB (pmP rest xs.length (k + 1))) ∧ Hid (x ≠ []) ∧ Hid (Below wr.heap.size wr wx))
      case first =>
        by_cases hxe : x = []
        · rw [decide_eq_true hxe] at hnl
          clear hxe
          go_wp2_with fail
          go_ret
          exact ⟨rfl, HBW.out⟩
        · rw [decide_eq_false hxe] at hnl
          have HXE := Lib.hid hxe
          clear hxe
          have hk7 : k < 7 := by omega
          obtain ⟨b8, hb8⟩ : ∃ b8 : UInt8, b8 = UInt8.ofNat (48 + k) := ⟨_, rfl⟩
          have HB8 : Hid ((b8.toNat : Int) = 48 + (k : Int)) := by
            show _ = _
            rw [hb8, UInt8.toNat_ofNat']
            omega
          have hpt : (mkB (pmP rest xs.length k)).size ≤ 100 := by
            rw [mkB_size, pm_len]; omega
          have hnx : (48 : Int) + (k : Int) ≤ 55 := by omega
          have hw1 : IntKind.i64.wrap (48 + (k : Int)) = 48 + (k : Int) := by rw [IntKind.wrap_i64]; omega
          have hw2 : IntKind.u8.wrap (48 + (k : Int)) = 48 + (k : Int) := wrap_u8 k hk7
          obtain ⟨lb, hlb⟩ : ∃ lb, ((k : Int) == (nm : Int)) = lb := ⟨_, rfl⟩
          have hkl : (k + 1 = xs.length) ↔ lb = true := by
            rw [← hlb, beq_iff_eq]; have := HNM.out; omega
          have HSB : Hid (IntKind.i64.wrap ((xs.length : Int) - 1) = (nm : Int)) := sub64 xs.length nm HNM.out (by have := HNM.out; omega)
          obtain ⟨A0, hA0⟩ : ∃ A0 : ByteArray, A0 = (if rest = true ∧ lb = true then ⟨#[42]⟩ else ⟨#[58]⟩) := ⟨_, rfl⟩
          have hA0s : A0.size = 1 := by rw [hA0]; split <;> rfl
          have s1 := add_str ⟨#[47]⟩ A0 (by have : (⟨#[47]⟩ : ByteArray).size = 1 := rfl; omega)
          obtain ⟨A1, hA1⟩ : ∃ A1, (⟨#[47]⟩ : ByteArray) ++ A0 = A1 := ⟨_, rfl⟩
          have hA1s : A1.size = 2 := by rw [← hA1, ByteArray.size_append, hA0s]; rfl
          rw [hA1] at s1
          have s2 := add_str A1 ⟨#[110]⟩ (by have : (⟨#[110]⟩ : ByteArray).size = 1 := rfl; omega)
          obtain ⟨A2, hA2⟩ : ∃ A2, A1 ++ (⟨#[110]⟩ : ByteArray) = A2 := ⟨_, rfl⟩
          have hA2s : A2.size = 3 := by rw [← hA2, ByteArray.size_append, hA1s]; rfl
          rw [hA2] at s2
          have s3 := add_str A2 ⟨#[b8]⟩ (by have : (⟨#[b8]⟩ : ByteArray).size = 1 := rfl; omega)
          obtain ⟨A3, hA3⟩ : ∃ A3, A2 ++ (⟨#[b8]⟩ : ByteArray) = A3 := ⟨_, rfl⟩
          have hA3s : A3.size = 4 := by rw [← hA3, ByteArray.size_append, hA2s]; rfl
          rw [hA3] at s3
          have s4 := add_str (mkB (pmP rest xs.length k)) A3 (by omega)
          obtain ⟨A4, hA4⟩ : ∃ A4, mkB (pmP rest xs.length k) ++ A3 = A4 := ⟨_, rfl⟩
          have HA4 : Hid (A4 = mkB (pmP rest xs.length (k + 1))) := by
            apply bytes_ext
            rw [← hA4, ← hA3, ← hA2, ← hA1, app_data, app_data, app_data, app_data, mkB_data, mkB_data, HPS.out, hA0, hb8, pmS]
            congr 1
            by_cases hc : rest = true ∧ lb = true
            · rw [if_pos hc, if_pos ⟨hc.1, hkl.2 hc.2⟩]; rfl
            · rw [if_neg hc, if_neg (fun h => hc ⟨h.1, hkl.1 h.2⟩)]; rfl
          rw [hA4] at s4
          have HLB := Lib.hid hlb
          clear hA1 hA2 hA3 hA4 hA1s hA2s hA3s hA0s hb8 hpt hkl hk7 hnx
          generalize mkB (pmP rest xs.length k) = pt at *
          cases rest with
          | false =>
            have hA0' : A0 = ⟨#[58]⟩ := by rw [hA0]; simp
            subst hA0'
            clear hA0 hlb
            go_upto_region 11 with fail
            refine wp_region_held_drew (S := fun _ => True) (by kernel_rfl) trivial (fun hHeld => ?_)
            have hBD : Below wr.heap.size wr wr.drew := (Below.refl _ _).drew
            generalize wr.drew = wd at *
            refine giveH 0 39 (.string pt) rfl rfl (by kernel_rfl) (by kernel_rfl) (by kernel_rfl) (fun _ _ _ h => h) (by rfl) (by intro wx hSw; go_simp) (by assumption) ?_
            try simp only [Act.put, List.setIfInBounds_toArray, List.set_cons_zero, List.set_cons_succ]
            refine giveH 1 40 (.agg #[.string ⟨#[58]⟩, .string ⟨#[42]⟩]) rfl rfl (by kernel_rfl) (by kernel_rfl) (by kernel_rfl) (fun _ _ _ h => h) (by rfl) (by intro wx hSw; go_simp) (by assumption) ?_
            try simp only [Act.put, List.setIfInBounds_toArray, List.set_cons_zero, List.set_cons_succ]
            refine giveH 5 43 (.bool false) rfl rfl (by kernel_rfl) (by kernel_rfl) (by kernel_rfl) (fun _ _ _ h => h) (by rfl) (by intro wx hSw; go_simp) (by assumption) ?_
            try simp only [Act.put, List.setIfInBounds_toArray, List.set_cons_zero, List.set_cons_succ]
            refine giveH 6 44 (.bool false) rfl rfl (by kernel_rfl) (by kernel_rfl) (by kernel_rfl) (fun _ _ _ h => h) (by rfl) (by intro wx hSw; go_simp) (by assumption) ?_
            try simp only [Act.put, List.setIfInBounds_toArray, List.set_cons_zero, List.set_cons_succ]
            refine skipH 7 45 rfl rfl (by kernel_rfl) (by kernel_rfl) (by kernel_rfl) (fun _ _ _ h => h) (by rfl) (by assumption) ?_
            try simp only [Act.put, List.setIfInBounds_toArray, List.set_cons_zero, List.set_cons_succ]
            refine skipH 8 46 rfl rfl (by kernel_rfl) (by kernel_rfl) (by kernel_rfl) (fun _ _ _ h => h) (by rfl) (by assumption) ?_
            try simp only [Act.put, List.setIfInBounds_toArray, List.set_cons_zero, List.set_cons_succ]
            refine skipH 9 47 rfl rfl (by kernel_rfl) (by kernel_rfl) (by kernel_rfl) (fun _ _ _ h => h) (by rfl) (by assumption) ?_
            try simp only [Act.put, List.setIfInBounds_toArray, List.set_cons_zero, List.set_cons_succ]
            refine skipH 10 48 rfl rfl (by kernel_rfl) (by kernel_rfl) (by kernel_rfl) (fun _ _ _ h => h) (by rfl) (by assumption) ?_
            try simp only [Act.put, List.setIfInBounds_toArray, List.set_cons_zero, List.set_cons_succ]
            refine skipH 11 49 rfl rfl (by kernel_rfl) (by kernel_rfl) (by kernel_rfl) (fun _ _ _ h => h) (by rfl) (by assumption) ?_
            try simp only [Act.put, List.setIfInBounds_toArray, List.set_cons_zero, List.set_cons_succ]
            refine giveH 12 50 (.bool false) rfl rfl (by kernel_rfl) (by kernel_rfl) (by kernel_rfl) (fun _ _ _ h => h) (by rfl) (by intro wx hSw; go_simp) (by assumption) ?_
            try simp only [Act.put, List.setIfInBounds_toArray, List.set_cons_zero, List.set_cons_succ]
            refine giveH 17 55 (.int .i64 k) rfl rfl (by kernel_rfl) (by kernel_rfl) (by kernel_rfl) (fun _ _ _ h => h) (by rfl) (by intro wx hSw; go_simp) (by assumption) ?_
            try simp only [Act.put, List.setIfInBounds_toArray, List.set_cons_zero, List.set_cons_succ]
            refine giveH 18 56 (.int .i64 (48 + (k : Int))) rfl rfl (by kernel_rfl) (by kernel_rfl) (by kernel_rfl) (fun _ _ _ h => h) (by rfl) (by intro wx hSw; go_simp) (by assumption) ?_
            try simp only [Act.put, List.setIfInBounds_toArray, List.set_cons_zero, List.set_cons_succ]
            refine giveH 19 57 (.int .u8 (48 + (k : Int))) rfl rfl (by kernel_rfl) (by kernel_rfl) (by kernel_rfl) (fun _ _ _ h => h) (by rfl) (by intro wx hSw; go_simp) (by assumption) ?_
            try simp only [Act.put, List.setIfInBounds_toArray, List.set_cons_zero, List.set_cons_succ]
            refine wpAnyH_ready (rs := [2, 20]) (by kernel_rfl) (by simp) ?_
            refine AllReadyH.cons rfl (fun K hK => ?_) (AllReadyH.cons rfl (fun K hK => ?_) AllReadyH.nil)
            · go_simp
              refine hK.out _ _ trivial (fun hHeld => ?_)
              clear hK K
              try simp only [Act.put, List.setIfInBounds_toArray, List.set_cons_zero, List.set_cons_succ]
              have hm1 := (MapKept.heap_alloc wd (.map #[] 0)).1
              have hbm : Below wr.heap.size wr (wd.alloc (.map #[] 0)) := hBD.alloc hBD.size _
              have hrg : wr.heap.size ≤ wd.heap.size := hBD.size
              have hrs : wd.heap.size < (wd.alloc (.map #[] 0)).heap.size := by simp
              generalize wd.alloc (.map #[] 0) = wm at *
              generalize wd.heap.size = r at *
              refine wpAnyH_ready (rs := [3, 20]) (by kernel_rfl) (by simp) ?_
              refine AllReadyH.cons rfl (fun K hK => ?_) (AllReadyH.cons rfl (fun K hK => ?_) AllReadyH.nil)
              · obtain ⟨W5, hins, hmap5, hsz5, hbl5, hoth5⟩ := sm_ins wm r hm1
                have hb5 : Below wr.heap.size wr W5 := hbm.trans (hbl5 _ hrg)
                have hr5 : r < W5.heap.size := by rw [hsz5]; exact hrs
                clear hbl5 hoth5 hsz5
                go_simp
                refine hK.out _ _ trivial (fun hHeld => ?_)
                clear hK K
                try simp only [Act.put, List.setIfInBounds_toArray, List.set_cons_zero, List.set_cons_succ]
                refine held_mono (S' := fun W => W.heap[r]? = some (.map pmE 1)) (fun _ _ => trivial) _ _ _ _ ?_
                have hHeld2 : W5.heap[r]? = some (.map pmE 1) := hmap5
                refine giveH 4 42 (.map (some r)) rfl rfl (by kernel_rfl) (by kernel_rfl) (by kernel_rfl) (fun _ _ _ h => h) (by rfl) (by intro wx hSw; go_simp) (by assumption) ?_
                try simp only [Act.put, List.setIfInBounds_toArray, List.set_cons_zero, List.set_cons_succ]
                refine giveH 13 51 (.int .i64 0) rfl rfl (by kernel_rfl) (by kernel_rfl) (by kernel_rfl) (fun _ _ _ h => h) (by rfl) (by intro wx hSw; have hl := sm_look wx r false hSw; go_simp) (by assumption) ?_
                try simp only [Act.put, List.setIfInBounds_toArray, List.set_cons_zero, List.set_cons_succ]
                refine giveH 14 52 (.string ⟨#[58]⟩) rfl rfl (by kernel_rfl) (by kernel_rfl) (by kernel_rfl) (fun _ _ _ h => h) (by rfl) (by intro wx hSw; have hx := idx0 wx; go_simp) (by assumption) ?_
                try simp only [Act.put, List.setIfInBounds_toArray, List.set_cons_zero, List.set_cons_succ]
                refine giveH 15 53 (.string A1) rfl rfl (by kernel_rfl) (by kernel_rfl) (by kernel_rfl) (fun _ _ _ h => h) (by rfl) (by intro wx hSw; go_simp) (by assumption) ?_
                try simp only [Act.put, List.setIfInBounds_toArray, List.set_cons_zero, List.set_cons_succ]
                refine giveH 16 54 (.string A2) rfl rfl (by kernel_rfl) (by kernel_rfl) (by kernel_rfl) (fun _ _ _ h => h) (by rfl) (by intro wx hSw; go_simp) (by assumption) ?_
                try simp only [Act.put, List.setIfInBounds_toArray, List.set_cons_zero, List.set_cons_succ]
                refine wpAnyH_ready (rs := [20]) (by kernel_rfl) (by simp) ?_
                refine AllReadyH.cons rfl (fun K hK => ?_) AllReadyH.nil
                go_simp
                have hm6 : (W5.alloc (.cells #[.int .u8 (48 + (k : Int))] 5)).heap[r]? = some (.map pmE 1) := (((Below.refl W5.heap.size W5).alloc (Nat.le_refl _) (.cells #[.int .u8 (48 + (k : Int))] 5)).block r hr5).trans hmap5
                refine hK.out _ _ hm6 (fun hHeld => ?_)
                clear hK K
                try simp only [Act.put, List.setIfInBounds_toArray, List.set_cons_zero, List.set_cons_succ]
                have hc6 : (W5.alloc (.cells #[.int .u8 (48 + (k : Int))] 5)).cell? ⟨W5.heap.size, 0, none⟩ = some (.int .u8 (48 + (k : Int))) := cell_new W5 _
                have hb6 : Below wr.heap.size wr (W5.alloc (.cells #[.int .u8 (48 + (k : Int))] 5)) := hb5.alloc hb5.size _
                refine held_mono (S' := fun W => W.cell? ⟨W5.heap.size, 0, none⟩ = some (.int .u8 (48 + (k : Int))) ∧ W.heap[r]? = some (.map pmE 1)) (fun _ h => h.2) _ _ _ _ ?_
                have hHeld3 := And.intro hc6 hm6
                refine giveH 21 59 (.string ⟨#[b8]⟩) rfl rfl (by kernel_rfl) (by kernel_rfl) (by kernel_rfl) (fun _ _ _ h => h) (by rfl) (by intro wx hSw; have hcv := sm_conv wx W5.heap.size b8 (by rw [HB8.out]; exact hSw.1); go_simp) (by assumption) ?_
                try simp only [Act.put, List.setIfInBounds_toArray, List.set_cons_zero, List.set_cons_succ]
                refine giveH 22 60 (.string A3) rfl rfl (by kernel_rfl) (by kernel_rfl) (by kernel_rfl) (fun _ _ _ h => h) (by rfl) (by intro wx hSw; go_simp) (by assumption) ?_
                try simp only [Act.put, List.setIfInBounds_toArray, List.set_cons_zero, List.set_cons_succ]
                refine giveH 23 61 (.string A4) rfl rfl (by kernel_rfl) (by kernel_rfl) (by kernel_rfl) (fun _ _ _ h => h) (by rfl) (by intro wx hSw; go_simp) (by assumption) ?_
                try simp only [Act.put, List.setIfInBounds_toArray, List.set_cons_zero, List.set_cons_succ]
                refine giveH 24 5 (.string A4) rfl rfl (by kernel_rfl) (by kernel_rfl) (by kernel_rfl) (fun _ _ _ h => h) (by rfl) (by intro wx hSw; go_simp) (by assumption) ?_
                try simp only [Act.put, List.setIfInBounds_toArray, List.set_cons_zero, List.set_cons_succ]
                refine wpAnyH_done (by kernel_rfl) ?_ _
                go_wp2_with fail
                go_meet
                exact ⟨by rw [HA4.out], HXE.out, hb6⟩
              · go_simp
                refine hK.out _ _ trivial (fun hHeld => ?_)
                clear hK K
                try simp only [Act.put, List.setIfInBounds_toArray, List.set_cons_zero, List.set_cons_succ]
                have hc6 : (wm.alloc (.cells #[.int .u8 (48 + (k : Int))] 5)).cell? ⟨wm.heap.size, 0, none⟩ = some (.int .u8 (48 + (k : Int))) := cell_new wm _
                have hm6 : (wm.alloc (.cells #[.int .u8 (48 + (k : Int))] 5)).heap[r]? = some (.map #[] 0) := (((Below.refl wm.heap.size wm).alloc (Nat.le_refl _) (.cells #[.int .u8 (48 + (k : Int))] 5)).block r hrs).trans hm1
                have hb6 : Below wr.heap.size wr (wm.alloc (.cells #[.int .u8 (48 + (k : Int))] 5)) := hbm.alloc hbm.size _
                generalize wm.alloc (.cells #[.int .u8 (48 + (k : Int))] 5) = wn at *
                have hgr : wm.heap.size ≠ r := Nat.ne_of_gt hrs
                generalize wm.heap.size = g at *
                refine held_mono (S' := fun W => W.cell? ⟨g, 0, none⟩ = some (.int .u8 (48 + (k : Int)))) (fun _ _ => trivial) _ _ _ _ ?_
                refine giveH 21 59 (.string ⟨#[b8]⟩) rfl rfl (by kernel_rfl) (by kernel_rfl) (by kernel_rfl) (fun _ _ _ h => h) (by rfl) (by intro wx hSw; have hcv := sm_conv wx g b8 (by rw [HB8.out]; exact hSw); go_simp) (by assumption) ?_
                try simp only [Act.put, List.setIfInBounds_toArray, List.set_cons_zero, List.set_cons_succ]
                refine wpAnyH_ready (rs := [3]) (by kernel_rfl) (by simp) ?_
                refine AllReadyH.cons rfl (fun K hK => ?_) AllReadyH.nil
                obtain ⟨W5, hins, hmap5, hsz5, hbl5, hoth5⟩ := sm_ins wn r hm6
                have hb5 : Below wr.heap.size wr W5 := hb6.trans (hbl5 _ hrg)
                have hc5 : W5.cell? ⟨g, 0, none⟩ = some (.int .u8 (48 + (k : Int))) := (World.cell?_of_block (a := ⟨g, 0, none⟩) (hoth5 g hgr)).trans hc6
                clear hbl5 hoth5 hsz5
                go_simp
                refine hK.out _ _ hc5 (fun hHeld => ?_)
                clear hK K
                try simp only [Act.put, List.setIfInBounds_toArray, List.set_cons_zero, List.set_cons_succ]
                refine held_mono (S' := fun W => W.cell? ⟨g, 0, none⟩ = some (.int .u8 (48 + (k : Int))) ∧ W.heap[r]? = some (.map pmE 1)) (fun _ h => h.1) _ _ _ _ ?_
                have hHeld3 := And.intro hc5 hmap5
                refine giveH 4 42 (.map (some r)) rfl rfl (by kernel_rfl) (by kernel_rfl) (by kernel_rfl) (fun _ _ _ h => h) (by rfl) (by intro wx hSw; go_simp) (by assumption) ?_
                try simp only [Act.put, List.setIfInBounds_toArray, List.set_cons_zero, List.set_cons_succ]
                refine giveH 13 51 (.int .i64 0) rfl rfl (by kernel_rfl) (by kernel_rfl) (by kernel_rfl) (fun _ _ _ h => h) (by rfl) (by intro wx hSw; have hl := sm_look wx r false hSw.2; go_simp) (by assumption) ?_
                try simp only [Act.put, List.setIfInBounds_toArray, List.set_cons_zero, List.set_cons_succ]
                refine giveH 14 52 (.string ⟨#[58]⟩) rfl rfl (by kernel_rfl) (by kernel_rfl) (by kernel_rfl) (fun _ _ _ h => h) (by rfl) (by intro wx hSw; have hx := idx0 wx; go_simp) (by assumption) ?_
                try simp only [Act.put, List.setIfInBounds_toArray, List.set_cons_zero, List.set_cons_succ]
                refine giveH 15 53 (.string A1) rfl rfl (by kernel_rfl) (by kernel_rfl) (by kernel_rfl) (fun _ _ _ h => h) (by rfl) (by intro wx hSw; go_simp) (by assumption) ?_
                try simp only [Act.put, List.setIfInBounds_toArray, List.set_cons_zero, List.set_cons_succ]
                refine giveH 16 54 (.string A2) rfl rfl (by kernel_rfl) (by kernel_rfl) (by kernel_rfl) (fun _ _ _ h => h) (by rfl) (by intro wx hSw; go_simp) (by assumption) ?_
                try simp only [Act.put, List.setIfInBounds_toArray, List.set_cons_zero, List.set_cons_succ]
                refine giveH 22 60 (.string A3) rfl rfl (by kernel_rfl) (by kernel_rfl) (by kernel_rfl) (fun _ _ _ h => h) (by rfl) (by intro wx hSw; go_simp) (by assumption) ?_
                try simp only [Act.put, List.setIfInBounds_toArray, List.set_cons_zero, List.set_cons_succ]
                refine giveH 23 61 (.string A4) rfl rfl (by kernel_rfl) (by kernel_rfl) (by kernel_rfl) (fun _ _ _ h => h) (by rfl) (by intro wx hSw; go_simp) (by assumption) ?_
                try simp only [Act.put, List.setIfInBounds_toArray, List.set_cons_zero, List.set_cons_succ]
                refine giveH 24 5 (.string A4) rfl rfl (by kernel_rfl) (by kernel_rfl) (by kernel_rfl) (fun _ _ _ h => h) (by rfl) (by intro wx hSw; go_simp) (by assumption) ?_
                try simp only [Act.put, List.setIfInBounds_toArray, List.set_cons_zero, List.set_cons_succ]
                refine wpAnyH_done (by kernel_rfl) ?_ _
                go_wp2_with fail
                go_meet
                exact ⟨by rw [HA4.out], HXE.out, hb5⟩
            · go_simp
              refine hK.out _ _ trivial (fun hHeld => ?_)
              clear hK K
              try simp only [Act.put, List.setIfInBounds_toArray, List.set_cons_zero, List.set_cons_succ]
              have hc1 : (wd.alloc (.cells #[.int .u8 (48 + (k : Int))] 5)).cell? ⟨wd.heap.size, 0, none⟩ = some (.int .u8 (48 + (k : Int))) := cell_new wd _
              have hb1c : Below wr.heap.size wr (wd.alloc (.cells #[.int .u8 (48 + (k : Int))] 5)) := hBD.alloc hBD.size _
              have hgs : wd.heap.size < (wd.alloc (.cells #[.int .u8 (48 + (k : Int))] 5)).heap.size := by simp
              generalize wd.alloc (.cells #[.int .u8 (48 + (k : Int))] 5) = wm at *
              generalize wd.heap.size = g at *
              refine held_mono (S' := fun W => W.cell? ⟨g, 0, none⟩ = some (.int .u8 (48 + (k : Int)))) (fun _ _ => trivial) _ _ _ _ ?_
              refine giveH 21 59 (.string ⟨#[b8]⟩) rfl rfl (by kernel_rfl) (by kernel_rfl) (by kernel_rfl) (fun _ _ _ h => h) (by rfl) (by intro wx hSw; have hcv := sm_conv wx g b8 (by rw [HB8.out]; exact hSw); go_simp) (by assumption) ?_
              try simp only [Act.put, List.setIfInBounds_toArray, List.set_cons_zero, List.set_cons_succ]
              refine wpAnyH_ready (rs := [2]) (by kernel_rfl) (by simp) ?_
              refine AllReadyH.cons rfl (fun K hK => ?_) AllReadyH.nil
              go_simp
              have hc6 : (wm.alloc (.map #[] 0)).cell? ⟨g, 0, none⟩ = some (.int .u8 (48 + (k : Int))) := (((Below.refl wm.heap.size wm).alloc (Nat.le_refl _) (.map #[] 0)).cell (p := ⟨g, 0, none⟩) hgs).trans hc1
              refine hK.out _ _ hc6 (fun hHeld => ?_)
              clear hK K
              try simp only [Act.put, List.setIfInBounds_toArray, List.set_cons_zero, List.set_cons_succ]
              have hm6 := (MapKept.heap_alloc wm (.map #[] 0)).1
              have hb6 : Below wr.heap.size wr (wm.alloc (.map #[] 0)) := hb1c.alloc hb1c.size _
              have hrg : wr.heap.size ≤ wm.heap.size := hb1c.size
              generalize wm.alloc (.map #[] 0) = wn at *
              have hgr : g ≠ wm.heap.size := Nat.ne_of_lt hgs
              generalize wm.heap.size = r at *
              refine wpAnyH_ready (rs := [3]) (by kernel_rfl) (by simp) ?_
              refine AllReadyH.cons rfl (fun K hK => ?_) AllReadyH.nil
              obtain ⟨W5, hins, hmap5, hsz5, hbl5, hoth5⟩ := sm_ins wn r hm6
              have hb5 : Below wr.heap.size wr W5 := hb6.trans (hbl5 _ hrg)
              have hc5 : W5.cell? ⟨g, 0, none⟩ = some (.int .u8 (48 + (k : Int))) := (World.cell?_of_block (a := ⟨g, 0, none⟩) (hoth5 g hgr)).trans hc6
              clear hbl5 hoth5 hsz5
              go_simp
              refine hK.out _ _ hc5 (fun hHeld => ?_)
              clear hK K
              try simp only [Act.put, List.setIfInBounds_toArray, List.set_cons_zero, List.set_cons_succ]
              refine held_mono (S' := fun W => W.cell? ⟨g, 0, none⟩ = some (.int .u8 (48 + (k : Int))) ∧ W.heap[r]? = some (.map pmE 1)) (fun _ h => h.1) _ _ _ _ ?_
              have hHeld3 := And.intro hc5 hmap5
              refine giveH 4 42 (.map (some r)) rfl rfl (by kernel_rfl) (by kernel_rfl) (by kernel_rfl) (fun _ _ _ h => h) (by rfl) (by intro wx hSw; go_simp) (by assumption) ?_
              try simp only [Act.put, List.setIfInBounds_toArray, List.set_cons_zero, List.set_cons_succ]
              refine giveH 13 51 (.int .i64 0) rfl rfl (by kernel_rfl) (by kernel_rfl) (by kernel_rfl) (fun _ _ _ h => h) (by rfl) (by intro wx hSw; have hl := sm_look wx r false hSw.2; go_simp) (by assumption) ?_
              try simp only [Act.put, List.setIfInBounds_toArray, List.set_cons_zero, List.set_cons_succ]
              refine giveH 14 52 (.string ⟨#[58]⟩) rfl rfl (by kernel_rfl) (by kernel_rfl) (by kernel_rfl) (fun _ _ _ h => h) (by rfl) (by intro wx hSw; have hx := idx0 wx; go_simp) (by assumption) ?_
              try simp only [Act.put, List.setIfInBounds_toArray, List.set_cons_zero, List.set_cons_succ]
              refine giveH 15 53 (.string A1) rfl rfl (by kernel_rfl) (by kernel_rfl) (by kernel_rfl) (fun _ _ _ h => h) (by rfl) (by intro wx hSw; go_simp) (by assumption) ?_
              try simp only [Act.put, List.setIfInBounds_toArray, List.set_cons_zero, List.set_cons_succ]
              refine giveH 16 54 (.string A2) rfl rfl (by kernel_rfl) (by kernel_rfl) (by kernel_rfl) (fun _ _ _ h => h) (by rfl) (by intro wx hSw; go_simp) (by assumption) ?_
              try simp only [Act.put, List.setIfInBounds_toArray, List.set_cons_zero, List.set_cons_succ]
              refine giveH 22 60 (.string A3) rfl rfl (by kernel_rfl) (by kernel_rfl) (by kernel_rfl) (fun _ _ _ h => h) (by rfl) (by intro wx hSw; go_simp) (by assumption) ?_
              try simp only [Act.put, List.setIfInBounds_toArray, List.set_cons_zero, List.set_cons_succ]
              refine giveH 23 61 (.string A4) rfl rfl (by kernel_rfl) (by kernel_rfl) (by kernel_rfl) (fun _ _ _ h => h) (by rfl) (by intro wx hSw; go_simp) (by assumption) ?_
              try simp only [Act.put, List.setIfInBounds_toArray, List.set_cons_zero, List.set_cons_succ]
              refine giveH 24 5 (.string A4) rfl rfl (by kernel_rfl) (by kernel_rfl) (by kernel_rfl) (fun _ _ _ h => h) (by rfl) (by intro wx hSw; go_simp) (by assumption) ?_
              try simp only [Act.put, List.setIfInBounds_toArray, List.set_cons_zero, List.set_cons_succ]
              refine wpAnyH_done (by kernel_rfl) ?_ _
              go_wp2_with fail
              go_meet
              exact ⟨by rw [HA4.out], HXE.out, hb5⟩
          | true =>
            cases lb with
            | false =>
              have hA0' : A0 = ⟨#[58]⟩ := by rw [hA0]; simp
              subst hA0'
              clear hA0
              go_upto_region 11 with fail
              refine wp_region_held_drew (S := fun _ => True) (by kernel_rfl) trivial (fun hHeld => ?_)
              have hBD : Below wr.heap.size wr wr.drew := (Below.refl _ _).drew
              generalize wr.drew = wd at *
              refine giveH 0 39 (.string pt) rfl rfl (by kernel_rfl) (by kernel_rfl) (by kernel_rfl) (fun _ _ _ h => h) (by rfl) (by intro wx hSw; go_simp) (by assumption) ?_
              try simp only [Act.put, List.setIfInBounds_toArray, List.set_cons_zero, List.set_cons_succ]
              refine giveH 1 40 (.agg #[.string ⟨#[58]⟩, .string ⟨#[42]⟩]) rfl rfl (by kernel_rfl) (by kernel_rfl) (by kernel_rfl) (fun _ _ _ h => h) (by rfl) (by intro wx hSw; go_simp) (by assumption) ?_
              try simp only [Act.put, List.setIfInBounds_toArray, List.set_cons_zero, List.set_cons_succ]
              refine giveH 5 43 (.bool true) rfl rfl (by kernel_rfl) (by kernel_rfl) (by kernel_rfl) (fun _ _ _ h => h) (by rfl) (by intro wx hSw; go_simp) (by assumption) ?_
              try simp only [Act.put, List.setIfInBounds_toArray, List.set_cons_zero, List.set_cons_succ]
              refine giveH 6 44 (.bool true) rfl rfl (by kernel_rfl) (by kernel_rfl) (by kernel_rfl) (fun _ _ _ h => h) (by rfl) (by intro wx hSw; go_simp) (by assumption) ?_
              try simp only [Act.put, List.setIfInBounds_toArray, List.set_cons_zero, List.set_cons_succ]
              refine giveH 7 45 (.int .i64 k) rfl rfl (by kernel_rfl) (by kernel_rfl) (by kernel_rfl) (fun _ _ _ h => h) (by rfl) (by intro wx hSw; go_simp) (by assumption) ?_
              try simp only [Act.put, List.setIfInBounds_toArray, List.set_cons_zero, List.set_cons_succ]
              refine giveH 8 46 (.slice (some a) xs.length c) rfl rfl (by kernel_rfl) (by kernel_rfl) (by kernel_rfl) (fun _ _ _ h => h) (by rfl) (by intro wx hSw; go_simp) (by assumption) ?_
              try simp only [Act.put, List.setIfInBounds_toArray, List.set_cons_zero, List.set_cons_succ]
              refine giveH 9 47 (.int .i64 xs.length) rfl rfl (by kernel_rfl) (by kernel_rfl) (by kernel_rfl) (fun _ _ _ h => h) (by rfl) (by intro wx hSw; go_simp) (by assumption) ?_
              try simp only [Act.put, List.setIfInBounds_toArray, List.set_cons_zero, List.set_cons_succ]
              refine giveH 10 48 (.int .i64 nm) rfl rfl (by kernel_rfl) (by kernel_rfl) (by kernel_rfl) (fun _ _ _ h => h) (by rfl) (by intro wx hSw; go_simp; exact HSB.out) (by assumption) ?_
              try simp only [Act.put, List.setIfInBounds_toArray, List.set_cons_zero, List.set_cons_succ]
              refine giveH 11 49 (.bool false) rfl rfl (by kernel_rfl) (by kernel_rfl) (by kernel_rfl) (fun _ _ _ h => h) (by rfl) (by intro wx hSw; go_simp) (by assumption) ?_
              try simp only [Act.put, List.setIfInBounds_toArray, List.set_cons_zero, List.set_cons_succ]
              refine giveH 12 50 (.bool false) rfl rfl (by kernel_rfl) (by kernel_rfl) (by kernel_rfl) (fun _ _ _ h => h) (by rfl) (by intro wx hSw; go_simp) (by assumption) ?_
              try simp only [Act.put, List.setIfInBounds_toArray, List.set_cons_zero, List.set_cons_succ]
              refine giveH 17 55 (.int .i64 k) rfl rfl (by kernel_rfl) (by kernel_rfl) (by kernel_rfl) (fun _ _ _ h => h) (by rfl) (by intro wx hSw; go_simp) (by assumption) ?_
              try simp only [Act.put, List.setIfInBounds_toArray, List.set_cons_zero, List.set_cons_succ]
              refine giveH 18 56 (.int .i64 (48 + (k : Int))) rfl rfl (by kernel_rfl) (by kernel_rfl) (by kernel_rfl) (fun _ _ _ h => h) (by rfl) (by intro wx hSw; go_simp) (by assumption) ?_
              try simp only [Act.put, List.setIfInBounds_toArray, List.set_cons_zero, List.set_cons_succ]
              refine giveH 19 57 (.int .u8 (48 + (k : Int))) rfl rfl (by kernel_rfl) (by kernel_rfl) (by kernel_rfl) (fun _ _ _ h => h) (by rfl) (by intro wx hSw; go_simp) (by assumption) ?_
              try simp only [Act.put, List.setIfInBounds_toArray, List.set_cons_zero, List.set_cons_succ]
              refine wpAnyH_ready (rs := [2, 20]) (by kernel_rfl) (by simp) ?_
              refine AllReadyH.cons rfl (fun K hK => ?_) (AllReadyH.cons rfl (fun K hK => ?_) AllReadyH.nil)
              · go_simp
                refine hK.out _ _ trivial (fun hHeld => ?_)
                clear hK K
                try simp only [Act.put, List.setIfInBounds_toArray, List.set_cons_zero, List.set_cons_succ]
                have hm1 := (MapKept.heap_alloc wd (.map #[] 0)).1
                have hbm : Below wr.heap.size wr (wd.alloc (.map #[] 0)) := hBD.alloc hBD.size _
                have hrg : wr.heap.size ≤ wd.heap.size := hBD.size
                have hrs : wd.heap.size < (wd.alloc (.map #[] 0)).heap.size := by simp
                generalize wd.alloc (.map #[] 0) = wm at *
                generalize wd.heap.size = r at *
                refine wpAnyH_ready (rs := [3, 20]) (by kernel_rfl) (by simp) ?_
                refine AllReadyH.cons rfl (fun K hK => ?_) (AllReadyH.cons rfl (fun K hK => ?_) AllReadyH.nil)
                · obtain ⟨W5, hins, hmap5, hsz5, hbl5, hoth5⟩ := sm_ins wm r hm1
                  have hb5 : Below wr.heap.size wr W5 := hbm.trans (hbl5 _ hrg)
                  have hr5 : r < W5.heap.size := by rw [hsz5]; exact hrs
                  clear hbl5 hoth5 hsz5
                  go_simp
                  refine hK.out _ _ trivial (fun hHeld => ?_)
                  clear hK K
                  try simp only [Act.put, List.setIfInBounds_toArray, List.set_cons_zero, List.set_cons_succ]
                  refine held_mono (S' := fun W => W.heap[r]? = some (.map pmE 1)) (fun _ _ => trivial) _ _ _ _ ?_
                  have hHeld2 : W5.heap[r]? = some (.map pmE 1) := hmap5
                  refine giveH 4 42 (.map (some r)) rfl rfl (by kernel_rfl) (by kernel_rfl) (by kernel_rfl) (fun _ _ _ h => h) (by rfl) (by intro wx hSw; go_simp) (by assumption) ?_
                  try simp only [Act.put, List.setIfInBounds_toArray, List.set_cons_zero, List.set_cons_succ]
                  refine giveH 13 51 (.int .i64 0) rfl rfl (by kernel_rfl) (by kernel_rfl) (by kernel_rfl) (fun _ _ _ h => h) (by rfl) (by intro wx hSw; have hl := sm_look wx r false hSw; go_simp) (by assumption) ?_
                  try simp only [Act.put, List.setIfInBounds_toArray, List.set_cons_zero, List.set_cons_succ]
                  refine giveH 14 52 (.string ⟨#[58]⟩) rfl rfl (by kernel_rfl) (by kernel_rfl) (by kernel_rfl) (fun _ _ _ h => h) (by rfl) (by intro wx hSw; have hx := idx0 wx; go_simp) (by assumption) ?_
                  try simp only [Act.put, List.setIfInBounds_toArray, List.set_cons_zero, List.set_cons_succ]
                  refine giveH 15 53 (.string A1) rfl rfl (by kernel_rfl) (by kernel_rfl) (by kernel_rfl) (fun _ _ _ h => h) (by rfl) (by intro wx hSw; go_simp) (by assumption) ?_
                  try simp only [Act.put, List.setIfInBounds_toArray, List.set_cons_zero, List.set_cons_succ]
                  refine giveH 16 54 (.string A2) rfl rfl (by kernel_rfl) (by kernel_rfl) (by kernel_rfl) (fun _ _ _ h => h) (by rfl) (by intro wx hSw; go_simp) (by assumption) ?_
                  try simp only [Act.put, List.setIfInBounds_toArray, List.set_cons_zero, List.set_cons_succ]
                  refine wpAnyH_ready (rs := [20]) (by kernel_rfl) (by simp) ?_
                  refine AllReadyH.cons rfl (fun K hK => ?_) AllReadyH.nil
                  go_simp
                  have hm6 : (W5.alloc (.cells #[.int .u8 (48 + (k : Int))] 5)).heap[r]? = some (.map pmE 1) := (((Below.refl W5.heap.size W5).alloc (Nat.le_refl _) (.cells #[.int .u8 (48 + (k : Int))] 5)).block r hr5).trans hmap5
                  refine hK.out _ _ hm6 (fun hHeld => ?_)
                  clear hK K
                  try simp only [Act.put, List.setIfInBounds_toArray, List.set_cons_zero, List.set_cons_succ]
                  have hc6 : (W5.alloc (.cells #[.int .u8 (48 + (k : Int))] 5)).cell? ⟨W5.heap.size, 0, none⟩ = some (.int .u8 (48 + (k : Int))) := cell_new W5 _
                  have hb6 : Below wr.heap.size wr (W5.alloc (.cells #[.int .u8 (48 + (k : Int))] 5)) := hb5.alloc hb5.size _
                  refine held_mono (S' := fun W => W.cell? ⟨W5.heap.size, 0, none⟩ = some (.int .u8 (48 + (k : Int))) ∧ W.heap[r]? = some (.map pmE 1)) (fun _ h => h.2) _ _ _ _ ?_
                  have hHeld3 := And.intro hc6 hm6
                  refine giveH 21 59 (.string ⟨#[b8]⟩) rfl rfl (by kernel_rfl) (by kernel_rfl) (by kernel_rfl) (fun _ _ _ h => h) (by rfl) (by intro wx hSw; have hcv := sm_conv wx W5.heap.size b8 (by rw [HB8.out]; exact hSw.1); go_simp) (by assumption) ?_
                  try simp only [Act.put, List.setIfInBounds_toArray, List.set_cons_zero, List.set_cons_succ]
                  refine giveH 22 60 (.string A3) rfl rfl (by kernel_rfl) (by kernel_rfl) (by kernel_rfl) (fun _ _ _ h => h) (by rfl) (by intro wx hSw; go_simp) (by assumption) ?_
                  try simp only [Act.put, List.setIfInBounds_toArray, List.set_cons_zero, List.set_cons_succ]
                  refine giveH 23 61 (.string A4) rfl rfl (by kernel_rfl) (by kernel_rfl) (by kernel_rfl) (fun _ _ _ h => h) (by rfl) (by intro wx hSw; go_simp) (by assumption) ?_
                  try simp only [Act.put, List.setIfInBounds_toArray, List.set_cons_zero, List.set_cons_succ]
                  refine giveH 24 5 (.string A4) rfl rfl (by kernel_rfl) (by kernel_rfl) (by kernel_rfl) (fun _ _ _ h => h) (by rfl) (by intro wx hSw; go_simp) (by assumption) ?_
                  try simp only [Act.put, List.setIfInBounds_toArray, List.set_cons_zero, List.set_cons_succ]
                  refine wpAnyH_done (by kernel_rfl) ?_ _
                  go_wp2_with fail
                  go_meet
                  exact ⟨by rw [HA4.out], HXE.out, hb6⟩
                · go_simp
                  refine hK.out _ _ trivial (fun hHeld => ?_)
                  clear hK K
                  try simp only [Act.put, List.setIfInBounds_toArray, List.set_cons_zero, List.set_cons_succ]
                  have hc6 : (wm.alloc (.cells #[.int .u8 (48 + (k : Int))] 5)).cell? ⟨wm.heap.size, 0, none⟩ = some (.int .u8 (48 + (k : Int))) := cell_new wm _
                  have hm6 : (wm.alloc (.cells #[.int .u8 (48 + (k : Int))] 5)).heap[r]? = some (.map #[] 0) := (((Below.refl wm.heap.size wm).alloc (Nat.le_refl _) (.cells #[.int .u8 (48 + (k : Int))] 5)).block r hrs).trans hm1
                  have hb6 : Below wr.heap.size wr (wm.alloc (.cells #[.int .u8 (48 + (k : Int))] 5)) := hbm.alloc hbm.size _
                  generalize wm.alloc (.cells #[.int .u8 (48 + (k : Int))] 5) = wn at *
                  have hgr : wm.heap.size ≠ r := Nat.ne_of_gt hrs
                  generalize wm.heap.size = g at *
                  refine held_mono (S' := fun W => W.cell? ⟨g, 0, none⟩ = some (.int .u8 (48 + (k : Int)))) (fun _ _ => trivial) _ _ _ _ ?_
                  refine giveH 21 59 (.string ⟨#[b8]⟩) rfl rfl (by kernel_rfl) (by kernel_rfl) (by kernel_rfl) (fun _ _ _ h => h) (by rfl) (by intro wx hSw; have hcv := sm_conv wx g b8 (by rw [HB8.out]; exact hSw); go_simp) (by assumption) ?_
                  try simp only [Act.put, List.setIfInBounds_toArray, List.set_cons_zero, List.set_cons_succ]
                  refine wpAnyH_ready (rs := [3]) (by kernel_rfl) (by simp) ?_
                  refine AllReadyH.cons rfl (fun K hK => ?_) AllReadyH.nil
                  obtain ⟨W5, hins, hmap5, hsz5, hbl5, hoth5⟩ := sm_ins wn r hm6
                  have hb5 : Below wr.heap.size wr W5 := hb6.trans (hbl5 _ hrg)
                  have hc5 : W5.cell? ⟨g, 0, none⟩ = some (.int .u8 (48 + (k : Int))) := (World.cell?_of_block (a := ⟨g, 0, none⟩) (hoth5 g hgr)).trans hc6
                  clear hbl5 hoth5 hsz5
                  go_simp
                  refine hK.out _ _ hc5 (fun hHeld => ?_)
                  clear hK K
                  try simp only [Act.put, List.setIfInBounds_toArray, List.set_cons_zero, List.set_cons_succ]
                  refine held_mono (S' := fun W => W.cell? ⟨g, 0, none⟩ = some (.int .u8 (48 + (k : Int))) ∧ W.heap[r]? = some (.map pmE 1)) (fun _ h => h.1) _ _ _ _ ?_
                  have hHeld3 := And.intro hc5 hmap5
                  refine giveH 4 42 (.map (some r)) rfl rfl (by kernel_rfl) (by kernel_rfl) (by kernel_rfl) (fun _ _ _ h => h) (by rfl) (by intro wx hSw; go_simp) (by assumption) ?_
                  try simp only [Act.put, List.setIfInBounds_toArray, List.set_cons_zero, List.set_cons_succ]
                  refine giveH 13 51 (.int .i64 0) rfl rfl (by kernel_rfl) (by kernel_rfl) (by kernel_rfl) (fun _ _ _ h => h) (by rfl) (by intro wx hSw; have hl := sm_look wx r false hSw.2; go_simp) (by assumption) ?_
                  try simp only [Act.put, List.setIfInBounds_toArray, List.set_cons_zero, List.set_cons_succ]
                  refine giveH 14 52 (.string ⟨#[58]⟩) rfl rfl (by kernel_rfl) (by kernel_rfl) (by kernel_rfl) (fun _ _ _ h => h) (by rfl) (by intro wx hSw; have hx := idx0 wx; go_simp) (by assumption) ?_
                  try simp only [Act.put, List.setIfInBounds_toArray, List.set_cons_zero, List.set_cons_succ]
                  refine giveH 15 53 (.string A1) rfl rfl (by kernel_rfl) (by kernel_rfl) (by kernel_rfl) (fun _ _ _ h => h) (by rfl) (by intro wx hSw; go_simp) (by assumption) ?_
                  try simp only [Act.put, List.setIfInBounds_toArray, List.set_cons_zero, List.set_cons_succ]
                  refine giveH 16 54 (.string A2) rfl rfl (by kernel_rfl) (by kernel_rfl) (by kernel_rfl) (fun _ _ _ h => h) (by rfl) (by intro wx hSw; go_simp) (by assumption) ?_
                  try simp only [Act.put, List.setIfInBounds_toArray, List.set_cons_zero, List.set_cons_succ]
                  refine giveH 22 60 (.string A3) rfl rfl (by kernel_rfl) (by kernel_rfl) (by kernel_rfl) (fun _ _ _ h => h) (by rfl) (by intro wx hSw; go_simp) (by assumption) ?_
                  try simp only [Act.put, List.setIfInBounds_toArray, List.set_cons_zero, List.set_cons_succ]
                  refine giveH 23 61 (.string A4) rfl rfl (by kernel_rfl) (by kernel_rfl) (by kernel_rfl) (fun _ _ _ h => h) (by rfl) (by intro wx hSw; go_simp) (by assumption) ?_
                  try simp only [Act.put, List.setIfInBounds_toArray, List.set_cons_zero, List.set_cons_succ]
                  refine giveH 24 5 (.string A4) rfl rfl (by kernel_rfl) (by kernel_rfl) (by kernel_rfl) (fun _ _ _ h => h) (by rfl) (by intro wx hSw; go_simp) (by assumption) ?_
                  try simp only [Act.put, List.setIfInBounds_toArray, List.set_cons_zero, List.set_cons_succ]
                  refine wpAnyH_done (by kernel_rfl) ?_ _
                  go_wp2_with fail
                  go_meet
                  exact ⟨by rw [HA4.out], HXE.out, hb5⟩
              · go_simp
                refine hK.out _ _ trivial (fun hHeld => ?_)
                clear hK K
                try simp only [Act.put, List.setIfInBounds_toArray, List.set_cons_zero, List.set_cons_succ]
                have hc1 : (wd.alloc (.cells #[.int .u8 (48 + (k : Int))] 5)).cell? ⟨wd.heap.size, 0, none⟩ = some (.int .u8 (48 + (k : Int))) := cell_new wd _
                have hb1c : Below wr.heap.size wr (wd.alloc (.cells #[.int .u8 (48 + (k : Int))] 5)) := hBD.alloc hBD.size _
                have hgs : wd.heap.size < (wd.alloc (.cells #[.int .u8 (48 + (k : Int))] 5)).heap.size := by simp
                generalize wd.alloc (.cells #[.int .u8 (48 + (k : Int))] 5) = wm at *
                generalize wd.heap.size = g at *
                refine held_mono (S' := fun W => W.cell? ⟨g, 0, none⟩ = some (.int .u8 (48 + (k : Int)))) (fun _ _ => trivial) _ _ _ _ ?_
                refine giveH 21 59 (.string ⟨#[b8]⟩) rfl rfl (by kernel_rfl) (by kernel_rfl) (by kernel_rfl) (fun _ _ _ h => h) (by rfl) (by intro wx hSw; have hcv := sm_conv wx g b8 (by rw [HB8.out]; exact hSw); go_simp) (by assumption) ?_
                try simp only [Act.put, List.setIfInBounds_toArray, List.set_cons_zero, List.set_cons_succ]
                refine wpAnyH_ready (rs := [2]) (by kernel_rfl) (by simp) ?_
                refine AllReadyH.cons rfl (fun K hK => ?_) AllReadyH.nil
                go_simp
                have hc6 : (wm.alloc (.map #[] 0)).cell? ⟨g, 0, none⟩ = some (.int .u8 (48 + (k : Int))) := (((Below.refl wm.heap.size wm).alloc (Nat.le_refl _) (.map #[] 0)).cell (p := ⟨g, 0, none⟩) hgs).trans hc1
                refine hK.out _ _ hc6 (fun hHeld => ?_)
                clear hK K
                try simp only [Act.put, List.setIfInBounds_toArray, List.set_cons_zero, List.set_cons_succ]
                have hm6 := (MapKept.heap_alloc wm (.map #[] 0)).1
                have hb6 : Below wr.heap.size wr (wm.alloc (.map #[] 0)) := hb1c.alloc hb1c.size _
                have hrg : wr.heap.size ≤ wm.heap.size := hb1c.size
                generalize wm.alloc (.map #[] 0) = wn at *
                have hgr : g ≠ wm.heap.size := Nat.ne_of_lt hgs
                generalize wm.heap.size = r at *
                refine wpAnyH_ready (rs := [3]) (by kernel_rfl) (by simp) ?_
                refine AllReadyH.cons rfl (fun K hK => ?_) AllReadyH.nil
                obtain ⟨W5, hins, hmap5, hsz5, hbl5, hoth5⟩ := sm_ins wn r hm6
                have hb5 : Below wr.heap.size wr W5 := hb6.trans (hbl5 _ hrg)
                have hc5 : W5.cell? ⟨g, 0, none⟩ = some (.int .u8 (48 + (k : Int))) := (World.cell?_of_block (a := ⟨g, 0, none⟩) (hoth5 g hgr)).trans hc6
                clear hbl5 hoth5 hsz5
                go_simp
                refine hK.out _ _ hc5 (fun hHeld => ?_)
                clear hK K
                try simp only [Act.put, List.setIfInBounds_toArray, List.set_cons_zero, List.set_cons_succ]
                refine held_mono (S' := fun W => W.cell? ⟨g, 0, none⟩ = some (.int .u8 (48 + (k : Int))) ∧ W.heap[r]? = some (.map pmE 1)) (fun _ h => h.1) _ _ _ _ ?_
                have hHeld3 := And.intro hc5 hmap5
                refine giveH 4 42 (.map (some r)) rfl rfl (by kernel_rfl) (by kernel_rfl) (by kernel_rfl) (fun _ _ _ h => h) (by rfl) (by intro wx hSw; go_simp) (by assumption) ?_
                try simp only [Act.put, List.setIfInBounds_toArray, List.set_cons_zero, List.set_cons_succ]
                refine giveH 13 51 (.int .i64 0) rfl rfl (by kernel_rfl) (by kernel_rfl) (by kernel_rfl) (fun _ _ _ h => h) (by rfl) (by intro wx hSw; have hl := sm_look wx r false hSw.2; go_simp) (by assumption) ?_
                try simp only [Act.put, List.setIfInBounds_toArray, List.set_cons_zero, List.set_cons_succ]
                refine giveH 14 52 (.string ⟨#[58]⟩) rfl rfl (by kernel_rfl) (by kernel_rfl) (by kernel_rfl) (fun _ _ _ h => h) (by rfl) (by intro wx hSw; have hx := idx0 wx; go_simp) (by assumption) ?_
                try simp only [Act.put, List.setIfInBounds_toArray, List.set_cons_zero, List.set_cons_succ]
                refine giveH 15 53 (.string A1) rfl rfl (by kernel_rfl) (by kernel_rfl) (by kernel_rfl) (fun _ _ _ h => h) (by rfl) (by intro wx hSw; go_simp) (by assumption) ?_
                try simp only [Act.put, List.setIfInBounds_toArray, List.set_cons_zero, List.set_cons_succ]
                refine giveH 16 54 (.string A2) rfl rfl (by kernel_rfl) (by kernel_rfl) (by kernel_rfl) (fun _ _ _ h => h) (by rfl) (by intro wx hSw; go_simp) (by assumption) ?_
                try simp only [Act.put, List.setIfInBounds_toArray, List.set_cons_zero, List.set_cons_succ]
                refine giveH 22 60 (.string A3) rfl rfl (by kernel_rfl) (by kernel_rfl) (by kernel_rfl) (fun _ _ _ h => h) (by rfl) (by intro wx hSw; go_simp) (by assumption) ?_
                try simp only [Act.put, List.setIfInBounds_toArray, List.set_cons_zero, List.set_cons_succ]
                refine giveH 23 61 (.string A4) rfl rfl (by kernel_rfl) (by kernel_rfl) (by kernel_rfl) (fun _ _ _ h => h) (by rfl) (by intro wx hSw; go_simp) (by assumption) ?_
                try simp only [Act.put, List.setIfInBounds_toArray, List.set_cons_zero, List.set_cons_succ]
                refine giveH 24 5 (.string A4) rfl rfl (by kernel_rfl) (by kernel_rfl) (by kernel_rfl) (fun _ _ _ h => h) (by rfl) (by intro wx hSw; go_simp) (by assumption) ?_
                try simp only [Act.put, List.setIfInBounds_toArray, List.set_cons_zero, List.set_cons_succ]
                refine wpAnyH_done (by kernel_rfl) ?_ _
                go_wp2_with fail
                go_meet
                exact ⟨by rw [HA4.out], HXE.out, hb5⟩
            | true =>
              have hA0' : A0 = ⟨#[42]⟩ := by rw [hA0]; simp
              subst hA0'
              clear hA0
              go_upto_region 11 with fail
              refine wp_region_held_drew (S := fun _ => True) (by kernel_rfl) trivial (fun hHeld => ?_)
              have hBD : Below wr.heap.size wr wr.drew := (Below.refl _ _).drew
              generalize wr.drew = wd at *
              refine giveH 0 39 (.string pt) rfl rfl (by kernel_rfl) (by kernel_rfl) (by kernel_rfl) (fun _ _ _ h => h) (by rfl) (by intro wx hSw; go_simp) (by assumption) ?_
              try simp only [Act.put, List.setIfInBounds_toArray, List.set_cons_zero, List.set_cons_succ]
              refine giveH 1 40 (.agg #[.string ⟨#[58]⟩, .string ⟨#[42]⟩]) rfl rfl (by kernel_rfl) (by kernel_rfl) (by kernel_rfl) (fun _ _ _ h => h) (by rfl) (by intro wx hSw; go_simp) (by assumption) ?_
              try simp only [Act.put, List.setIfInBounds_toArray, List.set_cons_zero, List.set_cons_succ]
              refine giveH 5 43 (.bool true) rfl rfl (by kernel_rfl) (by kernel_rfl) (by kernel_rfl) (fun _ _ _ h => h) (by rfl) (by intro wx hSw; go_simp) (by assumption) ?_
              try simp only [Act.put, List.setIfInBounds_toArray, List.set_cons_zero, List.set_cons_succ]
              refine giveH 6 44 (.bool true) rfl rfl (by kernel_rfl) (by kernel_rfl) (by kernel_rfl) (fun _ _ _ h => h) (by rfl) (by intro wx hSw; go_simp) (by assumption) ?_
              try simp only [Act.put, List.setIfInBounds_toArray, List.set_cons_zero, List.set_cons_succ]
              refine giveH 7 45 (.int .i64 k) rfl rfl (by kernel_rfl) (by kernel_rfl) (by kernel_rfl) (fun _ _ _ h => h) (by rfl) (by intro wx hSw; go_simp) (by assumption) ?_
              try simp only [Act.put, List.setIfInBounds_toArray, List.set_cons_zero, List.set_cons_succ]
              refine giveH 8 46 (.slice (some a) xs.length c) rfl rfl (by kernel_rfl) (by kernel_rfl) (by kernel_rfl) (fun _ _ _ h => h) (by rfl) (by intro wx hSw; go_simp) (by assumption) ?_
              try simp only [Act.put, List.setIfInBounds_toArray, List.set_cons_zero, List.set_cons_succ]
              refine giveH 9 47 (.int .i64 xs.length) rfl rfl (by kernel_rfl) (by kernel_rfl) (by kernel_rfl) (fun _ _ _ h => h) (by rfl) (by intro wx hSw; go_simp) (by assumption) ?_
              try simp only [Act.put, List.setIfInBounds_toArray, List.set_cons_zero, List.set_cons_succ]
              refine giveH 10 48 (.int .i64 nm) rfl rfl (by kernel_rfl) (by kernel_rfl) (by kernel_rfl) (fun _ _ _ h => h) (by rfl) (by intro wx hSw; go_simp; exact HSB.out) (by assumption) ?_
              try simp only [Act.put, List.setIfInBounds_toArray, List.set_cons_zero, List.set_cons_succ]
              refine giveH 11 49 (.bool true) rfl rfl (by kernel_rfl) (by kernel_rfl) (by kernel_rfl) (fun _ _ _ h => h) (by rfl) (by intro wx hSw; go_simp) (by assumption) ?_
              try simp only [Act.put, List.setIfInBounds_toArray, List.set_cons_zero, List.set_cons_succ]
              refine giveH 12 50 (.bool true) rfl rfl (by kernel_rfl) (by kernel_rfl) (by kernel_rfl) (fun _ _ _ h => h) (by rfl) (by intro wx hSw; go_simp) (by assumption) ?_
              try simp only [Act.put, List.setIfInBounds_toArray, List.set_cons_zero, List.set_cons_succ]
              refine giveH 17 55 (.int .i64 k) rfl rfl (by kernel_rfl) (by kernel_rfl) (by kernel_rfl) (fun _ _ _ h => h) (by rfl) (by intro wx hSw; go_simp) (by assumption) ?_
              try simp only [Act.put, List.setIfInBounds_toArray, List.set_cons_zero, List.set_cons_succ]
              refine giveH 18 56 (.int .i64 (48 + (k : Int))) rfl rfl (by kernel_rfl) (by kernel_rfl) (by kernel_rfl) (fun _ _ _ h => h) (by rfl) (by intro wx hSw; go_simp) (by assumption) ?_
              try simp only [Act.put, List.setIfInBounds_toArray, List.set_cons_zero, List.set_cons_succ]
              refine giveH 19 57 (.int .u8 (48 + (k : Int))) rfl rfl (by kernel_rfl) (by kernel_rfl) (by kernel_rfl) (fun _ _ _ h => h) (by rfl) (by intro wx hSw; go_simp) (by assumption) ?_
              try simp only [Act.put, List.setIfInBounds_toArray, List.set_cons_zero, List.set_cons_succ]
              refine wpAnyH_ready (rs := [2, 20]) (by kernel_rfl) (by simp) ?_
              refine AllReadyH.cons rfl (fun K hK => ?_) (AllReadyH.cons rfl (fun K hK => ?_) AllReadyH.nil)
              · go_simp
                refine hK.out _ _ trivial (fun hHeld => ?_)
                clear hK K
                try simp only [Act.put, List.setIfInBounds_toArray, List.set_cons_zero, List.set_cons_succ]
                have hm1 := (MapKept.heap_alloc wd (.map #[] 0)).1
                have hbm : Below wr.heap.size wr (wd.alloc (.map #[] 0)) := hBD.alloc hBD.size _
                have hrg : wr.heap.size ≤ wd.heap.size := hBD.size
                have hrs : wd.heap.size < (wd.alloc (.map #[] 0)).heap.size := by simp
                generalize wd.alloc (.map #[] 0) = wm at *
                generalize wd.heap.size = r at *
                refine wpAnyH_ready (rs := [3, 20]) (by kernel_rfl) (by simp) ?_
                refine AllReadyH.cons rfl (fun K hK => ?_) (AllReadyH.cons rfl (fun K hK => ?_) AllReadyH.nil)
                · obtain ⟨W5, hins, hmap5, hsz5, hbl5, hoth5⟩ := sm_ins wm r hm1
                  have hb5 : Below wr.heap.size wr W5 := hbm.trans (hbl5 _ hrg)
                  have hr5 : r < W5.heap.size := by rw [hsz5]; exact hrs
                  clear hbl5 hoth5 hsz5
                  go_simp
                  refine hK.out _ _ trivial (fun hHeld => ?_)
                  clear hK K
                  try simp only [Act.put, List.setIfInBounds_toArray, List.set_cons_zero, List.set_cons_succ]
                  refine held_mono (S' := fun W => W.heap[r]? = some (.map pmE 1)) (fun _ _ => trivial) _ _ _ _ ?_
                  have hHeld2 : W5.heap[r]? = some (.map pmE 1) := hmap5
                  refine giveH 4 42 (.map (some r)) rfl rfl (by kernel_rfl) (by kernel_rfl) (by kernel_rfl) (fun _ _ _ h => h) (by rfl) (by intro wx hSw; go_simp) (by assumption) ?_
                  try simp only [Act.put, List.setIfInBounds_toArray, List.set_cons_zero, List.set_cons_succ]
                  refine giveH 13 51 (.int .i64 1) rfl rfl (by kernel_rfl) (by kernel_rfl) (by kernel_rfl) (fun _ _ _ h => h) (by rfl) (by intro wx hSw; have hl := sm_look wx r true hSw; go_simp) (by assumption) ?_
                  try simp only [Act.put, List.setIfInBounds_toArray, List.set_cons_zero, List.set_cons_succ]
                  refine giveH 14 52 (.string ⟨#[42]⟩) rfl rfl (by kernel_rfl) (by kernel_rfl) (by kernel_rfl) (fun _ _ _ h => h) (by rfl) (by intro wx hSw; have hx := idx1 wx; go_simp) (by assumption) ?_
                  try simp only [Act.put, List.setIfInBounds_toArray, List.set_cons_zero, List.set_cons_succ]
                  refine giveH 15 53 (.string A1) rfl rfl (by kernel_rfl) (by kernel_rfl) (by kernel_rfl) (fun _ _ _ h => h) (by rfl) (by intro wx hSw; go_simp) (by assumption) ?_
                  try simp only [Act.put, List.setIfInBounds_toArray, List.set_cons_zero, List.set_cons_succ]
                  refine giveH 16 54 (.string A2) rfl rfl (by kernel_rfl) (by kernel_rfl) (by kernel_rfl) (fun _ _ _ h => h) (by rfl) (by intro wx hSw; go_simp) (by assumption) ?_
                  try simp only [Act.put, List.setIfInBounds_toArray, List.set_cons_zero, List.set_cons_succ]
                  refine wpAnyH_ready (rs := [20]) (by kernel_rfl) (by simp) ?_
                  refine AllReadyH.cons rfl (fun K hK => ?_) AllReadyH.nil
                  go_simp
                  have hm6 : (W5.alloc (.cells #[.int .u8 (48 + (k : Int))] 5)).heap[r]? = some (.map pmE 1) := (((Below.refl W5.heap.size W5).alloc (Nat.le_refl _) (.cells #[.int .u8 (48 + (k : Int))] 5)).block r hr5).trans hmap5
                  refine hK.out _ _ hm6 (fun hHeld => ?_)
                  clear hK K
                  try simp only [Act.put, List.setIfInBounds_toArray, List.set_cons_zero, List.set_cons_succ]
                  have hc6 : (W5.alloc (.cells #[.int .u8 (48 + (k : Int))] 5)).cell? ⟨W5.heap.size, 0, none⟩ = some (.int .u8 (48 + (k : Int))) := cell_new W5 _
                  have hb6 : Below wr.heap.size wr (W5.alloc (.cells #[.int .u8 (48 + (k : Int))] 5)) := hb5.alloc hb5.size _
                  refine held_mono (S' := fun W => W.cell? ⟨W5.heap.size, 0, none⟩ = some (.int .u8 (48 + (k : Int))) ∧ W.heap[r]? = some (.map pmE 1)) (fun _ h => h.2) _ _ _ _ ?_
                  have hHeld3 := And.intro hc6 hm6
                  refine giveH 21 59 (.string ⟨#[b8]⟩) rfl rfl (by kernel_rfl) (by kernel_rfl) (by kernel_rfl) (fun _ _ _ h => h) (by rfl) (by intro wx hSw; have hcv := sm_conv wx W5.heap.size b8 (by rw [HB8.out]; exact hSw.1); go_simp) (by assumption) ?_
                  try simp only [Act.put, List.setIfInBounds_toArray, List.set_cons_zero, List.set_cons_succ]
                  refine giveH 22 60 (.string A3) rfl rfl (by kernel_rfl) (by kernel_rfl) (by kernel_rfl) (fun _ _ _ h => h) (by rfl) (by intro wx hSw; go_simp) (by assumption) ?_
                  try simp only [Act.put, List.setIfInBounds_toArray, List.set_cons_zero, List.set_cons_succ]
                  refine giveH 23 61 (.string A4) rfl rfl (by kernel_rfl) (by kernel_rfl) (by kernel_rfl) (fun _ _ _ h => h) (by rfl) (by intro wx hSw; go_simp) (by assumption) ?_
                  try simp only [Act.put, List.setIfInBounds_toArray, List.set_cons_zero, List.set_cons_succ]
                  refine giveH 24 5 (.string A4) rfl rfl (by kernel_rfl) (by kernel_rfl) (by kernel_rfl) (fun _ _ _ h => h) (by rfl) (by intro wx hSw; go_simp) (by assumption) ?_
                  try simp only [Act.put, List.setIfInBounds_toArray, List.set_cons_zero, List.set_cons_succ]
                  refine wpAnyH_done (by kernel_rfl) ?_ _
                  go_wp2_with fail
                  go_meet
                  exact ⟨by rw [HA4.out], HXE.out, hb6⟩
                · go_simp
                  refine hK.out _ _ trivial (fun hHeld => ?_)
                  clear hK K
                  try simp only [Act.put, List.setIfInBounds_toArray, List.set_cons_zero, List.set_cons_succ]
                  have hc6 : (wm.alloc (.cells #[.int .u8 (48 + (k : Int))] 5)).cell? ⟨wm.heap.size, 0, none⟩ = some (.int .u8 (48 + (k : Int))) := cell_new wm _
                  have hm6 : (wm.alloc (.cells #[.int .u8 (48 + (k : Int))] 5)).heap[r]? = some (.map #[] 0) := (((Below.refl wm.heap.size wm).alloc (Nat.le_refl _) (.cells #[.int .u8 (48 + (k : Int))] 5)).block r hrs).trans hm1
                  have hb6 : Below wr.heap.size wr (wm.alloc (.cells #[.int .u8 (48 + (k : Int))] 5)) := hbm.alloc hbm.size _
                  generalize wm.alloc (.cells #[.int .u8 (48 + (k : Int))] 5) = wn at *
                  have hgr : wm.heap.size ≠ r := Nat.ne_of_gt hrs
                  generalize wm.heap.size = g at *
                  refine held_mono (S' := fun W => W.cell? ⟨g, 0, none⟩ = some (.int .u8 (48 + (k : Int)))) (fun _ _ => trivial) _ _ _ _ ?_
                  refine giveH 21 59 (.string ⟨#[b8]⟩) rfl rfl (by kernel_rfl) (by kernel_rfl) (by kernel_rfl) (fun _ _ _ h => h) (by rfl) (by intro wx hSw; have hcv := sm_conv wx g b8 (by rw [HB8.out]; exact hSw); go_simp) (by assumption) ?_
                  try simp only [Act.put, List.setIfInBounds_toArray, List.set_cons_zero, List.set_cons_succ]
                  refine wpAnyH_ready (rs := [3]) (by kernel_rfl) (by simp) ?_
                  refine AllReadyH.cons rfl (fun K hK => ?_) AllReadyH.nil
                  obtain ⟨W5, hins, hmap5, hsz5, hbl5, hoth5⟩ := sm_ins wn r hm6
                  have hb5 : Below wr.heap.size wr W5 := hb6.trans (hbl5 _ hrg)
                  have hc5 : W5.cell? ⟨g, 0, none⟩ = some (.int .u8 (48 + (k : Int))) := (World.cell?_of_block (a := ⟨g, 0, none⟩) (hoth5 g hgr)).trans hc6
                  clear hbl5 hoth5 hsz5
                  go_simp
                  refine hK.out _ _ hc5 (fun hHeld => ?_)
                  clear hK K
                  try simp only [Act.put, List.setIfInBounds_toArray, List.set_cons_zero, List.set_cons_succ]
                  refine held_mono (S' := fun W => W.cell? ⟨g, 0, none⟩ = some (.int .u8 (48 + (k : Int))) ∧ W.heap[r]? = some (.map pmE 1)) (fun _ h => h.1) _ _ _ _ ?_
                  have hHeld3 := And.intro hc5 hmap5
                  refine giveH 4 42 (.map (some r)) rfl rfl (by kernel_rfl) (by kernel_rfl) (by kernel_rfl) (fun _ _ _ h => h) (by rfl) (by intro wx hSw; go_simp) (by assumption) ?_
                  try simp only [Act.put, List.setIfInBounds_toArray, List.set_cons_zero, List.set_cons_succ]
                  refine giveH 13 51 (.int .i64 1) rfl rfl (by kernel_rfl) (by kernel_rfl) (by kernel_rfl) (fun _ _ _ h => h) (by rfl) (by intro wx hSw; have hl := sm_look wx r true hSw.2; go_simp) (by assumption) ?_
                  try simp only [Act.put, List.setIfInBounds_toArray, List.set_cons_zero, List.set_cons_succ]
                  refine giveH 14 52 (.string ⟨#[42]⟩) rfl rfl (by kernel_rfl) (by kernel_rfl) (by kernel_rfl) (fun _ _ _ h => h) (by rfl) (by intro wx hSw; have hx := idx1 wx; go_simp) (by assumption) ?_
                  try simp only [Act.put, List.setIfInBounds_toArray, List.set_cons_zero, List.set_cons_succ]
                  refine giveH 15 53 (.string A1) rfl rfl (by kernel_rfl) (by kernel_rfl) (by kernel_rfl) (fun _ _ _ h => h) (by rfl) (by intro wx hSw; go_simp) (by assumption) ?_
                  try simp only [Act.put, List.setIfInBounds_toArray, List.set_cons_zero, List.set_cons_succ]
                  refine giveH 16 54 (.string A2) rfl rfl (by kernel_rfl) (by kernel_rfl) (by kernel_rfl) (fun _ _ _ h => h) (by rfl) (by intro wx hSw; go_simp) (by assumption) ?_
                  try simp only [Act.put, List.setIfInBounds_toArray, List.set_cons_zero, List.set_cons_succ]
                  refine giveH 22 60 (.string A3) rfl rfl (by kernel_rfl) (by kernel_rfl) (by kernel_rfl) (fun _ _ _ h => h) (by rfl) (by intro wx hSw; go_simp) (by assumption) ?_
                  try simp only [Act.put, List.setIfInBounds_toArray, List.set_cons_zero, List.set_cons_succ]
                  refine giveH 23 61 (.string A4) rfl rfl (by kernel_rfl) (by kernel_rfl) (by kernel_rfl) (fun _ _ _ h => h) (by rfl) (by intro wx hSw; go_simp) (by assumption) ?_
                  try simp only [Act.put, List.setIfInBounds_toArray, List.set_cons_zero, List.set_cons_succ]
                  refine giveH 24 5 (.string A4) rfl rfl (by kernel_rfl) (by kernel_rfl) (by kernel_rfl) (fun _ _ _ h => h) (by rfl) (by intro wx hSw; go_simp) (by assumption) ?_
                  try simp only [Act.put, List.setIfInBounds_toArray, List.set_cons_zero, List.set_cons_succ]
                  refine wpAnyH_done (by kernel_rfl) ?_ _
                  go_wp2_with fail
                  go_meet
                  exact ⟨by rw [HA4.out], HXE.out, hb5⟩
              · go_simp
                refine hK.out _ _ trivial (fun hHeld => ?_)
                clear hK K
                try simp only [Act.put, List.setIfInBounds_toArray, List.set_cons_zero, List.set_cons_succ]
                have hc1 : (wd.alloc (.cells #[.int .u8 (48 + (k : Int))] 5)).cell? ⟨wd.heap.size, 0, none⟩ = some (.int .u8 (48 + (k : Int))) := cell_new wd _
                have hb1c : Below wr.heap.size wr (wd.alloc (.cells #[.int .u8 (48 + (k : Int))] 5)) := hBD.alloc hBD.size _
                have hgs : wd.heap.size < (wd.alloc (.cells #[.int .u8 (48 + (k : Int))] 5)).heap.size := by simp
                generalize wd.alloc (.cells #[.int .u8 (48 + (k : Int))] 5) = wm at *
                generalize wd.heap.size = g at *
                refine held_mono (S' := fun W => W.cell? ⟨g, 0, none⟩ = some (.int .u8 (48 + (k : Int)))) (fun _ _ => trivial) _ _ _ _ ?_
                refine giveH 21 59 (.string ⟨#[b8]⟩) rfl rfl (by kernel_rfl) (by kernel_rfl) (by kernel_rfl) (fun _ _ _ h => h) (by rfl) (by intro wx hSw; have hcv := sm_conv wx g b8 (by rw [HB8.out]; exact hSw); go_simp) (by assumption) ?_
                try simp only [Act.put, List.setIfInBounds_toArray, List.set_cons_zero, List.set_cons_succ]
                refine wpAnyH_ready (rs := [2]) (by kernel_rfl) (by simp) ?_
                refine AllReadyH.cons rfl (fun K hK => ?_) AllReadyH.nil
                go_simp
                have hc6 : (wm.alloc (.map #[] 0)).cell? ⟨g, 0, none⟩ = some (.int .u8 (48 + (k : Int))) := (((Below.refl wm.heap.size wm).alloc (Nat.le_refl _) (.map #[] 0)).cell (p := ⟨g, 0, none⟩) hgs).trans hc1
                refine hK.out _ _ hc6 (fun hHeld => ?_)
                clear hK K
                try simp only [Act.put, List.setIfInBounds_toArray, List.set_cons_zero, List.set_cons_succ]
                have hm6 := (MapKept.heap_alloc wm (.map #[] 0)).1
                have hb6 : Below wr.heap.size wr (wm.alloc (.map #[] 0)) := hb1c.alloc hb1c.size _
                have hrg : wr.heap.size ≤ wm.heap.size := hb1c.size
                generalize wm.alloc (.map #[] 0) = wn at *
                have hgr : g ≠ wm.heap.size := Nat.ne_of_lt hgs
                generalize wm.heap.size = r at *
                refine wpAnyH_ready (rs := [3]) (by kernel_rfl) (by simp) ?_
                refine AllReadyH.cons rfl (fun K hK => ?_) AllReadyH.nil
                obtain ⟨W5, hins, hmap5, hsz5, hbl5, hoth5⟩ := sm_ins wn r hm6
                have hb5 : Below wr.heap.size wr W5 := hb6.trans (hbl5 _ hrg)
                have hc5 : W5.cell? ⟨g, 0, none⟩ = some (.int .u8 (48 + (k : Int))) := (World.cell?_of_block (a := ⟨g, 0, none⟩) (hoth5 g hgr)).trans hc6
                clear hbl5 hoth5 hsz5
                go_simp
                refine hK.out _ _ hc5 (fun hHeld => ?_)
                clear hK K
                try simp only [Act.put, List.setIfInBounds_toArray, List.set_cons_zero, List.set_cons_succ]
                refine held_mono (S' := fun W => W.cell? ⟨g, 0, none⟩ = some (.int .u8 (48 + (k : Int))) ∧ W.heap[r]? = some (.map pmE 1)) (fun _ h => h.1) _ _ _ _ ?_
                have hHeld3 := And.intro hc5 hmap5
                refine giveH 4 42 (.map (some r)) rfl rfl (by kernel_rfl) (by kernel_rfl) (by kernel_rfl) (fun _ _ _ h => h) (by rfl) (by intro wx hSw; go_simp) (by assumption) ?_
                try simp only [Act.put, List.setIfInBounds_toArray, List.set_cons_zero, List.set_cons_succ]
                refine giveH 13 51 (.int .i64 1) rfl rfl (by kernel_rfl) (by kernel_rfl) (by kernel_rfl) (fun _ _ _ h => h) (by rfl) (by intro wx hSw; have hl := sm_look wx r true hSw.2; go_simp) (by assumption) ?_
                try simp only [Act.put, List.setIfInBounds_toArray, List.set_cons_zero, List.set_cons_succ]
                refine giveH 14 52 (.string ⟨#[42]⟩) rfl rfl (by kernel_rfl) (by kernel_rfl) (by kernel_rfl) (fun _ _ _ h => h) (by rfl) (by intro wx hSw; have hx := idx1 wx; go_simp) (by assumption) ?_
                try simp only [Act.put, List.setIfInBounds_toArray, List.set_cons_zero, List.set_cons_succ]
                refine giveH 15 53 (.string A1) rfl rfl (by kernel_rfl) (by kernel_rfl) (by kernel_rfl) (fun _ _ _ h => h) (by rfl) (by intro wx hSw; go_simp) (by assumption) ?_
                try simp only [Act.put, List.setIfInBounds_toArray, List.set_cons_zero, List.set_cons_succ]
                refine giveH 16 54 (.string A2) rfl rfl (by kernel_rfl) (by kernel_rfl) (by kernel_rfl) (fun _ _ _ h => h) (by rfl) (by intro wx hSw; go_simp) (by assumption) ?_
                try simp only [Act.put, List.setIfInBounds_toArray, List.set_cons_zero, List.set_cons_succ]
                refine giveH 22 60 (.string A3) rfl rfl (by kernel_rfl) (by kernel_rfl) (by kernel_rfl) (fun _ _ _ h => h) (by rfl) (by intro wx hSw; go_simp) (by assumption) ?_
                try simp only [Act.put, List.setIfInBounds_toArray, List.set_cons_zero, List.set_cons_succ]
                refine giveH 23 61 (.string A4) rfl rfl (by kernel_rfl) (by kernel_rfl) (by kernel_rfl) (fun _ _ _ h => h) (by rfl) (by intro wx hSw; go_simp) (by assumption) ?_
                try simp only [Act.put, List.setIfInBounds_toArray, List.set_cons_zero, List.set_cons_succ]
                refine giveH 24 5 (.string A4) rfl rfl (by kernel_rfl) (by kernel_rfl) (by kernel_rfl) (fun _ _ _ h => h) (by rfl) (by intro wx hSw; go_simp) (by assumption) ?_
                try simp only [Act.put, List.setIfInBounds_toArray, List.set_cons_zero, List.set_cons_succ]
                refine wpAnyH_done (by kernel_rfl) ?_ _
                go_wp2_with fail
                go_meet
                exact ⟨by rw [HA4.out], HXE.out, hb5⟩
      case rest =>
        obtain ⟨rfl, HXE, HB5⟩ := hcut
        have HB6 := Lib.hid (bt HB.out HB5.out)
        have HX2 := Lib.hid (HJ2.out HXE.out)
        go_wp2_with fail
        go_roundg (xs.length - (k + 1))
        case measure => omega
        case rel => exact ⟨k + 1, by omega, rfl, by go_num, rfl, HX2.out, HB6.out⟩
    · have hke : k = xs.length := by omega
      subst hke
      have hn0 : 0 < xs.length := by have := HNM.out; omega
      have hkn : ¬ ((xs.length : Nat) : Int) < (xs.length : Int) := by omega
      obtain ⟨hpt1, hpt2, _, _⟩ := pm_pat rest ⟨xs.length, by omega⟩ hn0
      have hlaw := pm_law rest xs.length hn0 h7
      have HLW := Lib.hid hlaw
      have HNE : Hid (∀ s ∈ xs, s ≠ []) := fun s hs => by
        obtain ⟨j, hj, rfl⟩ := List.getElem_of_mem hs
        exact HJ.out j hj hj
      have HM1 := Lib.hid (pm_match rest xs.length xs hn0 h7 rfl HNE.out)
      have HM2 := Lib.hid (pm_more rest xs.length xs [109, 111, 114, 101] hn0 h7 rfl HNE.out)
      have HPT : Hid ((patL (pmR rest xs.length).p).isSome = true ∧ (pmR rest xs.length).p.length ≤ 10000) := ⟨by show (patL (pmP rest xs.length xs.length)).isSome = true; rw [hpt1]; rfl, hpt2⟩
      clear hlaw hpt1 hpt2
      have hrc : rtCells [pmR rest xs.length] = [.string ⟨#[71, 69, 84]⟩, .string (mkB (pmP rest xs.length xs.length)), .string ⟨#[103, 101, 116]⟩] := rfl
      have HA := Lib.hid ((Below.refl wr.heap.size wr).alloc (Nat.le_refl _) (.cells #[.string ⟨#[71, 69, 84]⟩, .string (mkB (pmP rest xs.length xs.length)), .string ⟨#[103, 101, 116]⟩] 31))
      have hwi := with_any none [] [pmR rest xs.length] (some ⟨wr.heap.size, 0, none⟩) 1 (wr.alloc (.cells #[.string ⟨#[71, 69, 84]⟩, .string (mkB (pmP rest xs.length xs.length)), .string ⟨#[103, 101, 116]⟩] 31)) (Tr.nil _ _) (by
        rw [hrc]
        exact rd_new wr #[.string ⟨#[71, 69, 84]⟩, .string (mkB (pmP rest xs.length xs.length)), .string ⟨#[103, 101, 116]⟩] 31 3 1 rfl) (fun r hr => by simp at hr; subst hr; exact HPT.out) (by simp)
      rw [List.nil_append, show [pmR rest xs.length].length = 1 from rfl] at hwi
      have HWI := Lib.hid hwi
      clear hwi hrc
      have HPX := Lib.hid (fun wx (h : Below w.heap.size w wx) => Pth.of (c := c) ((HR.out.below h (Nat.le_refl _)).wide h.size) hxc (by omega) (fun s hs => by have := HSH.out s hs; omega))
      have HML := Lib.hid (fun v wx (ht : Tr wx wx.heap.size v [pmR rest xs.length]) (h : Below w.heap.size w wx) => match_any v [pmR rest xs.length] ⟨#[71, 69, 84]⟩ A xs.length c xs wx ht HLW.out.good HLW.out.apart (HPX.out wx h) (by simp))
      rw [show (ByteArray.mk #[71, 69, 84]).data.toList = [71, 69, 84] from rfl] at HML
      have HMX := Lib.hid (fun v A2 c2 wx (ht : Tr wx wx.heap.size v [pmR rest xs.length]) (hp : Pth wx wx.heap.size A2 (xs.length + 1) c2 (xs ++ [[109, 111, 114, 101]])) => match_any v [pmR rest xs.length] ⟨#[71, 69, 84]⟩ A2 (xs.length + 1) c2 (xs ++ [[109, 111, 114, 101]]) wx ht HLW.out.good HLW.out.apart hp (by simp))
      rw [show (ByteArray.mk #[71, 69, 84]).data.toList = [71, 69, 84] from rfl] at HMX
      generalize matchL [71, 69, 84] xs [pmR rest xs.length] = T1 at *
      generalize matchL [71, 69, 84] (xs ++ [[109, 111, 114, 101]]) [pmR rest xs.length] = T2 at *
      generalize mkB (pmP rest xs.length xs.length) = pb at *
      generalize pmR rest xs.length = PR at *
      go_wp2_with fail
      refine HWI.out.mono ?_
      rintro e w3 ⟨ga, rfl, hta, hb3⟩
      have HTA := Lib.hid hta
      have HB3 : Hid (Below w.heap.size w w3) := HBW.out.trans ((HA.out.trans (hb3.mono HA.out.size)).mono HBW.out.size)
      clear hta hb3
      go_wp2_with fail
      refine (HML.out _ w3 HTA.out HB3.out).mono ?_
      rintro e w4 ⟨⟨P1, n1, c1, Q1, m1, d1, he, hat1⟩, hb4⟩
      rw [HM1.out.1] at he
      subst he
      have HAT1 := Lib.hid hat1
      have HB4 := Lib.hid (bt HB3.out hb4)
      have HTA4 := Lib.hid (HTA.out.on hb4)
      have hp1n : n1 = xs.length := by
        rw [hat1.2.1, HM1.out.2]
        simp [pmL]
      subst hp1n
      clear hat1 hb4
      generalize mkB T1.h = tb1 at *
      have hk5 : (w4.alloc (.cells #[.string tb1, .slice P1 xs.length c1, .slice Q1 m1 d1] 34)).heap[w4.heap.size]? = some (.cells #[.string tb1, .slice P1 xs.length c1, .slice Q1 m1 d1] 34 (0, 0)) := heap_alloc_new w4 _
      have HAL := Lib.hid ((Below.refl w4.heap.size w4).alloc (Nat.le_refl _) (.cells #[.string tb1, .slice P1 xs.length c1, .slice Q1 m1 d1] 34))
      have HB5 := Lib.hid (bt HB4.out HAL.out)
      have HTA5 := Lib.hid (HTA4.out.on HAL.out)
      have HAT5 := Lib.hid (HAT1.out.on HAL.out)
      have HG5 : Hid (w4.heap.size < (w4.alloc (.cells #[.string tb1, .slice P1 xs.length c1, .slice Q1 m1 d1] 34)).heap.size) := by show _ < _; simp
      have HK5 := Lib.hid hk5
      clear hk5
      go_upto_region 16 with fail
      generalize w4.alloc (.cells #[.string tb1, .slice P1 xs.length c1, .slice Q1 m1 d1] 34) = w5 at *
      generalize w4.heap.size = G1 at *
      obtain ⟨a, ha, hab, hcell⟩ := (HPX.out w5 HB5.out).rd.2 (by omega)
      subst ha
      have HXC : Hid (∀ wx, Below w5.heap.size w5 wx → ∀ j u, (xs.map strV)[j]? = some u → wx.cell? (a.add j) = some u) := fun wx h j u hu => (h.cell (p := a.add j) (by rw [add_block]; exact hab)).trans (hcell j u hu)
      have HLX : Hid ((xs.map strV).length = xs.length * 1) := by show _ = _; simp
      have HOX : Hid (∀ u ∈ xs.map strV, u.oneCell' = true) := fun u hu => by obtain ⟨y, _, rfl⟩ := List.mem_map.1 hu; rfl
      have HOM : Hid (∀ u ∈ [Value.string ⟨#[109, 111, 114, 101]⟩], u.oneCell' = true) := fun u hu => by simp at hu; subst hu; rfl
      have H62 : Hid (0 + xs.length ≤ maxLen) := by show _ ≤ _; unfold maxLen; omega
      have HBY2 : Hid ((0 + xs.length) * 16 ≤ 140737488355328) := by show _ ≤ _; omega
      have H63 : Hid (xs.length + 1 ≤ maxLen) := by show _ ≤ _; unfold maxLen; omega
      have HBY : Hid ((xs.length + 1) * 16 ≤ 140737488355328) := by show _ ≤ _; omega
      have HSL : Hid (∀ s ∈ xs, s.length ≤ 2000000) := fun s hs => by have := HSH.out s hs; omega
      have HX5 := Lib.hid (HXC.out w5 (Below.refl _ _))
      clear hcell hab
      go_wp2_with (at_builtin; refine wpList_append_own_at _ rfl _ _ 22 rfl w5.heap.size 9 i0 (.string ⟨#[]⟩) 1 16 Tryd.underlying22 hi HZ.out.1 HZ.out.2.1 HZ.out.2.2 rfl (by decide) (.slice none 0 0) 0 [] rfl (World.ownsRow_nil _ _ _ _) a xs.length c (xs.map strV) rfl HLX.out HX5.out HOX.out H62.out HBY2.out ?hle ?_)
      case hle => exact Nat.le_refl _
      intro v6 w6 hown6 hgr6 _ _
      try simp only [Nat.zero_add, List.nil_append] at hown6
      have HB6 : Hid (Below w5.heap.size w5 w6) := (Below.refl _ _).grown hgr6 (Nat.le_refl _) (fun k hk => (by cases hk))
      obtain ⟨g2, cap2, rfl, _, hg2, _, _⟩ := own_shape hown6 hn0
      have hA6 := (Below.refl w6.heap.size w6).alloc (Nat.le_refl _) (.cells #[.string ⟨#[109, 111, 114, 101]⟩] 9)
      have HO6 := Lib.hid (own_below hown6 hA6)
      have HC6 := Lib.hid (cell_one_new w6 (.string ⟨#[109, 111, 114, 101]⟩) 9)
      have HBA : Hid (Below w5.heap.size w5 (w6.alloc (.cells #[.string ⟨#[109, 111, 114, 101]⟩] 9))) := HB6.out.trans (hA6.mono HB6.out.size)
      clear hown6 hgr6 hA6 hg2
      go_wp2_with (at_builtin; refine wpList_append_own_at _ rfl _ _ 22 rfl w5.heap.size 9 i0 (.string ⟨#[]⟩) 1 16 Tryd.underlying22 hi HZ.out.1 HZ.out.2.1 HZ.out.2.2 rfl (by decide) (.slice (some ⟨g2, 0, none⟩) xs.length cap2) xs.length (xs.map strV) rfl HO6.out ⟨w6.heap.size, 0, none⟩ 1 1 [.string ⟨#[109, 111, 114, 101]⟩] rfl rfl HC6.out HOM.out H63.out HBY.out HBA.out.size ?_)
      intro v7 w7 hown7 hgr7 _ _
      have HB7 : Hid (Below w5.heap.size w5 w7) := HBA.out.grown hgr7 HBA.out.size (fun k hk => (HO6.out.lt k hk).1)
      obtain ⟨g4, cap4, rfl, _, _, _, _⟩ := own_shape hown7 (Nat.succ_pos _)
      have HM7 := Lib.hid (HMX.out _ _ _ w7 (HTA5.out.on HB7.out) (pth_own hown7 (by omega) HSL.out (by decide)))
      clear hown7 hgr7 HO6 HC6 HBA
      go_wp2_with fail
      refine HM7.out.mono ?_
      rintro e w8 ⟨⟨P2, n2, c2, Q2, m2, d2, he, hat2⟩, hb8⟩
      rw [HM2.out.1] at he
      subst he
      have HB8 : Hid (Below w5.heap.size w5 w8) := HB7.out.trans (hb8.mono HB7.out.size)
      have hk9 : (w8.alloc (.cells #[.string (mkB T2.h), .slice P2 n2 c2, .slice Q2 m2 d2] 34)).heap[w8.heap.size]? = some (.cells #[.string (mkB T2.h), .slice P2 n2 c2, .slice Q2 m2 d2] 34 (0, 0)) := heap_alloc_new w8 _
      have HAT9 := Lib.hid (hat2.on ((Below.refl w8.heap.size w8).alloc (Nat.le_refl _) (.cells #[.string (mkB T2.h), .slice P2 n2 c2, .slice Q2 m2 d2] 34)))
      have HB9 : Hid (Below w5.heap.size w5 (w8.alloc (.cells #[.string (mkB T2.h), .slice P2 n2 c2, .slice Q2 m2 d2] 34))) := HB8.out.alloc HB8.out.size _
      have HK9 := Lib.hid hk9
      clear hat2 hb8 hk9
      generalize mkB T2.h = tb2 at *
      go_upto_region 17 with fail
      generalize w8.alloc (.cells #[.string tb2, .slice P2 n2 c2, .slice Q2 m2 d2] 34) = w9 at *
      generalize w8.heap.size = G2 at *
      have HBW9 := Lib.hid (bt HB5.out HB9.out)
      have hk5 := (HB9.out.block G1 HG5.out).trans HK5.out
      have x1 : w9.cell? ⟨G1, 1, none⟩ = some (.slice P1 xs.length c1) := by rw [Lib.cell_of_heap hk5]; rfl
      have HXK := Lib.hid x1
      have HPR := Lib.hid ((HAT5.out.on HB9.out).2.2.1)
      clear hk5
      have hbb : (rest != rest) = false := by cases rest <;> rfl
      obtain ⟨hok1, hps1⟩ := HM1.out
      have hl1 : T1.ps.length = xs.length := by rw [hps1]; simp [pmL]
      obtain ⟨pa, ePA, hpb, _⟩ := HPR.out.2 (by omega)
      subst ePA
      have HX9 : Hid (∀ wx, Below w9.heap.size w9 wx → wx.cell? ⟨G1, 1, none⟩ = some (.slice (some pa) xs.length c1)) := fun wx h => (h.cell (p := ⟨G1, 1, none⟩) (World.block_lt_of_cell? _ _ HXK.out)).trans HXK.out
      have HPS1 : Hid (∀ k (h : k < T1.ps.length) (h2 : k < xs.length), T1.ps[k] = ([110, UInt8.ofNat (48 + k)], xs[k])) := fun k h h2 => by
        have e : T1.ps[k]? = some ([110, UInt8.ofNat (48 + k)], xs[k]) := by
          rw [hps1, List.getElem?_eq_getElem (by simp [pmL]; exact h2)]
          simp [pmL, pmS]
        rw [List.getElem?_eq_getElem h] at e
        exact Option.some.inj e
      have HL1 := Lib.hid hl1
      clear hok1 hps1 hl1 hpb hkn
      go_wp2_with fail
      clear x1
      go_loopw [100] (fun i wr => ∃ (k : Nat), k ≤ xs.length ∧ i = .int .i64 k ∧ Hid (Below w9.heap.size w9 wr)) (fun i _ => xs.length - (intOf i).toNat)
      case atStart => exact ⟨0, by omega, rfl, Below.refl _ _⟩
      case round =>
        obtain ⟨k, hk, rfl, HB10⟩ := hrel
        by_cases hlt : k < xs.length
        · have hkt : k < T1.ps.length := by rw [HL1.out]; exact hlt
          have hpk := HPS1.out k hkt hlt
          have HP10 := Lib.hid (fun wx (h : Below w9.heap.size w9 wx) => pl_in (HPR.out.below h (Nat.le_refl _)) HL1.out.symm k hkt)
          have HXB : Hid (Below w5.heap.size w5 wr) := HB9.out.trans (HB10.out.mono HB9.out.size)
          have k0 := HXC.out wr HXB.out k (strV xs[k]) (by simp [hlt])
          rw [strV_mk] at k0
          obtain ⟨b8, hb8⟩ : ∃ b8 : UInt8, b8 = UInt8.ofNat (48 + k) := ⟨_, rfl⟩
          have HB8 : Hid ((b8.toNat : Int) = 48 + (k : Int)) := by
            show _ = _
            rw [hb8, UInt8.toNat_ofNat']
            omega
          have hw1 : IntKind.i64.wrap (48 + (k : Int)) = 48 + (k : Int) := by rw [IntKind.wrap_i64]; omega
          have hw2 : IntKind.u8.wrap (48 + (k : Int)) = 48 + (k : Int) := wrap_u8 k (by omega)
          have hnx : (48 : Int) + (k : Int) ≤ 55 := by omega
          have hc0 : (0 : Int) ≤ (k : Int) := by omega
          have hc1 : (k : Int) < (xs.length : Int) := by omega
          have s5 := add_str ⟨#[110]⟩ ⟨#[b8]⟩ (by have h1 : (⟨#[110]⟩ : ByteArray).size = 1 := rfl; have h2 : (⟨#[b8]⟩ : ByteArray).size = 1 := rfl; omega)
          obtain ⟨pn, hpn⟩ : ∃ pn, mkB T1.ps[k].1 = pn := ⟨_, rfl⟩
          obtain ⟨pv, hpv⟩ : ∃ pv, mkB T1.ps[k].2 = pv := ⟨_, rfl⟩
          have hpn2 : (⟨#[110]⟩ : ByteArray) ++ ⟨#[b8]⟩ = pn := by
            rw [← hpn, hpk, hb8]
            apply bytes_ext
            rw [app_data]; rfl
          have hpv2 : mkB xs[k] = pv := by rw [← hpv, hpk]
          have HNEQ := Lib.hid (fun wx => ne_param T1.ps[k] T1.ps[k] wx)
          rw [hpn, hpv] at HP10 HNEQ
          rw [show (!decide (T1.ps[k] = T1.ps[k])) = false by simp] at HNEQ
          rw [hpn2] at s5
          rw [hpv2] at k0
          have HPC : Hid (∀ wx, Below w9.heap.size w9 wx → wx.cell? (pa.add (k * 2)) = some (.string pn) ∧ wx.cell? ⟨(pa.add (k * 2)).block, (pa.add (k * 2)).off + 1, none⟩ = some (.string pv)) := fun wx h => by
            obtain ⟨a', e', _, h3, h4⟩ := HP10.out wx h
            cases e'
            exact ⟨h3, h4⟩
          clear hpn hpv hpn2 hpv2 hpk hb8 HP10 hkt
          go_upto_region 22 with fail
          have hBD : Below w9.heap.size w9 wr.drew := HB10.out.drew
          refine wp_region_held_drew (S := fun W => W.cell? ⟨G1, 1, none⟩ = some (.slice (some pa) xs.length c1) ∧ W.cell? (pa.add (k * 2)) = some (.string pn) ∧ W.cell? ⟨(pa.add (k * 2)).block, (pa.add (k * 2)).off + 1, none⟩ = some (.string pv)) (by kernel_rfl) ⟨HX9.out _ hBD, HPC.out _ hBD⟩ (fun hHeld => ?_)
          generalize wr.drew = wd at *
          refine giveH 0 105 (.pointer (some ⟨G1, 1, none⟩)) rfl rfl (by kernel_rfl) (by kernel_rfl) (by kernel_rfl) (fun _ _ _ h => h) (by rfl) (by intro wx hSw; go_simp) (by assumption) ?_
          try simp only [Act.put, List.setIfInBounds_toArray, List.set_cons_zero, List.set_cons_succ]
          refine giveH 1 106 (.slice (some pa) xs.length c1) rfl rfl (by kernel_rfl) (by kernel_rfl) (by kernel_rfl) (fun _ _ _ h => h) (by rfl) (by intro wx hSw; obtain ⟨q0, q1, q2⟩ := hSw; go_simp) (by assumption) ?_
          try simp only [Act.put, List.setIfInBounds_toArray, List.set_cons_zero, List.set_cons_succ]
          refine giveH 2 107 (.int .i64 k) rfl rfl (by kernel_rfl) (by kernel_rfl) (by kernel_rfl) (fun _ _ _ h => h) (by rfl) (by intro wx hSw; go_simp) (by assumption) ?_
          try simp only [Act.put, List.setIfInBounds_toArray, List.set_cons_zero, List.set_cons_succ]
          refine giveH 3 108 (.pointer (some (pa.add (k * 2)))) rfl rfl (by kernel_rfl) (by kernel_rfl) (by kernel_rfl) (fun _ _ _ h => h) (by rfl) (by intro wx hSw; go_simp) (by assumption) ?_
          try simp only [Act.put, List.setIfInBounds_toArray, List.set_cons_zero, List.set_cons_succ]
          refine giveH 4 109 (.agg #[.string pn, .string pv]) rfl rfl (by kernel_rfl) (by kernel_rfl) (by kernel_rfl) (fun _ _ _ h => h) (by rfl) (by intro wx hSw; obtain ⟨q0, q1, q2⟩ := hSw; go_simp) (by assumption) ?_
          try simp only [Act.put, List.setIfInBounds_toArray, List.set_cons_zero, List.set_cons_succ]
          refine giveH 5 110 (.int .i64 k) rfl rfl (by kernel_rfl) (by kernel_rfl) (by kernel_rfl) (fun _ _ _ h => h) (by rfl) (by intro wx hSw; go_simp) (by assumption) ?_
          try simp only [Act.put, List.setIfInBounds_toArray, List.set_cons_zero, List.set_cons_succ]
          refine giveH 6 111 (.int .i64 (48 + (k : Int))) rfl rfl (by kernel_rfl) (by kernel_rfl) (by kernel_rfl) (fun _ _ _ h => h) (by rfl) (by intro wx hSw; go_simp) (by assumption) ?_
          try simp only [Act.put, List.setIfInBounds_toArray, List.set_cons_zero, List.set_cons_succ]
          refine giveH 7 112 (.int .u8 (48 + (k : Int))) rfl rfl (by kernel_rfl) (by kernel_rfl) (by kernel_rfl) (fun _ _ _ h => h) (by rfl) (by intro wx hSw; go_simp) (by assumption) ?_
          try simp only [Act.put, List.setIfInBounds_toArray, List.set_cons_zero, List.set_cons_succ]
          refine giveH 11 116 (.string pv) rfl rfl (by kernel_rfl) (by kernel_rfl) (by kernel_rfl) (fun _ _ _ h => h) (by rfl) (by intro wx hSw; go_simp) (by assumption) ?_
          try simp only [Act.put, List.setIfInBounds_toArray, List.set_cons_zero, List.set_cons_succ]
          refine wpAnyH_ready (rs := [8]) (by kernel_rfl) (by simp) ?_
          refine AllReadyH.cons rfl (fun K hK => ?_) AllReadyH.nil
          go_simp
          have hb1c : Below w9.heap.size w9 (wd.alloc (.cells #[.int .u8 (48 + (k : Int))] 5)) := hBD.alloc hBD.size _
          refine hK.out _ _ ⟨HX9.out _ hb1c, HPC.out _ hb1c⟩ (fun hHeld => ?_)
          clear hK K
          try simp only [Act.put, List.setIfInBounds_toArray, List.set_cons_zero, List.set_cons_succ]
          have hc1b : (wd.alloc (.cells #[.int .u8 (48 + (k : Int))] 5)).cell? ⟨wd.heap.size, 0, none⟩ = some (.int .u8 (48 + (k : Int))) := cell_new wd _
          generalize wd.alloc (.cells #[.int .u8 (48 + (k : Int))] 5) = wm at *
          generalize wd.heap.size = g at *
          refine held_mono (S' := fun W => W.cell? ⟨g, 0, none⟩ = some (.int .u8 (48 + (k : Int))) ∧ W.cell? ⟨G1, 1, none⟩ = some (.slice (some pa) xs.length c1) ∧ W.cell? (pa.add (k * 2)) = some (.string pn) ∧ W.cell? ⟨(pa.add (k * 2)).block, (pa.add (k * 2)).off + 1, none⟩ = some (.string pv)) (fun _ h => h.2) _ _ _ _ ?_
          have hHeld2 := And.intro hc1b hHeld
          refine giveH 9 114 (.string ⟨#[b8]⟩) rfl rfl (by kernel_rfl) (by kernel_rfl) (by kernel_rfl) (fun _ _ _ h => h) (by rfl) (by intro wx hSw; have hcv := sm_conv wx g b8 (by rw [HB8.out]; exact hSw.1); go_simp) (by assumption) ?_
          try simp only [Act.put, List.setIfInBounds_toArray, List.set_cons_zero, List.set_cons_succ]
          refine giveH 10 115 (.string pn) rfl rfl (by kernel_rfl) (by kernel_rfl) (by kernel_rfl) (fun _ _ _ h => h) (by rfl) (by intro wx hSw; go_simp) (by assumption) ?_
          try simp only [Act.put, List.setIfInBounds_toArray, List.set_cons_zero, List.set_cons_succ]
          refine giveH 12 117 (.agg #[.string pn, .string pv]) rfl rfl (by kernel_rfl) (by kernel_rfl) (by kernel_rfl) (fun _ _ _ h => h) (by rfl) (by intro wx hSw; go_simp) (by assumption) ?_
          try simp only [Act.put, List.setIfInBounds_toArray, List.set_cons_zero, List.set_cons_succ]
          refine giveH 13 118 (.bool false) rfl rfl (by kernel_rfl) (by kernel_rfl) (by kernel_rfl) (fun _ _ _ h => h) (by rfl) (by intro wx hSw; have hq := HNEQ.out wx; go_simp) (by assumption) ?_
          try simp only [Act.put, List.setIfInBounds_toArray, List.set_cons_zero, List.set_cons_succ]
          refine wpAnyH_done (by kernel_rfl) ?_ _
          have HBM := Lib.hid hb1c
          clear hb1c hc1b hHeld hHeld2 hBD
          go_wp2_with fail
          go_roundw
          case rel => exact ⟨k + 1, by omega, by go_num, HBM⟩
          case measure => simp [intOf]; omega
        · have HXB : Hid (Below w5.heap.size w5 wr) := HB9.out.trans (HB10.out.mono HB9.out.size)
          have HWR := Lib.hid (bt HBW9.out HB10.out)
          cases hre : rest with
          | false =>
            go_upto_region 25 with fail
            go_quiet (fail)
            go_wp2_with fail
            go_ret
            exact ⟨rfl, bt HWR.out (below_dn _ _ _)⟩
          | true =>
            obtain ⟨_, hm2⟩ := HM2.out
            obtain ⟨hl2, hv2⟩ := hm2 hre
            have hat9 := HAT9.out.on HB10.out
            have hn2 := hat9.2.1
            have hrd := hat9.2.2.1
            have hnm := HNM.out
            have hkt : nm < T2.ps.length := by omega
            obtain ⟨pb2, e2, _, q0, q1⟩ := pl_in hrd hn2 nm hkt
            subst e2
            have hnx : nm < xs.length := by omega
            have k1 := HXC.out wr HXB.out nm (strV xs[nm]) (by rw [List.getElem?_map, List.getElem?_eq_getElem hnx]; rfl)
            rw [strV_mk] at k1
            have hbk := (HB10.out.block G2 (blk_size HK9.out)).trans HK9.out
            have x2 : wr.cell? ⟨G2, 1, none⟩ = some (.slice (some pb2) n2 c2) := by rw [Lib.cell_of_heap hbk]; rfl
            have hlast : xs.getLast?.getD [] = xs[nm] := by
              rw [List.getLast?_eq_getElem?, show xs.length - 1 = nm by omega, List.getElem?_eq_getElem hnx]; rfl
            have hv3 : T2.ps[nm].2 = xs[nm] ++ [47, 109, 111, 114, 101] := by
              rw [show xs.length - 1 = nm by omega, List.getElem?_eq_getElem hkt, hlast] at hv2
              simpa using hv2
            have hsum := add_str (mkB xs[nm]) ⟨#[47, 109, 111, 114, 101]⟩ (by
              have h1 : (⟨#[47, 109, 111, 114, 101]⟩ : ByteArray).size = 5 := rfl
              have h2 := HSH.out _ (List.getElem_mem hnx)
              rw [mkB_size]; omega)
            have hqv : mkB xs[nm] ++ (⟨#[47, 109, 111, 114, 101]⟩ : ByteArray) = mkB T2.ps[nm].2 := by
              apply bytes_ext
              rw [app_data, mkB_data, mkB_data, hv3]
            rw [hqv] at hsum
            have hsub : wrap64 ((xs.length : Int) - 1) = (nm : Int) := sub64w xs.length nm hnm (by omega)
            have hsub2 : IntKind.i64.wrap ((xs.length : Int) - 1) = (nm : Int) := sub64 xs.length nm hnm (by omega)
            have hn0 : (0 : Int) ≤ (nm : Int) := by omega
            have hn1 : (nm : Int) < (xs.length : Int) := by omega
            have hn3 : (nm : Int) < (n2 : Int) := by omega
            have hn4 : nm < n2 := by omega
            clear hv2 hv3 hlast hqv hbk hat9 hrd hl2 hm2 hn2
            generalize mkB T2.ps[nm].2 = qv at *
            generalize mkB xs[nm] = lv at *
            go_upto_region 25 with fail
            go_quiet (fail)
            go_wp2_with fail
            go_ret
            exact ⟨rfl, bt HWR.out (below_dn _ _ _)⟩
end Go.Proofs.YtgfjkpfjajjidaaDoor
