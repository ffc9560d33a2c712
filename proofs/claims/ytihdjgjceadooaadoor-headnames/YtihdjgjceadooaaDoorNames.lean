/- The walk of the law HeadNames. -/
import Derived.Test.YtihdjgjceadooaaDoorClose
import Derived.Test.YtihdjgjceadooaaDoorNamesPlain
import Derived.Test.YtihdjgjceadooaaDoorLowBig
import Derived.IntWalk
namespace Go.Proofs.YtihdjgjceadooaaDoor
open Go.RowKit Pl

theorem callB {f : FuncId} {args : Array Value} {r : Value} {W0 W : World} (hc : Hid (∀ w, Calls Tryd.prog f args w fun e w' => e = .returned r ∧ Below w.heap.size w w')) (h : Below W0.heap.size W0 W) :
    Calls Tryd.prog f args W fun e w' => e = .returned r ∧ Below W0.heap.size W0 w' := (hc.out W).mono fun _ _ ⟨he, hb⟩ => ⟨he, bt h hb⟩
theorem low_big (s : ByteArray) (w : World) (hs : s.size ≤ 140737488355328) : Calls Tryd.prog 16 #[.string s] w fun e w' => e = .returned (.string (lowS s)) ∧ Below w.heap.size w w' := lower_big s w hs
theorem ne_of_list {a : ByteArray} {n : ByteArray} {l : List UInt8} (hn : n.data.toList = l) (h : a.data.toList ≠ l) : a ≠ n := fun e => h (by rw [e, hn])

theorem keep3 {V W : World} {a1 a2 a3 : Addr} {x1 x2 x3 : Value} (hb : Below V.heap.size V W) (h1 : a1.block < V.heap.size) (h2 : a2.block < V.heap.size) (h3 : a3.block < V.heap.size) (hv : V.cell? a1 = some x1 ∧ V.cell? a2 = some x2 ∧ V.cell? a3 = some x3) :
    W.cell? a1 = some x1 ∧ W.cell? a2 = some x2 ∧ W.cell? a3 = some x3 := ⟨(hb.cell h1).trans hv.1, (hb.cell h2).trans hv.2.1, (hb.cell h3).trans hv.2.2⟩

set_option maxHeartbeats 4000000 in
set_option maxRecDepth 100000 in
theorem names_walk (l : List ByteArray) (A : Option Addr) (c : Nat) (v : ByteArray) (w : World) (hr : Rd w w.heap.size 1 A l.length (l.map .string)) (hn : l.length ≤ 12) (hsm : ∀ s ∈ l, s.size ≤ 140737488355328) (hv60 : v.size ≤ 60) (hval : valB v.data.toList = true) :
    Calls Tryd.prog 8 #[.slice A l.length c, .string v] w fun e w' => e = .returned (.bool true) ∧ Below w.heap.size w w' := by
  obtain ⟨i0, hi, hz0, hz1, hz2⟩ := info_parts Tryd.info9
  have HI := Lib.hid hi; have HZ0 := Lib.hid hz0; have HZ1 := Lib.hid hz1; have HZ2 := Lib.hid hz2
  have HR := Lib.hid hr; have HSM := Lib.hid hsm; have HVAL := Lib.hid hval
  have HTV := Lib.hid fun w => trim_any v w (by omega)
  have hvc := fun w => val_any (trS v) w
  rw [show valB (trS v).data.toList = true from by rw [trS_data, val_tr_eq]; exact hval] at hvc
  have HVV := Lib.hid hvc
  clear hi hz0 hz1 hz2 hr hsm hval hvc
  go_enter Tryd.func8, Tryd.ntmps8
  go_wp2_with fail
  refine (fit_any _).mono ?_
  rintro e w1 ⟨rfl, hb1⟩
  go_wp2_with fail
  refine (HTV.out _).mono ?_
  rintro e w2 ⟨rfl, hb2⟩
  go_wp2_with fail
  refine (HVV.out _).mono ?_
  rintro e w3 ⟨rfl, hb3⟩
  have hb03 := bt (bt hb1 hb2) hb3
  go_wp2_with fail
  have hown0 : (w3.alloc (Obj.cells #[Value.string { data := #[71, 69, 84, 32, 47, 32, 72, 84, 84, 80, 47, 49, 46, 49] }, Value.string { data := #[72, 79, 83, 84, 58, 32, 97] }] 9)).ownsRow w.heap.size 9 1 (.slice (some ⟨w3.heap.size, 0, none⟩) 2 2) (linesN v (l.take 0)).length ((linesN v (l.take 0)).map .string) :=
    own_blk (heap_alloc_new w3 _) hb03.size rfl (by decide)
  have hb4 : Below w.heap.size w (w3.alloc (Obj.cells #[Value.string { data := #[71, 69, 84, 32, 47, 32, 72, 84, 84, 80, 47, 49, 46, 49] }, Value.string { data := #[72, 79, 83, 84, 58, 32, 97] }] 9)) := ba hb03 _
  generalize w3.alloc (Obj.cells #[Value.string { data := #[71, 69, 84, 32, 47, 32, 72, 84, 84, 80, 47, 49, 46, 49] }, Value.string { data := #[72, 79, 83, 84, 58, 32, 97] }] 9) = W at *
  go_loopw [5, 31] (fun q i wr => ∃ k : Nat, k ≤ l.length ∧ i = .int .i64 k ∧ wr.ownsRow w.heap.size 9 1 q (linesN v (l.take k)).length ((linesN v (l.take k)).map .string) ∧ Below w.heap.size w wr ∧ Hid (∀ x ∈ l.take k, okN x ∧ x.size ≤ 40)) (fun _ i _ => l.length - (intOf i).toNat)
  case atStart => exact ⟨0, by omega, rfl, hown0, hb4, fun x hx => by simp at hx⟩
  case round =>
    obtain ⟨k, hk, rfl, hown, hbr, hokk⟩ := hrel
    clear hown0 hb4
    by_cases hlt : k < l.length
    · obtain ⟨a, rfl, hab, hc⟩ := (HR.out.below hbr (Nat.le_refl _)).at hlt (.string l[k]) (by simp [hlt])
      have hsz := HSM.out l[k] (List.getElem_mem hlt)
      have hls := linesN_snoc v l k hlt
      have htk : l.take (k + 1) = l.take k ++ [l[k]] := List.take_succ_eq_append_getElem hlt
      have hll := linesN_len v (l.take k)
      rw [List.length_take] at hll
      generalize l[k] = s at *
      have HLS := Lib.hid hls; have HTK := Lib.hid htk
      have hlk : (linesN v (l.take k)).length ≤ 14 := by omega
      have HLO := Lib.hid fun w => low_big s w hsz
      have htc := fun w => tok_any s w
      have q1 := eq_list (lowS s) [104, 111, 115, 116]
      have q2 := eq_list (lowS s) [99, 111, 110, 116, 101, 110, 116, 45, 108, 101, 110, 103, 116, 104]
      have q3 := eq_list (lowS s) [116, 114, 97, 110, 115, 102, 101, 114, 45, 101, 110, 99, 111, 100, 105, 110, 103]
      clear hls htk hll
      generalize hlow : lowS s = low at *
      have HLW := Lib.hid hlow
      clear hlow
      go_wp2_with fail
      refine (HLO.out _).mono ?_
      rintro e w5 ⟨rfl, hb5⟩
      by_cases h40 : s.size ≤ 40
      · cases ht : tokB s.data.toList with
        | false =>
          rw [ht] at htc
          have HT := Lib.hid htc
          clear htc ht q1 q2 q3
          go_wp2_with fail
          refine (HT.out _).mono ?_
          rintro e w6 ⟨rfl, hb6⟩
          go_wp2_with fail
          go_ret
          exact ⟨rfl, bt (bt hbr hb5) hb6⟩
        | true =>
          rw [ht] at htc
          have HT := Lib.hid htc; have HTB := Lib.hid ht
          clear htc ht
          have hown5 := own_below hown hb5
          go_wp2_with fail
          refine (HT.out _).mono ?_
          rintro e w6 ⟨rfl, hb6⟩
          have hown6 := own_below hown5 hb6
          have hbw6 := bt (bt hbr hb5) hb6
          by_cases n1 : low.data.toList = [104, 111, 115, 116]
          · rw [decide_eq_true n1] at q1
            clear n1 q2 q3 hown hown5 hown6
            go_wp2_with fail
            go_ret
            exact ⟨rfl, hbw6⟩
          · by_cases n2 : low.data.toList = [99, 111, 110, 116, 101, 110, 116, 45, 108, 101, 110, 103, 116, 104]
            · rw [decide_eq_false n1] at q1
              rw [decide_eq_true n2] at q2
              clear n1 n2 q3 hown hown5 hown6
              go_wp2_with fail
              go_ret
              exact ⟨rfl, hbw6⟩
            · by_cases n3 : low.data.toList = [116, 114, 97, 110, 115, 102, 101, 114, 45, 101, 110, 99, 111, 100, 105, 110, 103]
              · rw [decide_eq_false n1] at q1
                rw [decide_eq_false n2] at q2
                rw [decide_eq_true n3] at q3
                clear n1 n2 n3 hown hown5 hown6
                go_wp2_with fail
                go_ret
                exact ⟨rfl, hbw6⟩
              · rw [decide_eq_false n1] at q1
                rw [decide_eq_false n2] at q2
                rw [decide_eq_false n3] at q3
                have HOK : Hid (okN s) := ⟨HTB.out, by rw [HLW.out]; exact ne_of_list rfl n1, by rw [HLW.out]; exact ne_of_list rfl n2, by rw [HLW.out]; exact ne_of_list rfl n3⟩
                clear n1 n2 n3 hown hown5
                go_wp2_with (at_builtin; refine wpList_append_own _ rfl _ _ 24 rfl w.heap.size 9 i0 (.string ⟨#[]⟩) 1 16 Tryd.underlying24 HI.out HZ0.out HZ1.out HZ2.out rfl (by decide) _ _ _ rfl (hown6.alloc _) ⟨w6.heap.size, 0, none⟩ 1 1 [.string (nameL v s)] rfl rfl ?c1 ?c2 ?c3 ?c4 ?c5 ?_)
                case c1 => exact cell_one_new w6 (.string (nameL v s)) 9
                case c2 => intro u hu; simp at hu; subst hu; rfl
                case c3 => unfold maxLen; omega
                case c4 => omega
                case c5 => have := hbw6.size; simp; omega
                intro v' w7 hown' hgr _
                have hb7 : Below w.heap.size w w7 := (ba hbw6 _).grown hgr (by have := hbw6.size; simp; omega) (fun k hk => (hown6.lt k hk).1)
                have hO7 : w7.ownsRow w.heap.size 9 1 v' (linesN v (l.take (k + 1))).length ((linesN v (l.take (k + 1))).map .string) := by
                  rw [HLS.out, List.length_append, List.map_append]; exact hown'
                have HO7 := Lib.hid hO7
                have HVN : Hid (∀ x ∈ l.take (k + 1), okN x ∧ x.size ≤ 40) := by
                  intro x hx
                  rw [HTK.out, List.mem_append, List.mem_singleton] at hx
                  rcases hx with hx | rfl
                  · exact hokk.out x hx
                  · exact ⟨HOK.out, h40⟩
                clear hown' hgr hown6 hO7 q1 q2 q3
                go_wp2_with fail
                go_roundw
                case rel => exact ⟨k + 1, by omega, by go_num, HO7.out, hb7, HVN⟩
                case measure => simp [intOf]; omega
      · clear htc q1 q2 q3
        go_wp2_with fail
        go_ret
        exact ⟨rfl, bt hbr hb5⟩
    · have hE : l.take k = l := List.take_of_length_le (by omega)
      rw [hE] at hown hokk
      clear hE
      have hll := linesN_len v l
      obtain ⟨g2, cg, rfl, hrd, hcc, hcm, hgb, hgl⟩ := own_rd hown (by omega)
      have HS : Hid (∀ s ∈ linesN v l, s.size ≤ 1000000) := by
        intro s hs
        unfold linesN at hs
        rw [List.mem_cons, List.mem_cons, List.mem_map] at hs
        rcases hs with rfl | rfl | ⟨x, hx, rfl⟩
        · decide
        · decide
        · have := (hokk.out x hx).2
          unfold nameL
          rw [app_size, app_size]
          have : colonS.size = 1 := rfl
          omega
      have hpa := parse_any (linesN v l) _ cg wr hrd (by omega) hcc hcm HS.out
      obtain ⟨cl, hpn⟩ := parse_names v HVAL.out l (fun s hs => (hokk.out s hs).1) hn
      rw [hpn] at hpa
      have HPA := Lib.hid hpa
      have HFL := Lib.hid (fldsN_len v l)
      clear hpa hown hrd hll hpn
      go_wp2_with fail
      refine HPA.out.mono ?_
      rintro e w4 ⟨vv, rfl, hov, hb4⟩
      obtain ⟨gf, cf, rfl, hgf, hgfl, hcf⟩ := own_shape hov (by rw [HFL.out]; omega)
      simp only at hov
      have k0 := hov.cells (g := gf) rfl 0 (.string hostN) rfl
      have k1 := hov.cells (g := gf) rfl 1 (.string aS) rfl
      rw [add_zero_own] at k0 k1
      have HOV := Lib.hid hov
      clear hov
      simp only [hdVal]
      unfold hostN at k0
      unfold aS at k1
      have hal0 := fun o => (World.cell?_alloc_lt w4 o ⟨gf, 0, none⟩ hgfl).trans k0
      have hal1 := fun o => (World.cell?_alloc_lt w4 o ⟨gf, 1, none⟩ hgfl).trans k1
      rw [HFL.out]
      go_wp2_with fail
      have hVb : Below w.heap.size w (w4.alloc (Obj.cells #[Value.string { data := #[71, 69, 84] }, Value.string { data := #[47] }, Value.slice (some { block := gf, off := 0 }) (l.length + 1) cf, Value.string { data := #[] }, Value.bool cl, Value.int IntKind.i64 0, Value.int IntKind.i64 0] 32)) := ba (bt hbr hb4) _
      have hVh := blk_cell (heap_alloc_new w4 (Obj.cells #[Value.string { data := #[71, 69, 84] }, Value.string { data := #[47] }, Value.slice (some { block := gf, off := 0 }) (l.length + 1) cf, Value.string { data := #[] }, Value.bool cl, Value.int IntKind.i64 0, Value.int IntKind.i64 0] 32)) 2
      have hVs : w4.heap.size < (w4.alloc (Obj.cells #[Value.string { data := #[71, 69, 84] }, Value.string { data := #[47] }, Value.slice (some { block := gf, off := 0 }) (l.length + 1) cf, Value.string { data := #[] }, Value.bool cl, Value.int IntKind.i64 0, Value.int IntKind.i64 0] 32)).heap.size := by simp
      have hVc : ∀ j u, (fldCells (fldsN v l))[j]? = some u → (w4.alloc (Obj.cells #[Value.string { data := #[71, 69, 84] }, Value.string { data := #[47] }, Value.slice (some { block := gf, off := 0 }) (l.length + 1) cf, Value.string { data := #[] }, Value.bool cl, Value.int IntKind.i64 0, Value.int IntKind.i64 0] 32)).cell? ⟨gf, j, none⟩ = some u := fun j u hu => by
        have h1 := HOV.out.cells (g := gf) rfl j u hu
        rw [add_zero_own] at h1
        exact (World.cell?_alloc_lt w4 _ ⟨gf, j, none⟩ hgfl).trans h1
      have HVh := Lib.hid hVh; have HVc := Lib.hid hVc
      clear hVh hVc hal0 hal1 k0 k1
      generalize w4.alloc (Obj.cells #[Value.string { data := #[71, 69, 84] }, Value.string { data := #[47] }, Value.slice (some { block := gf, off := 0 }) (l.length + 1) cf, Value.string { data := #[] }, Value.bool cl, Value.int IntKind.i64 0, Value.int IntKind.i64 0] 32) = V at *
      have hgfV : gf < V.heap.size := by omega
      generalize w4.heap.size = gh at *
      go_loopw [91] (fun i wq => ∃ j : Nat, j ≤ l.length ∧ i = .int .i64 j ∧ Below V.heap.size V wq) (fun i _ => l.length - (intOf i).toNat)
      case atStart => exact ⟨0, by omega, rfl, Below.refl _ _⟩
      case round =>
        obtain ⟨j, hj, rfl, hbq⟩ := hrel
        by_cases hjl : j < l.length
        · obtain ⟨a, rfl, hab, hc⟩ := (HR.out.below (bt hVb hbq) (Nat.le_refl _)).at hjl (.string l[j]) (by simp [hjl])
          have hsz := (hokk.out l[j] (List.getElem_mem hjl)).2
          have hat := fldsN_at v l j hjl
          have hv3 : V.cell? ⟨gh, 2, none⟩ = some (.slice (some ⟨gf, 0, none⟩) (l.length + 1) cf) ∧ V.cell? ⟨gf, (j + 1) * 2, none⟩ = some (.string (lowS l[j])) ∧ V.cell? ⟨gf, (j + 1) * 2 + 1, none⟩ = some (.string (trS v)) :=
            ⟨HVh.out, HVc.out _ _ hat.1, HVc.out _ _ hat.2⟩
          have HV3 := Lib.hid hv3
          clear hv3
          have HLJ := Lib.hid fun w => low_big l[j] w (by omega)
          clear hat
          generalize l[j] = s at *
          generalize lowS s = low at *
          generalize trS v = tv at *
          go_wp2_with fail
          have e1 : IntKind.i64.wrap ((j : Int) + 1) = (j : Int) + 1 := IntWalk.i64_in _ (by omega)
          have e2 : (0 : Int) ≤ (j : Int) + 1 := by omega
          have e3 : ((j : Int) + 1).toNat = j + 1 := by omega
          have e4 : (j : Int) + 1 < (l.length : Int) + 1 := by omega
          have e5 : j + 1 < l.length + 1 := by omega
          have hb0 : Below V.heap.size V wr.drew := hbq.drew
          go_region_held3 (fun W => W.cell? ⟨gh, 2, none⟩ = some (.slice (some ⟨gf, 0, none⟩) (l.length + 1) cf) ∧ W.cell? ⟨gf, (j + 1) * 2, none⟩ = some (.string low) ∧ W.cell? ⟨gf, (j + 1) * 2 + 1, none⟩ = some (.string tv))
            (first | (exact keep3 hb0 hVs hgfV hgfV HV3.out) | (exact keep3 hba hVs hgfV hgfV HV3.out) | (exact keep3 hbb hVs hgfV hgfV HV3.out))
            ((first
              | (go_at_call 16; refine (callB HLJ hb0).mono ?_; rintro e wa ⟨rfl, hba⟩)
              | (go_at_call 14; refine (callB HTV hba).mono ?_; rintro e wb ⟨rfl, hbb⟩)))
          go_wp2_with fail
          go_roundw
          case rel => exact ⟨j + 1, by omega, by go_num, hbb⟩
          case measure => simp [intOf]; omega
        · go_wp2_with fail
          go_ret
          exact ⟨rfl, bt hVb hbq⟩

set_option maxHeartbeats 1000000 in
set_option maxRecDepth 100000 in
theorem names_any (l : List ByteArray) (A : Option Addr) (c : Nat) (v : ByteArray) (w : World) (hr : Rd w w.heap.size 1 A l.length (l.map .string)) (hl : l.length ≤ c) (hc : c ≤ maxLen) (hsm : ∀ s ∈ l, s.size ≤ 140737488355328) (hv : v.size ≤ 140737488355328) :
    Calls Tryd.prog 8 #[.slice A l.length c, .string v] w fun e w' => e = .returned (.bool true) ∧ Below w.heap.size w w' := by
  by_cases hn : l.length ≤ 12
  · by_cases hv60 : v.size ≤ 60
    · cases hval : valB v.data.toList with
      | true => exact names_walk l A c v w hr hn hsm hv60 hval
      | false =>
        have HTV := Lib.hid fun w => trim_any v w (by omega)
        have hvc := fun w => val_any (trS v) w
        rw [show valB (trS v).data.toList = false from by rw [trS_data, val_tr_eq]; exact hval] at hvc
        have HVV := Lib.hid hvc
        unfold maxLen at hc
        clear hr hsm hval hvc
        go_enter Tryd.func8, Tryd.ntmps8
        go_wp2_with fail
        refine (fit_any _).mono ?_
        rintro e w1 ⟨rfl, hb1⟩
        go_wp2_with fail
        refine (HTV.out _).mono ?_
        rintro e w2 ⟨rfl, hb2⟩
        go_wp2_with fail
        refine (HVV.out _).mono ?_
        rintro e w3 ⟨rfl, hb3⟩
        go_wp2_with fail
        go_ret
        exact ⟨rfl, bt (bt hb1 hb2) hb3⟩
    · unfold maxLen at hc
      clear hr hsm
      go_enter Tryd.func8, Tryd.ntmps8
      go_wp2_with fail
      refine (fit_any _).mono ?_
      rintro e w1 ⟨rfl, hb1⟩
      go_wp2_with fail
      go_ret
      exact ⟨rfl, hb1⟩
  · unfold maxLen at hc
    clear hr hsm
    go_enter Tryd.func8, Tryd.ntmps8
    go_wp2_with fail
    refine (fit_any _).mono ?_
    rintro e w1 ⟨rfl, hb1⟩
    go_wp2_with fail
    go_ret
    exact ⟨rfl, hb1⟩

end Go.Proofs.YtihdjgjceadooaaDoor
