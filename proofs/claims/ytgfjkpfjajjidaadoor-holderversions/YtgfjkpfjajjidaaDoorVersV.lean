/- The walk of HolderVersions. -/
import Derived.Test.YtgfjkpfjajjidaaDoorHoFit
import Derived.Test.YtgfjkpfjajjidaaDoorParamsM
import Derived.Deep.RegionHeld
namespace Go.Proofs.YtgfjkpfjajjidaaDoor
open Go.RowKit Pl

def oneR : Rt := ⟨[71, 69, 84], [47, 97], [103, 101, 116]⟩
theorem parse_good : parseL [71, 69, 84, 32, 47, 97, 32, 103, 101, 116] = ([oneR], 0) := by decide +kernel
theorem parse_bad : parseL [71, 69, 84, 32, 47, 97, 32, 110, 111, 98, 111, 100, 121] = ([], 1) := by decide +kernel
theorem one_law : Law [oneR] := law_check (by decide +kernel) (by decide +kernel)
/-- The table behind some texts, by the version. -/
def verL (m : Nat) : List Rt := if m ≤ 1 then [] else [oneR]
theorem ver_law (m : Nat) : Law (verL m) := by
  unfold verL
  split
  · exact law_nil
  · exact one_law
theorem swap_good (G : Nat) (v A : Option Addr) (n c m : Nat) (w : World) (h : HoAt w G v A n c (verL m) m) (hw : HB w) (hm : 1 ≤ m) (hm2 : m ≤ 1000) :
    Calls Tryd.prog 16 #[.pointer (some ⟨G, 0, none⟩), .string ⟨#[71, 69, 84, 32, 47, 97, 32, 103, 101, 116]⟩] w fun e w' => ∃ v' A' n' c', e = .returned (.tuple #[.int .i64 (m + 1 : Nat), .int .i64 0]) ∧ HoAt w' G v' A' n' c' (verL (m + 1)) (m + 1) ∧ Swp G w w' := by
  have hp : parseL (ByteArray.mk #[71, 69, 84, 32, 47, 97, 32, 103, 101, 116]).data.toList = ([oneR], 0) := parse_good
  have h1 := swap_any G v A n c m (verL m) ⟨#[71, 69, 84, 32, 47, 97, 32, 103, 101, 116]⟩ w h hw (by decide) (by omega)
  rw [swapN, swapL, swapV, hp, if_pos rfl, if_pos rfl, if_pos rfl] at h1
  rw [show verL (m + 1) = [oneR] from if_neg (by omega)]
  exact h1
theorem swap_no (G : Nat) (v A : Option Addr) (n c m : Nat) (w : World) (h : HoAt w G v A n c (verL m) m) (hw : HB w) (hm2 : m ≤ 1000) :
    Calls Tryd.prog 16 #[.pointer (some ⟨G, 0, none⟩), .string ⟨#[71, 69, 84, 32, 47, 97, 32, 110, 111, 98, 111, 100, 121]⟩] w fun e w' => ∃ v' A' n' c', e = .returned (.tuple #[.int .i64 0, .int .i64 1]) ∧ HoAt w' G v' A' n' c' (verL m) m ∧ Swp G w w' := by
  have hp : parseL (ByteArray.mk #[71, 69, 84, 32, 47, 97, 32, 110, 111, 98, 111, 100, 121]).data.toList = ([], 1) := parse_bad
  have h1 := swap_any G v A n c m (verL m) ⟨#[71, 69, 84, 32, 47, 97, 32, 110, 111, 98, 111, 100, 121]⟩ w h hw (by decide) (by omega)
  rw [swapN, swapL, swapV, hp, if_neg (by decide), if_neg (by decide), if_neg (by decide)] at h1
  exact h1
theorem new_none (w : World) (hw : HB w) : Calls Tryd.prog 12 #[.slice none 0 0] w fun e w' => ∃ G v A' c', e = .returned (.pointer (some ⟨G, 0, none⟩)) ∧ HoAt w' G v A' 0 c' (verL 1) 1 ∧ w.heap.size ≤ G ∧ Below w.heap.size w w' :=
  new_any [] none 0 w (rd_zero _ _ _ _) hw (by decide) (fun r hr => by cases hr)
def pmT : Array MapEntry := #[⟨.bool true, .int .i64 1, 0⟩]
def pmF : Array MapEntry := #[⟨.bool false, .int .i64 0, 0⟩]
def pmTF : Array MapEntry := #[⟨.bool true, .int .i64 1, 0⟩, ⟨.bool false, .int .i64 0, 1⟩]
def pmFT : Array MapEntry := #[⟨.bool false, .int .i64 0, 0⟩, ⟨.bool true, .int .i64 1, 1⟩]
theorem sm_insT (W : World) (r : Nat) (hb : W.heap[r]? = some (.map #[] 0)) :
    ∃ W', (Instr.mapUpdate 26 (.map (some r)) (.bool true) (.int .i64 1)).run Tryd.prog W = .ok () W' ∧ W'.heap[r]? = some (.map pmT 1) ∧ W'.heap.size = W.heap.size ∧ (∀ B, B ≤ r → Below B W W') ∧ ∀ j, j ≠ r → W'.heap[j]? = W.heap[j]? := by
  refine ⟨{ W with heap := W.heap.setIfInBounds r (.map ((#[] : Array MapEntry).push ⟨.bool true, .int .i64 1, 0⟩) (0 + 1)) }, ?_, (MapKept.heap_set hb).1, by simp, fun B hB => ⟨rfl, rfl, rfl, by simp, fun j hj => (MapKept.heap_set hb).2 j (by omega)⟩, fun j hj => (MapKept.heap_set hb).2 j hj⟩
  have hc : (Instr.checkKey false 10000 4 (.bool true)).run Tryd.prog W = .ok () W := MapKept.run_checkKey (k := .bool true) Tryd.underlying4 (by simp [MapKept.IsKey]) false 9999
  have hf : Instr.findNow .bool (.bool true) (#[] : Array MapEntry).toList 0 = some none := rfl
  simp [Instr.mapUpdate, run_underlying Tryd.underlying26, MapKept.run_getObj_map hb, hc, MapKept.run_findKey Tryd.underlying4 hf, MapKept.run_setObj_map _ hb, Result.andThen]
theorem sm_insF (W : World) (r : Nat) (hb : W.heap[r]? = some (.map #[] 0)) :
    ∃ W', (Instr.mapUpdate 26 (.map (some r)) (.bool false) (.int .i64 0)).run Tryd.prog W = .ok () W' ∧ W'.heap[r]? = some (.map pmF 1) ∧ W'.heap.size = W.heap.size ∧ (∀ B, B ≤ r → Below B W W') ∧ ∀ j, j ≠ r → W'.heap[j]? = W.heap[j]? := by
  refine ⟨{ W with heap := W.heap.setIfInBounds r (.map ((#[] : Array MapEntry).push ⟨.bool false, .int .i64 0, 0⟩) (0 + 1)) }, ?_, (MapKept.heap_set hb).1, by simp, fun B hB => ⟨rfl, rfl, rfl, by simp, fun j hj => (MapKept.heap_set hb).2 j (by omega)⟩, fun j hj => (MapKept.heap_set hb).2 j hj⟩
  have hc : (Instr.checkKey false 10000 4 (.bool false)).run Tryd.prog W = .ok () W := MapKept.run_checkKey (k := .bool false) Tryd.underlying4 (by simp [MapKept.IsKey]) false 9999
  have hf : Instr.findNow .bool (.bool false) (#[] : Array MapEntry).toList 0 = some none := rfl
  simp [Instr.mapUpdate, run_underlying Tryd.underlying26, MapKept.run_getObj_map hb, hc, MapKept.run_findKey Tryd.underlying4 hf, MapKept.run_setObj_map _ hb, Result.andThen]
theorem sm_insTF (W : World) (r : Nat) (hb : W.heap[r]? = some (.map pmT 1)) :
    ∃ W', (Instr.mapUpdate 26 (.map (some r)) (.bool false) (.int .i64 0)).run Tryd.prog W = .ok () W' ∧ W'.heap[r]? = some (.map pmTF 2) ∧ W'.heap.size = W.heap.size ∧ (∀ B, B ≤ r → Below B W W') ∧ ∀ j, j ≠ r → W'.heap[j]? = W.heap[j]? := by
  refine ⟨{ W with heap := W.heap.setIfInBounds r (.map ((pmT : Array MapEntry).push ⟨.bool false, .int .i64 0, 1⟩) (1 + 1)) }, ?_, (MapKept.heap_set hb).1, by simp, fun B hB => ⟨rfl, rfl, rfl, by simp, fun j hj => (MapKept.heap_set hb).2 j (by omega)⟩, fun j hj => (MapKept.heap_set hb).2 j hj⟩
  have hc : (Instr.checkKey false 10000 4 (.bool false)).run Tryd.prog W = .ok () W := MapKept.run_checkKey (k := .bool false) Tryd.underlying4 (by simp [MapKept.IsKey]) false 9999
  have hf : Instr.findNow .bool (.bool false) (pmT : Array MapEntry).toList 0 = some none := rfl
  simp [Instr.mapUpdate, run_underlying Tryd.underlying26, MapKept.run_getObj_map hb, hc, MapKept.run_findKey Tryd.underlying4 hf, MapKept.run_setObj_map _ hb, Result.andThen]
theorem sm_insFT (W : World) (r : Nat) (hb : W.heap[r]? = some (.map pmF 1)) :
    ∃ W', (Instr.mapUpdate 26 (.map (some r)) (.bool true) (.int .i64 1)).run Tryd.prog W = .ok () W' ∧ W'.heap[r]? = some (.map pmFT 2) ∧ W'.heap.size = W.heap.size ∧ (∀ B, B ≤ r → Below B W W') ∧ ∀ j, j ≠ r → W'.heap[j]? = W.heap[j]? := by
  refine ⟨{ W with heap := W.heap.setIfInBounds r (.map ((pmF : Array MapEntry).push ⟨.bool true, .int .i64 1, 1⟩) (1 + 1)) }, ?_, (MapKept.heap_set hb).1, by simp, fun B hB => ⟨rfl, rfl, rfl, by simp, fun j hj => (MapKept.heap_set hb).2 j (by omega)⟩, fun j hj => (MapKept.heap_set hb).2 j hj⟩
  have hc : (Instr.checkKey false 10000 4 (.bool true)).run Tryd.prog W = .ok () W := MapKept.run_checkKey (k := .bool true) Tryd.underlying4 (by simp [MapKept.IsKey]) false 9999
  have hf : Instr.findNow .bool (.bool true) (pmF : Array MapEntry).toList 0 = some none := rfl
  simp [Instr.mapUpdate, run_underlying Tryd.underlying26, MapKept.run_getObj_map hb, hc, MapKept.run_findKey Tryd.underlying4 hf, MapKept.run_setObj_map _ hb, Result.andThen]
theorem sm_lookTF (W : World) (r : Nat) (b : Bool) (hb : W.heap[r]? = some (.map pmTF 2)) : (Instr.lookup 26 (.map (some r)) (.bool b) false).run Tryd.prog W = .ok (.int .i64 (if b then 1 else 0)) W := by
  have hc : ∀ c, (Instr.checkKey c 10000 4 (.bool b)).run Tryd.prog W = .ok () W := fun c => MapKept.run_checkKey (k := .bool b) Tryd.underlying4 (by simp [MapKept.IsKey]) c 9999
  cases b with
  | true =>
    have hf : Instr.findNow .bool (.bool true) pmTF.toList 0 = some (some (0, .int .i64 1)) := rfl
    simp [Instr.lookup, run_underlying Tryd.underlying26, MapKept.run_getObj_map hb, hc, MapKept.run_findKey Tryd.underlying4 hf, Result.andThen]
  | false =>
    have hf : Instr.findNow .bool (.bool false) pmTF.toList 0 = some (some (1, .int .i64 0)) := rfl
    simp [Instr.lookup, run_underlying Tryd.underlying26, MapKept.run_getObj_map hb, hc, MapKept.run_findKey Tryd.underlying4 hf, Result.andThen]
theorem sm_lookFT (W : World) (r : Nat) (b : Bool) (hb : W.heap[r]? = some (.map pmFT 2)) : (Instr.lookup 26 (.map (some r)) (.bool b) false).run Tryd.prog W = .ok (.int .i64 (if b then 1 else 0)) W := by
  have hc : ∀ c, (Instr.checkKey c 10000 4 (.bool b)).run Tryd.prog W = .ok () W := fun c => MapKept.run_checkKey (k := .bool b) Tryd.underlying4 (by simp [MapKept.IsKey]) c 9999
  cases b with
  | true =>
    have hf : Instr.findNow .bool (.bool true) pmFT.toList 0 = some (some (1, .int .i64 1)) := rfl
    simp [Instr.lookup, run_underlying Tryd.underlying26, MapKept.run_getObj_map hb, hc, MapKept.run_findKey Tryd.underlying4 hf, Result.andThen]
  | false =>
    have hf : Instr.findNow .bool (.bool false) pmFT.toList 0 = some (some (0, .int .i64 0)) := rfl
    simp [Instr.lookup, run_underlying Tryd.underlying26, MapKept.run_getObj_map hb, hc, MapKept.run_findKey Tryd.underlying4 hf, Result.andThen]
/-- How many routes a tree has. -/
def LenAt (W : World) (v : Option Addr) (n : Nat) : Prop := (v = none ∧ n = 0) ∨ ∃ g, v = some ⟨g, 0, none⟩ ∧ W.cell? ⟨g, 1, none⟩ = some (.int .i64 n)
theorem LenAt.of {W : World} {B : Nat} {v : Option Addr} {l : List Rt} (h : Tr W B v l) : LenAt W v l.length := by
  rcases h with ⟨rfl, rfl⟩ | ⟨g, rv, rfl, hg, c0, c1, hn⟩
  · exact .inl ⟨rfl, rfl⟩
  · exact .inr ⟨g, rfl, c1⟩
theorem LenAt.on {W W' : World} {v : Option Addr} {n : Nat} (h : LenAt W v n) (hb : Below W.heap.size W W') : LenAt W' v n := by
  rcases h with h | ⟨g, e, c⟩
  · exact .inl h
  · exact .inr ⟨g, e, (hb.cell (p := ⟨g, 1, none⟩) (World.block_lt_of_cell? _ _ c)).trans c⟩
theorem LenAt.map {W W' : World} {v : Option Addr} {n r k : Nat} {es : Array MapEntry} (h : LenAt W v n) (hm : W.heap[r]? = some (.map es k)) (ho : ∀ j, j ≠ r → W'.heap[j]? = W.heap[j]?) : LenAt W' v n := by
  rcases h with h | ⟨g, e, c⟩
  · exact .inl h
  · refine .inr ⟨g, e, (World.cell?_of_block (a := ⟨g, 1, none⟩) (ho g fun hg => ?_)).trans c⟩
    subst hg
    simp [World.cell?, hm] at c
theorem len_at {W : World} {v : Option Addr} {n : Nat} (h : LenAt W v n) : Calls Tryd.prog 17 #[.pointer v] W fun e w' => e = .returned (.int .i64 n) ∧ W = w' := by
  rcases h with ⟨rfl, rfl⟩ | ⟨g, rfl, c1⟩
  · go_enter Tryd.func17, Tryd.ntmps17
    go_wp2_with fail
    go_ret
    exact ⟨rfl, rfl⟩
  · go_enter Tryd.func17, Tryd.ntmps17
    go_wp2_with fail
    go_ret
    exact ⟨rfl, rfl⟩
def blV (b : Bool) : Value := .bool b

set_option maxRecDepth 100000 in
set_option maxHeartbeats 8000000 in
theorem vers_walk0 (l : List Bool) (A : Option Addr) (c : Nat) (w : World) (hr : Rd w w.heap.size 1 A l.length (l.map blV)) (hn : l.length ≤ 100) (hw : HB w) :
    Calls Tryd.prog 5 #[.slice A l.length c] w fun e w' => e = .returned (.bool true) ∧ Below w.heap.size w w' := by
  have HW := Lib.hid hw
  have HR := Lib.hid hr
  have HF := Lib.hid (fith_any w hw)
  have HNW := Lib.hid (fun w1 (hb : Below w.heap.size w w1) => new_none w1 (hw.below hb))
  have HSG := Lib.hid (fun G v A n c m w1 (hb : Below w.heap.size w w1) h h1 h2 => swap_good G v A n c m w1 h (hw.below hb) h1 h2)
  have HSB := Lib.hid (fun G v A n c m w1 (hb : Below w.heap.size w w1) h h2 => swap_no G v A n c m w1 h (hw.below hb) h2)
  have HLD := Lib.hid (fun G v A n c m w1 (h : HoAt w1 G v A n c (verL m) m) => load_any G v A n c (verL m) m w1 h (ver_law m))
  have hfv := field_v
  have hft := field_t
  clear hr hw
  go_enter Tryd.func5, Tryd.ntmps5
  go_wp2_with fail
  refine HF.out.mono ?_
  rintro e w1 ⟨rfl, hb1⟩
  have HB1 := Lib.hid hb1
  clear hb1
  go_wp2_with fail
  refine (HNW.out w1 HB1.out).mono ?_
  rintro e w2 ⟨G, v, A2, c2, rfl, hh, hG, hb2⟩
  have HB2 := Lib.hid (bt HB1.out hb2)
  have HH2 := Lib.hid hh
  have HG : Hid (w.heap.size ≤ G) := Nat.le_trans HB1.out.size hG
  clear hh hG hb2
  go_wp2_with fail
  go_loopw [4, 18] (fun nv i wr => ∃ (k m : Nat) (v A : Option Addr) (n c : Nat), k ≤ l.length ∧ i = .int .i64 k ∧ nv = .int .i64 m ∧ 1 ≤ m ∧ m ≤ 1 + k ∧ Hid (HoAt wr G v A n c (verL m) m) ∧ Hid (Below w.heap.size w wr)) (fun _ i _ => l.length - (intOf i).toNat)
  case atStart => exact ⟨0, 1, v, A2, 0, c2, by omega, rfl, rfl, by omega, by omega, HH2.out, HB2.out⟩
  case round =>
    obtain ⟨k, m, v3, A3, n3, c3, hk, rfl, rfl, hm1, hm2, HH, HB⟩ := hrel
    by_cases hlt : k < l.length
    · obtain ⟨a, rfl, hab, k0⟩ := (HR.out.below HB.out (Nat.le_refl _)).at hlt (blV l[k]) (by simp [hlt])
      unfold blV at k0
      have hmi : (m : Int) + 1 ≤ 1000 := by omega
      have hmi2 : (0 : Int) ≤ (m : Int) := by omega
      have HSG2 := Lib.hid (HSG.out G v3 A3 n3 c3 m wr HB.out HH.out hm1 (by omega))
      have HSB2 := Lib.hid (HSB.out G v3 A3 n3 c3 m wr HB.out HH.out (by omega))
      rw [show ((m + 1 : Nat) : Int) = (m : Int) + 1 from rfl] at HSG2
      cases hb : l[k] with
      | true =>
        rw [hb] at k0
        go_wp2_with fail
        refine HSG2.out.mono ?_
        rintro e w3 ⟨v4, A4, n4, c4, rfl, hh4, hs4⟩
        have HH4 := Lib.hid hh4
        have HB4 := Lib.hid (HB.out.trans (hs4.below HB.out.size HG.out))
        have HL4 := Lib.hid (HLD.out G v4 A4 n4 c4 (m + 1) w3 hh4)
        rw [show ((m + 1 : Nat) : Int) = (m : Int) + 1 from rfl] at HL4
        clear hh4 hs4
        go_wp2_with fail
        refine HL4.out.mono ?_
        rintro e w4 ⟨v5, A5, c5, rfl, _, hb5⟩
        have HB5 := Lib.hid (bt HB4.out hb5)
        have HH5 := Lib.hid (HH4.out.on hb5)
        clear hb5
        go_wp2_with fail
        go_roundw
        case rel => exact ⟨k + 1, m + 1, v4, A4, n4, c4, by omega, by go_num, rfl, by omega, by omega, HH5, HB5⟩
        case measure => simp [intOf]; omega
      | false =>
        rw [hb] at k0
        go_wp2_with fail
        refine HSB2.out.mono ?_
        rintro e w3 ⟨v4, A4, n4, c4, rfl, hh4, hs4⟩
        have HH4 := Lib.hid hh4
        have HB4 := Lib.hid (HB.out.trans (hs4.below HB.out.size HG.out))
        have HL4 := Lib.hid (HLD.out G v4 A4 n4 c4 m w3 hh4)
        clear hh4 hs4
        go_wp2_with fail
        refine HL4.out.mono ?_
        rintro e w4 ⟨v5, A5, c5, rfl, _, hb5⟩
        have HB5 := Lib.hid (bt HB4.out hb5)
        have HH5 := Lib.hid (HH4.out.on hb5)
        clear hb5
        go_wp2_with fail
        go_roundw
        case rel => exact ⟨k + 1, m, v4, A4, n4, c4, by omega, by go_num, rfl, by omega, by omega, HH5, HB5⟩
        case measure => simp [intOf]; omega
    · have hmm := @run_makeMap Tryd.prog
      obtain ⟨bb, hbb⟩ : ∃ bb : Bool, decide ((1 : Int) < (m : Int)) = bb := ⟨_, rfl⟩
      obtain ⟨nn, hnn⟩ : ∃ nn : Nat, (verL m).length = nn := ⟨_, rfl⟩
      have hbn : nn = if bb then 1 else 0 := by
        rw [← hnn, ← hbb]
        by_cases h1 : m ≤ 1
        · rw [show verL m = [] from if_pos h1, if_neg (by rw [decide_eq_true_eq]; omega)]; rfl
        · rw [show verL m = [oneR] from if_neg h1, if_pos (by rw [decide_eq_true_eq]; omega)]; rfl
      have HLTF : Hid (∀ W r, W.heap[r]? = some (.map pmTF 2) → (Instr.lookup 26 (.map (some r)) (.bool bb) false).run Tryd.prog W = .ok (.int .i64 nn) W) := fun W r h => by rw [sm_lookTF W r bb h, hbn]; cases bb <;> rfl
      have HLFT : Hid (∀ W r, W.heap[r]? = some (.map pmFT 2) → (Instr.lookup 26 (.map (some r)) (.bool bb) false).run Tryd.prog W = .ok (.int .i64 nn) W) := fun W r h => by rw [sm_lookFT W r bb h, hbn]; cases bb <;> rfl
      have HLX : Hid (∀ wx, Below wr.heap.size wr wx → Calls Tryd.prog 15 #[.pointer (some ⟨G, 0, none⟩)] wx fun e w' => ∃ v' A' c', e = .returned (.agg #[.pointer v', .int .i64 m, .slice A' n3 c']) ∧ LenAt w' v' nn ∧ Below wx.heap.size wx w') := fun wx hb => (HLD.out G v3 A3 n3 c3 m wx (HH.out.on hb)).mono fun e w' ⟨v', A', c', he, hs, hb'⟩ => ⟨v', A', c', he, hnn ▸ LenAt.of hs.tr, hb'⟩
      clear HLD HSG HSB HNW HF HR hm1 hm2 hbn hnn
      go_upto_region 18 with fail
      refine wp_region_held_drew (S := fun _ => True) (by kernel_rfl) trivial (fun hHeld => ?_)
      have hq0 : Below wr.heap.size wr wr.drew := (Below.refl _ _).drew
      generalize wr.drew = W0 at *
      refine giveH 0 51 (.pointer (some ⟨G, 0, none⟩)) rfl rfl (by kernel_rfl) (by kernel_rfl) (by kernel_rfl) (fun _ _ _ h => h) (by rfl) (by intro wx hSw; go_simp) (by assumption) ?_
      try simp only [Act.put, List.setIfInBounds_toArray, List.set_cons_zero, List.set_cons_succ]
      refine giveH 8 57 (.int .i64 m) rfl rfl (by kernel_rfl) (by kernel_rfl) (by kernel_rfl) (fun _ _ _ h => h) (by rfl) (by intro wx hSw; go_simp) (by assumption) ?_
      try simp only [Act.put, List.setIfInBounds_toArray, List.set_cons_zero, List.set_cons_succ]
      refine giveH 9 58 (.bool bb) rfl rfl (by kernel_rfl) (by kernel_rfl) (by kernel_rfl) (fun _ _ _ h => h) (by rfl) (by intro wx hSw; go_simp) (by assumption) ?_
      try simp only [Act.put, List.setIfInBounds_toArray, List.set_cons_zero, List.set_cons_succ]
      refine wpAnyH_ready (rs := [1, 4]) (by kernel_rfl) (by simp) ?_
      refine AllReadyH.cons rfl (fun K hK => ?_) (AllReadyH.cons rfl (fun K hK => ?_) AllReadyH.nil)
      · skip
        go_simp
        go_at_call 15
        refine (HLX.out W0 hq0).mono ?_
        rintro e W1 ⟨v5, A5, c5, rfl, hl1, hb1⟩
        have hq1 := bt hq0 hb1
        refine hK.out _ _ trivial (fun hHeld => ?_)
        clear hK K
        try simp only [Act.put, List.setIfInBounds_toArray, List.set_cons_zero, List.set_cons_succ]
        refine giveH 2 53 (.pointer v5) rfl rfl (by kernel_rfl) (by kernel_rfl) (by kernel_rfl) (fun _ _ _ h => h) (by rfl) (by intro wx hSw; go_simp) (by assumption) ?_
        try simp only [Act.put, List.setIfInBounds_toArray, List.set_cons_zero, List.set_cons_succ]
        refine wpAnyH_ready (rs := [3, 4]) (by kernel_rfl) (by simp) ?_
        refine AllReadyH.cons rfl (fun K hK => ?_) (AllReadyH.cons rfl (fun K hK => ?_) AllReadyH.nil)
        · skip
          go_simp
          go_at_call 17
          refine (len_at hl1).mono ?_
          rintro e W2 ⟨rfl, rfl⟩
          refine hK.out _ _ trivial (fun hHeld => ?_)
          clear hK K
          try simp only [Act.put, List.setIfInBounds_toArray, List.set_cons_zero, List.set_cons_succ]
          refine wpAnyH_ready (rs := [4]) (by kernel_rfl) (by simp) ?_
          refine AllReadyH.cons rfl (fun K hK => ?_) AllReadyH.nil
          go_simp
          refine hK.out _ _ trivial (fun hHeld => ?_)
          clear hK K
          try simp only [Act.put, List.setIfInBounds_toArray, List.set_cons_zero, List.set_cons_succ]
          have hm3 := (MapKept.heap_alloc W1 (.map #[] 0)).1
          have hq3 : Below wr.heap.size wr (W1.alloc (.map #[] 0)) := hq1.alloc hq1.size _
          have hrg : wr.heap.size ≤ W1.heap.size := hq1.size
          generalize W1.alloc (.map #[] 0) = W3 at *
          generalize W1.heap.size = r at *
          refine wpAnyH_ready (rs := [5, 6]) (by kernel_rfl) (by simp) ?_
          refine AllReadyH.cons rfl (fun K hK => ?_) (AllReadyH.cons rfl (fun K hK => ?_) AllReadyH.nil)
          · skip
            obtain ⟨W4, hins, hm4, hsz4, hbl4, hoth4⟩ := sm_insT W3 r hm3
            have hq4 := hq3.trans (hbl4 _ hrg)
            clear hbl4 hoth4 hsz4
            go_simp
            refine hK.out _ _ trivial (fun hHeld => ?_)
            clear hK K
            try simp only [Act.put, List.setIfInBounds_toArray, List.set_cons_zero, List.set_cons_succ]
            refine wpAnyH_ready (rs := [6]) (by kernel_rfl) (by simp) ?_
            refine AllReadyH.cons rfl (fun K hK => ?_) AllReadyH.nil
            obtain ⟨W5, hins, hm5, hsz5, hbl5, hoth5⟩ := sm_insTF W4 r hm4
            have hq5 := hq4.trans (hbl5 _ hrg)
            clear hbl5 hoth5 hsz5
            go_simp
            refine hK.out _ _ trivial (fun hHeld => ?_)
            clear hK K
            try simp only [Act.put, List.setIfInBounds_toArray, List.set_cons_zero, List.set_cons_succ]
            refine held_mono (S' := fun W => W.heap[r]? = some (.map pmTF 2)) (fun _ _ => trivial) _ _ _ _ ?_
            have hHeld5 : W5.heap[r]? = some (.map pmTF 2) := hm5
            refine giveH 7 56 (.map (some r)) rfl rfl (by kernel_rfl) (by kernel_rfl) (by kernel_rfl) (fun _ _ _ h => h) (by rfl) (by intro wx hSw; go_simp) (by assumption) ?_
            try simp only [Act.put, List.setIfInBounds_toArray, List.set_cons_zero, List.set_cons_succ]
            refine giveH 10 59 (.int .i64 nn) rfl rfl (by kernel_rfl) (by kernel_rfl) (by kernel_rfl) (fun _ _ _ h => h) (by rfl) (by intro wx hSw; have hl := HLTF.out wx r hSw; go_simp) (by assumption) ?_
            try simp only [Act.put, List.setIfInBounds_toArray, List.set_cons_zero, List.set_cons_succ]
            refine giveH 11 60 (.bool true) rfl rfl (by kernel_rfl) (by kernel_rfl) (by kernel_rfl) (fun _ _ _ h => h) (by rfl) (by intro wx hSw; go_simp) (by assumption) ?_
            try simp only [Act.put, List.setIfInBounds_toArray, List.set_cons_zero, List.set_cons_succ]
            refine giveH 12 2 (.bool true) rfl rfl (by kernel_rfl) (by kernel_rfl) (by kernel_rfl) (fun _ _ _ h => h) (by rfl) (by intro wx hSw; go_simp) (by assumption) ?_
            try simp only [Act.put, List.setIfInBounds_toArray, List.set_cons_zero, List.set_cons_succ]
            refine wpAnyH_done (by kernel_rfl) ?_ _
            go_wp2_with fail
            go_ret
            exact ⟨rfl, bt HB.out hq5⟩
          · skip
            obtain ⟨W6, hins, hm6, hsz6, hbl6, hoth6⟩ := sm_insF W3 r hm3
            have hq6 := hq3.trans (hbl6 _ hrg)
            clear hbl6 hoth6 hsz6
            go_simp
            refine hK.out _ _ trivial (fun hHeld => ?_)
            clear hK K
            try simp only [Act.put, List.setIfInBounds_toArray, List.set_cons_zero, List.set_cons_succ]
            refine wpAnyH_ready (rs := [5]) (by kernel_rfl) (by simp) ?_
            refine AllReadyH.cons rfl (fun K hK => ?_) AllReadyH.nil
            obtain ⟨W7, hins, hm7, hsz7, hbl7, hoth7⟩ := sm_insFT W6 r hm6
            have hq7 := hq6.trans (hbl7 _ hrg)
            clear hbl7 hoth7 hsz7
            go_simp
            refine hK.out _ _ trivial (fun hHeld => ?_)
            clear hK K
            try simp only [Act.put, List.setIfInBounds_toArray, List.set_cons_zero, List.set_cons_succ]
            refine held_mono (S' := fun W => W.heap[r]? = some (.map pmFT 2)) (fun _ _ => trivial) _ _ _ _ ?_
            have hHeld7 : W7.heap[r]? = some (.map pmFT 2) := hm7
            refine giveH 7 56 (.map (some r)) rfl rfl (by kernel_rfl) (by kernel_rfl) (by kernel_rfl) (fun _ _ _ h => h) (by rfl) (by intro wx hSw; go_simp) (by assumption) ?_
            try simp only [Act.put, List.setIfInBounds_toArray, List.set_cons_zero, List.set_cons_succ]
            refine giveH 10 59 (.int .i64 nn) rfl rfl (by kernel_rfl) (by kernel_rfl) (by kernel_rfl) (fun _ _ _ h => h) (by rfl) (by intro wx hSw; have hl := HLFT.out wx r hSw; go_simp) (by assumption) ?_
            try simp only [Act.put, List.setIfInBounds_toArray, List.set_cons_zero, List.set_cons_succ]
            refine giveH 11 60 (.bool true) rfl rfl (by kernel_rfl) (by kernel_rfl) (by kernel_rfl) (fun _ _ _ h => h) (by rfl) (by intro wx hSw; go_simp) (by assumption) ?_
            try simp only [Act.put, List.setIfInBounds_toArray, List.set_cons_zero, List.set_cons_succ]
            refine giveH 12 2 (.bool true) rfl rfl (by kernel_rfl) (by kernel_rfl) (by kernel_rfl) (fun _ _ _ h => h) (by rfl) (by intro wx hSw; go_simp) (by assumption) ?_
            try simp only [Act.put, List.setIfInBounds_toArray, List.set_cons_zero, List.set_cons_succ]
            refine wpAnyH_done (by kernel_rfl) ?_ _
            go_wp2_with fail
            go_ret
            exact ⟨rfl, bt HB.out hq7⟩
        · skip
          go_simp
          refine hK.out _ _ trivial (fun hHeld => ?_)
          clear hK K
          try simp only [Act.put, List.setIfInBounds_toArray, List.set_cons_zero, List.set_cons_succ]
          have hm8 := (MapKept.heap_alloc W1 (.map #[] 0)).1
          have hq8 : Below wr.heap.size wr (W1.alloc (.map #[] 0)) := hq1.alloc hq1.size _
          have hrg : wr.heap.size ≤ W1.heap.size := hq1.size
          have hl8 := hl1.on ((Below.refl W1.heap.size W1).alloc (Nat.le_refl _) (.map #[] 0))
          generalize W1.alloc (.map #[] 0) = W8 at *
          generalize W1.heap.size = r at *
          refine wpAnyH_ready (rs := [3, 5, 6]) (by kernel_rfl) (by simp) ?_
          refine AllReadyH.cons rfl (fun K hK => ?_) (AllReadyH.cons rfl (fun K hK => ?_) (AllReadyH.cons rfl (fun K hK => ?_) AllReadyH.nil))
          · skip
            go_simp
            go_at_call 17
            refine (len_at hl8).mono ?_
            rintro e W9 ⟨rfl, rfl⟩
            refine hK.out _ _ trivial (fun hHeld => ?_)
            clear hK K
            try simp only [Act.put, List.setIfInBounds_toArray, List.set_cons_zero, List.set_cons_succ]
            refine wpAnyH_ready (rs := [5, 6]) (by kernel_rfl) (by simp) ?_
            refine AllReadyH.cons rfl (fun K hK => ?_) (AllReadyH.cons rfl (fun K hK => ?_) AllReadyH.nil)
            · skip
              obtain ⟨W10, hins, hm10, hsz10, hbl10, hoth10⟩ := sm_insT W8 r hm8
              have hq10 := hq8.trans (hbl10 _ hrg)
              clear hbl10 hoth10 hsz10
              go_simp
              refine hK.out _ _ trivial (fun hHeld => ?_)
              clear hK K
              try simp only [Act.put, List.setIfInBounds_toArray, List.set_cons_zero, List.set_cons_succ]
              refine wpAnyH_ready (rs := [6]) (by kernel_rfl) (by simp) ?_
              refine AllReadyH.cons rfl (fun K hK => ?_) AllReadyH.nil
              obtain ⟨W11, hins, hm11, hsz11, hbl11, hoth11⟩ := sm_insTF W10 r hm10
              have hq11 := hq10.trans (hbl11 _ hrg)
              clear hbl11 hoth11 hsz11
              go_simp
              refine hK.out _ _ trivial (fun hHeld => ?_)
              clear hK K
              try simp only [Act.put, List.setIfInBounds_toArray, List.set_cons_zero, List.set_cons_succ]
              refine held_mono (S' := fun W => W.heap[r]? = some (.map pmTF 2)) (fun _ _ => trivial) _ _ _ _ ?_
              have hHeld11 : W11.heap[r]? = some (.map pmTF 2) := hm11
              refine giveH 7 56 (.map (some r)) rfl rfl (by kernel_rfl) (by kernel_rfl) (by kernel_rfl) (fun _ _ _ h => h) (by rfl) (by intro wx hSw; go_simp) (by assumption) ?_
              try simp only [Act.put, List.setIfInBounds_toArray, List.set_cons_zero, List.set_cons_succ]
              refine giveH 10 59 (.int .i64 nn) rfl rfl (by kernel_rfl) (by kernel_rfl) (by kernel_rfl) (fun _ _ _ h => h) (by rfl) (by intro wx hSw; have hl := HLTF.out wx r hSw; go_simp) (by assumption) ?_
              try simp only [Act.put, List.setIfInBounds_toArray, List.set_cons_zero, List.set_cons_succ]
              refine giveH 11 60 (.bool true) rfl rfl (by kernel_rfl) (by kernel_rfl) (by kernel_rfl) (fun _ _ _ h => h) (by rfl) (by intro wx hSw; go_simp) (by assumption) ?_
              try simp only [Act.put, List.setIfInBounds_toArray, List.set_cons_zero, List.set_cons_succ]
              refine giveH 12 2 (.bool true) rfl rfl (by kernel_rfl) (by kernel_rfl) (by kernel_rfl) (fun _ _ _ h => h) (by rfl) (by intro wx hSw; go_simp) (by assumption) ?_
              try simp only [Act.put, List.setIfInBounds_toArray, List.set_cons_zero, List.set_cons_succ]
              refine wpAnyH_done (by kernel_rfl) ?_ _
              go_wp2_with fail
              go_ret
              exact ⟨rfl, bt HB.out hq11⟩
            · skip
              obtain ⟨W12, hins, hm12, hsz12, hbl12, hoth12⟩ := sm_insF W8 r hm8
              have hq12 := hq8.trans (hbl12 _ hrg)
              clear hbl12 hoth12 hsz12
              go_simp
              refine hK.out _ _ trivial (fun hHeld => ?_)
              clear hK K
              try simp only [Act.put, List.setIfInBounds_toArray, List.set_cons_zero, List.set_cons_succ]
              refine wpAnyH_ready (rs := [5]) (by kernel_rfl) (by simp) ?_
              refine AllReadyH.cons rfl (fun K hK => ?_) AllReadyH.nil
              obtain ⟨W13, hins, hm13, hsz13, hbl13, hoth13⟩ := sm_insFT W12 r hm12
              have hq13 := hq12.trans (hbl13 _ hrg)
              clear hbl13 hoth13 hsz13
              go_simp
              refine hK.out _ _ trivial (fun hHeld => ?_)
              clear hK K
              try simp only [Act.put, List.setIfInBounds_toArray, List.set_cons_zero, List.set_cons_succ]
              refine held_mono (S' := fun W => W.heap[r]? = some (.map pmFT 2)) (fun _ _ => trivial) _ _ _ _ ?_
              have hHeld13 : W13.heap[r]? = some (.map pmFT 2) := hm13
              refine giveH 7 56 (.map (some r)) rfl rfl (by kernel_rfl) (by kernel_rfl) (by kernel_rfl) (fun _ _ _ h => h) (by rfl) (by intro wx hSw; go_simp) (by assumption) ?_
              try simp only [Act.put, List.setIfInBounds_toArray, List.set_cons_zero, List.set_cons_succ]
              refine giveH 10 59 (.int .i64 nn) rfl rfl (by kernel_rfl) (by kernel_rfl) (by kernel_rfl) (fun _ _ _ h => h) (by rfl) (by intro wx hSw; have hl := HLFT.out wx r hSw; go_simp) (by assumption) ?_
              try simp only [Act.put, List.setIfInBounds_toArray, List.set_cons_zero, List.set_cons_succ]
              refine giveH 11 60 (.bool true) rfl rfl (by kernel_rfl) (by kernel_rfl) (by kernel_rfl) (fun _ _ _ h => h) (by rfl) (by intro wx hSw; go_simp) (by assumption) ?_
              try simp only [Act.put, List.setIfInBounds_toArray, List.set_cons_zero, List.set_cons_succ]
              refine giveH 12 2 (.bool true) rfl rfl (by kernel_rfl) (by kernel_rfl) (by kernel_rfl) (fun _ _ _ h => h) (by rfl) (by intro wx hSw; go_simp) (by assumption) ?_
              try simp only [Act.put, List.setIfInBounds_toArray, List.set_cons_zero, List.set_cons_succ]
              refine wpAnyH_done (by kernel_rfl) ?_ _
              go_wp2_with fail
              go_ret
              exact ⟨rfl, bt HB.out hq13⟩
          · skip
            obtain ⟨W14, hins, hm14, hsz14, hbl14, hoth14⟩ := sm_insT W8 r hm8
            have hq14 := hq8.trans (hbl14 _ hrg)
            have hl14 := hl8.map hm8 hoth14
            clear hbl14 hoth14 hsz14
            go_simp
            refine hK.out _ _ trivial (fun hHeld => ?_)
            clear hK K
            try simp only [Act.put, List.setIfInBounds_toArray, List.set_cons_zero, List.set_cons_succ]
            refine wpAnyH_ready (rs := [3, 6]) (by kernel_rfl) (by simp) ?_
            refine AllReadyH.cons rfl (fun K hK => ?_) (AllReadyH.cons rfl (fun K hK => ?_) AllReadyH.nil)
            · skip
              go_simp
              go_at_call 17
              refine (len_at hl14).mono ?_
              rintro e W15 ⟨rfl, rfl⟩
              refine hK.out _ _ trivial (fun hHeld => ?_)
              clear hK K
              try simp only [Act.put, List.setIfInBounds_toArray, List.set_cons_zero, List.set_cons_succ]
              refine wpAnyH_ready (rs := [6]) (by kernel_rfl) (by simp) ?_
              refine AllReadyH.cons rfl (fun K hK => ?_) AllReadyH.nil
              obtain ⟨W16, hins, hm16, hsz16, hbl16, hoth16⟩ := sm_insTF W14 r hm14
              have hq16 := hq14.trans (hbl16 _ hrg)
              clear hbl16 hoth16 hsz16
              go_simp
              refine hK.out _ _ trivial (fun hHeld => ?_)
              clear hK K
              try simp only [Act.put, List.setIfInBounds_toArray, List.set_cons_zero, List.set_cons_succ]
              refine held_mono (S' := fun W => W.heap[r]? = some (.map pmTF 2)) (fun _ _ => trivial) _ _ _ _ ?_
              have hHeld16 : W16.heap[r]? = some (.map pmTF 2) := hm16
              refine giveH 7 56 (.map (some r)) rfl rfl (by kernel_rfl) (by kernel_rfl) (by kernel_rfl) (fun _ _ _ h => h) (by rfl) (by intro wx hSw; go_simp) (by assumption) ?_
              try simp only [Act.put, List.setIfInBounds_toArray, List.set_cons_zero, List.set_cons_succ]
              refine giveH 10 59 (.int .i64 nn) rfl rfl (by kernel_rfl) (by kernel_rfl) (by kernel_rfl) (fun _ _ _ h => h) (by rfl) (by intro wx hSw; have hl := HLTF.out wx r hSw; go_simp) (by assumption) ?_
              try simp only [Act.put, List.setIfInBounds_toArray, List.set_cons_zero, List.set_cons_succ]
              refine giveH 11 60 (.bool true) rfl rfl (by kernel_rfl) (by kernel_rfl) (by kernel_rfl) (fun _ _ _ h => h) (by rfl) (by intro wx hSw; go_simp) (by assumption) ?_
              try simp only [Act.put, List.setIfInBounds_toArray, List.set_cons_zero, List.set_cons_succ]
              refine giveH 12 2 (.bool true) rfl rfl (by kernel_rfl) (by kernel_rfl) (by kernel_rfl) (fun _ _ _ h => h) (by rfl) (by intro wx hSw; go_simp) (by assumption) ?_
              try simp only [Act.put, List.setIfInBounds_toArray, List.set_cons_zero, List.set_cons_succ]
              refine wpAnyH_done (by kernel_rfl) ?_ _
              go_wp2_with fail
              go_ret
              exact ⟨rfl, bt HB.out hq16⟩
            · skip
              obtain ⟨W17, hins, hm17, hsz17, hbl17, hoth17⟩ := sm_insTF W14 r hm14
              have hq17 := hq14.trans (hbl17 _ hrg)
              have hl17 := hl14.map hm14 hoth17
              clear hbl17 hoth17 hsz17
              go_simp
              refine hK.out _ _ trivial (fun hHeld => ?_)
              clear hK K
              try simp only [Act.put, List.setIfInBounds_toArray, List.set_cons_zero, List.set_cons_succ]
              refine held_mono (S' := fun W => W.heap[r]? = some (.map pmTF 2)) (fun _ _ => trivial) _ _ _ _ ?_
              have hHeld17 : W17.heap[r]? = some (.map pmTF 2) := hm17
              refine giveH 7 56 (.map (some r)) rfl rfl (by kernel_rfl) (by kernel_rfl) (by kernel_rfl) (fun _ _ _ h => h) (by rfl) (by intro wx hSw; go_simp) (by assumption) ?_
              try simp only [Act.put, List.setIfInBounds_toArray, List.set_cons_zero, List.set_cons_succ]
              refine giveH 10 59 (.int .i64 nn) rfl rfl (by kernel_rfl) (by kernel_rfl) (by kernel_rfl) (fun _ _ _ h => h) (by rfl) (by intro wx hSw; have hl := HLTF.out wx r hSw; go_simp) (by assumption) ?_
              try simp only [Act.put, List.setIfInBounds_toArray, List.set_cons_zero, List.set_cons_succ]
              refine wpAnyH_ready (rs := [3]) (by kernel_rfl) (by simp) ?_
              refine AllReadyH.cons rfl (fun K hK => ?_) AllReadyH.nil
              go_simp
              go_at_call 17
              refine (len_at hl17).mono ?_
              rintro e W18 ⟨rfl, rfl⟩
              refine hK.out _ _ hm17 (fun hHeld => ?_)
              clear hK K
              try simp only [Act.put, List.setIfInBounds_toArray, List.set_cons_zero, List.set_cons_succ]
              refine giveH 11 60 (.bool true) rfl rfl (by kernel_rfl) (by kernel_rfl) (by kernel_rfl) (fun _ _ _ h => h) (by rfl) (by intro wx hSw; go_simp) (by assumption) ?_
              try simp only [Act.put, List.setIfInBounds_toArray, List.set_cons_zero, List.set_cons_succ]
              refine giveH 12 2 (.bool true) rfl rfl (by kernel_rfl) (by kernel_rfl) (by kernel_rfl) (fun _ _ _ h => h) (by rfl) (by intro wx hSw; go_simp) (by assumption) ?_
              try simp only [Act.put, List.setIfInBounds_toArray, List.set_cons_zero, List.set_cons_succ]
              refine wpAnyH_done (by kernel_rfl) ?_ _
              go_wp2_with fail
              go_ret
              exact ⟨rfl, bt HB.out hq17⟩
          · skip
            obtain ⟨W19, hins, hm19, hsz19, hbl19, hoth19⟩ := sm_insF W8 r hm8
            have hq19 := hq8.trans (hbl19 _ hrg)
            have hl19 := hl8.map hm8 hoth19
            clear hbl19 hoth19 hsz19
            go_simp
            refine hK.out _ _ trivial (fun hHeld => ?_)
            clear hK K
            try simp only [Act.put, List.setIfInBounds_toArray, List.set_cons_zero, List.set_cons_succ]
            refine wpAnyH_ready (rs := [3, 5]) (by kernel_rfl) (by simp) ?_
            refine AllReadyH.cons rfl (fun K hK => ?_) (AllReadyH.cons rfl (fun K hK => ?_) AllReadyH.nil)
            · skip
              go_simp
              go_at_call 17
              refine (len_at hl19).mono ?_
              rintro e W20 ⟨rfl, rfl⟩
              refine hK.out _ _ trivial (fun hHeld => ?_)
              clear hK K
              try simp only [Act.put, List.setIfInBounds_toArray, List.set_cons_zero, List.set_cons_succ]
              refine wpAnyH_ready (rs := [5]) (by kernel_rfl) (by simp) ?_
              refine AllReadyH.cons rfl (fun K hK => ?_) AllReadyH.nil
              obtain ⟨W21, hins, hm21, hsz21, hbl21, hoth21⟩ := sm_insFT W19 r hm19
              have hq21 := hq19.trans (hbl21 _ hrg)
              clear hbl21 hoth21 hsz21
              go_simp
              refine hK.out _ _ trivial (fun hHeld => ?_)
              clear hK K
              try simp only [Act.put, List.setIfInBounds_toArray, List.set_cons_zero, List.set_cons_succ]
              refine held_mono (S' := fun W => W.heap[r]? = some (.map pmFT 2)) (fun _ _ => trivial) _ _ _ _ ?_
              have hHeld21 : W21.heap[r]? = some (.map pmFT 2) := hm21
              refine giveH 7 56 (.map (some r)) rfl rfl (by kernel_rfl) (by kernel_rfl) (by kernel_rfl) (fun _ _ _ h => h) (by rfl) (by intro wx hSw; go_simp) (by assumption) ?_
              try simp only [Act.put, List.setIfInBounds_toArray, List.set_cons_zero, List.set_cons_succ]
              refine giveH 10 59 (.int .i64 nn) rfl rfl (by kernel_rfl) (by kernel_rfl) (by kernel_rfl) (fun _ _ _ h => h) (by rfl) (by intro wx hSw; have hl := HLFT.out wx r hSw; go_simp) (by assumption) ?_
              try simp only [Act.put, List.setIfInBounds_toArray, List.set_cons_zero, List.set_cons_succ]
              refine giveH 11 60 (.bool true) rfl rfl (by kernel_rfl) (by kernel_rfl) (by kernel_rfl) (fun _ _ _ h => h) (by rfl) (by intro wx hSw; go_simp) (by assumption) ?_
              try simp only [Act.put, List.setIfInBounds_toArray, List.set_cons_zero, List.set_cons_succ]
              refine giveH 12 2 (.bool true) rfl rfl (by kernel_rfl) (by kernel_rfl) (by kernel_rfl) (fun _ _ _ h => h) (by rfl) (by intro wx hSw; go_simp) (by assumption) ?_
              try simp only [Act.put, List.setIfInBounds_toArray, List.set_cons_zero, List.set_cons_succ]
              refine wpAnyH_done (by kernel_rfl) ?_ _
              go_wp2_with fail
              go_ret
              exact ⟨rfl, bt HB.out hq21⟩
            · skip
              obtain ⟨W22, hins, hm22, hsz22, hbl22, hoth22⟩ := sm_insFT W19 r hm19
              have hq22 := hq19.trans (hbl22 _ hrg)
              have hl22 := hl19.map hm19 hoth22
              clear hbl22 hoth22 hsz22
              go_simp
              refine hK.out _ _ trivial (fun hHeld => ?_)
              clear hK K
              try simp only [Act.put, List.setIfInBounds_toArray, List.set_cons_zero, List.set_cons_succ]
              refine held_mono (S' := fun W => W.heap[r]? = some (.map pmFT 2)) (fun _ _ => trivial) _ _ _ _ ?_
              have hHeld22 : W22.heap[r]? = some (.map pmFT 2) := hm22
              refine giveH 7 56 (.map (some r)) rfl rfl (by kernel_rfl) (by kernel_rfl) (by kernel_rfl) (fun _ _ _ h => h) (by rfl) (by intro wx hSw; go_simp) (by assumption) ?_
              try simp only [Act.put, List.setIfInBounds_toArray, List.set_cons_zero, List.set_cons_succ]
              refine giveH 10 59 (.int .i64 nn) rfl rfl (by kernel_rfl) (by kernel_rfl) (by kernel_rfl) (fun _ _ _ h => h) (by rfl) (by intro wx hSw; have hl := HLFT.out wx r hSw; go_simp) (by assumption) ?_
              try simp only [Act.put, List.setIfInBounds_toArray, List.set_cons_zero, List.set_cons_succ]
              refine wpAnyH_ready (rs := [3]) (by kernel_rfl) (by simp) ?_
              refine AllReadyH.cons rfl (fun K hK => ?_) AllReadyH.nil
              go_simp
              go_at_call 17
              refine (len_at hl22).mono ?_
              rintro e W23 ⟨rfl, rfl⟩
              refine hK.out _ _ hm22 (fun hHeld => ?_)
              clear hK K
              try simp only [Act.put, List.setIfInBounds_toArray, List.set_cons_zero, List.set_cons_succ]
              refine giveH 11 60 (.bool true) rfl rfl (by kernel_rfl) (by kernel_rfl) (by kernel_rfl) (fun _ _ _ h => h) (by rfl) (by intro wx hSw; go_simp) (by assumption) ?_
              try simp only [Act.put, List.setIfInBounds_toArray, List.set_cons_zero, List.set_cons_succ]
              refine giveH 12 2 (.bool true) rfl rfl (by kernel_rfl) (by kernel_rfl) (by kernel_rfl) (fun _ _ _ h => h) (by rfl) (by intro wx hSw; go_simp) (by assumption) ?_
              try simp only [Act.put, List.setIfInBounds_toArray, List.set_cons_zero, List.set_cons_succ]
              refine wpAnyH_done (by kernel_rfl) ?_ _
              go_wp2_with fail
              go_ret
              exact ⟨rfl, bt HB.out hq22⟩
      · skip
        go_simp
        refine hK.out _ _ trivial (fun hHeld => ?_)
        clear hK K
        try simp only [Act.put, List.setIfInBounds_toArray, List.set_cons_zero, List.set_cons_succ]
        have hm24 := (MapKept.heap_alloc W0 (.map #[] 0)).1
        have hq24 : Below wr.heap.size wr (W0.alloc (.map #[] 0)) := hq0.alloc hq0.size _
        have hrg : wr.heap.size ≤ W0.heap.size := hq0.size
        generalize W0.alloc (.map #[] 0) = W24 at *
        generalize W0.heap.size = r at *
        refine wpAnyH_ready (rs := [1, 5, 6]) (by kernel_rfl) (by simp) ?_
        refine AllReadyH.cons rfl (fun K hK => ?_) (AllReadyH.cons rfl (fun K hK => ?_) (AllReadyH.cons rfl (fun K hK => ?_) AllReadyH.nil))
        · skip
          go_simp
          go_at_call 15
          refine (HLX.out W24 hq24).mono ?_
          rintro e W25 ⟨v5, A5, c5, rfl, hl25, hb25⟩
          have hq25 := bt hq24 hb25
          have hm25 := (hb25.block r (blk_sz hm24)).trans hm24
          refine hK.out _ _ trivial (fun hHeld => ?_)
          clear hK K
          try simp only [Act.put, List.setIfInBounds_toArray, List.set_cons_zero, List.set_cons_succ]
          refine giveH 2 53 (.pointer v5) rfl rfl (by kernel_rfl) (by kernel_rfl) (by kernel_rfl) (fun _ _ _ h => h) (by rfl) (by intro wx hSw; go_simp) (by assumption) ?_
          try simp only [Act.put, List.setIfInBounds_toArray, List.set_cons_zero, List.set_cons_succ]
          refine wpAnyH_ready (rs := [3, 5, 6]) (by kernel_rfl) (by simp) ?_
          refine AllReadyH.cons rfl (fun K hK => ?_) (AllReadyH.cons rfl (fun K hK => ?_) (AllReadyH.cons rfl (fun K hK => ?_) AllReadyH.nil))
          · skip
            go_simp
            go_at_call 17
            refine (len_at hl25).mono ?_
            rintro e W26 ⟨rfl, rfl⟩
            refine hK.out _ _ trivial (fun hHeld => ?_)
            clear hK K
            try simp only [Act.put, List.setIfInBounds_toArray, List.set_cons_zero, List.set_cons_succ]
            refine wpAnyH_ready (rs := [5, 6]) (by kernel_rfl) (by simp) ?_
            refine AllReadyH.cons rfl (fun K hK => ?_) (AllReadyH.cons rfl (fun K hK => ?_) AllReadyH.nil)
            · skip
              obtain ⟨W27, hins, hm27, hsz27, hbl27, hoth27⟩ := sm_insT W25 r hm25
              have hq27 := hq25.trans (hbl27 _ hrg)
              clear hbl27 hoth27 hsz27
              go_simp
              refine hK.out _ _ trivial (fun hHeld => ?_)
              clear hK K
              try simp only [Act.put, List.setIfInBounds_toArray, List.set_cons_zero, List.set_cons_succ]
              refine wpAnyH_ready (rs := [6]) (by kernel_rfl) (by simp) ?_
              refine AllReadyH.cons rfl (fun K hK => ?_) AllReadyH.nil
              obtain ⟨W28, hins, hm28, hsz28, hbl28, hoth28⟩ := sm_insTF W27 r hm27
              have hq28 := hq27.trans (hbl28 _ hrg)
              clear hbl28 hoth28 hsz28
              go_simp
              refine hK.out _ _ trivial (fun hHeld => ?_)
              clear hK K
              try simp only [Act.put, List.setIfInBounds_toArray, List.set_cons_zero, List.set_cons_succ]
              refine held_mono (S' := fun W => W.heap[r]? = some (.map pmTF 2)) (fun _ _ => trivial) _ _ _ _ ?_
              have hHeld28 : W28.heap[r]? = some (.map pmTF 2) := hm28
              refine giveH 7 56 (.map (some r)) rfl rfl (by kernel_rfl) (by kernel_rfl) (by kernel_rfl) (fun _ _ _ h => h) (by rfl) (by intro wx hSw; go_simp) (by assumption) ?_
              try simp only [Act.put, List.setIfInBounds_toArray, List.set_cons_zero, List.set_cons_succ]
              refine giveH 10 59 (.int .i64 nn) rfl rfl (by kernel_rfl) (by kernel_rfl) (by kernel_rfl) (fun _ _ _ h => h) (by rfl) (by intro wx hSw; have hl := HLTF.out wx r hSw; go_simp) (by assumption) ?_
              try simp only [Act.put, List.setIfInBounds_toArray, List.set_cons_zero, List.set_cons_succ]
              refine giveH 11 60 (.bool true) rfl rfl (by kernel_rfl) (by kernel_rfl) (by kernel_rfl) (fun _ _ _ h => h) (by rfl) (by intro wx hSw; go_simp) (by assumption) ?_
              try simp only [Act.put, List.setIfInBounds_toArray, List.set_cons_zero, List.set_cons_succ]
              refine giveH 12 2 (.bool true) rfl rfl (by kernel_rfl) (by kernel_rfl) (by kernel_rfl) (fun _ _ _ h => h) (by rfl) (by intro wx hSw; go_simp) (by assumption) ?_
              try simp only [Act.put, List.setIfInBounds_toArray, List.set_cons_zero, List.set_cons_succ]
              refine wpAnyH_done (by kernel_rfl) ?_ _
              go_wp2_with fail
              go_ret
              exact ⟨rfl, bt HB.out hq28⟩
            · skip
              obtain ⟨W29, hins, hm29, hsz29, hbl29, hoth29⟩ := sm_insF W25 r hm25
              have hq29 := hq25.trans (hbl29 _ hrg)
              clear hbl29 hoth29 hsz29
              go_simp
              refine hK.out _ _ trivial (fun hHeld => ?_)
              clear hK K
              try simp only [Act.put, List.setIfInBounds_toArray, List.set_cons_zero, List.set_cons_succ]
              refine wpAnyH_ready (rs := [5]) (by kernel_rfl) (by simp) ?_
              refine AllReadyH.cons rfl (fun K hK => ?_) AllReadyH.nil
              obtain ⟨W30, hins, hm30, hsz30, hbl30, hoth30⟩ := sm_insFT W29 r hm29
              have hq30 := hq29.trans (hbl30 _ hrg)
              clear hbl30 hoth30 hsz30
              go_simp
              refine hK.out _ _ trivial (fun hHeld => ?_)
              clear hK K
              try simp only [Act.put, List.setIfInBounds_toArray, List.set_cons_zero, List.set_cons_succ]
              refine held_mono (S' := fun W => W.heap[r]? = some (.map pmFT 2)) (fun _ _ => trivial) _ _ _ _ ?_
              have hHeld30 : W30.heap[r]? = some (.map pmFT 2) := hm30
              refine giveH 7 56 (.map (some r)) rfl rfl (by kernel_rfl) (by kernel_rfl) (by kernel_rfl) (fun _ _ _ h => h) (by rfl) (by intro wx hSw; go_simp) (by assumption) ?_
              try simp only [Act.put, List.setIfInBounds_toArray, List.set_cons_zero, List.set_cons_succ]
              refine giveH 10 59 (.int .i64 nn) rfl rfl (by kernel_rfl) (by kernel_rfl) (by kernel_rfl) (fun _ _ _ h => h) (by rfl) (by intro wx hSw; have hl := HLFT.out wx r hSw; go_simp) (by assumption) ?_
              try simp only [Act.put, List.setIfInBounds_toArray, List.set_cons_zero, List.set_cons_succ]
              refine giveH 11 60 (.bool true) rfl rfl (by kernel_rfl) (by kernel_rfl) (by kernel_rfl) (fun _ _ _ h => h) (by rfl) (by intro wx hSw; go_simp) (by assumption) ?_
              try simp only [Act.put, List.setIfInBounds_toArray, List.set_cons_zero, List.set_cons_succ]
              refine giveH 12 2 (.bool true) rfl rfl (by kernel_rfl) (by kernel_rfl) (by kernel_rfl) (fun _ _ _ h => h) (by rfl) (by intro wx hSw; go_simp) (by assumption) ?_
              try simp only [Act.put, List.setIfInBounds_toArray, List.set_cons_zero, List.set_cons_succ]
              refine wpAnyH_done (by kernel_rfl) ?_ _
              go_wp2_with fail
              go_ret
              exact ⟨rfl, bt HB.out hq30⟩
          · skip
            obtain ⟨W31, hins, hm31, hsz31, hbl31, hoth31⟩ := sm_insT W25 r hm25
            have hq31 := hq25.trans (hbl31 _ hrg)
            have hl31 := hl25.map hm25 hoth31
            clear hbl31 hoth31 hsz31
            go_simp
            refine hK.out _ _ trivial (fun hHeld => ?_)
            clear hK K
            try simp only [Act.put, List.setIfInBounds_toArray, List.set_cons_zero, List.set_cons_succ]
            refine wpAnyH_ready (rs := [3, 6]) (by kernel_rfl) (by simp) ?_
            refine AllReadyH.cons rfl (fun K hK => ?_) (AllReadyH.cons rfl (fun K hK => ?_) AllReadyH.nil)
            · skip
              go_simp
              go_at_call 17
              refine (len_at hl31).mono ?_
              rintro e W32 ⟨rfl, rfl⟩
              refine hK.out _ _ trivial (fun hHeld => ?_)
              clear hK K
              try simp only [Act.put, List.setIfInBounds_toArray, List.set_cons_zero, List.set_cons_succ]
              refine wpAnyH_ready (rs := [6]) (by kernel_rfl) (by simp) ?_
              refine AllReadyH.cons rfl (fun K hK => ?_) AllReadyH.nil
              obtain ⟨W33, hins, hm33, hsz33, hbl33, hoth33⟩ := sm_insTF W31 r hm31
              have hq33 := hq31.trans (hbl33 _ hrg)
              clear hbl33 hoth33 hsz33
              go_simp
              refine hK.out _ _ trivial (fun hHeld => ?_)
              clear hK K
              try simp only [Act.put, List.setIfInBounds_toArray, List.set_cons_zero, List.set_cons_succ]
              refine held_mono (S' := fun W => W.heap[r]? = some (.map pmTF 2)) (fun _ _ => trivial) _ _ _ _ ?_
              have hHeld33 : W33.heap[r]? = some (.map pmTF 2) := hm33
              refine giveH 7 56 (.map (some r)) rfl rfl (by kernel_rfl) (by kernel_rfl) (by kernel_rfl) (fun _ _ _ h => h) (by rfl) (by intro wx hSw; go_simp) (by assumption) ?_
              try simp only [Act.put, List.setIfInBounds_toArray, List.set_cons_zero, List.set_cons_succ]
              refine giveH 10 59 (.int .i64 nn) rfl rfl (by kernel_rfl) (by kernel_rfl) (by kernel_rfl) (fun _ _ _ h => h) (by rfl) (by intro wx hSw; have hl := HLTF.out wx r hSw; go_simp) (by assumption) ?_
              try simp only [Act.put, List.setIfInBounds_toArray, List.set_cons_zero, List.set_cons_succ]
              refine giveH 11 60 (.bool true) rfl rfl (by kernel_rfl) (by kernel_rfl) (by kernel_rfl) (fun _ _ _ h => h) (by rfl) (by intro wx hSw; go_simp) (by assumption) ?_
              try simp only [Act.put, List.setIfInBounds_toArray, List.set_cons_zero, List.set_cons_succ]
              refine giveH 12 2 (.bool true) rfl rfl (by kernel_rfl) (by kernel_rfl) (by kernel_rfl) (fun _ _ _ h => h) (by rfl) (by intro wx hSw; go_simp) (by assumption) ?_
              try simp only [Act.put, List.setIfInBounds_toArray, List.set_cons_zero, List.set_cons_succ]
              refine wpAnyH_done (by kernel_rfl) ?_ _
              go_wp2_with fail
              go_ret
              exact ⟨rfl, bt HB.out hq33⟩
            · skip
              obtain ⟨W34, hins, hm34, hsz34, hbl34, hoth34⟩ := sm_insTF W31 r hm31
              have hq34 := hq31.trans (hbl34 _ hrg)
              have hl34 := hl31.map hm31 hoth34
              clear hbl34 hoth34 hsz34
              go_simp
              refine hK.out _ _ trivial (fun hHeld => ?_)
              clear hK K
              try simp only [Act.put, List.setIfInBounds_toArray, List.set_cons_zero, List.set_cons_succ]
              refine held_mono (S' := fun W => W.heap[r]? = some (.map pmTF 2)) (fun _ _ => trivial) _ _ _ _ ?_
              have hHeld34 : W34.heap[r]? = some (.map pmTF 2) := hm34
              refine giveH 7 56 (.map (some r)) rfl rfl (by kernel_rfl) (by kernel_rfl) (by kernel_rfl) (fun _ _ _ h => h) (by rfl) (by intro wx hSw; go_simp) (by assumption) ?_
              try simp only [Act.put, List.setIfInBounds_toArray, List.set_cons_zero, List.set_cons_succ]
              refine giveH 10 59 (.int .i64 nn) rfl rfl (by kernel_rfl) (by kernel_rfl) (by kernel_rfl) (fun _ _ _ h => h) (by rfl) (by intro wx hSw; have hl := HLTF.out wx r hSw; go_simp) (by assumption) ?_
              try simp only [Act.put, List.setIfInBounds_toArray, List.set_cons_zero, List.set_cons_succ]
              refine wpAnyH_ready (rs := [3]) (by kernel_rfl) (by simp) ?_
              refine AllReadyH.cons rfl (fun K hK => ?_) AllReadyH.nil
              go_simp
              go_at_call 17
              refine (len_at hl34).mono ?_
              rintro e W35 ⟨rfl, rfl⟩
              refine hK.out _ _ hm34 (fun hHeld => ?_)
              clear hK K
              try simp only [Act.put, List.setIfInBounds_toArray, List.set_cons_zero, List.set_cons_succ]
              refine giveH 11 60 (.bool true) rfl rfl (by kernel_rfl) (by kernel_rfl) (by kernel_rfl) (fun _ _ _ h => h) (by rfl) (by intro wx hSw; go_simp) (by assumption) ?_
              try simp only [Act.put, List.setIfInBounds_toArray, List.set_cons_zero, List.set_cons_succ]
              refine giveH 12 2 (.bool true) rfl rfl (by kernel_rfl) (by kernel_rfl) (by kernel_rfl) (fun _ _ _ h => h) (by rfl) (by intro wx hSw; go_simp) (by assumption) ?_
              try simp only [Act.put, List.setIfInBounds_toArray, List.set_cons_zero, List.set_cons_succ]
              refine wpAnyH_done (by kernel_rfl) ?_ _
              go_wp2_with fail
              go_ret
              exact ⟨rfl, bt HB.out hq34⟩
          · skip
            obtain ⟨W36, hins, hm36, hsz36, hbl36, hoth36⟩ := sm_insF W25 r hm25
            have hq36 := hq25.trans (hbl36 _ hrg)
            have hl36 := hl25.map hm25 hoth36
            clear hbl36 hoth36 hsz36
            go_simp
            refine hK.out _ _ trivial (fun hHeld => ?_)
            clear hK K
            try simp only [Act.put, List.setIfInBounds_toArray, List.set_cons_zero, List.set_cons_succ]
            refine wpAnyH_ready (rs := [3, 5]) (by kernel_rfl) (by simp) ?_
            refine AllReadyH.cons rfl (fun K hK => ?_) (AllReadyH.cons rfl (fun K hK => ?_) AllReadyH.nil)
            · skip
              go_simp
              go_at_call 17
              refine (len_at hl36).mono ?_
              rintro e W37 ⟨rfl, rfl⟩
              refine hK.out _ _ trivial (fun hHeld => ?_)
              clear hK K
              try simp only [Act.put, List.setIfInBounds_toArray, List.set_cons_zero, List.set_cons_succ]
              refine wpAnyH_ready (rs := [5]) (by kernel_rfl) (by simp) ?_
              refine AllReadyH.cons rfl (fun K hK => ?_) AllReadyH.nil
              obtain ⟨W38, hins, hm38, hsz38, hbl38, hoth38⟩ := sm_insFT W36 r hm36
              have hq38 := hq36.trans (hbl38 _ hrg)
              clear hbl38 hoth38 hsz38
              go_simp
              refine hK.out _ _ trivial (fun hHeld => ?_)
              clear hK K
              try simp only [Act.put, List.setIfInBounds_toArray, List.set_cons_zero, List.set_cons_succ]
              refine held_mono (S' := fun W => W.heap[r]? = some (.map pmFT 2)) (fun _ _ => trivial) _ _ _ _ ?_
              have hHeld38 : W38.heap[r]? = some (.map pmFT 2) := hm38
              refine giveH 7 56 (.map (some r)) rfl rfl (by kernel_rfl) (by kernel_rfl) (by kernel_rfl) (fun _ _ _ h => h) (by rfl) (by intro wx hSw; go_simp) (by assumption) ?_
              try simp only [Act.put, List.setIfInBounds_toArray, List.set_cons_zero, List.set_cons_succ]
              refine giveH 10 59 (.int .i64 nn) rfl rfl (by kernel_rfl) (by kernel_rfl) (by kernel_rfl) (fun _ _ _ h => h) (by rfl) (by intro wx hSw; have hl := HLFT.out wx r hSw; go_simp) (by assumption) ?_
              try simp only [Act.put, List.setIfInBounds_toArray, List.set_cons_zero, List.set_cons_succ]
              refine giveH 11 60 (.bool true) rfl rfl (by kernel_rfl) (by kernel_rfl) (by kernel_rfl) (fun _ _ _ h => h) (by rfl) (by intro wx hSw; go_simp) (by assumption) ?_
              try simp only [Act.put, List.setIfInBounds_toArray, List.set_cons_zero, List.set_cons_succ]
              refine giveH 12 2 (.bool true) rfl rfl (by kernel_rfl) (by kernel_rfl) (by kernel_rfl) (fun _ _ _ h => h) (by rfl) (by intro wx hSw; go_simp) (by assumption) ?_
              try simp only [Act.put, List.setIfInBounds_toArray, List.set_cons_zero, List.set_cons_succ]
              refine wpAnyH_done (by kernel_rfl) ?_ _
              go_wp2_with fail
              go_ret
              exact ⟨rfl, bt HB.out hq38⟩
            · skip
              obtain ⟨W39, hins, hm39, hsz39, hbl39, hoth39⟩ := sm_insFT W36 r hm36
              have hq39 := hq36.trans (hbl39 _ hrg)
              have hl39 := hl36.map hm36 hoth39
              clear hbl39 hoth39 hsz39
              go_simp
              refine hK.out _ _ trivial (fun hHeld => ?_)
              clear hK K
              try simp only [Act.put, List.setIfInBounds_toArray, List.set_cons_zero, List.set_cons_succ]
              refine held_mono (S' := fun W => W.heap[r]? = some (.map pmFT 2)) (fun _ _ => trivial) _ _ _ _ ?_
              have hHeld39 : W39.heap[r]? = some (.map pmFT 2) := hm39
              refine giveH 7 56 (.map (some r)) rfl rfl (by kernel_rfl) (by kernel_rfl) (by kernel_rfl) (fun _ _ _ h => h) (by rfl) (by intro wx hSw; go_simp) (by assumption) ?_
              try simp only [Act.put, List.setIfInBounds_toArray, List.set_cons_zero, List.set_cons_succ]
              refine giveH 10 59 (.int .i64 nn) rfl rfl (by kernel_rfl) (by kernel_rfl) (by kernel_rfl) (fun _ _ _ h => h) (by rfl) (by intro wx hSw; have hl := HLFT.out wx r hSw; go_simp) (by assumption) ?_
              try simp only [Act.put, List.setIfInBounds_toArray, List.set_cons_zero, List.set_cons_succ]
              refine wpAnyH_ready (rs := [3]) (by kernel_rfl) (by simp) ?_
              refine AllReadyH.cons rfl (fun K hK => ?_) AllReadyH.nil
              go_simp
              go_at_call 17
              refine (len_at hl39).mono ?_
              rintro e W40 ⟨rfl, rfl⟩
              refine hK.out _ _ hm39 (fun hHeld => ?_)
              clear hK K
              try simp only [Act.put, List.setIfInBounds_toArray, List.set_cons_zero, List.set_cons_succ]
              refine giveH 11 60 (.bool true) rfl rfl (by kernel_rfl) (by kernel_rfl) (by kernel_rfl) (fun _ _ _ h => h) (by rfl) (by intro wx hSw; go_simp) (by assumption) ?_
              try simp only [Act.put, List.setIfInBounds_toArray, List.set_cons_zero, List.set_cons_succ]
              refine giveH 12 2 (.bool true) rfl rfl (by kernel_rfl) (by kernel_rfl) (by kernel_rfl) (fun _ _ _ h => h) (by rfl) (by intro wx hSw; go_simp) (by assumption) ?_
              try simp only [Act.put, List.setIfInBounds_toArray, List.set_cons_zero, List.set_cons_succ]
              refine wpAnyH_done (by kernel_rfl) ?_ _
              go_wp2_with fail
              go_ret
              exact ⟨rfl, bt HB.out hq39⟩
        · skip
          obtain ⟨W41, hins, hm41, hsz41, hbl41, hoth41⟩ := sm_insT W24 r hm24
          have hq41 := hq24.trans (hbl41 _ hrg)
          clear hbl41 hoth41 hsz41
          go_simp
          refine hK.out _ _ trivial (fun hHeld => ?_)
          clear hK K
          try simp only [Act.put, List.setIfInBounds_toArray, List.set_cons_zero, List.set_cons_succ]
          refine wpAnyH_ready (rs := [1, 6]) (by kernel_rfl) (by simp) ?_
          refine AllReadyH.cons rfl (fun K hK => ?_) (AllReadyH.cons rfl (fun K hK => ?_) AllReadyH.nil)
          · skip
            go_simp
            go_at_call 15
            refine (HLX.out W41 hq41).mono ?_
            rintro e W42 ⟨v5, A5, c5, rfl, hl42, hb42⟩
            have hq42 := bt hq41 hb42
            have hm42 := (hb42.block r (blk_sz hm41)).trans hm41
            refine hK.out _ _ trivial (fun hHeld => ?_)
            clear hK K
            try simp only [Act.put, List.setIfInBounds_toArray, List.set_cons_zero, List.set_cons_succ]
            refine giveH 2 53 (.pointer v5) rfl rfl (by kernel_rfl) (by kernel_rfl) (by kernel_rfl) (fun _ _ _ h => h) (by rfl) (by intro wx hSw; go_simp) (by assumption) ?_
            try simp only [Act.put, List.setIfInBounds_toArray, List.set_cons_zero, List.set_cons_succ]
            refine wpAnyH_ready (rs := [3, 6]) (by kernel_rfl) (by simp) ?_
            refine AllReadyH.cons rfl (fun K hK => ?_) (AllReadyH.cons rfl (fun K hK => ?_) AllReadyH.nil)
            · skip
              go_simp
              go_at_call 17
              refine (len_at hl42).mono ?_
              rintro e W43 ⟨rfl, rfl⟩
              refine hK.out _ _ trivial (fun hHeld => ?_)
              clear hK K
              try simp only [Act.put, List.setIfInBounds_toArray, List.set_cons_zero, List.set_cons_succ]
              refine wpAnyH_ready (rs := [6]) (by kernel_rfl) (by simp) ?_
              refine AllReadyH.cons rfl (fun K hK => ?_) AllReadyH.nil
              obtain ⟨W44, hins, hm44, hsz44, hbl44, hoth44⟩ := sm_insTF W42 r hm42
              have hq44 := hq42.trans (hbl44 _ hrg)
              clear hbl44 hoth44 hsz44
              go_simp
              refine hK.out _ _ trivial (fun hHeld => ?_)
              clear hK K
              try simp only [Act.put, List.setIfInBounds_toArray, List.set_cons_zero, List.set_cons_succ]
              refine held_mono (S' := fun W => W.heap[r]? = some (.map pmTF 2)) (fun _ _ => trivial) _ _ _ _ ?_
              have hHeld44 : W44.heap[r]? = some (.map pmTF 2) := hm44
              refine giveH 7 56 (.map (some r)) rfl rfl (by kernel_rfl) (by kernel_rfl) (by kernel_rfl) (fun _ _ _ h => h) (by rfl) (by intro wx hSw; go_simp) (by assumption) ?_
              try simp only [Act.put, List.setIfInBounds_toArray, List.set_cons_zero, List.set_cons_succ]
              refine giveH 10 59 (.int .i64 nn) rfl rfl (by kernel_rfl) (by kernel_rfl) (by kernel_rfl) (fun _ _ _ h => h) (by rfl) (by intro wx hSw; have hl := HLTF.out wx r hSw; go_simp) (by assumption) ?_
              try simp only [Act.put, List.setIfInBounds_toArray, List.set_cons_zero, List.set_cons_succ]
              refine giveH 11 60 (.bool true) rfl rfl (by kernel_rfl) (by kernel_rfl) (by kernel_rfl) (fun _ _ _ h => h) (by rfl) (by intro wx hSw; go_simp) (by assumption) ?_
              try simp only [Act.put, List.setIfInBounds_toArray, List.set_cons_zero, List.set_cons_succ]
              refine giveH 12 2 (.bool true) rfl rfl (by kernel_rfl) (by kernel_rfl) (by kernel_rfl) (fun _ _ _ h => h) (by rfl) (by intro wx hSw; go_simp) (by assumption) ?_
              try simp only [Act.put, List.setIfInBounds_toArray, List.set_cons_zero, List.set_cons_succ]
              refine wpAnyH_done (by kernel_rfl) ?_ _
              go_wp2_with fail
              go_ret
              exact ⟨rfl, bt HB.out hq44⟩
            · skip
              obtain ⟨W45, hins, hm45, hsz45, hbl45, hoth45⟩ := sm_insTF W42 r hm42
              have hq45 := hq42.trans (hbl45 _ hrg)
              have hl45 := hl42.map hm42 hoth45
              clear hbl45 hoth45 hsz45
              go_simp
              refine hK.out _ _ trivial (fun hHeld => ?_)
              clear hK K
              try simp only [Act.put, List.setIfInBounds_toArray, List.set_cons_zero, List.set_cons_succ]
              refine held_mono (S' := fun W => W.heap[r]? = some (.map pmTF 2)) (fun _ _ => trivial) _ _ _ _ ?_
              have hHeld45 : W45.heap[r]? = some (.map pmTF 2) := hm45
              refine giveH 7 56 (.map (some r)) rfl rfl (by kernel_rfl) (by kernel_rfl) (by kernel_rfl) (fun _ _ _ h => h) (by rfl) (by intro wx hSw; go_simp) (by assumption) ?_
              try simp only [Act.put, List.setIfInBounds_toArray, List.set_cons_zero, List.set_cons_succ]
              refine giveH 10 59 (.int .i64 nn) rfl rfl (by kernel_rfl) (by kernel_rfl) (by kernel_rfl) (fun _ _ _ h => h) (by rfl) (by intro wx hSw; have hl := HLTF.out wx r hSw; go_simp) (by assumption) ?_
              try simp only [Act.put, List.setIfInBounds_toArray, List.set_cons_zero, List.set_cons_succ]
              refine wpAnyH_ready (rs := [3]) (by kernel_rfl) (by simp) ?_
              refine AllReadyH.cons rfl (fun K hK => ?_) AllReadyH.nil
              go_simp
              go_at_call 17
              refine (len_at hl45).mono ?_
              rintro e W46 ⟨rfl, rfl⟩
              refine hK.out _ _ hm45 (fun hHeld => ?_)
              clear hK K
              try simp only [Act.put, List.setIfInBounds_toArray, List.set_cons_zero, List.set_cons_succ]
              refine giveH 11 60 (.bool true) rfl rfl (by kernel_rfl) (by kernel_rfl) (by kernel_rfl) (fun _ _ _ h => h) (by rfl) (by intro wx hSw; go_simp) (by assumption) ?_
              try simp only [Act.put, List.setIfInBounds_toArray, List.set_cons_zero, List.set_cons_succ]
              refine giveH 12 2 (.bool true) rfl rfl (by kernel_rfl) (by kernel_rfl) (by kernel_rfl) (fun _ _ _ h => h) (by rfl) (by intro wx hSw; go_simp) (by assumption) ?_
              try simp only [Act.put, List.setIfInBounds_toArray, List.set_cons_zero, List.set_cons_succ]
              refine wpAnyH_done (by kernel_rfl) ?_ _
              go_wp2_with fail
              go_ret
              exact ⟨rfl, bt HB.out hq45⟩
          · skip
            obtain ⟨W47, hins, hm47, hsz47, hbl47, hoth47⟩ := sm_insTF W41 r hm41
            have hq47 := hq41.trans (hbl47 _ hrg)
            clear hbl47 hoth47 hsz47
            go_simp
            refine hK.out _ _ trivial (fun hHeld => ?_)
            clear hK K
            try simp only [Act.put, List.setIfInBounds_toArray, List.set_cons_zero, List.set_cons_succ]
            refine held_mono (S' := fun W => W.heap[r]? = some (.map pmTF 2)) (fun _ _ => trivial) _ _ _ _ ?_
            have hHeld47 : W47.heap[r]? = some (.map pmTF 2) := hm47
            refine giveH 7 56 (.map (some r)) rfl rfl (by kernel_rfl) (by kernel_rfl) (by kernel_rfl) (fun _ _ _ h => h) (by rfl) (by intro wx hSw; go_simp) (by assumption) ?_
            try simp only [Act.put, List.setIfInBounds_toArray, List.set_cons_zero, List.set_cons_succ]
            refine giveH 10 59 (.int .i64 nn) rfl rfl (by kernel_rfl) (by kernel_rfl) (by kernel_rfl) (fun _ _ _ h => h) (by rfl) (by intro wx hSw; have hl := HLTF.out wx r hSw; go_simp) (by assumption) ?_
            try simp only [Act.put, List.setIfInBounds_toArray, List.set_cons_zero, List.set_cons_succ]
            refine wpAnyH_ready (rs := [1]) (by kernel_rfl) (by simp) ?_
            refine AllReadyH.cons rfl (fun K hK => ?_) AllReadyH.nil
            go_simp
            go_at_call 15
            refine (HLX.out W47 hq47).mono ?_
            rintro e W48 ⟨v5, A5, c5, rfl, hl48, hb48⟩
            have hq48 := bt hq47 hb48
            have hm48 := (hb48.block r (blk_sz hm47)).trans hm47
            refine hK.out _ _ hm48 (fun hHeld => ?_)
            clear hK K
            try simp only [Act.put, List.setIfInBounds_toArray, List.set_cons_zero, List.set_cons_succ]
            refine giveH 2 53 (.pointer v5) rfl rfl (by kernel_rfl) (by kernel_rfl) (by kernel_rfl) (fun _ _ _ h => h) (by rfl) (by intro wx hSw; go_simp) (by assumption) ?_
            try simp only [Act.put, List.setIfInBounds_toArray, List.set_cons_zero, List.set_cons_succ]
            refine wpAnyH_ready (rs := [3]) (by kernel_rfl) (by simp) ?_
            refine AllReadyH.cons rfl (fun K hK => ?_) AllReadyH.nil
            go_simp
            go_at_call 17
            refine (len_at hl48).mono ?_
            rintro e W49 ⟨rfl, rfl⟩
            refine hK.out _ _ hm48 (fun hHeld => ?_)
            clear hK K
            try simp only [Act.put, List.setIfInBounds_toArray, List.set_cons_zero, List.set_cons_succ]
            refine giveH 11 60 (.bool true) rfl rfl (by kernel_rfl) (by kernel_rfl) (by kernel_rfl) (fun _ _ _ h => h) (by rfl) (by intro wx hSw; go_simp) (by assumption) ?_
            try simp only [Act.put, List.setIfInBounds_toArray, List.set_cons_zero, List.set_cons_succ]
            refine giveH 12 2 (.bool true) rfl rfl (by kernel_rfl) (by kernel_rfl) (by kernel_rfl) (fun _ _ _ h => h) (by rfl) (by intro wx hSw; go_simp) (by assumption) ?_
            try simp only [Act.put, List.setIfInBounds_toArray, List.set_cons_zero, List.set_cons_succ]
            refine wpAnyH_done (by kernel_rfl) ?_ _
            go_wp2_with fail
            go_ret
            exact ⟨rfl, bt HB.out hq48⟩
        · skip
          obtain ⟨W50, hins, hm50, hsz50, hbl50, hoth50⟩ := sm_insF W24 r hm24
          have hq50 := hq24.trans (hbl50 _ hrg)
          clear hbl50 hoth50 hsz50
          go_simp
          refine hK.out _ _ trivial (fun hHeld => ?_)
          clear hK K
          try simp only [Act.put, List.setIfInBounds_toArray, List.set_cons_zero, List.set_cons_succ]
          refine wpAnyH_ready (rs := [1, 5]) (by kernel_rfl) (by simp) ?_
          refine AllReadyH.cons rfl (fun K hK => ?_) (AllReadyH.cons rfl (fun K hK => ?_) AllReadyH.nil)
          · skip
            go_simp
            go_at_call 15
            refine (HLX.out W50 hq50).mono ?_
            rintro e W51 ⟨v5, A5, c5, rfl, hl51, hb51⟩
            have hq51 := bt hq50 hb51
            have hm51 := (hb51.block r (blk_sz hm50)).trans hm50
            refine hK.out _ _ trivial (fun hHeld => ?_)
            clear hK K
            try simp only [Act.put, List.setIfInBounds_toArray, List.set_cons_zero, List.set_cons_succ]
            refine giveH 2 53 (.pointer v5) rfl rfl (by kernel_rfl) (by kernel_rfl) (by kernel_rfl) (fun _ _ _ h => h) (by rfl) (by intro wx hSw; go_simp) (by assumption) ?_
            try simp only [Act.put, List.setIfInBounds_toArray, List.set_cons_zero, List.set_cons_succ]
            refine wpAnyH_ready (rs := [3, 5]) (by kernel_rfl) (by simp) ?_
            refine AllReadyH.cons rfl (fun K hK => ?_) (AllReadyH.cons rfl (fun K hK => ?_) AllReadyH.nil)
            · skip
              go_simp
              go_at_call 17
              refine (len_at hl51).mono ?_
              rintro e W52 ⟨rfl, rfl⟩
              refine hK.out _ _ trivial (fun hHeld => ?_)
              clear hK K
              try simp only [Act.put, List.setIfInBounds_toArray, List.set_cons_zero, List.set_cons_succ]
              refine wpAnyH_ready (rs := [5]) (by kernel_rfl) (by simp) ?_
              refine AllReadyH.cons rfl (fun K hK => ?_) AllReadyH.nil
              obtain ⟨W53, hins, hm53, hsz53, hbl53, hoth53⟩ := sm_insFT W51 r hm51
              have hq53 := hq51.trans (hbl53 _ hrg)
              clear hbl53 hoth53 hsz53
              go_simp
              refine hK.out _ _ trivial (fun hHeld => ?_)
              clear hK K
              try simp only [Act.put, List.setIfInBounds_toArray, List.set_cons_zero, List.set_cons_succ]
              refine held_mono (S' := fun W => W.heap[r]? = some (.map pmFT 2)) (fun _ _ => trivial) _ _ _ _ ?_
              have hHeld53 : W53.heap[r]? = some (.map pmFT 2) := hm53
              refine giveH 7 56 (.map (some r)) rfl rfl (by kernel_rfl) (by kernel_rfl) (by kernel_rfl) (fun _ _ _ h => h) (by rfl) (by intro wx hSw; go_simp) (by assumption) ?_
              try simp only [Act.put, List.setIfInBounds_toArray, List.set_cons_zero, List.set_cons_succ]
              refine giveH 10 59 (.int .i64 nn) rfl rfl (by kernel_rfl) (by kernel_rfl) (by kernel_rfl) (fun _ _ _ h => h) (by rfl) (by intro wx hSw; have hl := HLFT.out wx r hSw; go_simp) (by assumption) ?_
              try simp only [Act.put, List.setIfInBounds_toArray, List.set_cons_zero, List.set_cons_succ]
              refine giveH 11 60 (.bool true) rfl rfl (by kernel_rfl) (by kernel_rfl) (by kernel_rfl) (fun _ _ _ h => h) (by rfl) (by intro wx hSw; go_simp) (by assumption) ?_
              try simp only [Act.put, List.setIfInBounds_toArray, List.set_cons_zero, List.set_cons_succ]
              refine giveH 12 2 (.bool true) rfl rfl (by kernel_rfl) (by kernel_rfl) (by kernel_rfl) (fun _ _ _ h => h) (by rfl) (by intro wx hSw; go_simp) (by assumption) ?_
              try simp only [Act.put, List.setIfInBounds_toArray, List.set_cons_zero, List.set_cons_succ]
              refine wpAnyH_done (by kernel_rfl) ?_ _
              go_wp2_with fail
              go_ret
              exact ⟨rfl, bt HB.out hq53⟩
            · skip
              obtain ⟨W54, hins, hm54, hsz54, hbl54, hoth54⟩ := sm_insFT W51 r hm51
              have hq54 := hq51.trans (hbl54 _ hrg)
              have hl54 := hl51.map hm51 hoth54
              clear hbl54 hoth54 hsz54
              go_simp
              refine hK.out _ _ trivial (fun hHeld => ?_)
              clear hK K
              try simp only [Act.put, List.setIfInBounds_toArray, List.set_cons_zero, List.set_cons_succ]
              refine held_mono (S' := fun W => W.heap[r]? = some (.map pmFT 2)) (fun _ _ => trivial) _ _ _ _ ?_
              have hHeld54 : W54.heap[r]? = some (.map pmFT 2) := hm54
              refine giveH 7 56 (.map (some r)) rfl rfl (by kernel_rfl) (by kernel_rfl) (by kernel_rfl) (fun _ _ _ h => h) (by rfl) (by intro wx hSw; go_simp) (by assumption) ?_
              try simp only [Act.put, List.setIfInBounds_toArray, List.set_cons_zero, List.set_cons_succ]
              refine giveH 10 59 (.int .i64 nn) rfl rfl (by kernel_rfl) (by kernel_rfl) (by kernel_rfl) (fun _ _ _ h => h) (by rfl) (by intro wx hSw; have hl := HLFT.out wx r hSw; go_simp) (by assumption) ?_
              try simp only [Act.put, List.setIfInBounds_toArray, List.set_cons_zero, List.set_cons_succ]
              refine wpAnyH_ready (rs := [3]) (by kernel_rfl) (by simp) ?_
              refine AllReadyH.cons rfl (fun K hK => ?_) AllReadyH.nil
              go_simp
              go_at_call 17
              refine (len_at hl54).mono ?_
              rintro e W55 ⟨rfl, rfl⟩
              refine hK.out _ _ hm54 (fun hHeld => ?_)
              clear hK K
              try simp only [Act.put, List.setIfInBounds_toArray, List.set_cons_zero, List.set_cons_succ]
              refine giveH 11 60 (.bool true) rfl rfl (by kernel_rfl) (by kernel_rfl) (by kernel_rfl) (fun _ _ _ h => h) (by rfl) (by intro wx hSw; go_simp) (by assumption) ?_
              try simp only [Act.put, List.setIfInBounds_toArray, List.set_cons_zero, List.set_cons_succ]
              refine giveH 12 2 (.bool true) rfl rfl (by kernel_rfl) (by kernel_rfl) (by kernel_rfl) (fun _ _ _ h => h) (by rfl) (by intro wx hSw; go_simp) (by assumption) ?_
              try simp only [Act.put, List.setIfInBounds_toArray, List.set_cons_zero, List.set_cons_succ]
              refine wpAnyH_done (by kernel_rfl) ?_ _
              go_wp2_with fail
              go_ret
              exact ⟨rfl, bt HB.out hq54⟩
          · skip
            obtain ⟨W56, hins, hm56, hsz56, hbl56, hoth56⟩ := sm_insFT W50 r hm50
            have hq56 := hq50.trans (hbl56 _ hrg)
            clear hbl56 hoth56 hsz56
            go_simp
            refine hK.out _ _ trivial (fun hHeld => ?_)
            clear hK K
            try simp only [Act.put, List.setIfInBounds_toArray, List.set_cons_zero, List.set_cons_succ]
            refine held_mono (S' := fun W => W.heap[r]? = some (.map pmFT 2)) (fun _ _ => trivial) _ _ _ _ ?_
            have hHeld56 : W56.heap[r]? = some (.map pmFT 2) := hm56
            refine giveH 7 56 (.map (some r)) rfl rfl (by kernel_rfl) (by kernel_rfl) (by kernel_rfl) (fun _ _ _ h => h) (by rfl) (by intro wx hSw; go_simp) (by assumption) ?_
            try simp only [Act.put, List.setIfInBounds_toArray, List.set_cons_zero, List.set_cons_succ]
            refine giveH 10 59 (.int .i64 nn) rfl rfl (by kernel_rfl) (by kernel_rfl) (by kernel_rfl) (fun _ _ _ h => h) (by rfl) (by intro wx hSw; have hl := HLFT.out wx r hSw; go_simp) (by assumption) ?_
            try simp only [Act.put, List.setIfInBounds_toArray, List.set_cons_zero, List.set_cons_succ]
            refine wpAnyH_ready (rs := [1]) (by kernel_rfl) (by simp) ?_
            refine AllReadyH.cons rfl (fun K hK => ?_) AllReadyH.nil
            go_simp
            go_at_call 15
            refine (HLX.out W56 hq56).mono ?_
            rintro e W57 ⟨v5, A5, c5, rfl, hl57, hb57⟩
            have hq57 := bt hq56 hb57
            have hm57 := (hb57.block r (blk_sz hm56)).trans hm56
            refine hK.out _ _ hm57 (fun hHeld => ?_)
            clear hK K
            try simp only [Act.put, List.setIfInBounds_toArray, List.set_cons_zero, List.set_cons_succ]
            refine giveH 2 53 (.pointer v5) rfl rfl (by kernel_rfl) (by kernel_rfl) (by kernel_rfl) (fun _ _ _ h => h) (by rfl) (by intro wx hSw; go_simp) (by assumption) ?_
            try simp only [Act.put, List.setIfInBounds_toArray, List.set_cons_zero, List.set_cons_succ]
            refine wpAnyH_ready (rs := [3]) (by kernel_rfl) (by simp) ?_
            refine AllReadyH.cons rfl (fun K hK => ?_) AllReadyH.nil
            go_simp
            go_at_call 17
            refine (len_at hl57).mono ?_
            rintro e W58 ⟨rfl, rfl⟩
            refine hK.out _ _ hm57 (fun hHeld => ?_)
            clear hK K
            try simp only [Act.put, List.setIfInBounds_toArray, List.set_cons_zero, List.set_cons_succ]
            refine giveH 11 60 (.bool true) rfl rfl (by kernel_rfl) (by kernel_rfl) (by kernel_rfl) (fun _ _ _ h => h) (by rfl) (by intro wx hSw; go_simp) (by assumption) ?_
            try simp only [Act.put, List.setIfInBounds_toArray, List.set_cons_zero, List.set_cons_succ]
            refine giveH 12 2 (.bool true) rfl rfl (by kernel_rfl) (by kernel_rfl) (by kernel_rfl) (fun _ _ _ h => h) (by rfl) (by intro wx hSw; go_simp) (by assumption) ?_
            try simp only [Act.put, List.setIfInBounds_toArray, List.set_cons_zero, List.set_cons_succ]
            refine wpAnyH_done (by kernel_rfl) ?_ _
            go_wp2_with fail
            go_ret
            exact ⟨rfl, bt HB.out hq57⟩
end Go.Proofs.YtgfjkpfjajjidaaDoor
