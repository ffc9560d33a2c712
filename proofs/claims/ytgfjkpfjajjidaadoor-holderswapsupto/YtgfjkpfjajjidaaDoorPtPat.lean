/- The contracts of path.Pattern, Shape and Join. -/
import Derived.Test.YtgfjkpfjajjidaaDoorPtFits
import Derived.Test.YtgfjkpfjajjidaaDoorPlains
import Derived.Lib.Join
namespace Go.Proofs.YtgfjkpfjajjidaaDoor
open Go.RowKit Pl Go.Shelf

set_option maxRecDepth 100000 in
set_option maxHeartbeats 4000000 in
theorem pat_any (s : ByteArray) (w : World) (hs : s.size ≤ 10000) : Calls Tryd.prog 19 #[.string s] w fun e w' => ∃ v, e = .returned (.tuple #[v, .bool (patL s.data.toList).isSome]) ∧ w'.ownsRow w.heap.size 9 1 v ((patL s.data.toList).getD []).length (((patL s.data.toList).getD []).map strV) ∧ Below w.heap.size w w' := by
  have HG := Lib.hid (fun w => segs_any s w (by omega))
  have hsm := @segs_small s.data.toList
  have hsl := @segs_len s.data.toList
  rw [data_len] at hsm
  have hsp : patL s.data.toList = match segsL s.data.toList with
    | none => none
    | some l => if fitsFrom l 0 l then some l else none := rfl
  generalize patL s.data.toList = SP at *
  cases hsg : segsL s.data.toList with
  | none =>
    rw [hsg] at HG hsp
    simp only at hsp
    subst hsp
    clear hsm hsl hsg
    go_enter Tryd.func19, Tryd.ntmps19
    go_wp2_with fail
    refine (HG.out _).mono ?_
    rintro e w2 ⟨v2, rfl, ho, hb2⟩
    go_wp2_with fail
    go_ret2
    exact ⟨_, rfl, World.ownsRow_nil _ _ _ _, hb2⟩
  | some l =>
    rw [hsg] at HG hsp
    have HSM := Lib.hid (hsm hsg)
    have hll := hsl hsg
    simp only [Option.getD_some, Option.isSome_some] at HG hsp
    have HSP := Lib.hid hsp
    clear hsm hsl hsg hsp
    go_enter Tryd.func19, Tryd.ntmps19
    go_wp2_with fail
    refine (HG.out _).mono ?_
    rintro e w2 ⟨v2, rfl, ho, hb2⟩
    obtain ⟨A, c, rfl, hrd⟩ := Rd.own ho
    have hcl : l.length ≤ c := by
      rcases ho.2 with ⟨h1, h2⟩ | ⟨g, cap, cur, h1, _, _, h2, _⟩
      · omega
      · cases h1; exact h2
    have HO := Lib.hid ho
    have HB2 := Lib.hid hb2
    have HR := Lib.hid hrd
    clear ho hb2 hrd
    go_wp2_with fail
    go_loopw [16] (fun i wr => ∃ (k : Nat), k ≤ l.length ∧ i = .int .i64 k ∧ Hid (Below w2.heap.size w2 wr) ∧ Hid (fitsFrom l 0 l = fitsFrom l k (l.drop k))) (fun i _ => l.length - (intOf i).toNat)
    case atStart => exact ⟨0, by omega, rfl, Below.refl _ _, by show _ = _; simp⟩
    case round =>
      obtain ⟨k, hk, rfl, HB, HV⟩ := hrel
      by_cases hlt : k < l.length
      · have HF := Lib.hid (fits_any l A c k hlt wr ((HR.out.below HB.out (Nat.le_refl _)).wide HB.out.size) (by omega) hcl (fun x hx => by have := HSM.out x hx; omega))
        have hst := fits_at l k hlt
        rw [← HV.out] at hst
        generalize fitL l k l[k] = b at *
        have HS := Lib.hid hst
        clear hst
        cases b with
        | true =>
          have HS2 : Hid (fitsFrom l 0 l = fitsFrom l (k + 1) (l.drop (k + 1))) := by show _ = _; rw [HS.out]; rfl
          clear HS
          go_wp2_with fail
          refine HF.out.mono ?_
          rintro e w3 ⟨rfl, hb3⟩
          have HB3 : Hid (Below w2.heap.size w2 w3) := bt HB.out hb3
          clear hb3
          go_wp2_with fail
          go_roundw
          case rel => exact ⟨k + 1, by omega, by go_num, HB3, HS2⟩
          case measure => simp [intOf]; omega
        | false =>
          have HS2 : Hid (SP = none) := by show _ = _; rw [HSP.out, HS.out]; rfl
          clear HS
          go_wp2_with fail
          refine HF.out.mono ?_
          rintro e w3 ⟨rfl, hb3⟩
          go_wp2_with fail
          go_ret2
          rw [HS2.out]
          exact ⟨_, rfl, World.ownsRow_nil _ _ _ _, bt HB2.out (bt HB.out hb3)⟩
      · have HS2 : Hid (SP = some l) := by
          have := HV.out
          rw [fits_end l k (by omega)] at this
          show _ = _
          rw [HSP.out, this]; rfl
        go_wp2_with fail
        go_ret2
        rw [HS2.out]
        exact ⟨_, rfl, own_below HO.out HB.out, bt HB2.out HB.out⟩

theorem add_str (a b : ByteArray) (h : a.size + b.size ≤ 9223372036854775807) (wx : World) : (Op.stringOp .add a b).run Tryd.prog wx = .ok (.string (a ++ b)) wx := run_string_add_sum wx a b h
theorem app_data (a b : ByteArray) : (a ++ b).data.toList = a.data.toList ++ b.data.toList := by simp
theorem app_size (a b : ByteArray) : (a ++ b).size = a.size + b.size := by simp

theorem shape_snoc (xs : List (List UInt8)) (k : Nat) (h : k < xs.length) : shapeL (xs.take (k + 1)) = shapeL (xs.take k) ++ shapeC xs[k] := by
  unfold shapeL
  rw [List.take_add_one, List.getElem?_eq_getElem h, List.flatMap_append]
  simp
theorem flat_le (xs : List (List UInt8)) (m : Nat) (h : ∀ x ∈ xs, x.length ≤ m) (f : List UInt8 → List UInt8) (hf : ∀ x, (f x).length ≤ x.length + 1) : (xs.flatMap f).length ≤ xs.length * (m + 1) := by
  induction xs with
  | nil => simp
  | cons x xs ih =>
    have h1 := ih (fun y hy => h y (by simp [hy]))
    have h2 := hf x; have h3 := h x (by simp)
    rw [List.flatMap_cons, List.length_append, List.length_cons, Nat.add_mul]
    omega
theorem shapeC_len (x : List UInt8) : (shapeC x).length ≤ x.length + 1 := by
  unfold shapeC
  split
  · simp; omega
  · simp

set_option maxRecDepth 100000 in
set_option maxHeartbeats 4000000 in
theorem shape_any (xs : List (List UInt8)) (A : Option Addr) (c : Nat) (w : World) (hr : Rd w w.heap.size 1 A xs.length (xs.map strV)) (hn : xs.length ≤ 1000) (hs : ∀ x ∈ xs, x.length ≤ 10000) :
    Calls Tryd.prog 65 #[.slice A xs.length c] w fun e w' => e = .returned (.string (mkB (shapeL xs))) ∧ Below w.heap.size w w' := by
  have HS := Lib.hid hs
  have HR := Lib.hid hr
  have HN := Lib.hid (new_builder w)
  have HBA := Lib.hid ((Below.refl w.heap.size w).alloc (Nat.le_refl _) (.cells #[.pointer none, .slice none 0 0] 137))
  clear hs hr
  go_enter Tryd.func65, Tryd.ntmps65
  go_wp2_with fail
  go_loopw [8] (fun i wr => ∃ (k : Nat), k ≤ xs.length ∧ i = .int .i64 k ∧ Hid (Lib.IsBuilder 137 5 w.heap.size w.heap.size (Lib.byteCells (shapeL (xs.take k))) wr) ∧ Hid (Below w.heap.size w wr)) (fun i _ => xs.length - (intOf i).toNat)
  case atStart => exact ⟨0, by omega, rfl, HN, HBA⟩
  case round =>
    obtain ⟨k, hk, rfl, HI, HB⟩ := hrel
    by_cases hlt : k < xs.length
    · obtain ⟨a, rfl, hab, hc⟩ := (HR.out.below HB.out (Nat.le_refl _)).at hlt (strV xs[k]) (by simp [hlt])
      rw [strV_mk] at hc
      have hsz : (mkB xs[k]).size ≤ 10000 := by rw [mkB_size]; exact HS.out _ (List.getElem_mem hlt)
      have HK := Lib.hid (fun w => kind_any (mkB xs[k]) w)
      have hln : (shapeL (xs.take k)).length ≤ 1000 * 10001 := by
        refine Nat.le_trans (flat_le (xs.take k) 10000 (fun x hx => HS.out x (List.mem_of_mem_take hx)) shapeC shapeC_len) ?_
        simp; omega
      have hp := @kind_pos (mkB xs[k]).data.toList
      rw [data_len] at hp
      have hkc := kind_cases (mkB xs[k]).data.toList
      have hsn := shape_snoc xs k hlt
      have hsc : shapeC xs[k] = 47 :: (if kindL (mkB xs[k]).data.toList ≠ 0 then (mkB xs[k]).data.toList.take 1 else (mkB xs[k]).data.toList) := by rw [mkB_data]; rfl
      rw [hsc] at hsn
      have hx0 : ((mkB xs[k]).extract 0 1).data.toList = (mkB xs[k]).data.toList.take 1 := by rw [ext_data]; simp
      have hxz : ((mkB xs[k]).extract 0 1).size ≤ 10000 := by rw [← data_len, hx0]; simp; omega
      clear hsc
      generalize mkB xs[k] = s at *
      generalize kindL s.data.toList = q at *
      generalize shapeL (xs.take k) = acc at *
      rw [← hx0] at hsn
      have HX := Lib.hid hsn
      clear hsn hx0
      have k1 := add_str ⟨#[47]⟩ s (by have : (⟨#[47]⟩ : ByteArray).size = 1 := rfl; omega)
      have k2 := add_str ⟨#[47]⟩ (s.extract 0 1) (by have : (⟨#[47]⟩ : ByteArray).size = 1 := rfl; omega)
      rcases hkc with rfl | rfl | rfl
      · have HX0 : Hid (shapeL (xs.take (k + 1)) = acc ++ (⟨#[47]⟩ ++ s : ByteArray).data.toList) := by show _ = _; rw [HX.out, app_data]; rfl
        have hz : (⟨#[47]⟩ ++ s : ByteArray).size ≤ 10001 := by rw [app_size]; have : (⟨#[47]⟩ : ByteArray).size = 1 := rfl; omega
        clear HX hp k2
        generalize (⟨#[47]⟩ ++ s : ByteArray) = y at *
        go_wp2_with fail
        refine (HK.out _).mono ?_
        rintro e w1 ⟨rfl, rfl⟩
        go_wp2_with fail
        refine (put_any w.heap.size w.heap.size acc y _ HI.out (by omega) HB.out.size).mono ?_
        rintro e w4 ⟨rfl, hI4, hb4⟩
        have HB4 : Hid (Below w.heap.size w w4) := HB.out.trans hb4
        have HI4 := Lib.hid hI4
        clear hb4 hI4
        go_wp2_with fail
        go_roundw
        case rel => exact ⟨k + 1, by omega, by go_num, by rw [HX0.out]; exact HI4, HB4⟩
        case measure => simp [intOf]; omega
      all_goals
        have HX0 : Hid (shapeL (xs.take (k + 1)) = acc ++ (⟨#[47]⟩ ++ s.extract 0 1 : ByteArray).data.toList) := by show _ = _; rw [HX.out, app_data]; rfl
        have hz : (⟨#[47]⟩ ++ s.extract 0 1 : ByteArray).size ≤ 10001 := by rw [app_size]; have : (⟨#[47]⟩ : ByteArray).size = 1 := rfl; omega
        have hp1 := hp (by decide)
        clear HX hp k1
        generalize (⟨#[47]⟩ ++ s.extract 0 1 : ByteArray) = y at *
        go_wp2_with fail
        refine (HK.out _).mono ?_
        rintro e w1 ⟨rfl, rfl⟩
        go_wp2_with fail
        refine (put_any w.heap.size w.heap.size acc y _ HI.out (by omega) HB.out.size).mono ?_
        rintro e w4 ⟨rfl, hI4, hb4⟩
        have HB4 : Hid (Below w.heap.size w w4) := HB.out.trans hb4
        have HI4 := Lib.hid hI4
        clear hb4 hI4
        go_wp2_with fail
        go_roundw
        case rel => exact ⟨k + 1, by omega, by go_num, by rw [HX0.out]; exact HI4, HB4⟩
        case measure => simp [intOf]; omega
    · have HI2 : Hid (Lib.IsBuilder 137 5 w.heap.size w.heap.size (Lib.byteCells (shapeL xs)) wr) := by
        have := HI.out
        rw [List.take_of_length_le (by omega)] at this
        exact this
      go_wp2_with fail
      refine (str_any w.heap.size w.heap.size (shapeL xs) wr HI2.out HB.out.size).mono ?_
      rintro e w6 ⟨rfl, hb6⟩
      go_wp2_with fail
      go_ret
      exact ⟨rfl, HB.out.trans hb6⟩

end Go.Proofs.YtgfjkpfjajjidaaDoor
