/- The walk of the law HeadFields. -/
import Derived.Test.YtihdjgjceadooaaDoorFit
namespace Go.Proofs.YtihdjgjceadooaaDoor
open Go.RowKit Pl

theorem valsOf_split (name : ByteArray) (fs : List Fld) (k : Nat) : valsOf name fs = valsOf name (fs.take k) ++ valsOf name (fs.drop k) := by
  conv => lhs; rw [← List.take_append_drop k fs]
  unfold valsOf; rw [List.filterMap_append]
theorem valsOf_here (name : ByteArray) (fs : List Fld) (k : Nat) (h : k < fs.length) (hn : (fs[k]).1 = name) : (valsOf name fs)[(valsOf name (fs.take k)).length]? = some (fs[k]).2 := by
  rw [valsOf_split name fs k, List.getElem?_append_right (Nat.le_refl _), Nat.sub_self, List.drop_eq_getElem_cons h]
  rw [valsOf, List.filterMap_cons]; simp only [hn, if_true]; rfl

set_option maxHeartbeats 2000000 in
theorem fields_walk (fs : List Fld) (name : ByteArray) (A : Option Addr) (c : Nat) (w : World) (hr : Rd w w.heap.size 2 A fs.length (fldCells fs)) (hn : fs.length ≤ 40) (hm : name.size ≤ 100) :
    Calls Tryd.prog 3 #[.slice A fs.length c, .string name] w fun e w' => e = .returned (.bool true) ∧ Below w.heap.size w w' := by
  have HR := Lib.hid hr
  clear hr
  go_enter Tryd.func3, Tryd.ntmps3
  go_wp2_with fail
  refine (fit_any _).mono ?_
  rintro e w1 ⟨rfl, hb1⟩
  have HA := Lib.hid (all_at fs name A c w HR.out (by omega) w1 hb1)
  go_wp2_with fail
  refine HA.out.mono ?_
  rintro e w2 ⟨v, rfl, hown, hb2, _⟩
  obtain ⟨B, cg, rfl, hrd⟩ := Rd.own hown
  have HO := Lib.hid hown
  have HRG := Lib.hid hrd
  clear hown HA hrd
  have hvl := valsOf_len name fs
  go_wp2_with fail
  go_loopw [6, 24] (fun q i wr => ∃ k : Nat, k ≤ fs.length ∧ i = .int .i64 k ∧ q = .int .i64 (valsOf name (fs.take k)).length ∧ Below w2.heap.size w2 wr) (fun _ i _ => fs.length - (intOf i).toNat)
  case atStart => exact ⟨0, by omega, rfl, rfl, Below.refl _ _⟩
  case round =>
    obtain ⟨k, hk, rfl, rfl, hbel⟩ := hrel
    have hbw := bt hb2 hbel
    by_cases hlt : k < fs.length
    · obtain ⟨a, rfl, hab, hc⟩ := (HR.out.below hbw (Nat.le_refl _)).2 (by omega)
      have hc0 : wr.cell? (a.add (k * 2)) = some (.string (fs[k]).1) := hc _ _ (fldCells_at fs k hlt).1
      have hc1 : wr.cell? ⟨(a.add (k * 2)).block, (a.add (k * 2)).off + 1, none⟩ = some (.string (fs[k]).2) := by rw [add_next]; exact hc _ _ (fldCells_at fs k hlt).2
      have hsn := congrArg List.length (valsOf_snoc name fs k hlt)
      have hhere := valsOf_here name fs k hlt
      have hte := eq_test (fs[k]).1 name
      clear hc
      generalize (fs[k]).1 = f1 at *
      generalize (fs[k]).2 = f2 at *
      by_cases hq : f1 = name
      · subst hq
        have hh := hhere rfl
        rw [if_pos rfl] at hsn
        simp only [decide_true] at hte
        have hlt2 : (valsOf f1 (fs.take k)).length < (valsOf f1 fs).length := (List.getElem?_eq_some_iff.1 hh).1
        have hcg : ∃ b : Addr, B = some b ∧ b.block < w2.heap.size ∧ wr.cell? (b.add (valsOf f1 (fs.take k)).length) = some (.string f2) := by
          obtain ⟨b, e, hb, hcb⟩ := (HRG.out.below hbel (Nat.le_refl _)).at hlt2 (.string f2) (by rw [List.getElem?_map, hh]; rfl)
          exact ⟨b, e, hb, hcb⟩
        obtain ⟨b, rfl, hbb, hcb⟩ := hcg
        have hal : (wr.alloc (.cells #[.string f1, .string f2] 27)).cell? (b.add (valsOf f1 (fs.take k)).length) = some (.string f2) := by
          rw [World.cell?_alloc_lt _ _ _ (by rw [add_block]; have := hbel.size; omega)]; exact hcb
        rw [List.length_append] at hsn
        simp only [List.length_singleton] at hsn
        have HS := Lib.hid hsn
        clear hsn hh hhere
        generalize (valsOf f1 (fs.take k)).length = q at *
        generalize (valsOf f1 fs).length = Q at *
        have t1 : decide ((Q : Int) ≤ (q : Int)) = false := by simp; omega
        have t2 : decide (Q ≤ q) = false := by simp; omega
        go_wp2_with fail
        go_region
        go_wp2_with fail
        go_roundw
        case rel => exact ⟨k + 1, by omega, by go_num, by rw [HS.out]; go_num, (hbel.alloc hbel.size _).drew⟩
        case measure => simp [intOf]; omega
      · rw [if_neg hq, List.append_nil] at hsn
        have htf : (f1.toList == name.toList) = false := by rw [hte]; simpa using hq
        have HS := Lib.hid hsn
        clear hsn hte hq hhere
        go_wp2
        go_roundw
        case rel => exact ⟨k + 1, by omega, by go_num, by rw [HS.out], hbel.alloc hbel.size _⟩
        case measure => simp [intOf]; omega
    · have hE : fs.take k = fs := List.take_of_length_le (by omega)
      rw [hE]
      clear hE
      go_wp2
      go_ret
      exact ⟨ret_bool (by simp), hbw⟩

theorem fields_any (fs : List Fld) (A : Option Addr) (c : Nat) (name : ByteArray) (w : World) (hr : Rd w w.heap.size 2 A fs.length (fldCells fs)) (hl : fs.length ≤ c) (hc : c ≤ maxLen) (_hs : ∀ f ∈ fs, f.1.size ≤ maxLen ∧ f.2.size ≤ maxLen) (hm : name.size ≤ maxLen) :
    Calls Tryd.prog 3 #[.slice A fs.length c, .string name] w fun e w' => e = .returned (.bool true) ∧ Below w.heap.size w w' := by
  by_cases h1 : fs.length ≤ 40
  · by_cases h2 : name.size ≤ 100
    · exact fields_walk fs name A c w hr h1 h2
    · unfold maxLen at hc hm
      clear hr _hs
      go_enter Tryd.func3, Tryd.ntmps3
      go_wp2_with fail
      refine (fit_any _).mono ?_
      rintro e w1 ⟨rfl, hb1⟩
      go_wp2_with fail
      go_ret
      exact ⟨rfl, hb1⟩
  · unfold maxLen at hc hm
    clear hr _hs
    go_enter Tryd.func3, Tryd.ntmps3
    go_wp2_with fail
    refine (fit_any _).mono ?_
    rintro e w1 ⟨rfl, hb1⟩
    go_wp2_with fail
    go_ret
    exact ⟨rfl, hb1⟩

end Go.Proofs.YtihdjgjceadooaaDoor
