/- The contract of head.closes. -/
import Derived.Test.YtkjlbddaglcooaaGreatDoorBegin
namespace Go.Proofs.YtkjlbddaglcooaaGreatDoor
open Go.RowKit Pl

theorem any_snoc {α : Type} (p : α → Bool) (l : List α) (k : Nat) (h : k < l.length) : (l.take (k + 1)).any p = ((l.take k).any p || p l[k]) := by
  rw [List.take_succ_eq_append_getElem h, List.any_append]; simp
theorem any_hit {α : Type} (p : α → Bool) (l : List α) (k : Nat) (h : k < l.length) (hp : p l[k] = true) : l.any p = true := by
  rw [List.any_eq_true]; exact ⟨l[k], List.getElem_mem h, hp⟩
theorem words_len (b : UInt8) (l : List UInt8) : (wordsB b l).length ≤ l.length + 1 := by
  have : ∀ (l cur : List UInt8), (wordsGo b cur l).length ≤ l.length + 1 := by
    intro l
    induction l with
    | nil => intro cur; simp [wordsGo]
    | cons c l ih =>
      intro cur
      rw [wordsGo]
      split
      · have := ih []; simp; omega
      · have := ih (cur ++ [c]); simp; omega
  exact this l []
theorem words_small (b : UInt8) (l : List UInt8) : ∀ x ∈ wordsB b l, x.length ≤ l.length := by
  have : ∀ (l cur : List UInt8), ∀ x ∈ wordsGo b cur l, x.length ≤ cur.length + l.length := by
    intro l
    induction l with
    | nil => intro cur x hx; simp [wordsGo] at hx; subst hx; simp
    | cons c l ih =>
      intro cur x hx
      rw [wordsGo] at hx
      split at hx
      · rw [List.mem_cons] at hx
        rcases hx with rfl | hx
        · simp
        · have := ih [] x hx; simp at this; simp; omega
      · have := ih (cur ++ [c]) x hx; simp at this; simp; omega
  intro x hx
  simpa using this l [] x hx
theorem words_pos (b : UInt8) (l : List UInt8) : 0 < (wordsB b l).length := by
  have : ∀ (l cur : List UInt8), 0 < (wordsGo b cur l).length := by
    intro l
    induction l with
    | nil => intro cur; simp [wordsGo]
    | cons c l ih =>
      intro cur
      rw [wordsGo]
      split
      · simp
      · exact ih _
  exact this l []
theorem trS_size (s : ByteArray) : (trS s).size ≤ s.size := by
  rw [← data_len, trS_data, ← data_len s]; exact tr_len _

set_option maxHeartbeats 2000000 in
theorem closes_any (vs : List ByteArray) (A : Option Addr) (c : Nat) (w : World) (hr : Rd w w.heap.size 1 A vs.length (vs.map .string)) (hn : vs.length ≤ 1000000) (hs : ∀ s ∈ vs, s.size ≤ 1000000) :
    Calls Tryz.prog 33 #[.slice A vs.length c] w fun e w' => e = .returned (.bool (closesF vs)) ∧ Below w.heap.size w w' := by
  have HS := Lib.hid hs
  clear hs
  go_enter Tryz.func33, Tryz.ntmps33
  go_wp2
  go_loopw [9] (fun i wr => ∃ k : Nat, k ≤ vs.length ∧ i = .int .i64 k ∧ Below w.heap.size w wr ∧ Hid ((vs.take k).any closesV = false)) (fun i _ => vs.length - (intOf i).toNat)
  case atStart => exact ⟨0, by omega, rfl, Below.refl _ _, rfl⟩
  case round =>
    obtain ⟨k, hk, rfl, hbel, hinv⟩ := hrel
    by_cases hlt : k < vs.length
    · obtain ⟨a, rfl, hab, hc⟩ := (hr.below hbel (Nat.le_refl _)).at hlt (.string vs[k]) (by simp [hlt])
      have hsz := HS.out vs[k] (List.getElem_mem hlt)
      have hsn := any_snoc closesV vs k hlt
      rw [hinv.out, Bool.false_or] at hsn
      have hhit := any_hit closesV vs k hlt
      have HR := Lib.hid hr
      clear hr
      generalize vs[k] = s at *
      have hwl := words_len 44 s.data.toList
      have hwp := words_pos 44 s.data.toList
      have hws := Lib.hid (words_small 44 s.data.toList)
      have hww := Lib.hid fun w => words_any s 44 w (by omega)
      rw [data_len] at hwl hws
      change (vs.take (k + 1)).any closesV = (wordsB 44 s.data.toList).any closeW at hsn
      change (wordsB 44 s.data.toList).any closeW = true → vs.any closesV = true at hhit
      generalize wordsB 44 s.data.toList = ws at *
      have HSN := Lib.hid hsn; have HH := Lib.hid hhit
      clear hsn hhit
      go_wp2_with fail
      refine (hww.out _).mono ?_
      rintro e w1 ⟨v1, rfl, hown, hb1⟩
      obtain ⟨gw, cap, rfl, hgw, hgl, hcap⟩ := own_shape hown hwp
      have hb01 := bt hbel (hb1.mono (Nat.le_refl _))
      have HO := Lib.hid hown
      clear hown hc
      go_wp2_with fail
      go_loopw [16] (fun i wq => ∃ j : Nat, j ≤ ws.length ∧ i = .int .i64 j ∧ Below w1.heap.size w1 wq ∧ Hid ((ws.take j).any closeW = false)) (fun i _ => ws.length - (intOf i).toNat)
      case atStart => exact ⟨0, by omega, rfl, Below.refl _ _, rfl⟩
      case round =>
        obtain ⟨j, hj, rfl, hbq, hinq⟩ := hrel
        by_cases hjl : j < ws.length
        · have hcell : wr.cell? ⟨gw, j, none⟩ = some (.string (mkB ws[j])) := by
            refine (hbq.cell (p := ⟨gw, j, none⟩) hgl).trans ?_
            have := HO.out.cells (g := gw) rfl j (strV ws[j]) (by simp [hjl])
            rw [add_zero_own] at this
            exact this
          have hsn2 := any_snoc closeW ws j hjl
          rw [hinq.out, Bool.false_or] at hsn2
          have hhit2 := any_hit closeW ws j hjl
          have hxs : (mkB ws[j]).size ≤ s.size := by rw [mkB_size]; exact hws.out _ (List.getElem_mem hjl)
          have hx2 : closeW ws[j] = decide (lowS (trS (mkB ws[j])) = closeN) := rfl
          generalize mkB ws[j] = x at *
          have htr := trS_size x
          have HT := Lib.hid fun w => trim_any x w (by omega)
          have HL := Lib.hid fun w => low_s (trS x) w (by omega)
          have hq := eq_list (lowS (trS x)) [99, 108, 111, 115, 101]
          have hq2 : closeW ws[j] = decide ((lowS (trS x)).data.toList = [99, 108, 111, 115, 101]) := by
            rw [hx2]
            exact decide_eq_decide.2 ⟨fun e => by rw [e]; rfl, fun e => bytes_ext (by rw [e]; rfl)⟩
          rw [← hq2] at hq
          rw [hq2] at hq
          generalize lowS (trS x) = lx at *
          generalize trS x = tx at *
          have HSN2 := Lib.hid hsn2; have HH2 := Lib.hid hhit2
          clear hsn2 hhit2 hx2 htr
          by_cases hcl : lx.data.toList = [99, 108, 111, 115, 101]
          · have ht : (lx.toList == [99, 108, 111, 115, 101]) = true := by rw [hq]; exact decide_eq_true hcl
            have HY : Hid (closesF vs = true) := HH.out (HH2.out (by rw [hq2]; exact decide_eq_true hcl))
            clear hq hq2 hcl
            go_wp2_with fail
            refine (HT.out _).mono ?_
            rintro e w2 ⟨rfl, hb2⟩
            go_wp2_with fail
            refine (HL.out _).mono ?_
            rintro e w3 ⟨rfl, hb3⟩
            go_wp2
            go_ret
            exact ⟨ret_bool HY.out.symm, bt (bt (bt hb01 hbq) hb2) hb3⟩
          · have ht : (lx.toList == [99, 108, 111, 115, 101]) = false := by rw [hq]; exact decide_eq_false hcl
            have HY : Hid ((ws.take (j + 1)).any closeW = false) := by rw [HSN2.out, hq2]; exact decide_eq_false hcl
            clear hq hq2 hcl
            go_wp2_with fail
            refine (HT.out _).mono ?_
            rintro e w2 ⟨rfl, hb2⟩
            go_wp2_with fail
            refine (HL.out _).mono ?_
            rintro e w3 ⟨rfl, hb3⟩
            go_wp2
            go_roundw
            case rel => exact ⟨j + 1, by omega, by go_num, bt (bt hbq hb2) hb3, HY⟩
            case measure => simp [intOf]; omega
        · have hE : ws.take j = ws := List.take_of_length_le (by omega)
          have HY : Hid ((vs.take (k + 1)).any closesV = false) := by
            have := hinq.out
            rw [hE] at this
            rw [HSN.out]; exact this
          clear hE
          go_wp2
          go_roundw
          case rel => exact ⟨k + 1, by omega, by go_num, bt hb01 hbq, HY⟩
          case measure => simp [intOf]; omega
    · have hE : vs.take k = vs := List.take_of_length_le (by omega)
      have HY : Hid (closesF vs = false) := by
        have := hinv.out
        rw [hE] at this
        exact this
      clear hE
      go_wp2
      go_ret
      exact ⟨ret_bool HY.out.symm, hbel⟩

end Go.Proofs.YtkjlbddaglcooaaGreatDoor
