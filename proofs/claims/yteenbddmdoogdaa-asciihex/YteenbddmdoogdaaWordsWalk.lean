/- The walk of the law AsciiWords. -/
import Derived.Test.YteenbddmdoogdaaParts
import Derived.Test.YteenbddmdoogdaaJoinPlain
import Derived.Laws.BytesArg
namespace Go.Proofs.Yteenbddmdoogdaa
open Go.RowKit Pl

theorem app_data (a b : ByteArray) : (a ++ b).data.toList = a.data.toList ++ b.data.toList := by
  simp
theorem app_size (a b : ByteArray) : (a ++ b).size = a.size + b.size := by
  simp
theorem one_byte (b : UInt8) (W : World) : (convert 24 9 (.slice (some ⟨W.heap.size, 0, none⟩) 1 1)).run Try.prog (W.alloc (.cells #[.int .u8 (b.toNat : Int)] 5)) = .ok (.string ⟨#[b]⟩) (W.alloc (.cells #[.int .u8 (b.toNat : Int)] 5)) := by
  have := run_convert_bytes_arg (P := Try.prog) (W.alloc (.cells #[.int .u8 (b.toNat : Int)] 5)) 24 5 Try.underlying24 Try.underlying5 W.heap.size 0 1 1 [(b.toNat : Int)] rfl (fun i hi => by
    obtain rfl : i = 0 := by omega
    simp) 9 Try.underlying9
  rw [this]
  simp [strOfNums]

theorem free_at {b : UInt8} {t : ByteArray} (h : b ∉ t.data.toList) (m : Nat) (hm : m < t.size) : (((t[m]'hm).toNat : Int) == (b.toNat : Int)) = false := by
  rw [beq_eq_false_iff_ne]
  intro e
  have e2 : t[m]'hm = b := UInt8.toNat_inj.1 (by omega)
  exact h (e2 ▸ (by show t.data[m]'hm ∈ _; simp))

set_option maxHeartbeats 2000000 in
theorem words_walk (s : ByteArray) (b : UInt8) (w : World) (hs : s.size ≤ 1000) : Calls Try.prog 5 #[.string s, .int .u8 (b.toNat : Int)] w fun e w' => e = .returned (.bool true) ∧ Below w.heap.size w w' := by
  have hpos := words_pos b s.data.toList
  have hjw := join_words b s.data.toList
  have hfree := words_free b s.data.toList
  have hwa := fun w => words_any s b w (by omega)
  have hwl : (wordsB b s.data.toList).length ≤ 1001 := by have := words_length b s; have := cnt_le b s s.size; omega
  generalize wordsB b s.data.toList = ws at *
  have HJ := Lib.hid hjw; have HF := Lib.hid hfree; have HWA := Lib.hid hwa
  clear hjw hfree hwa
  go_enter Try.func5, Try.ntmps5
  go_wp2_with fail
  refine (fit_any _).mono ?_
  rintro e w1 ⟨rfl, hb1⟩
  go_wp2_with fail
  refine (light_yes _ _ hs).mono ?_
  rintro e w2 ⟨rfl, rfl⟩
  go_wp2_with fail
  refine (HWA.out _).mono ?_
  rintro e w3 ⟨v, rfl, hown, hb3⟩
  obtain ⟨g, cap, rfl⟩ := own_shape hown hpos
  have hgl : g < w3.heap.size := (hown.lt g rfl).2
  have HO := Lib.hid hown
  clear hown
  go_wp2_with fail
  go_loopw [6, 20] (fun t i wr => ∃ (j : Nat) (T : ByteArray), j ≤ ws.length ∧ i = .int .i64 j ∧ t = .string T ∧ T.size ≤ 1000 ∧ Hid (T.data.toList = joinTo b ws j) ∧ Below w3.heap.size w3 wr) (fun _ i _ => ws.length - (intOf i).toNat)
  case atStart => exact ⟨0, ⟨#[]⟩, by omega, rfl, rfl, by decide, rfl, Below.refl _ _⟩
  case round =>
    obtain ⟨j, T, hj, rfl, rfl, hT, hTj, hbr⟩ := hrel
    by_cases hjl : j < ws.length
    · have hcell := (hbr.cell (p := ⟨g, j, none⟩) hgl).trans (own_cells HO.out j hjl)
      unfold strV at hcell
      have hfr := HF.out j hjl
      by_cases hj0 : j = 0
      · have hst := joinTo_first b ws hpos
        have hln := joinTo_len b ws 1
        rw [HJ.out] at hln
        obtain rfl : j = 0 := hj0
        have hT0 : T = ⟨#[]⟩ := by
          have := hTj.out
          rw [joinTo_zero] at this
          cases T with
          | mk d => simp at this; rw [this]
        subst hT0
        have hsz2 : (ws[0]).length ≤ 1000 := by
          rw [hst] at hln
          have e1 : s.data.toList.length = s.size := by simp
          omega
        have hdat : (⟨(ws[0]).toArray⟩ : ByteArray).data.toList = ws[0] := by simp
        have hsv := strV_size (ws[0])
        rw [← hdat] at hst hfr
        rw [← hsv] at hsz2
        generalize (⟨(ws[0]).toArray⟩ : ByteArray) = t at *
        have HST := Lib.hid hst
        have HFR := Lib.hid hfr
        clear hst hsv hdat hfr hln
        have hT3 : (⟨#[]⟩ : ByteArray).size + t.size ≤ 1000 := by have : (⟨#[]⟩ : ByteArray).size = 0 := rfl; omega
        go_wp2_with fail
        go_loop [34] (fun i => ∃ m : Nat, m ≤ t.size ∧ i = .int .i64 m) (fun i => t.size - (intOf i).toNat)
        case atStart => exact ⟨0, by omega, rfl⟩
        case round =>
          obtain ⟨m, hm, rfl⟩ := hrel
          by_cases hml : m < t.size
          · have hne := free_at HFR.out m hml
            go_wp2
            go_round
            case rel => exact ⟨m + 1, by omega, by go_num⟩
            case measure => simp [intOf]; omega
          · obtain rfl : m = t.size := by omega
            go_wp2
            go_roundw
            case rel => exact ⟨1, (⟨#[]⟩ : ByteArray) ++ t, by omega, by go_num, rfl, by rw [app_size]; omega, (by rw [app_data, HST.out]; rfl), hbr⟩
            case measure => simp [intOf]; omega
      · have hcv := one_byte b wr
        have hst := joinTo_step b ws j hjl (by omega)
        have hln := joinTo_len b ws (j + 1)
        rw [HJ.out] at hln
        rw [← hTj.out] at hst
        have hsz2 : T.size + 1 + (ws[j]).length ≤ 1000 := by
          rw [hst] at hln
          have e1 : s.data.toList.length = s.size := by simp
          have e2 : T.data.toList.length = T.size := by simp
          simp only [List.length_append, List.length_singleton] at hln
          omega
        have hdat : (⟨(ws[j]).toArray⟩ : ByteArray).data.toList = ws[j] := by simp
        have hsv := strV_size (ws[j])
        rw [← hdat] at hst hfr
        rw [← hsv] at hsz2
        generalize (⟨(ws[j]).toArray⟩ : ByteArray) = t at *
        have HST := Lib.hid hst
        have HFR := Lib.hid hfr
        clear hst hsv hdat hfr hln
        have hd0 : decide (0 < (j : Int)) = true := by simp; omega
        have hd1 : decide (0 < j) = true := by simp; omega
        go_wp2_with fail
        have hT2 : (T ++ ⟨#[b]⟩ : ByteArray).size = T.size + 1 := app_size _ _
        have hD2 : (T ++ ⟨#[b]⟩ : ByteArray).data.toList = T.data.toList ++ [b] := app_data _ _
        generalize (T ++ ⟨#[b]⟩ : ByteArray) = T2 at *
        have hb2 : Below w3.heap.size w3 (wr.alloc (Obj.cells #[Value.int IntKind.u8 ↑b.toNat] 5)) := hbr.alloc hbr.size _
        generalize wr.alloc (Obj.cells #[Value.int IntKind.u8 ↑b.toNat] 5) = W2 at *
        have HD2 := Lib.hid hD2
        have hT3 : T2.size + t.size ≤ 1000 := by omega
        clear hD2 hT2 hcv hcell
        go_loop [34] (fun i => ∃ m : Nat, m ≤ t.size ∧ i = .int .i64 m) (fun i => t.size - (intOf i).toNat)
        case atStart => exact ⟨0, by omega, rfl⟩
        case round =>
          obtain ⟨m, hm, rfl⟩ := hrel
          by_cases hml : m < t.size
          · have hne := free_at HFR.out m hml
            go_wp2
            go_round
            case rel => exact ⟨m + 1, by omega, by go_num⟩
            case measure => simp [intOf]; omega
          · obtain rfl : m = t.size := by omega
            go_wp2
            go_roundw
            case rel => exact ⟨j + 1, T2 ++ t, by omega, by go_num, rfl, by rw [app_size]; omega, (by rw [app_data, HD2.out, HST.out]; rfl), hb2⟩
            case measure => simp [intOf]; omega
    · obtain rfl : j = ws.length := by omega
      have hTs : T = s := by
        have := hTj.out
        rw [joinTo_all, HJ.out] at this
        cases T with
        | mk d => cases s with
          | mk e => simp at this; rw [this]
      subst hTs
      have hd0 : decide (1 ≤ (ws.length : Int)) = true := by simp; omega
      go_wp2
      go_ret
      exact ⟨rfl, bt (bt hb1 hb3) hbr⟩

theorem wordslaw_any (s : ByteArray) (a : Int) (w : World) (_hm : s.size ≤ maxLen) (ha : (Lit.int .u8 a).wf = true) : Calls Try.prog 5 #[.string s, .int .u8 a] w fun e w' => e = .returned (.bool true) ∧ Below w.heap.size w w' := by
  obtain ⟨b, rfl⟩ := u8_of a ha
  clear ha
  by_cases hs : s.size ≤ 1000
  · exact words_walk s b w hs
  · go_enter Try.func5, Try.ntmps5
    go_wp2_with fail
    refine (fit_any _).mono ?_
    rintro e w1 ⟨rfl, hb1⟩
    go_wp2_with fail
    refine (light_no _ _ hs).mono ?_
    rintro e w2 ⟨rfl, rfl⟩
    go_wp2
    go_ret
    exact ⟨rfl, hb1⟩

end Go.Proofs.Yteenbddmdoogdaa
