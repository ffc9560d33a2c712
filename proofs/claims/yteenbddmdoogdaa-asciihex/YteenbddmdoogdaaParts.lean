/- The walk of the law AsciiParts. -/
import Derived.Test.YteenbddmdoogdaaFit
import Derived.Test.YteenbddmdoogdaaPartsPlain
namespace Go.Proofs.Yteenbddmdoogdaa
open Go.RowKit Pl

theorem u8_of (a : Int) (h : (Lit.int .u8 a).wf = true) : ∃ b : UInt8, a = (b.toNat : Int) := by
  have hx : 0 ≤ a ∧ a ≤ 255 := by simpa [Lit.wf, IntKind.min, IntKind.max, IntKind.signed, IntKind.bits] using h
  exact ⟨UInt8.ofNat a.toNat, by simp; omega⟩
theorem strV_size (l : List UInt8) : (⟨l.toArray⟩ : ByteArray).size = l.length := by rw [Lib.size_eq]

theorem own_cells {w : World} {base : Nat} {g cap n : Nat} {ws : List (List UInt8)} (h : w.ownsRow base 9 1 (.slice (some ⟨g, 0, none⟩) n cap) n (ws.map strV)) (j : Nat) (hj : j < ws.length) : w.cell? ⟨g, j, none⟩ = some (strV (ws[j])) := by
  have hl : (ws.map strV).length = n * 1 := h.1
  rw [h.cellAt j (by simp at hl; omega)]
  simp [hj]

set_option maxHeartbeats 2000000 in
theorem parts_walk (s : ByteArray) (b : UInt8) (w : World) (hs : s.size ≤ 1000) : Calls Try.prog 9 #[.string s, .int .u8 (b.toNat : Int)] w fun e w' => e = .returned (.bool true) ∧ Below w.heap.size w w' := by
  go_enter Try.func9, Try.ntmps9
  go_wp2_with fail
  refine (fit_any _).mono ?_
  rintro e w1 ⟨rfl, hb1⟩
  go_wp2_with fail
  refine (light_yes _ _ hs).mono ?_
  rintro e w2 ⟨rfl, rfl⟩
  go_wp2_with fail
  go_loop [5, 18] (fun n i => ∃ k c : Nat, k ≤ s.size ∧ c ≤ k ∧ i = .int .i64 k ∧ n = .int .i64 (c + 1 : Nat) ∧ Hid (cntTo b s k = c)) (fun _ i => s.size - (intOf i).toNat)
  case atStart => exact ⟨0, 0, by omega, by omega, rfl, rfl, cnt_zero b s⟩
  case round =>
    obtain ⟨k, c, hk, hck, rfl, rfl, hc⟩ := hrel
    by_cases hlt : k < s.size
    · by_cases he : s[k] = b
      · have htest : ((s[k].toNat : Int) == (b.toNat : Int)) = true := by rw [he]; simp
        have hst := cnt_hit b s k hlt he
        rw [hc.out] at hst
        have HST := Lib.hid hst
        clear hst he
        go_wp2
        go_round
        case rel => exact ⟨k + 1, c + 1, by omega, by omega, by go_num, by go_num, HST⟩
        case measure => simp [intOf]; omega
      · have htest : ((s[k].toNat : Int) == (b.toNat : Int)) = false := by
          rw [beq_eq_false_iff_ne]; intro h; exact he (UInt8.toNat_inj.1 (by omega))
        have hst := cnt_miss b s k hlt he
        rw [hc.out] at hst
        have HST := Lib.hid hst
        clear hst he
        go_wp2
        go_round
        case rel => exact ⟨k + 1, c, by omega, by omega, by go_num, by go_num, HST⟩
        case measure => simp [intOf]; omega
    · obtain rfl : k = s.size := by omega
      have hwl := words_length b s
      have hws := words_lens b s
      rw [hc.out] at hwl hws
      generalize hww : wordsB b s.data.toList = ws at *
      have HW := Lib.hid hww
      have HWL := Lib.hid hwl
      have HWS := Lib.hid hws
      clear hww hwl hws
      go_wp2_with fail
      refine (words_any s b _ (by omega)).mono ?_
      rintro e w3 ⟨v, rfl, hown, hb3⟩
      rw [HW.out, HWL.out] at hown
      obtain ⟨g, cap, rfl⟩ := own_shape hown (by omega)
      have HO := Lib.hid hown
      clear hown
      go_wp2_with fail
      have hall := lensTo_all ws
      have hler := lensTo_le ws
      have HA := Lib.hid hall
      have HLE := Lib.hid hler
      clear hall hler
      have hsz : lens ws ≤ 1000 := by have := HWS.out; omega
      go_loop [8, 34] (fun m i => ∃ j : Nat, j ≤ c + 1 ∧ i = .int .i64 j ∧ m = .int .i64 (lensTo ws j)) (fun _ i => c + 1 - (intOf i).toNat)
      case atStart => exact ⟨0, by omega, rfl, rfl⟩
      case round =>
        obtain ⟨j, hj, rfl, rfl⟩ := hrel
        have hle := HLE.out j
        by_cases hjl : j < c + 1
        · have hjw : j < ws.length := by rw [HWL.out]; exact hjl
          have hcell := own_cells HO.out j hjw
          unfold strV at hcell
          have hst := lensTo_step ws j hjw
          have hsv := strV_size (ws[j])
          have hle2 := HLE.out (j + 1)
          have hl2 : (ws[j]).length ≤ 1000 := by omega
          rw [← hsv] at hst hl2
          generalize (⟨(ws[j]).toArray⟩ : ByteArray) = t at *
          have HST := Lib.hid hst
          clear hst hsv
          generalize lensTo ws j = m at *
          go_wp2
          go_round
          case rel => exact ⟨j + 1, by omega, by go_num, by rw [HST.out]; go_num⟩
          case measure => simp [intOf]; omega
        · obtain rfl : j = c + 1 := by omega
          have hfin : lensTo ws (c + 1) + c = s.size := by rw [← HWL.out, HA.out]; exact HWS.out
          generalize lensTo ws (c + 1) = m at *
          have ht1 : ((m : Int) == (s.size : Int) - (c : Int)) = true := by rw [beq_iff_eq]; omega
          have HF := Lib.hid hfin
          clear hfin
          go_wp2
          go_ret
          exact ⟨rfl, bt hb1 hb3⟩

theorem parts_any (s : ByteArray) (a : Int) (w : World) (_hm : s.size ≤ maxLen) (ha : (Lit.int .u8 a).wf = true) : Calls Try.prog 9 #[.string s, .int .u8 a] w fun e w' => e = .returned (.bool true) ∧ Below w.heap.size w w' := by
  obtain ⟨b, rfl⟩ := u8_of a ha
  clear ha
  by_cases hs : s.size ≤ 1000
  · exact parts_walk s b w hs
  · go_enter Try.func9, Try.ntmps9
    go_wp2_with fail
    refine (fit_any _).mono ?_
    rintro e w1 ⟨rfl, hb1⟩
    go_wp2_with fail
    refine (light_no _ _ hs).mono ?_
    rintro e w2 ⟨rfl, rfl⟩
    go_wp2
    go_ret
    exact ⟨rfl, hb1⟩

end Go.Proofs.Yteenbddmdoogdaa
