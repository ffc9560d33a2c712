/- The walk of the law AsciiValues. -/
import Derived.Test.YteenbddmdoogdaaBytes
import Derived.Test.YteenbddmdoogdaaLower
namespace Go.Proofs.Yteenbddmdoogdaa
open Go.RowKit Pl

theorem lowU_lowU (c : UInt8) : lowU (lowU c) = lowU c := by
  cases h : capR (c.toNat : Int) with
  | false => rw [lowU_not h, lowU_not h]
  | true =>
    have h1 := lowU_cap h
    refine lowU_not ?_
    simp [capR] at h ⊢
    omega
theorem lowB_lowB (l : List UInt8) : lowB (lowB l) = lowB l := by simp [lowB, lowU_lowU]

theorem valTo_step (s : ByteArray) (k : Nat) (h : k < s.size) : valB (s.data.toList.take (k + 1)) = (valB (s.data.toList.take k) && valR ((s[k]'h).toNat : Int)) := by
  rw [take_snoc s k h]; simp [valB]

theorem valR_cases (c : Nat) : (c < 9 ∧ valR (c : Int) = false) ∨ (c = 9 ∧ valR (c : Int) = true) ∨ ((9 < c ∧ c < 32) ∧ valR (c : Int) = false) ∨ ((32 ≤ c ∧ c < 65) ∧ valR (c : Int) = true) ∨ ((65 ≤ c ∧ c ≤ 90) ∧ valR (c : Int) = true) ∨ ((90 < c ∧ c < 127) ∧ valR (c : Int) = true) ∨ (c = 127 ∧ valR (c : Int) = false) ∨ (127 < c ∧ valR (c : Int) = true) := by
  have cases : c < 9 ∨ c = 9 ∨ (9 < c ∧ c < 32) ∨ (32 ≤ c ∧ c < 65) ∨ (65 ≤ c ∧ c ≤ 90) ∨ (90 < c ∧ c < 127) ∨ c = 127 ∨ 127 < c := by omega
  rcases cases with h | h | h | h | h | h | h | h
  · exact .inl ⟨h, by simp [valR]; omega⟩
  · exact .inr (.inl ⟨h, by subst h; rfl⟩)
  · exact .inr (.inr (.inl ⟨h, by simp [valR]; omega⟩))
  · exact .inr (.inr (.inr (.inl ⟨h, by simp [valR]; omega⟩)))
  · exact .inr (.inr (.inr (.inr (.inl ⟨h, by simp [valR]; omega⟩))))
  · exact .inr (.inr (.inr (.inr (.inr (.inl ⟨h, by simp [valR]; omega⟩)))))
  · exact .inr (.inr (.inr (.inr (.inr (.inr (.inl ⟨h, by subst h; rfl⟩))))))
  · exact .inr (.inr (.inr (.inr (.inr (.inr (.inr ⟨h, by simp [valR]; omega⟩))))))
theorem val_cases (c d : Nat) (hcap : capR (c : Int) = true → (d : Int) = c + 32) (hnot : capR (c : Int) = false → (d : Int) = c) : (c < 9 ∧ Hid (d = c) ∧ Hid (valR (c : Int) = false)) ∨ (c = 9 ∧ Hid (d = c) ∧ Hid (valR (c : Int) = true)) ∨ ((9 < c ∧ c < 32) ∧ Hid (d = c) ∧ Hid (valR (c : Int) = false)) ∨ ((32 ≤ c ∧ c < 65) ∧ Hid (d = c) ∧ Hid (valR (c : Int) = true)) ∨ ((65 ≤ c ∧ c ≤ 90) ∧ Hid (d = c + 32) ∧ Hid (valR (c : Int) = true)) ∨ ((90 < c ∧ c < 127) ∧ Hid (d = c) ∧ Hid (valR (c : Int) = true)) ∨ (c = 127 ∧ Hid (d = c) ∧ Hid (valR (c : Int) = false)) ∨ (127 < c ∧ Hid (d = c) ∧ Hid (valR (c : Int) = true)) := by
  have hy : 65 ≤ c ∧ c ≤ 90 → d = c + 32 := fun h => by have := hcap (by simp [capR]; omega); omega
  have hn : ¬ (65 ≤ c ∧ c ≤ 90) → d = c := fun h => by have := hnot (by simp [capR]; omega); omega
  rcases valR_cases c with ⟨h, v⟩ | ⟨h, v⟩ | ⟨h, v⟩ | ⟨h, v⟩ | ⟨h, v⟩ | ⟨h, v⟩ | ⟨h, v⟩ | ⟨h, v⟩
  · exact .inl ⟨h, hn (by omega), v⟩
  · exact .inr (.inl ⟨h, hn (by omega), v⟩)
  · exact .inr (.inr (.inl ⟨h, hn (by omega), v⟩))
  · exact .inr (.inr (.inr (.inl ⟨h, hn (by omega), v⟩)))
  · exact .inr (.inr (.inr (.inr (.inl ⟨h, hy (by omega), v⟩))))
  · exact .inr (.inr (.inr (.inr (.inr (.inl ⟨h, hn (by omega), v⟩)))))
  · exact .inr (.inr (.inr (.inr (.inr (.inr (.inl ⟨h, hn (by omega), v⟩))))))
  · exact .inr (.inr (.inr (.inr (.inr (.inr (.inr ⟨h, hn (by omega), v⟩))))))

theorem bne_same {d c : Nat} (h : d = c) : ((d : Int) != (c : Int)) = false := by subst h; simp
theorem bne_same32 {d c : Nat} (h : d = c + 32) : ((d : Int) != (c : Int) + 32) = false := by rw [bne_eq_false_iff_eq]; omega

set_option maxHeartbeats 4000000 in
theorem values_walk (s : ByteArray) (w : World) (hs : s.size ≤ 1000) : Calls Try.prog 6 #[.string s] w fun e w' => e = .returned (.bool true) ∧ Below w.heap.size w w' := by
  have hcv := fun w s => run_bytes_of_string (P := Try.prog) w 9 24 5 s Try.underlying9 Try.underlying24 Try.underlying5
  have hlow := fun w => lower_any s w (by omega)
  have hszt : (⟨(lowB s.data.toList).toArray⟩ : ByteArray).size = s.size := by rw [Lib.size_eq, Lib.size_eq s]; simp [lowB]
  have hlow2 := fun w => lower_any ⟨(lowB s.data.toList).toArray⟩ w (by omega)
  simp only [lowB_lowB] at hlow2
  have htk : ∀ k (h : k < s.size) (h' : k < (⟨(lowB s.data.toList).toArray⟩ : ByteArray).size), (⟨(lowB s.data.toList).toArray⟩ : ByteArray)[k]'h' = lowU (s[k]'h) := by
    intro k h h'
    show (lowB s.data.toList).toArray[k]'_ = _
    simp [lowB]
    rfl
  generalize (⟨(lowB s.data.toList).toArray⟩ : ByteArray) = t at *
  have HL := Lib.hid hlow; have HL2 := Lib.hid hlow2; have HT := Lib.hid htk
  have hnn : ((t.size : Int) != (s.size : Int)) = false := by rw [hszt]; simp
  have HZ := Lib.hid hszt
  clear hlow hlow2 htk hszt
  go_enter Try.func6, Try.ntmps6
  go_wp2_with fail
  refine (fit_any _).mono ?_
  rintro e w1 ⟨rfl, hb1⟩
  go_wp2_with fail
  refine (light_yes _ _ hs).mono ?_
  rintro e w2 ⟨rfl, rfl⟩
  go_wp2_with fail
  refine (HL.out _).mono ?_
  rintro e w2 ⟨rfl, hb2⟩
  go_wp2_with fail
  refine (HL2.out _).mono ?_
  rintro e w3 ⟨rfl, hb3⟩
  go_wp2_with fail
  have hbW := bsW_below w3 s (grownCap w3 s.size 0 5)
  have hcW := bsW_cell w3 s (grownCap w3 s.size 0 5)
  generalize hG : (w3.alloc (Obj.cells (bytesRow s (grownCap w3 s.size 0 5)) 5 ((bytesRow s (grownCap w3 s.size 0 5)).size, (bytesRow s (grownCap w3 s.size 0 5)).size + 1))).drew = W
  rw [bsW, hG] at hbW hcW
  clear hG hcv
  have HcW := Lib.hid hcW
  clear hcW
  generalize grownCap w3 s.size 0 5 = cp at *
  go_loop [3, 28] (fun ok i => ∃ k : Nat, ∃ q : Bool, k ≤ s.size ∧ i = .int .i64 k ∧ ok = .bool q ∧ Hid (valB (s.data.toList.take k) = q)) (fun _ i => s.size - (intOf i).toNat)
  case atStart => exact ⟨0, true, by omega, rfl, rfl, rfl⟩
  case round =>
    obtain ⟨k, q, hk, rfl, rfl, hq⟩ := hrel
    by_cases hlt : k < s.size
    · have hcell := HcW.out k hlt
      have hkt : k < t.size := by rw [HZ.out]; exact hlt
      have htk := HT.out k hlt hkt
      have hst := valTo_step s k hlt
      rw [hq.out] at hst
      have hcap : capR ((s[k]'hlt).toNat : Int) = true → ((t[k]'hkt).toNat : Int) = (s[k]'hlt).toNat + 32 := fun h => by rw [htk]; exact lowU_cap h
      have hnot : capR ((s[k]'hlt).toNat : Int) = false → ((t[k]'hkt).toNat : Int) = (s[k]'hlt).toNat := fun h => by rw [htk, lowU_not h]
      have hc256 : (s[k]'hlt).toNat < 256 := UInt8.toNat_lt _
      clear htk
      generalize (s[k]'hlt).toNat = c at *
      have HST := Lib.hid hst
      clear hst
      have cases := val_cases c (t[k]'hkt).toNat hcap hnot
      clear hcap hnot
      rcases cases with ⟨h, h1, hv⟩ | ⟨h, h1, hv⟩ | ⟨h, h1, hv⟩ | ⟨h, h1, hv⟩ | ⟨h, h1, hv⟩ | ⟨h, h1, hv⟩ | ⟨h, h1, hv⟩ | ⟨h, h1, hv⟩
      all_goals
        rw [hv.out] at HST
        try subst h
        first
        | (have hb := bne_same h1.out)
        | (have hb := bne_same32 h1.out)
        cases q with
        | true =>
          go_wp2
          go_round
          case rel => exact ⟨k + 1, _, by omega, by go_num, rfl, HST.out.trans (by first | rfl | (simp; done) | (simp; omega))⟩
          case measure => simp [intOf]; omega
        | false =>
          go_wp2
          go_round
          case rel => exact ⟨k + 1, _, by omega, by go_num, rfl, HST.out.trans (by first | rfl | (simp; done) | (simp; omega))⟩
          case measure => simp [intOf]; omega
    · have hend : q = valB s.data.toList := by rw [← hq.out, take_all s k (by omega)]
      have HE := Lib.hid hend
      clear hend
      go_wp2_with fail
      refine (val_any _ _).mono ?_
      rintro e w4 ⟨rfl, hb4⟩
      rw [← HE.out]
      have hqq : (q == q) = true := by simp
      go_wp2
      go_ret
      exact ⟨rfl, bt (bt (bt (bt hb1 hb2) hb3) hbW) hb4⟩

theorem values_any (s : ByteArray) (w : World) (_hm : s.size ≤ maxLen) : Calls Try.prog 6 #[.string s] w fun e w' => e = .returned (.bool true) ∧ Below w.heap.size w w' := by
  by_cases hs : s.size ≤ 1000
  · exact values_walk s w hs
  · go_enter Try.func6, Try.ntmps6
    go_wp2_with fail
    refine (fit_any _).mono ?_
    rintro e w1 ⟨rfl, hb1⟩
    go_wp2_with fail
    refine (light_no _ _ hs).mono ?_
    rintro e w2 ⟨rfl, rfl⟩
    go_wp2
    go_ret
    exact ⟨rfl, hb1⟩

end Go.Proofs.Yteenbddmdoogdaa
