/- The walk of PathPlain. -/
import Derived.Test.YtghlmdpkchepgaaDeep
namespace Go.Proofs.Ytghlmdpkchepgaa
open Go.RowKit Pl

def cleanC (c : UInt8) : Prop := c ≠ 47 ∧ c ≠ 37 ∧ c ≠ 63
def slashL (ls : List (List UInt8)) : List UInt8 := ls.flatMap (47 :: ·)
theorem slash_tgt (ls : List (List UInt8)) (h : ∀ x ∈ ls, ∀ c ∈ x, cleanC c) : tgtL false ls = slashL ls := by
  induction ls with
  | nil => rfl
  | cons x ls ih =>
    have h2 := ih (fun y hy => h y (by simp [hy]))
    unfold tgtL slashL at h2 ⊢
    rw [List.flatMap_cons, List.flatMap_cons, h2, enc_plain x (h x (by simp))]
theorem slash_snoc (ls : List (List UInt8)) (k : Nat) (h : k < ls.length) : slashL (ls.take (k + 1)) = slashL (ls.take k) ++ 47 :: ls[k] := by
  unfold slashL
  rw [List.take_add_one, List.getElem?_eq_getElem h, List.flatMap_append]
  simp
theorem slash_join (ls : List (List UInt8)) (h : ls ≠ []) : 47 :: joinW 47 ls = slashL ls := by
  cases ls with
  | nil => exact absurd rfl h
  | cons x r => simp [joinW, slashL, List.flatMap]
theorem slash_len (ls : List (List UInt8)) (h : ∀ x ∈ ls, x.length ≤ 60) : (slashL ls).length ≤ ls.length * 61 := flat_le ls 60 h (47 :: ·) (fun x => by simp)
theorem plain_split (ls : List (List UInt8)) (h0 : ls ≠ []) (h8 : ls.length ≤ 8) (h : ∀ x ∈ ls, ∀ c ∈ x, cleanC c) : splitL (slashL ls) = if slashL ls = [47] then some [] else some ls := by
  by_cases h1 : slashL ls = [47]
  · rw [if_pos h1, h1]; rfl
  · rw [if_neg h1, ← slash_tgt ls h, split_tgt false ls h0 (by rw [slash_tgt ls h]; exact h1), if_pos h8]
theorem clean_byte (s : ByteArray) (j : Nat) (h : j < s.size) (hc : cleanC s[j]) (hk : ∀ c ∈ s.data.toList.take j, cleanC c) : ∀ c ∈ s.data.toList.take (j + 1), cleanC c := by
  intro c hx
  rw [take_snoc s j h, List.mem_append] at hx
  rcases hx with hx | hx
  · exact hk c hx
  · simp at hx; rw [hx]; exact hc
theorem byte_test (a c : UInt8) : ((a.toNat : Int) == (c.toNat : Int)) = decide (a = c) := by
  rw [Bool.eq_iff_iff]
  simp only [beq_iff_eq, decide_eq_true_eq]
  exact ⟨fun h => UInt8.toNat_inj.1 (by omega), fun h => by rw [h]⟩

set_option maxRecDepth 100000 in
set_option maxHeartbeats 8000000 in
theorem plain_any (ss : List ByteArray) (A : Option Addr) (c : Nat) (w : World) (hr : Rd w w.heap.size 1 A ss.length (ss.map .string)) :
    Calls Try.prog 9 #[.slice A ss.length c] w fun e w' => e = .returned (.bool true) ∧ Below w.heap.size w w' := by
  have HF := Lib.hid (fun w => fit_any w)
  have HR := Lib.hid hr
  clear hr
  by_cases h0 : ss.length = 0
  · go_enter Try.func9, Try.ntmps9
    go_wp2_with fail
    refine (HF.out _).mono ?_
    rintro e w1 ⟨rfl, hb1⟩
    go_wp2_with fail
    go_ret
    exact ⟨rfl, hb1⟩
  have z0 : ((ss.length : Int) == 0) = false := by rw [beq_eq_false_iff_ne]; omega
  by_cases h8 : ss.length ≤ 8
  · have z8 : decide ((8 : Int) < (ss.length : Int)) = false := by simp; omega
    obtain ⟨ls, hls⟩ : ∃ ls, ss.map (·.data.toList) = ls := ⟨_, rfl⟩
    have hll : ls.length = ss.length := by rw [← hls]; simp
    have hat : ∀ k (h : k < ss.length) (h' : k < ls.length), ls[k] = (ss[k]).data.toList := fun k h h' => by simp [← hls]
    have HLL := Lib.hid hll; have HAT := Lib.hid hat; have HLS := Lib.hid hls
    clear hll hat hls
    go_enter Try.func9, Try.ntmps9
    go_wp2_with fail
    refine (HF.out _).mono ?_
    rintro e w1 ⟨rfl, hb1⟩
    have HB1 := Lib.hid hb1
    clear hb1
    have HR1 := Lib.hid (HR.out.below HB1.out (Nat.le_refl _))
    go_wp2_with fail
    go_loopw [3, 21] (fun s i wr => ∃ (k : Nat), k ≤ ss.length ∧ s = .string (mkB (slashL (ls.take k))) ∧ i = .int .i64 k ∧ wr = w1 ∧ Hid (∀ x ∈ ls.take k, x.length ≤ 60 ∧ ∀ c ∈ x, cleanC c)) (fun _ i _ => ss.length - (intOf i).toNat)
    case atStart => exact ⟨0, by omega, rfl, rfl, rfl, by simp [Lib.hid]⟩
    case round =>
      obtain ⟨k, hk, rfl, rfl, rfl, HC⟩ := hrel
      by_cases hlt : k < ss.length
      · obtain ⟨a, rfl, hab, hc⟩ := HR1.out.at hlt (.string ss[k]) (by simp [hlt])
        have hsn := slash_snoc ls k (by rw [HLL.out]; exact hlt)
        rw [HAT.out k hlt _] at hsn
        have hsl := slash_len (ls.take k) (fun x hx => (HC.out x hx).1)
        have htk : (ls.take k).length ≤ 8 := by simp; omega
        have hstep : (ss[k].size ≤ 60 ∧ ∀ c ∈ ss[k].data.toList, cleanC c) → ∀ x ∈ ls.take (k + 1), x.length ≤ 60 ∧ ∀ c ∈ x, cleanC c := fun h x hx => by
          rw [List.take_add_one, List.getElem?_eq_getElem (by rw [HLL.out]; exact hlt), List.mem_append] at hx
          rcases hx with hx | hx
          · exact HC.out x hx
          · simp at hx; rw [hx, HAT.out k hlt _, data_len]; exact h
        have HST := Lib.hid hstep
        have HSN := Lib.hid hsn
        have HSL : Hid ((mkB (slashL (ls.take k))).size ≤ 488) := by show _ ≤ _; rw [mkB_size]; omega
        clear hstep hsn hsl htk
        generalize ss[k] = x at *
        by_cases h60 : x.size ≤ 60
        · have k1 := add_str ⟨#[47]⟩ x (by have : (⟨#[47]⟩ : ByteArray).size = 1 := rfl; omega)
          have k2 := add_str (mkB (slashL (ls.take k))) (⟨#[47]⟩ ++ x) (by rw [app_size]; have : (⟨#[47]⟩ : ByteArray).size = 1 := rfl; have := HSL.out; omega)
          have HSUM : Hid (mkB (slashL (ls.take k)) ++ (⟨#[47]⟩ ++ x) = mkB (slashL (ls.take (k + 1)))) := bytes_ext (by rw [app_data, app_data, mkB_data, mkB_data, HSN.out]; rfl)
          rw [HSUM.out] at k2
          obtain ⟨S1, hS1⟩ : ∃ S, mkB (slashL (ls.take (k + 1))) = S := ⟨_, rfl⟩
          rw [hS1] at k2 HSUM
          have HS1 := Lib.hid hS1
          clear hS1
          generalize mkB (slashL (ls.take k)) = S0 at *
          generalize (⟨#[47]⟩ ++ x : ByteArray) = X1 at *
          clear HSN HSUM
          go_wp2_with fail
          go_loopw [30] (fun i wq => ∃ (j : Nat), j ≤ x.size ∧ i = .int .i64 j ∧ wq = wr ∧ Hid (∀ c ∈ x.data.toList.take j, cleanC c)) (fun i _ => x.size - (intOf i).toNat)
          case atStart => exact ⟨0, by omega, rfl, rfl, by simp [Lib.hid]⟩
          case round =>
            obtain ⟨j, hj, rfl, rfl, HJ⟩ := hrel
            by_cases hjl : j < x.size
            · have t1 : ((x[j].toNat : Int) == 47) = decide (x[j] = 47) := byte_test x[j] 47
              have t2 : ((x[j].toNat : Int) == 37) = decide (x[j] = 37) := byte_test x[j] 37
              have t3 : ((x[j].toNat : Int) == 63) = decide (x[j] = 63) := byte_test x[j] 63
              have HCB := Lib.hid (fun hc => clean_byte x j hjl hc HJ.out)
              by_cases e1 : x[j] = 47
              · rw [decide_eq_true e1] at t1
                clear e1
                go_wp2_with fail
                go_ret
                exact ⟨rfl, HB1.out⟩
              rw [decide_eq_false e1] at t1
              by_cases e2 : x[j] = 37
              · rw [decide_eq_true e2] at t2
                clear e2
                go_wp2_with fail
                go_ret
                exact ⟨rfl, HB1.out⟩
              rw [decide_eq_false e2] at t2
              by_cases e3 : x[j] = 63
              · rw [decide_eq_true e3] at t3
                clear e3
                go_wp2_with fail
                go_ret
                exact ⟨rfl, HB1.out⟩
              rw [decide_eq_false e3] at t3
              have HN := Lib.hid (HCB.out ⟨e1, e2, e3⟩)
              clear e1 e2 e3 HCB
              go_wp2_with fail
              go_roundw
              case rel => exact ⟨j + 1, by omega, by go_num, by first | rfl | trivial, HN⟩
              case measure => simp [intOf]; omega
            · have HN := Lib.hid (HST.out ⟨h60, by have := HJ.out; rw [take_all x j (by omega)] at this; exact this⟩)
              go_wp2_with fail
              go_roundw
              case rel => exact ⟨k + 1, by omega, by rw [HS1.out], by go_num, by first | rfl | trivial, HN⟩
              case measure => simp [intOf]; omega
        · generalize mkB (slashL (ls.take k)) = S0 at *
          go_wp2_with fail
          go_ret
          exact ⟨rfl, HB1.out⟩
      · obtain rfl : k = ss.length := by omega
        have htk : ls.take ss.length = ls := List.take_of_length_le (by rw [HLL.out]; exact Nat.le_refl _)
        rw [htk] at HC
        have hsl := slash_len ls (fun x hx => (HC.out x hx).1)
        rw [HLL.out] at hsl
        have hne : ls ≠ [] := fun h => h0 (by rw [← HLL.out, h]; rfl)
        have hsp := plain_split ls hne (by rw [HLL.out]; exact h8) (fun x hx => (HC.out x hx).2)
        have HS := Lib.hid (fun w => split_any (mkB (slashL ls)) w (by rw [mkB_size]; omega))
        rw [mkB_data, hsp] at HS
        have hq := eq_list (mkB (slashL ls)) [47]
        rw [mkB_data] at hq
        simp only [htk]
        by_cases h47 : slashL ls = [47]
        · rw [decide_eq_true h47] at hq
          rw [if_pos h47] at HS
          simp only [Option.getD_some, Option.isSome_some] at HS
          clear hsp h47 hsl hne htk hlt hk
          generalize mkB (slashL ls) = S0 at *
          go_wp2_with fail
          refine (HS.out _).mono ?_
          rintro e w2 ⟨v2, rfl, ho2, hb2⟩
          obtain ⟨A2, c2, rfl, hr2⟩ := Rd.own ho2
          clear ho2 hr2
          go_wp2_with fail
          go_ret
          exact ⟨rfl, bt HB1.out hb2⟩
        · rw [decide_eq_false h47] at hq
          rw [if_neg h47] at HS
          simp only [Option.getD_some, Option.isSome_some] at HS
          have hj : (⟨#[47]⟩ : ByteArray) ++ mkB (joinW 47 ls) = mkB (slashL ls) := bytes_ext (by rw [app_data, mkB_data, mkB_data, ← slash_join ls hne]; rfl)
          have hjz : (joinW 47 ls).length ≤ 488 := by have := congrArg List.length (slash_join ls hne); simp at this; omega
          have k1 := add_str ⟨#[47]⟩ (mkB (joinW 47 ls)) (by rw [mkB_size]; have : (⟨#[47]⟩ : ByteArray).size = 1 := rfl; omega)
          rw [hj] at k1
          have HSM : Hid (∀ x ∈ ls, x.length ≤ 1000000) := fun x hx => by have := (HC.out x hx).1; omega
          have hqq : ((mkB (slashL ls)).toList == (mkB (slashL ls)).toList) = true := by simp
          rw [HLL.out] at HS
          clear hsp h47 hsl hne htk hlt hk hj hjz
          generalize mkB (slashL ls) = S0 at *
          go_wp2_with fail
          refine (HS.out _).mono ?_
          rintro e w2 ⟨v2, rfl, ho2, hb2⟩
          obtain ⟨A2, c2, rfl, hr2⟩ := Rd.own ho2
          have HO2 := Lib.hid ho2
          clear ho2 hr2
          go_wp2_with fail
          refine (join0_any _ ls _ w2 (by rw [HLL.out]; exact HO2.out) (by rw [HLL.out]; omega) HSM.out).mono ?_
          rintro e w3 ⟨rfl, hb3⟩
          go_wp2_with fail
          go_ret
          exact ⟨rfl, bt (bt HB1.out hb2) hb3⟩
  · go_enter Try.func9, Try.ntmps9
    go_wp2_with fail
    refine (HF.out _).mono ?_
    rintro e w1 ⟨rfl, hb1⟩
    go_wp2_with fail
    go_ret
    exact ⟨rfl, hb1⟩

end Go.Proofs.Ytghlmdpkchepgaa
