/- The walk of PathBack. -/
import Derived.Test.YtghlmdpkchepgaaPlainW
import Derived.Test.YtghlmdpkchepgaaQuery
namespace Go.Proofs.Ytghlmdpkchepgaa
open Go.RowKit Pl

theorem mkB_app (a b : List UInt8) : mkB a ++ mkB b = mkB (a ++ b) := bytes_ext (by rw [app_data, mkB_data, mkB_data, mkB_data])
theorem mkB_one (c : UInt8) : (⟨#[c]⟩ : ByteArray) = mkB [c] := rfl
theorem enc_snoc (all : Bool) (x : ByteArray) (j : Nat) (h : j < x.size) : encS all (x.data.toList.take (j + 1)) = encS all (x.data.toList.take j) ++ encC all x[j] := by
  unfold encS
  rw [take_snoc x j h, List.flatMap_append]; simp
theorem tgt_snoc (all : Bool) (ls : List (List UInt8)) (k : Nat) (h : k < ls.length) : tgtL all (ls.take (k + 1)) = tgtL all (ls.take k) ++ 47 :: encS all ls[k] := by
  unfold tgtL
  rw [List.take_add_one, List.getElem?_eq_getElem h, List.flatMap_append]
  simp
theorem encC_len (all : Bool) (c : UInt8) : (encC all c).length ≤ 3 := by
  unfold encC
  split
  · simp [hexL]
  · simp
theorem enc_len (all : Bool) (x : List UInt8) : (encS all x).length ≤ 3 * x.length := by
  induction x with
  | nil => simp [encS]
  | cons c x ih =>
    unfold encS at ih ⊢
    have := encC_len all c
    rw [List.flatMap_cons, List.length_append, List.length_cons]
    omega
theorem tgt_len (all : Bool) (ls : List (List UInt8)) (h : ∀ x ∈ ls, x.length ≤ 60) : (tgtL all ls).length ≤ 181 * ls.length := by
  induction ls with
  | nil => simp [tgtL]
  | cons x ls ih =>
    have h1 := ih (fun y hy => h y (by simp [hy]))
    unfold tgtL at h1 ⊢
    have := enc_len all x
    have := h x (by simp)
    rw [List.flatMap_cons, List.length_append, List.length_cons, List.length_cons]
    omega
theorem one_ext (x : ByteArray) (j : Nat) (h : j < x.size) : x.extract j (j + 1) = mkB [x[j]] := bytes_ext (by
  rw [ext_data, mkB_data, drop_at x j h]; simp)

set_option maxRecDepth 100000 in
set_option maxHeartbeats 8000000 in
theorem back_true (ss : List ByteArray) (A : Option Addr) (c : Nat) (q : ByteArray) (w : World) (hr : Rd w w.heap.size 1 A ss.length (ss.map .string)) :
    Calls Try.prog 3 #[.slice A ss.length c, .string q, .bool true] w fun e w' => e = .returned (.bool true) ∧ Below w.heap.size w w' := by
  have HF := Lib.hid (fun w => fit_any w)
  have HLQ := Lib.hid (fun w => light_any q w)
  have HR := Lib.hid hr
  clear hr
  by_cases h0 : ss.length = 0
  · go_enter Try.func3, Try.ntmps3
    go_wp2_with fail
    refine (HF.out _).mono ?_
    rintro e w1 ⟨rfl, hb1⟩
    go_wp2_with fail
    go_ret
    exact ⟨rfl, hb1⟩
  have z0 : ((ss.length : Int) == 0) = false := by rw [beq_eq_false_iff_ne]; omega
  by_cases h12 : ss.length ≤ 12
  · have z12 : decide ((12 : Int) < (ss.length : Int)) = false := by simp; omega
    by_cases hq6 : q.size ≤ 600
    · rw [decide_eq_true hq6] at HLQ
      obtain ⟨ls, hls⟩ : ∃ ls, ss.map (·.data.toList) = ls := ⟨_, rfl⟩
      have hll : ls.length = ss.length := by rw [← hls]; simp
      have hat : ∀ k (h : k < ss.length) (h' : k < ls.length), ls[k] = (ss[k]).data.toList := fun k h h' => by simp [← hls]
      have HLL := Lib.hid hll; have HAT := Lib.hid hat
      clear hll hat hls
      go_enter Try.func3, Try.ntmps3
      go_wp2_with fail
      refine (HF.out _).mono ?_
      rintro e w1 ⟨rfl, hb1⟩
      have HB1 := Lib.hid hb1
      clear hb1
      go_wp2_with fail
      refine (HLQ.out _).mono ?_
      rintro e w2 ⟨rfl, rfl⟩
      go_wp2_with fail
      go_loopw [7, 32] (fun s i wr => ∃ (k : Nat), k ≤ ss.length ∧ s = .string (mkB (tgtL true (ls.take k))) ∧ i = .int .i64 k ∧ Hid (Below w.heap.size w wr) ∧ Hid (∀ x ∈ ls.take k, x.length ≤ 60)) (fun _ i _ => ss.length - (intOf i).toNat)
      case atStart => exact ⟨0, by omega, rfl, rfl, HB1, by simp [Lib.hid]⟩
      case round =>
        obtain ⟨k, hk, rfl, rfl, HB, HC⟩ := hrel
        by_cases hlt : k < ss.length
        · obtain ⟨a, rfl, hab, hc⟩ := (HR.out.below HB.out (Nat.le_refl _)).at hlt (.string ss[k]) (by simp [hlt])
          have hsn := tgt_snoc true ls k (by rw [HLL.out]; exact hlt)
          rw [HAT.out k hlt _] at hsn
          have hsl := tgt_len true (ls.take k) HC.out
          have htk : (ls.take k).length ≤ 12 := by simp; omega
          have hstep : ss[k].size ≤ 60 → ∀ x ∈ ls.take (k + 1), x.length ≤ 60 := fun h x hx => by
            rw [List.take_add_one, List.getElem?_eq_getElem (by rw [HLL.out]; exact hlt), List.mem_append] at hx
            rcases hx with hx | hx
            · exact HC.out x hx
            · simp at hx; rw [hx, HAT.out k hlt _, data_len]; exact h
          have HST := Lib.hid hstep
          have HSN := Lib.hid hsn
          have HTL : Hid ((tgtL true (ls.take k)).length ≤ 2172) := by show _ ≤ _; omega
          clear hstep hsn hsl htk
          generalize ss[k] = x at *
          by_cases h60 : x.size ≤ 60
          · generalize tgtL true (ls.take k) = T0 at *
            have k1 := add_str (mkB T0) ⟨#[47]⟩ (by rw [mkB_size]; have : (⟨#[47]⟩ : ByteArray).size = 1 := rfl; have := HTL.out; omega)
            have e1 : mkB T0 ++ ⟨#[47]⟩ = mkB (T0 ++ [47]) := mkB_app T0 [47]
            rw [e1] at k1
            clear e1
            go_wp2_with fail
            go_loopw [7, 43] (fun s i wq => ∃ (j : Nat), j ≤ x.size ∧ s = .string (mkB (T0 ++ 47 :: encS true (x.data.toList.take j))) ∧ i = .int .i64 j ∧ Hid (Below w.heap.size w wq)) (fun _ i _ => x.size - (intOf i).toNat)
            case atStart => exact ⟨0, by omega, by simp [encS], rfl, HB⟩
            case round =>
              obtain ⟨j, hj, rfl, rfl, HBQ⟩ := hrel
              by_cases hjl : j < x.size
              · have hen := enc_snoc true x j hjl
                have hqe := enc_len true (x.data.toList.take j)
                obtain ⟨Q, hQ⟩ : ∃ Q, T0 ++ 47 :: encS true (x.data.toList.take j) = Q := ⟨_, rfl⟩
                have HQL : Hid (Q.length ≤ 2400) := by
                  show _ ≤ _
                  rw [← hQ, List.length_append, List.length_cons]
                  have := HTL.out
                  rw [List.length_take, data_len] at hqe
                  omega
                clear hqe
                rw [hQ]
                have hec : encC true x[j] = hexL x[j] := by simp [encC]
                have e2 : Q ++ hexL x[j] = T0 ++ 47 :: encS true (x.data.toList.take (j + 1)) := by rw [hen, hec, ← hQ]; simp
                have HH := Lib.hid (fun w => hex_any x[j] w)
                have k2 := add_str (mkB Q) (mkB (hexL x[j])) (by rw [mkB_size, mkB_size]; have := HQL.out; have : (hexL x[j]).length = 3 := rfl; omega)
                rw [mkB_app, e2] at k2
                have HSE : Hid (mkB (T0 ++ 47 :: encS true (x.data.toList.take (j + 1))) = mkB (T0 ++ 47 :: encS true (x.data.toList.take (j + 1)))) := rfl
                generalize mkB (hexL x[j]) = HX at *
                clear e2 hec hen hQ
                go_wp2_with fail
                refine (HH.out _).mono ?_
                rintro e w5 ⟨rfl, hb5⟩
                have HB5 := Lib.hid (bt HBQ.out hb5)
                clear hb5
                go_wp2_with fail
                go_roundw
                case rel => exact ⟨j + 1, by omega, rfl, by go_num, HB5⟩
                case measure => simp [intOf]; omega
              · have HN := Lib.hid (HST.out h60)
                have htt : x.data.toList.take j = x.data.toList := take_all x j (by omega)
                rw [htt, ← HSN.out]
                go_wp2_with fail
                go_roundw
                case rel => exact ⟨k + 1, by omega, rfl, by go_num, HBQ, HN⟩
                case measure => simp [intOf]; omega
          · generalize mkB (tgtL true (ls.take k)) = S0 at *
            go_wp2_with fail
            go_ret
            exact ⟨rfl, HB.out⟩
        · obtain rfl : k = ss.length := by omega
          have htk : ls.take ss.length = ls := List.take_of_length_le (by rw [HLL.out]; exact Nat.le_refl _)
          rw [htk] at HC
          have hsl := tgt_len true ls HC.out
          rw [HLL.out] at hsl
          have hne : ls ≠ [] := fun h => h0 (by rw [← HLL.out, h]; rfl)
          have hq := eq_list (mkB (tgtL true ls)) [47]
          rw [mkB_data] at hq
          simp only [htk]
          by_cases h47 : tgtL true ls = [47]
          · rw [decide_eq_true h47] at hq
            clear h47 hsl hne htk hlt hk
            generalize mkB (tgtL true ls) = S0 at *
            go_wp2_with fail
            go_ret
            exact ⟨rfl, HB.out⟩
          · rw [decide_eq_false h47] at hq
            have hsp := back_plain true ls q.data.toList hne h47
            rw [HLL.out] at hsp
            have e1 : mkB (tgtL true ls) ++ ⟨#[63]⟩ = mkB (tgtL true ls ++ [63]) := mkB_app _ [63]
            have e2 : mkB (tgtL true ls ++ [63]) ++ q = mkB (tgtL true ls ++ 63 :: q.data.toList) := bytes_ext (by rw [app_data, mkB_data, mkB_data]; simp)
            have k1 := add_str (mkB (tgtL true ls)) ⟨#[63]⟩ (by rw [mkB_size]; have : (⟨#[63]⟩ : ByteArray).size = 1 := rfl; omega)
            have k2 := add_str (mkB (tgtL true ls ++ [63])) q (by rw [mkB_size]; simp; omega)
            rw [e1] at k1
            rw [e2] at k2
            have HS := Lib.hid (fun w => split_any (mkB (tgtL true ls ++ 63 :: q.data.toList)) w (by rw [mkB_size, List.length_append, List.length_cons, data_len]; omega))
            rw [mkB_data, hsp] at HS
            clear e1 e2 h47 hsl hne htk hlt hk hsp
            generalize mkB (tgtL true ls ++ 63 :: q.data.toList) = S2 at *
            generalize mkB (tgtL true ls ++ [63]) = S1 at *
            generalize mkB (tgtL true ls) = S0 at *
            by_cases h8 : ss.length ≤ 8
            · rw [if_pos h8] at HS
              simp only [Option.getD_some, Option.isSome_some] at HS
              have z8 : decide ((8 : Int) < (ss.length : Int)) = false := by simp; omega
              rw [HLL.out] at HS
              go_wp2_with fail
              refine (HS.out _).mono ?_
              rintro e w3 ⟨v3, rfl, ho3, hb3⟩
              obtain ⟨A3, c3, rfl, hr3⟩ := Rd.own ho3
              have HR3 := Lib.hid hr3
              have HB3 := Lib.hid (bt HB.out hb3)
              have HRS := Lib.hid (HR.out.below HB3.out (Nat.le_refl _))
              clear ho3 hr3 hb3
              go_wp2_with fail
              go_loopw [106] (fun i wq => ∃ k n : Nat, k ≤ ss.length ∧ i = .int .i64 k ∧ wq = w3.drewN n) (fun i _ => ss.length - (intOf i).toNat)
              case atStart => exact ⟨0, 0, by omega, rfl, rfl⟩
              case round =>
                obtain ⟨k, n, hk, rfl, rfl⟩ := hrel
                by_cases hlt : k < ss.length
                · have hkl : k < ls.length := by rw [HLL.out]; exact hlt
                  obtain ⟨a2, rfl, _, x2⟩ := HR3.out.at hlt (strV ls[k]) (by simp [hkl])
                  obtain ⟨a3, rfl, _, x3⟩ := HRS.out.at hlt (.string ss[k]) (by simp [hlt])
                  rw [strV_mk, HAT.out k hlt hkl, mkB_of] at x2
                  generalize ss[k] = y at *
                  have i0 : (0 : Int) ≤ (k : Int) := by omega
                  have i1 : (k : Int) < (ss.length : Int) := by omega
                  go_wp2_with fail
                  go_quiet (fail)
                  go_wp2_with fail
                  go_roundw
                  case rel => exact ⟨k + 1, n + nq, by omega, by go_num, rfl⟩
                  case measure => simp [intOf]; omega
                · go_wp2_with fail
                  go_ret
                  exact ⟨rfl, below_drewN HB3.out _⟩
            · rw [if_neg h8] at HS
              simp only [Option.getD_none, Option.isSome_none] at HS
              have z8 : decide ((8 : Int) < (ss.length : Int)) = true := by simp; omega
              go_wp2_with fail
              refine (HS.out _).mono ?_
              rintro e w3 ⟨v3, rfl, ho3, hb3⟩
              obtain ⟨A3, c3, rfl, hr3⟩ := Rd.own ho3
              clear ho3 hr3
              go_wp2_with fail
              go_ret
              exact ⟨rfl, bt HB.out hb3⟩
    · rw [decide_eq_false hq6] at HLQ
      go_enter Try.func3, Try.ntmps3
      go_wp2_with fail
      refine (HF.out _).mono ?_
      rintro e w1 ⟨rfl, hb1⟩
      go_wp2_with fail
      refine (HLQ.out _).mono ?_
      rintro e w2 ⟨rfl, rfl⟩
      go_wp2_with fail
      go_ret
      exact ⟨rfl, hb1⟩
  · have z12 : decide ((12 : Int) < (ss.length : Int)) = true := by simp; omega
    go_enter Try.func3, Try.ntmps3
    go_wp2_with fail
    refine (HF.out _).mono ?_
    rintro e w1 ⟨rfl, hb1⟩
    go_wp2_with fail
    go_ret
    exact ⟨rfl, hb1⟩

set_option maxRecDepth 100000 in
set_option maxHeartbeats 8000000 in
theorem back_false (ss : List ByteArray) (A : Option Addr) (c : Nat) (q : ByteArray) (w : World) (hr : Rd w w.heap.size 1 A ss.length (ss.map .string)) :
    Calls Try.prog 3 #[.slice A ss.length c, .string q, .bool false] w fun e w' => e = .returned (.bool true) ∧ Below w.heap.size w w' := by
  have HF := Lib.hid (fun w => fit_any w)
  have HLQ := Lib.hid (fun w => light_any q w)
  have HR := Lib.hid hr
  clear hr
  by_cases h0 : ss.length = 0
  · go_enter Try.func3, Try.ntmps3
    go_wp2_with fail
    refine (HF.out _).mono ?_
    rintro e w1 ⟨rfl, hb1⟩
    go_wp2_with fail
    go_ret
    exact ⟨rfl, hb1⟩
  have z0 : ((ss.length : Int) == 0) = false := by rw [beq_eq_false_iff_ne]; omega
  by_cases h12 : ss.length ≤ 12
  · have z12 : decide ((12 : Int) < (ss.length : Int)) = false := by simp; omega
    by_cases hq6 : q.size ≤ 600
    · rw [decide_eq_true hq6] at HLQ
      obtain ⟨ls, hls⟩ : ∃ ls, ss.map (·.data.toList) = ls := ⟨_, rfl⟩
      have hll : ls.length = ss.length := by rw [← hls]; simp
      have hat : ∀ k (h : k < ss.length) (h' : k < ls.length), ls[k] = (ss[k]).data.toList := fun k h h' => by simp [← hls]
      have HLL := Lib.hid hll; have HAT := Lib.hid hat
      clear hll hat hls
      go_enter Try.func3, Try.ntmps3
      go_wp2_with fail
      refine (HF.out _).mono ?_
      rintro e w1 ⟨rfl, hb1⟩
      have HB1 := Lib.hid hb1
      clear hb1
      go_wp2_with fail
      refine (HLQ.out _).mono ?_
      rintro e w2 ⟨rfl, rfl⟩
      go_wp2_with fail
      go_loopw [7, 32] (fun s i wr => ∃ (k : Nat), k ≤ ss.length ∧ s = .string (mkB (tgtL false (ls.take k))) ∧ i = .int .i64 k ∧ Hid (Below w.heap.size w wr) ∧ Hid (∀ x ∈ ls.take k, x.length ≤ 60)) (fun _ i _ => ss.length - (intOf i).toNat)
      case atStart => exact ⟨0, by omega, rfl, rfl, HB1, by simp [Lib.hid]⟩
      case round =>
        obtain ⟨k, hk, rfl, rfl, HB, HC⟩ := hrel
        by_cases hlt : k < ss.length
        · obtain ⟨a, rfl, hab, hc⟩ := (HR.out.below HB.out (Nat.le_refl _)).at hlt (.string ss[k]) (by simp [hlt])
          have hsn := tgt_snoc false ls k (by rw [HLL.out]; exact hlt)
          rw [HAT.out k hlt _] at hsn
          have hsl := tgt_len false (ls.take k) HC.out
          have htk : (ls.take k).length ≤ 12 := by simp; omega
          have hstep : ss[k].size ≤ 60 → ∀ x ∈ ls.take (k + 1), x.length ≤ 60 := fun h x hx => by
            rw [List.take_add_one, List.getElem?_eq_getElem (by rw [HLL.out]; exact hlt), List.mem_append] at hx
            rcases hx with hx | hx
            · exact HC.out x hx
            · simp at hx; rw [hx, HAT.out k hlt _, data_len]; exact h
          have HST := Lib.hid hstep
          have HSN := Lib.hid hsn
          have HTL : Hid ((tgtL false (ls.take k)).length ≤ 2172) := by show _ ≤ _; omega
          clear hstep hsn hsl htk
          generalize ss[k] = x at *
          by_cases h60 : x.size ≤ 60
          · generalize tgtL false (ls.take k) = T0 at *
            have k1 := add_str (mkB T0) ⟨#[47]⟩ (by rw [mkB_size]; have : (⟨#[47]⟩ : ByteArray).size = 1 := rfl; have := HTL.out; omega)
            have e1 : mkB T0 ++ ⟨#[47]⟩ = mkB (T0 ++ [47]) := mkB_app T0 [47]
            rw [e1] at k1
            clear e1
            go_wp2_with fail
            go_loopw [7, 43] (fun s i wq => ∃ (j : Nat), j ≤ x.size ∧ s = .string (mkB (T0 ++ 47 :: encS false (x.data.toList.take j))) ∧ i = .int .i64 j ∧ Hid (Below w.heap.size w wq)) (fun _ i _ => x.size - (intOf i).toNat)
            case atStart => exact ⟨0, by omega, by simp [encS], rfl, HB⟩
            case round =>
              obtain ⟨j, hj, rfl, rfl, HBQ⟩ := hrel
              by_cases hjl : j < x.size
              · have hen := enc_snoc false x j hjl
                have hqe := enc_len false (x.data.toList.take j)
                obtain ⟨Q, hQ⟩ : ∃ Q, T0 ++ 47 :: encS false (x.data.toList.take j) = Q := ⟨_, rfl⟩
                have HQL : Hid (Q.length ≤ 2400) := by
                  show _ ≤ _
                  rw [← hQ, List.length_append, List.length_cons]
                  have := HTL.out
                  rw [List.length_take, data_len] at hqe
                  omega
                clear hqe
                rw [hQ]
                have t1 : ((x[j].toNat : Int) == 47) = decide (x[j] = 47) := byte_test x[j] 47
                have t2 : ((x[j].toNat : Int) == 63) = decide (x[j] = 63) := byte_test x[j] 63
                have t3 : ((x[j].toNat : Int) == 37) = decide (x[j] = 37) := byte_test x[j] 37
                by_cases c1 : x[j] = 47
                · rw [decide_eq_true c1] at t1
                  have hec : encC false x[j] = hexL x[j] := by rw [encC, if_pos (.inr (.inl c1))]
                  clear c1 t2 t3
                  have e2 : Q ++ hexL x[j] = T0 ++ 47 :: encS false (x.data.toList.take (j + 1)) := by rw [hen, hec, ← hQ]; simp
                  have HH := Lib.hid (fun w => hex_any x[j] w)
                  have k2 := add_str (mkB Q) (mkB (hexL x[j])) (by rw [mkB_size, mkB_size]; have := HQL.out; have : (hexL x[j]).length = 3 := rfl; omega)
                  rw [mkB_app, e2] at k2
                  have HSE : Hid (mkB (T0 ++ 47 :: encS false (x.data.toList.take (j + 1))) = mkB (T0 ++ 47 :: encS false (x.data.toList.take (j + 1)))) := rfl
                  generalize mkB (hexL x[j]) = HX at *
                  clear e2 hec hen hQ
                  go_wp2_with fail
                  refine (HH.out _).mono ?_
                  rintro e w5 ⟨rfl, hb5⟩
                  have HB5 := Lib.hid (bt HBQ.out hb5)
                  clear hb5
                  go_wp2_with fail
                  go_roundw
                  case rel => exact ⟨j + 1, by omega, rfl, by go_num, HB5⟩
                  case measure => simp [intOf]; omega
                rw [decide_eq_false c1] at t1
                by_cases c2 : x[j] = 63
                · rw [decide_eq_true c2] at t2
                  have hec : encC false x[j] = hexL x[j] := by rw [encC, if_pos (.inr (.inr (.inl c2)))]
                  clear c1 c2 t3
                  have e2 : Q ++ hexL x[j] = T0 ++ 47 :: encS false (x.data.toList.take (j + 1)) := by rw [hen, hec, ← hQ]; simp
                  have HH := Lib.hid (fun w => hex_any x[j] w)
                  have k2 := add_str (mkB Q) (mkB (hexL x[j])) (by rw [mkB_size, mkB_size]; have := HQL.out; have : (hexL x[j]).length = 3 := rfl; omega)
                  rw [mkB_app, e2] at k2
                  have HSE : Hid (mkB (T0 ++ 47 :: encS false (x.data.toList.take (j + 1))) = mkB (T0 ++ 47 :: encS false (x.data.toList.take (j + 1)))) := rfl
                  generalize mkB (hexL x[j]) = HX at *
                  clear e2 hec hen hQ
                  go_wp2_with fail
                  refine (HH.out _).mono ?_
                  rintro e w5 ⟨rfl, hb5⟩
                  have HB5 := Lib.hid (bt HBQ.out hb5)
                  clear hb5
                  go_wp2_with fail
                  go_roundw
                  case rel => exact ⟨j + 1, by omega, rfl, by go_num, HB5⟩
                  case measure => simp [intOf]; omega
                rw [decide_eq_false c2] at t2
                by_cases c3 : x[j] = 37
                · rw [decide_eq_true c3] at t3
                  have hec : encC false x[j] = hexL x[j] := by rw [encC, if_pos (.inr (.inr (.inr c3)))]
                  clear c1 c2 c3
                  have e2 : Q ++ hexL x[j] = T0 ++ 47 :: encS false (x.data.toList.take (j + 1)) := by rw [hen, hec, ← hQ]; simp
                  have HH := Lib.hid (fun w => hex_any x[j] w)
                  have k2 := add_str (mkB Q) (mkB (hexL x[j])) (by rw [mkB_size, mkB_size]; have := HQL.out; have : (hexL x[j]).length = 3 := rfl; omega)
                  rw [mkB_app, e2] at k2
                  have HSE : Hid (mkB (T0 ++ 47 :: encS false (x.data.toList.take (j + 1))) = mkB (T0 ++ 47 :: encS false (x.data.toList.take (j + 1)))) := rfl
                  generalize mkB (hexL x[j]) = HX at *
                  clear e2 hec hen hQ
                  go_wp2_with fail
                  refine (HH.out _).mono ?_
                  rintro e w5 ⟨rfl, hb5⟩
                  have HB5 := Lib.hid (bt HBQ.out hb5)
                  clear hb5
                  go_wp2_with fail
                  go_roundw
                  case rel => exact ⟨j + 1, by omega, rfl, by go_num, HB5⟩
                  case measure => simp [intOf]; omega
                rw [decide_eq_false c3] at t3
                have hec : encC false x[j] = [x[j]] := by rw [encC, if_neg (by simp [c1, c2, c3])]
                have e2 : Q ++ [x[j]] = T0 ++ 47 :: encS false (x.data.toList.take (j + 1)) := by rw [hen, hec, ← hQ]; simp
                have k2 := add_str (mkB Q) (x.extract j (j + 1)) (by rw [one_ext x j hjl, mkB_size, mkB_size]; have := HQL.out; simp; omega)
                have e3 : mkB Q ++ x.extract j (j + 1) = mkB (T0 ++ 47 :: encS false (x.data.toList.take (j + 1))) := by rw [one_ext x j hjl, mkB_app, e2]
                rw [e3] at k2
                clear e2 e3 hec hen hQ c1 c2 c3
                go_wp2_with fail
                go_roundw
                case rel => exact ⟨j + 1, by omega, rfl, by go_num, HBQ⟩
                case measure => simp [intOf]; omega
              · have HN := Lib.hid (HST.out h60)
                have htt : x.data.toList.take j = x.data.toList := take_all x j (by omega)
                rw [htt, ← HSN.out]
                go_wp2_with fail
                go_roundw
                case rel => exact ⟨k + 1, by omega, rfl, by go_num, HBQ, HN⟩
                case measure => simp [intOf]; omega
          · generalize mkB (tgtL false (ls.take k)) = S0 at *
            go_wp2_with fail
            go_ret
            exact ⟨rfl, HB.out⟩
        · obtain rfl : k = ss.length := by omega
          have htk : ls.take ss.length = ls := List.take_of_length_le (by rw [HLL.out]; exact Nat.le_refl _)
          rw [htk] at HC
          have hsl := tgt_len false ls HC.out
          rw [HLL.out] at hsl
          have hne : ls ≠ [] := fun h => h0 (by rw [← HLL.out, h]; rfl)
          have hq := eq_list (mkB (tgtL false ls)) [47]
          rw [mkB_data] at hq
          simp only [htk]
          by_cases h47 : tgtL false ls = [47]
          · rw [decide_eq_true h47] at hq
            clear h47 hsl hne htk hlt hk
            generalize mkB (tgtL false ls) = S0 at *
            go_wp2_with fail
            go_ret
            exact ⟨rfl, HB.out⟩
          · rw [decide_eq_false h47] at hq
            have hsp := back_plain false ls q.data.toList hne h47
            rw [HLL.out] at hsp
            have e1 : mkB (tgtL false ls) ++ ⟨#[63]⟩ = mkB (tgtL false ls ++ [63]) := mkB_app _ [63]
            have e2 : mkB (tgtL false ls ++ [63]) ++ q = mkB (tgtL false ls ++ 63 :: q.data.toList) := bytes_ext (by rw [app_data, mkB_data, mkB_data]; simp)
            have k1 := add_str (mkB (tgtL false ls)) ⟨#[63]⟩ (by rw [mkB_size]; have : (⟨#[63]⟩ : ByteArray).size = 1 := rfl; omega)
            have k2 := add_str (mkB (tgtL false ls ++ [63])) q (by rw [mkB_size]; simp; omega)
            rw [e1] at k1
            rw [e2] at k2
            have HS := Lib.hid (fun w => split_any (mkB (tgtL false ls ++ 63 :: q.data.toList)) w (by rw [mkB_size, List.length_append, List.length_cons, data_len]; omega))
            rw [mkB_data, hsp] at HS
            clear e1 e2 h47 hsl hne htk hlt hk hsp
            generalize mkB (tgtL false ls ++ 63 :: q.data.toList) = S2 at *
            generalize mkB (tgtL false ls ++ [63]) = S1 at *
            generalize mkB (tgtL false ls) = S0 at *
            by_cases h8 : ss.length ≤ 8
            · rw [if_pos h8] at HS
              simp only [Option.getD_some, Option.isSome_some] at HS
              have z8 : decide ((8 : Int) < (ss.length : Int)) = false := by simp; omega
              rw [HLL.out] at HS
              go_wp2_with fail
              refine (HS.out _).mono ?_
              rintro e w3 ⟨v3, rfl, ho3, hb3⟩
              obtain ⟨A3, c3, rfl, hr3⟩ := Rd.own ho3
              have HR3 := Lib.hid hr3
              have HB3 := Lib.hid (bt HB.out hb3)
              have HRS := Lib.hid (HR.out.below HB3.out (Nat.le_refl _))
              clear ho3 hr3 hb3
              go_wp2_with fail
              go_loopw [106] (fun i wq => ∃ k n : Nat, k ≤ ss.length ∧ i = .int .i64 k ∧ wq = w3.drewN n) (fun i _ => ss.length - (intOf i).toNat)
              case atStart => exact ⟨0, 0, by omega, rfl, rfl⟩
              case round =>
                obtain ⟨k, n, hk, rfl, rfl⟩ := hrel
                by_cases hlt : k < ss.length
                · have hkl : k < ls.length := by rw [HLL.out]; exact hlt
                  obtain ⟨a2, rfl, _, x2⟩ := HR3.out.at hlt (strV ls[k]) (by simp [hkl])
                  obtain ⟨a3, rfl, _, x3⟩ := HRS.out.at hlt (.string ss[k]) (by simp [hlt])
                  rw [strV_mk, HAT.out k hlt hkl, mkB_of] at x2
                  generalize ss[k] = y at *
                  have i0 : (0 : Int) ≤ (k : Int) := by omega
                  have i1 : (k : Int) < (ss.length : Int) := by omega
                  go_wp2_with fail
                  go_quiet (fail)
                  go_wp2_with fail
                  go_roundw
                  case rel => exact ⟨k + 1, n + nq, by omega, by go_num, rfl⟩
                  case measure => simp [intOf]; omega
                · go_wp2_with fail
                  go_ret
                  exact ⟨rfl, below_drewN HB3.out _⟩
            · rw [if_neg h8] at HS
              simp only [Option.getD_none, Option.isSome_none] at HS
              have z8 : decide ((8 : Int) < (ss.length : Int)) = true := by simp; omega
              go_wp2_with fail
              refine (HS.out _).mono ?_
              rintro e w3 ⟨v3, rfl, ho3, hb3⟩
              obtain ⟨A3, c3, rfl, hr3⟩ := Rd.own ho3
              clear ho3 hr3
              go_wp2_with fail
              go_ret
              exact ⟨rfl, bt HB.out hb3⟩
    · rw [decide_eq_false hq6] at HLQ
      go_enter Try.func3, Try.ntmps3
      go_wp2_with fail
      refine (HF.out _).mono ?_
      rintro e w1 ⟨rfl, hb1⟩
      go_wp2_with fail
      refine (HLQ.out _).mono ?_
      rintro e w2 ⟨rfl, rfl⟩
      go_wp2_with fail
      go_ret
      exact ⟨rfl, hb1⟩
  · have z12 : decide ((12 : Int) < (ss.length : Int)) = true := by simp; omega
    go_enter Try.func3, Try.ntmps3
    go_wp2_with fail
    refine (HF.out _).mono ?_
    rintro e w1 ⟨rfl, hb1⟩
    go_wp2_with fail
    go_ret
    exact ⟨rfl, hb1⟩

theorem back_row (ss : List ByteArray) (A : Option Addr) (c : Nat) (q : ByteArray) (all : Bool) (w : World) (hr : Rd w w.heap.size 1 A ss.length (ss.map .string)) (_ : q.size ≤ maxLen) :
    Calls Try.prog 3 #[.slice A ss.length c, .string q, .bool all] w fun e w' => e = .returned (.bool true) ∧ Below w.heap.size w w' := by
  cases all with
  | true => exact back_true ss A c q w hr
  | false => exact back_false ss A c q w hr

end Go.Proofs.Ytghlmdpkchepgaa
