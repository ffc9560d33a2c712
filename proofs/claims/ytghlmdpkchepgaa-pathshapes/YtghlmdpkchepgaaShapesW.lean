/- The walk of PathShapes. -/
import Derived.Test.YtghlmdpkchepgaaPlainW
namespace Go.Proofs.Ytghlmdpkchepgaa
open Go.RowKit Pl

theorem list_head (p : ByteArray) (h : 0 < p.size) : p.data.toList = p[0] :: p.data.toList.drop 1 := by
  have := drop_at p 0 h
  simpa using this
theorem shape_first (l : List (List UInt8)) (k : Nat) (p : ByteArray) (hp : shapeL (l.take (k + 1)) = shapeL (l.take k) ++ shapeC p.data.toList) (h : 0 < p.size) (c : UInt8) (hc : p[0] = c) (hk : kindL [c] ≠ 0) : mkB (shapeL (l.take k)) ++ mkB [47, c] = mkB (shapeL (l.take (k + 1))) ∧ kindL p.data.toList = kindL [c] := by
  have e := list_head p h
  rw [hc] at e
  have e2 : kindL p.data.toList = kindL [c] := by rw [e]; rfl
  refine ⟨bytes_ext ?_, e2⟩
  rw [app_data, mkB_data, mkB_data, mkB_data, hp]
  congr 1
  rw [shapeC, e2, if_pos hk, e]
  rfl
theorem shape_word (l : List (List UInt8)) (k : Nat) (p : ByteArray) (hp : shapeL (l.take (k + 1)) = shapeL (l.take k) ++ shapeC p.data.toList) (h : 0 < p.size) (h1 : p[0] ≠ 58) (h2 : p[0] ≠ 42) : mkB (shapeL (l.take k)) ++ (⟨#[47]⟩ ++ p) = mkB (shapeL (l.take (k + 1))) ∧ kindL p.data.toList = 0 := by
  have e := list_head p h
  have e2 : kindL p.data.toList = 0 := by rw [e]; simp [kindL, h1, h2]
  refine ⟨bytes_ext ?_, e2⟩
  rw [app_data, app_data, mkB_data, mkB_data, hp, shapeC, e2]
  rfl

set_option maxRecDepth 100000 in
set_option maxHeartbeats 8000000 in
theorem shapes_any (s : ByteArray) (n : Int) (w : World) : Calls Try.prog 6 #[.string s, .int .i64 n] w fun e w' => e = .returned (.bool true) ∧ Below w.heap.size w w' := by
  have HF := Lib.hid (fun w => fit_any w)
  have HL1 := Lib.hid (fun w => light_any s w)
  have a1 := i64_and15 n
  obtain ⟨m, hm⟩ : ∃ m : Nat, n % 16 = (m : Int) := ⟨(n % 16).toNat, by omega⟩
  have hml : m < 16 := by omega
  rw [hm] at a1
  clear hm
  by_cases h1 : s.size ≤ 600
  · rw [decide_eq_true h1] at HL1
    have HP := Lib.hid (fun w => pat_any s w (by omega))
    cases hpt : patL s.data.toList with
    | none =>
      rw [hpt] at HP
      simp only [Option.getD_none, Option.isSome_none] at HP
      clear hpt
      go_enter Try.func6, Try.ntmps6
      go_wp2_with fail
      refine (HF.out _).mono ?_
      rintro e w1 ⟨rfl, hb1⟩
      go_wp2_with fail
      refine (HL1.out _).mono ?_
      rintro e w1 ⟨rfl, rfl⟩
      go_wp2_with fail
      refine (HP.out _).mono ?_
      rintro e w2 ⟨v2, rfl, ho2, hb2⟩
      obtain ⟨A2, c2, rfl, hr2⟩ := Rd.own ho2
      clear ho2 hr2
      go_wp2_with fail
      go_ret
      exact ⟨rfl, bt hb1 hb2⟩
    | some l =>
      rw [hpt] at HP
      simp only [Option.getD_some, Option.isSome_some] at HP
      obtain ⟨hsg, hft⟩ := pat_segs hpt
      have hl8 := segs_len hsg
      have HSM : Hid (∀ x ∈ l, x.length ≤ 600) := fun x hx => by have := segs_small hsg x hx; rw [data_len] at this; omega
      have HNE : Hid (∀ k (hk : k < l.length), 0 < (mkB l[k]).size) := fun k hk => by rw [mkB_size]; exact List.length_pos_iff.2 (fit_ne l k _ (fits_all l hft k hk))
      have HKE := Lib.hid (fun w => kind_any ⟨#[]⟩ w)
      clear hpt hsg hft
      go_enter Try.func6, Try.ntmps6
      go_wp2_with fail
      refine (HF.out _).mono ?_
      rintro e w1 ⟨rfl, hb1⟩
      go_wp2_with fail
      refine (HL1.out _).mono ?_
      rintro e w1 ⟨rfl, rfl⟩
      go_wp2_with fail
      refine (HP.out _).mono ?_
      rintro e w2 ⟨v2, rfl, ho2, hb2⟩
      obtain ⟨A2, c2, rfl, hr2⟩ := Rd.own ho2
      have HO := Lib.hid ho2; have HR := Lib.hid hr2; have HB := Lib.hid (bt hb1 hb2)
      clear ho2 hr2 hb1 hb2
      go_wp2_with fail
      go_loopw [7, 27] (fun t i wr => ∃ (k : Nat), k ≤ l.length ∧ t = .string (mkB (shapeL (l.take k))) ∧ i = .int .i64 k ∧ wr = w2) (fun _ i _ => l.length - (intOf i).toNat)
      case atStart => exact ⟨0, by omega, rfl, rfl, rfl⟩
      case round =>
        obtain ⟨k, hk, rfl, rfl, rfl⟩ := hrel
        by_cases hlt : k < l.length
        · obtain ⟨a, rfl, hab, hc⟩ := HR.out.at hlt (strV l[k]) (by simp [hlt])
          rw [strV_mk] at hc
          have hp0 := HNE.out k hlt
          have hsn := shape_snoc l k hlt
          rw [← mkB_data l[k]] at hsn
          have hpz : (mkB l[k]).size ≤ 600 := by rw [mkB_size]; exact HSM.out _ (List.getElem_mem hlt)
          have htz : (mkB (shapeL (l.take k))).size ≤ 8 * 601 := by
            rw [mkB_size]
            refine Nat.le_trans (flat_le (l.take k) 600 (fun x hx => HSM.out x (List.mem_of_mem_take hx)) shapeC shapeC_len) ?_
            simp; omega
          have HK := Lib.hid (fun w => kind_any (mkB l[k]) w)
          generalize mkB l[k] = p at *
          have t1 : ((p[0].toNat : Int) == 58) = decide (p[0] = 58) := byte_test p[0] 58
          have t2 : ((p[0].toNat : Int) == 42) = decide (p[0] = 42) := byte_test p[0] 42
          by_cases c1 : p[0] = 58
          · rw [decide_eq_true c1] at t1
            obtain ⟨e1, e2⟩ := shape_first l k p hsn hp0 58 c1 (by decide)
            have k1 := add_str (mkB (shapeL (l.take k))) ⟨#[47, 58]⟩ (by have : (⟨#[47, 58]⟩ : ByteArray).size = 2 := rfl; omega)
            have e3 : mkB (shapeL (l.take k)) ++ ⟨#[47, 58]⟩ = mkB (shapeL (l.take (k + 1))) := e1
            rw [e3] at k1
            rw [e2] at HK
            change Hid (∀ w, Calls Try.prog 18 #[.string p] w fun e w' => e = .returned (.int .i64 1) ∧ w = w') at HK
            clear c1 t2 e1 e2 e3 hsn
            generalize mkB (shapeL (l.take k)) = S0 at *
            go_wp2_with fail
            refine (HK.out _).mono ?_
            rintro e w3 ⟨rfl, rfl⟩
            go_wp2_with fail
            go_roundw
            case rel => exact ⟨k + 1, by omega, rfl, by go_num, by first | rfl | trivial⟩
            case measure => simp [intOf]; omega
          rw [decide_eq_false c1] at t1
          by_cases c2 : p[0] = 42
          · rw [decide_eq_true c2] at t2
            obtain ⟨e1, e2⟩ := shape_first l k p hsn hp0 42 c2 (by decide)
            have k1 := add_str (mkB (shapeL (l.take k))) ⟨#[47, 42]⟩ (by have : (⟨#[47, 42]⟩ : ByteArray).size = 2 := rfl; omega)
            have e3 : mkB (shapeL (l.take k)) ++ ⟨#[47, 42]⟩ = mkB (shapeL (l.take (k + 1))) := e1
            rw [e3] at k1
            rw [e2] at HK
            change Hid (∀ w, Calls Try.prog 18 #[.string p] w fun e w' => e = .returned (.int .i64 2) ∧ w = w') at HK
            clear c1 c2 e1 e2 e3 hsn
            generalize mkB (shapeL (l.take k)) = S0 at *
            go_wp2_with fail
            refine (HK.out _).mono ?_
            rintro e w3 ⟨rfl, rfl⟩
            go_wp2_with fail
            go_roundw
            case rel => exact ⟨k + 1, by omega, rfl, by go_num, by first | rfl | trivial⟩
            case measure => simp [intOf]; omega
          rw [decide_eq_false c2] at t2
          obtain ⟨e1, e2⟩ := shape_word l k p hsn hp0 c1 c2
          have k1 := add_str ⟨#[47]⟩ p (by have : (⟨#[47]⟩ : ByteArray).size = 1 := rfl; omega)
          have k2 := add_str (mkB (shapeL (l.take k))) (⟨#[47]⟩ ++ p) (by rw [app_size]; have : (⟨#[47]⟩ : ByteArray).size = 1 := rfl; omega)
          rw [e1] at k2
          rw [e2] at HK
          clear c1 c2 e1 e2 hsn
          generalize (⟨#[47]⟩ ++ p : ByteArray) = X1 at *
          generalize mkB (shapeL (l.take k)) = S0 at *
          go_wp2_with fail
          refine (HK.out _).mono ?_
          rintro e w3 ⟨rfl, rfl⟩
          go_wp2_with fail
          go_roundw
          case rel => exact ⟨k + 1, by omega, rfl, by go_num, by first | rfl | trivial⟩
          case measure => simp [intOf]; omega
        · have htk : l.take k = l := List.take_of_length_le (by omega)
          rw [htk]
          have HSH := Lib.hid (shape_any l A2 c2 _ HR.out (by omega) (fun x hx => by have := HSM.out x hx; omega))
          have HJA := Lib.hid (fun w' (hb : Below wr.heap.size wr w') => join_any _ l _ m w' (own_below HO.out hb) (by omega) (fun x hx => by have := HSM.out x hx; omega) (by omega))
          generalize mkB (shapeL l) = S0 at *
          have hqs : (S0.toList == S0.toList) = true := by simp
          clear htk
          obtain ⟨r, hr⟩ : ∃ r, l.drop m = r := ⟨_, rfl⟩
          rw [hr] at HJA
          have hrl : r.length = l.length - m := by rw [← hr]; simp
          have hra : ∀ d (h : d < r.length), ∃ h' : m + d < l.length, l[m + d] = r[d] := fun d h => ⟨by omega, by simp [← hr]⟩
          have HRA := Lib.hid hra
          have HRS : Hid (∀ x ∈ r, x.length ≤ 600) := fun x hx => HSM.out x (List.mem_of_mem_drop (hr ▸ hx))
          clear hra hr
          go_wp2_with fail
          have HJL : Hid (∀ d, (mkB (joinTo 47 r d)).size ≤ 8 * 601) := fun d => by
            rw [mkB_size]
            refine Nat.le_trans (joinTo_len 47 r d) (Nat.le_trans (joinW_len r 600 HRS.out) ?_)
            exact Nat.mul_le_mul_right _ (by omega)
          go_loopw [11, 12] (fun t i wq => ∃ (e : Nat), m ≤ e ∧ e ≤ m + r.length ∧ t = .string (mkB (joinTo 47 r (e - m))) ∧ i = .int .i64 e ∧ wq = wr) (fun _ i _ => m + r.length - (intOf i).toNat)
          case atStart => exact ⟨m, by omega, by omega, by rw [Nat.sub_self]; rfl, rfl, rfl⟩
          case round =>
            obtain ⟨e, he0, he1, rfl, rfl, rfl⟩ := hrel
            by_cases hel : e < l.length
            · obtain ⟨a, rfl, hab, hc⟩ := HR.out.at hel (strV l[e]) (by simp [hel])
              rw [strV_mk] at hc
              have hdr : e - m < r.length := by omega
              obtain ⟨h', hrd⟩ := HRA.out (e - m) hdr
              have hme : m + (e - m) = e := by omega
              simp only [hme] at hrd
              have hxz : (mkB l[e]).size ≤ 600 := by rw [mkB_size]; exact HSM.out _ (List.getElem_mem hel)
              have hjl := HJL.out (e - m)
              have hes : e + 1 - m = e - m + 1 := by omega
              by_cases hem : e = m
              · have e1 : mkB (joinTo 47 r (e - m)) ++ mkB l[e] = mkB (joinTo 47 r (e + 1 - m)) := by
                  have h0 : e - m = 0 := by omega
                  have e0 : r[e - m] = r[0]'(by omega) := by simp only [h0]
                  rw [hes, hrd, e0]
                  apply bytes_ext
                  rw [app_data, mkB_data, mkB_data, mkB_data, h0, joinTo_first 47 r (by omega), joinTo_zero]; rfl
                have k2 := add_str (mkB (joinTo 47 r (e - m))) (mkB l[e]) (by omega)
                rw [e1] at k2
                have hg : ¬ ((m : Int) < (e : Int)) := by omega
                clear hrd hme hes e1 hem h'
                generalize mkB (joinTo 47 r (e - m)) = J0 at *
                generalize mkB l[e] = x at *
                go_wp2_with fail
                go_roundw
                case rel => exact ⟨e + 1, by omega, by omega, rfl, by go_num, by first | rfl | trivial⟩
                case measure => simp [intOf]; omega
              · have e1 : (mkB (joinTo 47 r (e - m)) ++ ⟨#[47]⟩) ++ mkB l[e] = mkB (joinTo 47 r (e + 1 - m)) := by
                  rw [hes, hrd]
                  apply bytes_ext
                  rw [app_data, app_data, mkB_data, mkB_data, mkB_data, joinTo_step 47 r (e - m) hdr (by omega)]
                have k1 := add_str (mkB (joinTo 47 r (e - m))) ⟨#[47]⟩ (by have : (⟨#[47]⟩ : ByteArray).size = 1 := rfl; omega)
                have k2 := add_str (mkB (joinTo 47 r (e - m)) ++ ⟨#[47]⟩) (mkB l[e]) (by rw [app_size]; have : (⟨#[47]⟩ : ByteArray).size = 1 := rfl; omega)
                rw [e1] at k2
                have hg : (m : Int) < (e : Int) := by omega
                clear hrd hme hes e1 hem h'
                generalize mkB (joinTo 47 r (e - m)) ++ ⟨#[47]⟩ = J1 at *
                generalize mkB (joinTo 47 r (e - m)) = J0 at *
                generalize mkB l[e] = x at *
                go_wp2_with fail
                go_roundw
                case rel => exact ⟨e + 1, by omega, by omega, rfl, by go_num, by first | rfl | trivial⟩
                case measure => simp [intOf]; omega
            · have hee : e - m = r.length := by omega
              rw [hee, joinTo_all]
              clear hee
              generalize mkB (joinW 47 r) = J0 at *
              have hqj : (J0.toList == J0.toList) = true := by simp
              go_wp2_with fail
              refine HSH.out.mono ?_
              rintro e w3 ⟨rfl, hb3⟩
              go_wp2_with fail
              refine (HJA.out w3 hb3).mono ?_
              rintro e w4 ⟨rfl, hb4⟩
              go_wp2_with fail
              refine (HKE.out _).mono ?_
              rintro e w5 ⟨rfl, rfl⟩
              have hke : kindL (⟨#[]⟩ : ByteArray).data.toList = 0 := rfl
              go_wp2_with fail
              go_ret
              exact ⟨rfl, bt (bt HB.out hb3) hb4⟩
  · rw [decide_eq_false h1] at HL1
    go_enter Try.func6, Try.ntmps6
    go_wp2_with fail
    refine (HF.out _).mono ?_
    rintro e w1 ⟨rfl, hb1⟩
    go_wp2_with fail
    refine (HL1.out _).mono ?_
    rintro e w1 ⟨rfl, rfl⟩
    go_wp2_with fail
    go_ret
    exact ⟨rfl, hb1⟩

theorem shapes_row (s : ByteArray) (n : Int) (w : World) (_ : s.size ≤ maxLen) (_ : (Lit.int .i64 n).wf = true) : Calls Try.prog 6 #[.string s, .int .i64 n] w fun e w' => e = .returned (.bool true) ∧ Below w.heap.size w w' := shapes_any s n w

end Go.Proofs.Ytghlmdpkchepgaa
