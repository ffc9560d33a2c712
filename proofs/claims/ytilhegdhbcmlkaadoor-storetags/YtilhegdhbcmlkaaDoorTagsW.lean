/- StoreTags, walked. -/
import Derived.Test.YtilhegdhbcmlkaaDoorSt6
namespace Go.Proofs.YtilhegdhbcmlkaaDoor
open Go.RowKit

def bN : Value → Nat
  | .bool true => 1
  | _ => 0
theorem hex_cut (n : Nat) (h : n < 16) : (⟨#[48, 49, 50, 51, 52, 53, 54, 55, 56, 57, 97, 98, 99, 100, 101, 102]⟩ : ByteArray).extract n (n + 1) = mkB [dig16 n] := by
  have : ∀ n : Fin 16, (⟨#[48, 49, 50, 51, 52, 53, 54, 55, 56, 57, 97, 98, 99, 100, 101, 102]⟩ : ByteArray).extract n.1 (n.1 + 1) = mkB [dig16 n.1] := by decide +kernel
  exact this ⟨n, h⟩
theorem dec_cut (n : Nat) (h : n < 10) : (⟨#[48, 49, 50, 51, 52, 53, 54, 55, 56, 57]⟩ : ByteArray).extract n (n + 1) = mkB [UInt8.ofNat (48 + n)] := by
  have : ∀ n : Fin 10, (⟨#[48, 49, 50, 51, 52, 53, 54, 55, 56, 57]⟩ : ByteArray).extract n.1 (n.1 + 1) = mkB [UInt8.ofNat (48 + n.1)] := by decide +kernel
  exact this ⟨n, h⟩
theorem u32_and15 (m : Nat) (h : m < 4294967296) : bits .and .u32 (m : Int) 15 = ((m % 16 : Nat) : Int) := by
  have := u32_and_nat m 15 h (by decide)
  rw [show ((15 : Nat) : Int) = 15 from rfl] at this
  rw [this, show (15 : Nat) = 2 ^ 4 - 1 from rfl, Nat.and_two_pow_sub_one_eq_mod]
theorem dec_app (k : Nat) (h : 10 ≤ k) (acc : Bytes) : Lib.decDigits (k / 10) ++ (UInt8.ofNat (48 + k % 10) :: acc) = Lib.decDigits k ++ acc := by
  conv => rhs; rw [Lib.decDigits, dif_neg (by omega)]
  simp
theorem join_one (d : UInt8) (l : Bytes) : mkB [d] ++ mkB l = mkB (d :: l) := by
  apply bytes_ext
  rw [mkB_data, app_data, mkB_data, mkB_data]; rfl
theorem tags_apart {a b : Bytes} (h : a.length ≠ b.length) : tagL a ≠ tagL b := by
  intro e
  unfold tagL at e
  have hs : ∀ (x y u v : Bytes), 45 ∉ x → 45 ∉ y → x ++ 45 :: u = y ++ 45 :: v → u = v := by
    intro x
    induction x with
    | nil =>
      intro y u v _ hy he
      cases y with
      | nil => simpa using he
      | cons c y =>
        simp at he
        exact absurd (by simp [he.1]) hy
    | cons c x ih =>
      intro y u v hx hy he
      cases y with
      | nil =>
        simp at he
        exact absurd (by simp [he.1]) hx
      | cons d y =>
        simp at he
        exact ih y u v (fun h => hx (List.mem_cons_of_mem _ h)) (fun h => hy (List.mem_cons_of_mem _ h)) he.2
  have h1 := hs _ _ _ _ (hexR_no _ _ (Nat.le_refl _) [] (by simp)) (hexR_no _ _ (Nat.le_refl _) [] (by simp)) e
  have hd : ∀ (f x y : Nat), x ≤ f → Lib.decDigits x = Lib.decDigits y → x = y := by
    intro f
    induction f with
    | zero =>
      intro x y hx he
      obtain rfl : x = 0 := by omega
      rw [Lib.decDigits_one (by decide)] at he
      by_cases hy : y < 10
      · rw [Lib.decDigits_one hy] at he
        have : ∀ n : Fin 10, [UInt8.ofNat (48 + 0)] = [UInt8.ofNat (48 + n.1)] → 0 = n.1 := by decide
        exact this ⟨y, hy⟩ he
      · rw [Lib.decDigits.eq_1 y, dif_neg hy] at he
        have := congrArg List.length he
        have h2 := Lib.decDigits_length (y / 10)
        have h3 := Lib.nDigits_pos (y / 10)
        simp at this
        rw [this] at h2
        simp at h2
        omega
    | succ f ih =>
      intro x y hx he
      by_cases hx10 : x < 10
      · rw [Lib.decDigits_one hx10] at he
        by_cases hy : y < 10
        · rw [Lib.decDigits_one hy] at he
          have : ∀ m n : Fin 10, [UInt8.ofNat (48 + m.1)] = [UInt8.ofNat (48 + n.1)] → m.1 = n.1 := by decide
          exact this ⟨x, hx10⟩ ⟨y, hy⟩ he
        · rw [Lib.decDigits.eq_1 y, dif_neg hy] at he
          have := congrArg List.length he
          have h2 := Lib.decDigits_length (y / 10)
          have h3 := Lib.nDigits_pos (y / 10)
          simp at this
          rw [this] at h2
          simp at h2
          omega
      · rw [Lib.decDigits.eq_1 x, dif_neg hx10] at he
        by_cases hy : y < 10
        · rw [Lib.decDigits_one hy] at he
          have := congrArg List.length he
          have h2 := Lib.decDigits_length (x / 10)
          have h3 := Lib.nDigits_pos (x / 10)
          simp at this
          rw [this] at h2
          simp at h2
          omega
        · rw [Lib.decDigits.eq_1 y, dif_neg hy] at he
          obtain ⟨e1, e2⟩ := List.append_inj' he rfl
          have h4 := ih (x / 10) (y / 10) (by omega) e1
          have : ∀ m n : Fin 10, [UInt8.ofNat (48 + m.1)] = [UInt8.ofNat (48 + n.1)] → m.1 = n.1 := by decide
          have h5 := this ⟨x % 10, by omega⟩ ⟨y % 10, by omega⟩ e2
          simp at h5
          omega
  exact h (hd _ _ _ (Nat.le_refl _) h1)

set_option maxRecDepth 100000 in
set_option maxHeartbeats 4000000 in
theorem tags_walk (a b : ByteArray) (w : World) (ha : (a.size : Nat) ≤ 140737488355328) (hb : (b.size : Nat) ≤ 140737488355328) (hg : GB w) : Calls Tryd.prog 5 #[.string a, .string b] w fun e w' => e = .returned (.bool true) ∧ Below w.heap.size w w' := by
  have HF := Lib.hid (fit_any w hg)
  have HG := Lib.hid (fun w1 (hb : Below w.heap.size w w1) => hg.on hb)
  clear hg
  by_cases hl : a.size + b.size ≤ 1000
  · have HTA := Lib.hid (fun wx hgx => tag_any a (by omega) wx hgx)
    have HTB := Lib.hid (fun wx hgx => tag_any b (by omega) wx hgx)
    have hR8 : (hexR (fnvL a.data.toList) []).length ≤ 8 := by
      have := hexR_len 7 (fnvL a.data.toList) [] (by have := fnv_lt a.data.toList; omega)
      simpa using this
    have hD21 : (Lib.decDigits a.size).length ≤ 21 := by
      have := Lib.itoa_length_le (a.size : Int) (by omega) (by omega)
      rwa [Lib.itoa_nonneg] at this
    have hTag : Hid (tagB a = mkB (hexR (fnvL a.data.toList) [] ++ 45 :: Lib.decDigits a.size)) := by
      show mkB (tagL _) = _
      unfold tagL
      rw [data_len]
    obtain ⟨R, hR⟩ : ∃ R, hexR (fnvL a.data.toList) [] = R := ⟨_, rfl⟩
    obtain ⟨D, hD⟩ : ∃ D, Lib.decDigits a.size = D := ⟨_, rfl⟩
    rw [hR] at hR8 hTag
    rw [hD] at hD21 hTag
    have HR := Lib.hid hR
    have HD := Lib.hid hD
    clear hR hD
    go_enter Tryd.func5, Tryd.ntmps5
    go_wp2_with fail
    refine HF.out.mono ?_
    rintro e w1 ⟨rfl, hb1⟩
    have HB1 := Lib.hid hb1
    clear hb1
    go_wp2_with fail
    go_loopw [5, 22] (fun h i wr => ∃ (k hh : Nat), i = .int .i64 k ∧ h = .int .u32 (hh : Int) ∧ k ≤ a.size ∧ hh < 4294967296 ∧ Hid (hh = fnvL (a.data.toList.take k)) ∧ w1 = wr) (fun _ i _ => a.size - (intOf i).toNat)
    case atStart => exact ⟨0, 2166136261, rfl, rfl, by omega, by omega, rfl, rfl⟩
    case round =>
      obtain ⟨k, hh, rfl, rfl, hk, hlt, hH, rfl⟩ := hrel
      by_cases hks : k < a.size
      · have hx := xor_step hh a[k] hlt
        have hst : Hid (fnvStep hh a[k] = fnvL (a.data.toList.take (k + 1))) := by
          show _ = _
          rw [byte_get a k hks, fnv_snoc, hH.out]
        have hl2 := fnvStep_lt hh a[k]
        generalize fnvStep hh a[k] = h2 at *
        go_wp2_with fail
        exact ⟨⟨k + 1, h2, by simp, by simp [hx], by omega, hl2, hst, trivial⟩, by simp [intOf]; omega⟩
      · have hF : Hid (hexR hh [] = R) := by
          have := hH.out
          rw [take_all a k (by omega)] at this
          show _ = _
          rw [this, HR.out]
        clear hH
        go_wp2_with fail
        go_loopw [5, 7, 8] (fun n hx ok wr => ∃ (u : Nat) (acc : Bytes) (t : Bool), n = .int .u32 (u : Int) ∧ hx = .string (mkB acc) ∧ ok = .bool t ∧ u < 4294967296 ∧ acc.length ≤ 8 ∧ Hid ((t = true ∧ hexR u acc = R) ∨ (t = false ∧ acc = R)) ∧ w1 = wr) (fun n _ ok _ => (intOf n).toNat + bN ok)
        case atStart => exact ⟨hh, [], true, rfl, rfl, rfl, hlt, by simp, .inl ⟨rfl, hF.out⟩, rfl⟩
        case round =>
          obtain ⟨u, acc, t, rfl, rfl, rfl, hu, hacc, hrl, rfl⟩ := hrel
          cases t with
          | true =>
            have hand := u32_and15 u hu
            have hcut := hex_cut (u % 16) (by omega)
            have hjn : mkB [dig16 (u % 16)] ++ mkB acc = mkB (dig16 (u % 16) :: acc) := join_one _ _
            have hadd := add_str (mkB [dig16 (u % 16)]) (mkB acc) (by rw [mkB_size, mkB_size]; simp; omega)
            have hrl2 : hexR u acc = R := by
              rcases hrl.out with ⟨_, h⟩ | ⟨h, _⟩
              · exact h
              · cases h
            have hnl : (dig16 (u % 16) :: acc).length ≤ 8 := by
              have h1 := hrl2
              by_cases h16 : u < 16
              · rw [hexR_small h16] at h1
                have := congrArg List.length h1
                simp at this ⊢; omega
              · rw [hexR_big (by omega), hexR_pos] at h1
                have := congrArg List.length h1
                simp at this ⊢; omega
            have HNX : Hid ((decide (0 < (u : Int) / 16) = true ∧ hexR (u / 16) (dig16 (u % 16) :: acc) = R) ∨ (decide (0 < (u : Int) / 16) = false ∧ dig16 (u % 16) :: acc = R)) := by
              by_cases h16 : u < 16
              · right
                refine ⟨by simp; omega, ?_⟩
                rw [← hrl2, hexR_small h16, Nat.mod_eq_of_lt h16]
              · left
                refine ⟨by simp; omega, ?_⟩
                rw [← hrl2, hexR_big (by omega : 16 ≤ u) acc]
            have HMS : Hid (u / 16 + bN (.bool (decide (0 < (u : Int) / 16))) < u + 1) := by
              show _ < _
              by_cases h16 : u < 16
              · have : decide (0 < (u : Int) / 16) = false := by simp; omega
                rw [this]; simp [bN]; omega
              · have : decide (0 < (u : Int) / 16) = true := by simp; omega
                rw [this]; simp [bN]; omega
            clear hrl hrl2
            go_wp2_with fail
            refine ⟨⟨u / 16, dig16 (u % 16) :: acc, decide (0 < (u : Int) / 16), by simp, rfl, rfl, by omega, hnl, HNX.out, trivial⟩, ?_⟩
            have := HMS.out
            have e1 : (intOf (Value.int IntKind.u32 ((u : Int) / 16))).toNat = u / 16 := by show ((u : Int) / 16).toNat = _; omega
            have e2 : (intOf (Value.int IntKind.u32 (u : Int))).toNat = u := by simp [intOf]
            rw [e1, e2]
            exact this
          | false =>
            have hRE : acc = R := by
              rcases hrl.out with ⟨h, _⟩ | ⟨_, h⟩
              · cases h
              · exact h
            subst hRE
            clear hrl
            go_wp2_with fail
            go_loopw [9, 10, 11] (fun dx n ok wr => ∃ (u : Nat) (dc : Bytes) (t : Bool), n = .int .i64 (u : Int) ∧ dx = .string (mkB dc) ∧ ok = .bool t ∧ u ≤ 1000 ∧ dc.length ≤ 21 ∧ Hid ((t = true ∧ Lib.decDigits u ++ dc = D) ∨ (t = false ∧ dc = D)) ∧ w1 = wr) (fun _ n ok _ => (intOf n).toNat + bN ok)
            case atStart => exact ⟨a.size, [], true, rfl, rfl, rfl, by omega, by simp, .inl ⟨rfl, by rw [List.append_nil]; exact HD.out⟩, rfl⟩
            case round =>
              obtain ⟨u, dc, t, rfl, rfl, rfl, hu2, hdc, hrl, rfl⟩ := hrel
              cases t with
              | true =>
                have hcut := dec_cut (u % 10) (by omega)
                have hjn : mkB [UInt8.ofNat (48 + u % 10)] ++ mkB dc = mkB (UInt8.ofNat (48 + u % 10) :: dc) := join_one _ _
                have hadd := add_str (mkB [UInt8.ofNat (48 + u % 10)]) (mkB dc) (by rw [mkB_size, mkB_size]; simp; omega)
                have hrl2 : Lib.decDigits u ++ dc = D := by
                  rcases hrl.out with ⟨_, h⟩ | ⟨h, _⟩
                  · exact h
                  · cases h
                have HNX0 : (10 ≤ u ∧ Lib.decDigits (u / 10) ++ (UInt8.ofNat (48 + u % 10) :: dc) = D) ∨ (u < 10 ∧ UInt8.ofNat (48 + u % 10) :: dc = D) := by
                  by_cases h10 : u < 10
                  · right
                    refine ⟨h10, ?_⟩
                    rw [← hrl2, Lib.decDigits_one h10, Nat.mod_eq_of_lt h10]; rfl
                  · left
                    exact ⟨by omega, by rw [dec_app u (by omega) dc, hrl2]⟩
                have hnl : (UInt8.ofNat (48 + u % 10) :: dc).length ≤ 21 := by
                  rcases HNX0 with ⟨_, h⟩ | ⟨_, h⟩
                  · have := congrArg List.length h
                    rw [List.length_append] at this; omega
                  · rw [h]; exact hD21
                have HNX : Hid ((decide (0 < (u : Int) / 10) = true ∧ Lib.decDigits (u / 10) ++ (UInt8.ofNat (48 + u % 10) :: dc) = D) ∨ (decide (0 < (u : Int) / 10) = false ∧ UInt8.ofNat (48 + u % 10) :: dc = D)) := by
                  rcases HNX0 with ⟨h, h'⟩ | ⟨h, h'⟩
                  · exact .inl ⟨by simp; omega, h'⟩
                  · exact .inr ⟨by simp; omega, h'⟩
                have HMS : Hid (u / 10 + bN (.bool (decide (0 < (u : Int) / 10))) < u + 1) := by
                  show _ < _
                  by_cases h10 : u < 10
                  · have : decide (0 < (u : Int) / 10) = false := by simp; omega
                    rw [this]; simp [bN]; omega
                  · have : decide (0 < (u : Int) / 10) = true := by simp; omega
                    rw [this]; simp [bN]; omega
                clear hrl hrl2 HNX0
                generalize UInt8.ofNat (48 + u % 10) = dg at *
                go_wp2_with fail
                refine ⟨⟨u / 10, dg :: dc, decide (0 < (u : Int) / 10), by simp, rfl, rfl, by omega, hnl, HNX.out, trivial⟩, ?_⟩
                have := HMS.out
                have e1 : (intOf (Value.int IntKind.i64 ((u : Int) / 10))).toNat = u / 10 := by show ((u : Int) / 10).toNat = _; omega
                have e2 : (intOf (Value.int IntKind.i64 (u : Int))).toNat = u := by simp [intOf]
                rw [e1, e2]
                exact this
              | false =>
                have hDE : dc = D := by
                  rcases hrl.out with ⟨h, _⟩ | ⟨_, h⟩
                  · cases h
                  · exact h
                subst hDE
                clear hrl
                have a1 := add_str (mkB acc) ⟨#[45]⟩ (by rw [mkB_size]; show _ + 1 ≤ _; omega)
                have a2 := add_str (mkB acc ++ ⟨#[45]⟩) (mkB dc) (by rw [app_size, mkB_size, mkB_size]; show _ + 1 + _ ≤ _; omega)
                have hTT : mkB acc ++ ⟨#[45]⟩ ++ mkB dc = tagB a := by
                  rw [hTag.out]
                  apply bytes_ext
                  rw [mkB_data, app_data, app_data, mkB_data, mkB_data]
                  simp
                have heq : ((tagB a).toList == (mkB acc ++ ⟨#[45]⟩ ++ mkB dc).toList) = true := by rw [hTT]; simp
                clear hTag hTT
                generalize mkB acc ++ ⟨#[45]⟩ ++ mkB dc = x2 at *
                generalize mkB acc ++ ⟨#[45]⟩ = x1 at *
                by_cases hab : a.size = b.size
                · have hab2 : ((a.size : Int) == (b.size : Int)) = true := by rw [hab]; simp
                  go_wp2_with fail
                  refine (HTA.out _ (HG.out _ HB1.out)).mono ?_
                  rintro e w2 ⟨rfl, hb2⟩
                  have HB2 := Lib.hid (bt HB1.out hb2)
                  clear hb2
                  generalize tagB a = ta at *
                  go_wp2_with fail
                  go_ret
                  exact ⟨rfl, HB2.out⟩
                · have hab2 : ((a.size : Int) == (b.size : Int)) = false := by simp; omega
                  have hne2 : ((tagB a).toList == (tagB b).toList) = false := by
                    rw [eq_test]; simp
                    intro h
                    refine tags_apart (a := a.data.toList) (b := b.data.toList) (by rw [data_len, data_len]; exact hab) ?_
                    unfold tagB at h
                    exact mkB_inj h
                  generalize tagB a = ta at *
                  generalize tagB b = tb at *
                  go_wp2_with fail
                  refine (HTA.out _ (HG.out _ HB1.out)).mono ?_
                  rintro e w2 ⟨rfl, hb2⟩
                  have HB2 := Lib.hid (bt HB1.out hb2)
                  clear hb2
                  go_wp2_with fail
                  refine (HTA.out _ (HG.out _ HB2.out)).mono ?_
                  rintro e w3 ⟨rfl, hb3⟩
                  have HB3 := Lib.hid (bt HB2.out hb3)
                  clear hb3
                  go_wp2_with fail
                  refine (HTB.out _ (HG.out _ HB3.out)).mono ?_
                  rintro e w4 ⟨rfl, hb4⟩
                  have HB4 := Lib.hid (bt HB3.out hb4)
                  clear hb4
                  go_wp2_with fail
                  go_ret
                  exact ⟨rfl, HB4.out⟩
  · go_enter Tryd.func5, Tryd.ntmps5
    go_wp2_with fail
    refine HF.out.mono ?_
    rintro e w1 ⟨rfl, hb1⟩
    have HB1 := Lib.hid hb1
    clear hb1
    go_wp2_with fail
    go_ret
    exact ⟨rfl, HB1.out⟩
end Go.Proofs.YtilhegdhbcmlkaaDoor
