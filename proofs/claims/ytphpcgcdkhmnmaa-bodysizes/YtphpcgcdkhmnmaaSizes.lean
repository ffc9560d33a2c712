/- The walk of the law BodySizes. -/
import Derived.Test.YtphpcgcdkhmnmaaHex
namespace Go.Proofs.Ytphpcgcdkhmnmaa
open Go.RowKit Pl

def crlf : ByteArray := ⟨#[13, 10]⟩
theorem crlf_size : (⟨#[13, 10]⟩ : ByteArray).size = 2 := rfl
theorem hexB_size (n : Nat) (h : n < 1024) : (⟨(hexL n).toArray⟩ : ByteArray).size ≤ 3 := by
  have := hex_len n h
  simpa [ByteArray.size] using this
theorem hexB_data (n : Nat) : (⟨(hexL n).toArray⟩ : ByteArray).data.toList = hexL n := by simp
theorem rep_snoc (k : Nat) (c : UInt8) : List.replicate (k + 1) c = List.replicate k c ++ [c] := List.replicate_succ'
theorem part_data (t p h : ByteArray) (hp : p.data.toList ≠ []) (hh : h.data.toList = hexL p.size) : (t ++ (((h ++ ⟨#[13, 10]⟩) ++ p) ++ ⟨#[13, 10]⟩)).data.toList = t.data.toList ++ partT p.data.toList := by
  rw [app_data, app_data, app_data, app_data, hh]
  unfold partT
  rw [if_neg hp]
  simp [chunkT]
theorem part_empty (t p : ByteArray) (hp : p.data.toList = []) : t.data.toList = t.data.toList ++ partT p.data.toList := by
  rw [hp]
  simp [partT]

/-- One more part. -/
structure Grown (t t' p : ByteArray) : Prop where
  data : t'.data.toList = t.data.toList ++ partT p.data.toList
  size : t'.size ≤ t.size + p.size + 7

theorem len_size (s : ByteArray) : s.data.toList.length = s.size := by simp
theorem end_data (X S T : ByteArray) (h : X.data.toList = partT S.data.toList ++ partT T.data.toList) : (X ++ ⟨#[48, 13, 10, 13, 10]⟩).data.toList = partT S.data.toList ++ partT T.data.toList ++ endT := by
  rw [app_data, h]
  rfl
theorem data_two (S T : ByteArray) : (⟨(S.data.toList ++ T.data.toList).toArray⟩ : ByteArray) = S ++ T := by
  apply ByteArray.ext
  simp
theorem status_at {base : Nat} {w : World} {g : Nat} {b : Bst} {σ : Int} (h : Hid (BO base w g b)) (hd : Hid (b.status = σ)) : Calls Try.prog 9 #[.pointer (some ⟨g, 0, none⟩)] w fun e w' => e = .returned (.int .i64 σ) ∧ w = w' := by
  have := status_any h.out
  rwa [hd.out] at this
theorem sizes_feed_bad (X S T : ByteArray) (hX : X.data.toList = partT S.data.toList ++ partT T.data.toList) (hS : S.size < 1024) (hT : T.size < 1024) (h : S.size + T.size > 600) (hs : X.size ≤ 2200) (w : World) :
    Calls Try.prog 8 #[.int .i64 (-1), .string (X ++ ⟨#[48, 13, 10, 13, 10]⟩)] w fun e w' => ∃ g k b, e = .returned (.tuple #[.pointer (some ⟨g, 0, none⟩), .int .i64 k]) ∧ BO w.heap.size w' g b ∧ b.status = 413 ∧ Below w.heap.size w w' := by
  have e := lawFeed_any (-1) (X ++ ⟨#[48, 13, 10, 13, 10]⟩) w (by omega) (by rw [app_size]; have : (⟨#[48, 13, 10, 13, 10]⟩ : ByteArray).size = 5 := rfl; omega)
  rw [end_data X S T hX] at e
  have hw := sizes_wrong S.data.toList T.data.toList (by rw [len_size]; exact hS) (by rw [len_size]; exact hT) (by rw [len_size, len_size]; exact h)
  exact e.mono fun _ _ ⟨g, he, ho, hb, _⟩ => ⟨g, _, _, he, ho, hw, hb⟩
theorem sizes_feed_good (X S T : ByteArray) (hX : X.data.toList = partT S.data.toList ++ partT T.data.toList) (hS : S.size < 1024) (hT : T.size < 1024) (h : S.size + T.size ≤ 600) (hs : X.size ≤ 2200) (w : World) :
    Calls Try.prog 8 #[.int .i64 (-1), .string (X ++ ⟨#[48, 13, 10, 13, 10]⟩)] w fun e w' => ∃ g k, e = .returned (.tuple #[.pointer (some ⟨g, 0, none⟩), .int .i64 k]) ∧ BO w.heap.size w' g ⟨5, 0, 0, [], S.data.toList ++ T.data.toList⟩ ∧ Below w.heap.size w w' := by
  have e := lawFeed_any (-1) (X ++ ⟨#[48, 13, 10, 13, 10]⟩) w (by omega) (by rw [app_size]; have : (⟨#[48, 13, 10, 13, 10]⟩ : ByteArray).size = 5 := rfl; omega)
  rw [end_data X S T hX] at e
  have hw := sizes_whole S.data.toList T.data.toList (by rw [len_size]; exact hS) (by rw [len_size]; exact hT) (by rw [len_size, len_size]; exact h)
  rw [hw] at e
  exact e.mono fun _ _ ⟨g, he, ho, hb, _⟩ => ⟨g, _, he, ho, hb⟩

set_option maxRecDepth 100000 in
set_option maxHeartbeats 8000000 in
theorem sizes_walk (a0 b0 : Int) (w : World) : Calls Try.prog 6 #[.int .i64 a0, .int .i64 b0] w fun e w' => e = .returned (.bool true) ∧ Below w.heap.size w w' := by
  go_enter Try.func6, Try.ntmps6
  go_wp2_with fail
  refine (fit_any _).mono ?_
  rintro e w1 ⟨rfl, hb1⟩
  go_wp2_with fail
  rw [i64_and1023, i64_and1023]
  obtain ⟨a, ha⟩ : ∃ n : Nat, a0 % 1024 = (n : Int) := ⟨(a0 % 1024).toNat, by omega⟩
  obtain ⟨b, hb⟩ : ∃ n : Nat, b0 % 1024 = (n : Int) := ⟨(b0 % 1024).toNat, by omega⟩
  have ha2 : a < 1024 := by omega
  have hb2 : b < 1024 := by omega
  rw [ha, hb]
  clear ha hb
  go_wp2_with fail
  go_loopw [5, 19] (fun v i wr => ∃ (k : Nat) (S : ByteArray), k ≤ a ∧ i = .int .i64 k ∧ v = .string S ∧ S.size = k ∧ wr = w1 ∧ Hid (S.data.toList = List.replicate k 120)) (fun _ i _ => a - (intOf i).toNat)
  case atStart => exact ⟨0, ⟨#[]⟩, by omega, rfl, rfl, rfl, rfl, rfl⟩
  case round =>
    obtain ⟨k, S, hk, rfl, rfl, hS, rfl, HS⟩ := hrel
    by_cases hlt : k < a
    · have HN : Hid ((S ++ ⟨#[120]⟩).data.toList = List.replicate (k + 1) 120) := by
        show _ = _
        rw [app_data, HS.out, rep_snoc]
      go_wp2_with fail
      go_roundw
      case rel => exact ⟨k + 1, S ++ ⟨#[120]⟩, by omega, by go_num, rfl, by rw [app_size, hS]; rfl, by simp, HN⟩
      case measure => simp [intOf]; omega
    · obtain rfl : k = a := by omega
      clear hlt hk
      subst hS
      go_wp2_with fail
      go_loopw [6, 25] (fun v i wr' => ∃ (j : Nat) (T : ByteArray), j ≤ b ∧ i = .int .i64 j ∧ v = .string T ∧ T.size = j ∧ wr' = wr ∧ Hid (T.data.toList = List.replicate j 121)) (fun _ i _ => b - (intOf i).toNat)
      case atStart => exact ⟨0, ⟨#[]⟩, by omega, rfl, rfl, rfl, rfl, rfl⟩
      case round =>
        obtain ⟨j, T, hj, rfl, rfl, hT, hwr, HT⟩ := hrel
        subst hwr
        by_cases hlt : j < b
        · have HN : Hid ((T ++ ⟨#[121]⟩).data.toList = List.replicate (j + 1) 121) := by
            show _ = _
            rw [app_data, HT.out, rep_snoc]
          go_wp2_with fail
          go_roundw
          case rel => exact ⟨j + 1, T ++ ⟨#[121]⟩, by omega, by go_num, rfl, by rw [app_size, hT]; rfl, by simp, HN⟩
          case measure => simp [intOf]; omega
        · obtain rfl : j = b := by omega
          clear hlt hj
          subst hT
          go_wp2_with fail
          have hcell0 : (wr.alloc (.cells #[.string S, .string T] 9)).cell? ⟨wr.heap.size, 0, none⟩ = some (.string S) := by simp
          have hcell1 : (wr.alloc (.cells #[.string S, .string T] 9)).cell? ⟨wr.heap.size, 1, none⟩ = some (.string T) := by simp
          have HB := Lib.hid (hb1.alloc hb1.size (.cells #[.string S, .string T] 9))
          clear hb1
          generalize wr.alloc (.cells #[.string S, .string T] 9) = W0 at *
          generalize wr.heap.size = g0 at *
          go_loopw [7, 34] (fun v i wr' => ∃ (m : Nat) (X : ByteArray), m ≤ 2 ∧ i = .int .i64 m ∧ v = .string X ∧ wr' = W0 ∧ X.size ≤ 1100 * m ∧ Hid (X.data.toList = if m = 0 then [] else if m = 1 then partT S.data.toList else partT S.data.toList ++ partT T.data.toList)) (fun _ i _ => 2 - (intOf i).toNat)
          case atStart => exact ⟨0, ⟨#[]⟩, by omega, rfl, rfl, rfl, by decide, rfl⟩
          case round =>
            obtain ⟨m, X, hm, rfl, rfl, hwr2, hX, HX0⟩ := hrel
            subst hwr2
            have hmm : m = 0 ∨ m = 1 ∨ m = 2 := by omega
            rcases hmm with rfl | rfl | rfl
            · have HX1 : Hid (X.data.toList = []) := HX0
              have hX' : X.size ≤ 0 := hX
              have HX := Lib.hid fun w => hex_any S.size (by omega) w
              have hxs := hexB_size S.size (by omega)
              have HXD := Lib.hid (hexB_data S.size)
              generalize (⟨(hexL S.size).toArray⟩ : ByteArray) = hx at *
              by_cases hne : S.data.toList = []
              · have he := str_empty S hne
                have HP := Lib.hid (part_empty X S hne)
                clear hne
                go_wp2_with fail
                go_roundw
                case rel => exact ⟨1, X, by omega, rfl, rfl, by simp, by (try simp only [app_size, crlf_size]); omega, by show _ = _; rw [if_neg (by omega), if_pos rfl]; rw [HP.out, HX1.out]; rfl⟩
                case measure => simp [intOf]
              · have he := str_nonempty S hne
                have HP := Lib.hid (part_data X S hx hne HXD.out)
                clear hne
                go_wp2_with (go_at_call 13; refine (HX.out _).mono ?_; rintro e w2 ⟨rfl, rfl⟩)
                go_roundw
                case rel => exact ⟨1, _, by omega, rfl, rfl, by simp, by (try simp only [app_size, crlf_size]); omega, by show _ = _; rw [if_neg (by omega), if_pos rfl]; rw [HP.out, HX1.out]; rfl⟩
                case measure => simp [intOf]
            · have HX1 : Hid (X.data.toList = partT S.data.toList) := HX0
              have hX' : X.size ≤ 1100 := hX
              have HX := Lib.hid fun w => hex_any T.size (by omega) w
              have hxs := hexB_size T.size (by omega)
              have HXD := Lib.hid (hexB_data T.size)
              generalize (⟨(hexL T.size).toArray⟩ : ByteArray) = hx at *
              by_cases hne : T.data.toList = []
              · have he := str_empty T hne
                have HP := Lib.hid (part_empty X T hne)
                clear hne
                go_wp2_with fail
                go_roundw
                case rel => exact ⟨2, X, by omega, rfl, rfl, by simp, by (try simp only [app_size, crlf_size]); omega, by show _ = _; rw [if_neg (by omega), if_neg (by omega)]; rw [HP.out, HX1.out]⟩
                case measure => simp [intOf]
              · have he := str_nonempty T hne
                have HP := Lib.hid (part_data X T hx hne HXD.out)
                clear hne
                go_wp2_with (go_at_call 13; refine (HX.out _).mono ?_; rintro e w2 ⟨rfl, rfl⟩)
                go_roundw
                case rel => exact ⟨2, _, by omega, rfl, rfl, by simp, by (try simp only [app_size, crlf_size]); omega, by show _ = _; rw [if_neg (by omega), if_neg (by omega)]; rw [HP.out, HX1.out]⟩
                case measure => simp [intOf]
            · have HX1 : Hid (X.data.toList = partT S.data.toList ++ partT T.data.toList) := HX0
              have hX' : X.size ≤ 2200 := hX
              clear hX HX0 hcell0 hcell1
              have hcase : S.size + T.size > 600 ∨ S.size + T.size ≤ 600 := by omega
              rcases hcase with hc | hc
              · have HC := Lib.hid fun w => sizes_feed_bad X S T HX1.out ha2 hb2 hc hX' w
                go_wp2_with fail
                refine (HC.out _).mono ?_
                rintro e w2 ⟨g, n, q, rfl, ho, hs, hb3⟩
                have HO := Lib.hid ho; have HST := Lib.hid hs; have HB3 := Lib.hid (bt HB.out hb3)
                clear ho hs hb3 HC
                go_wp2_with fail
                refine (status_at HO HST).mono ?_
                rintro e w3 ⟨rfl, rfl⟩
                go_wp2_with fail
                go_ret
                exact ⟨rfl, HB3.out⟩
              · have HC := Lib.hid fun w => sizes_feed_good X S T HX1.out ha2 hb2 hc hX' w
                go_wp2_with fail
                refine (HC.out _).mono ?_
                rintro e w2 ⟨g, n, rfl, ho, hb3⟩
                have HD := Lib.hid (done_any ho); have HSS := Lib.hid (status_any ho); have HA := Lib.hid (data_any ho)
                have HB3 := Lib.hid (bt HB.out hb3)
                clear ho hb3 HC
                rw [data_two] at HA
                go_wp2_with fail
                refine HD.out.mono ?_
                rintro e w3 ⟨rfl, rfl⟩
                go_wp2_with fail
                refine HSS.out.mono ?_
                rintro e w3 ⟨rfl, rfl⟩
                go_wp2_with fail
                refine HA.out.mono ?_
                rintro e w3 ⟨rfl, rfl⟩
                go_wp2_with fail
                go_ret
                exact ⟨rfl, HB3.out⟩

theorem sizes_row (a0 b0 : Int) (w : World) (_ha : (Lit.int .i64 a0).wf = true) (_hn : (Lit.int .i64 b0).wf = true) : Calls Try.prog 6 #[.int .i64 a0, .int .i64 b0] w fun e w' => e = .returned (.bool true) ∧ Below w.heap.size w w' := sizes_walk a0 b0 w

end Go.Proofs.Ytphpcgcdkhmnmaa
