/- The contract of answer.takeBody. -/
import Derived.Test.YtkbigfjaaiobfaaDoorAnsNum
namespace Go.Proofs.YtkbigfjaaiobfaaDoor
open Go.RowKit Pl Go.Shelf

def bodyV : Option (List UInt8 × List UInt8) → Value
  | none => .tuple #[.string ⟨#[]⟩, .string ⟨#[]⟩, .bool false]
  | some p => .tuple #[.string (mkB p.1), .string (mkB p.2), .bool true]

theorem trim_len (s p : List UInt8) : (Lib.trimPrefix s p).length ≤ s.length := by
  unfold Lib.trimPrefix; split <;> simp
theorem cut_len (s sep : List UInt8) : (Lib.cut s sep).1.length ≤ s.length ∧ (Lib.cut s sep).2.1.length ≤ s.length := by
  rcases cut_cases s sep with ⟨a, b, h1, h2⟩ | h1
  · rw [h1, h2]; simp; omega
  · rw [h1]; simp

theorem take_ext (y : List UInt8) (n : Nat) (_h : n ≤ y.length) : (mkB y).extract 0 n = mkB (y.take n) := by
  apply bytes_ext
  rw [Lib.extract_data, mkB_data, mkB_data]; simp
theorem drop_ext (y : List UInt8) (n : Nat) : (mkB y).extract n (mkB y).size = mkB (y.drop n) := by
  apply bytes_ext
  rw [Lib.extract_data, mkB_data, mkB_data, mkB_size, List.take_of_length_le (by simp)]

theorem bodyC_no (d y : List UInt8) : bodyC (d, y, false) = none := by unfold bodyC; simp only; split <;> simp
theorem bodyC_none {d : List UInt8} (y : List UInt8) (hn : numL d = none) : bodyC (d, y, true) = none := by unfold bodyC; simp only; rw [hn]
theorem bodyC_ok {d y : List UInt8} {m : Nat} (hn : numL d = some (m : Int)) (hm : m ≤ y.length) : bodyC (d, y, true) = some (y.take m, y.drop m) := by
  unfold bodyC
  simp only
  rw [hn]
  simp only [Int.toNat_natCast]
  rw [if_pos (by refine ⟨by first | rfl | trivial, by omega⟩)]
theorem bodyC_big {d y : List UInt8} {m : Nat} (hn : numL d = some (m : Int)) (hm : ¬ m ≤ y.length) : bodyC (d, y, true) = none := by
  unfold bodyC
  simp only
  rw [hn]
  simp only
  rw [if_neg (by omega)]

set_option maxHeartbeats 2000000 in
theorem body_any (s : ByteArray) (hs : s.size ≤ 1000000000) (w : World) (hg : GV w) :
    Calls Tryd.prog 27 #[.string s] w fun e w' => e = .returned (bodyV (bodyL s.data.toList)) ∧ Below w.heap.size w w' := by
  have HP := Lib.hid (cutp_any s ⟨#[99, 111, 110, 116, 101, 110, 116, 45, 108, 101, 110, 103, 116, 104, 58, 32]⟩ w)
  cases hp : Lib.hasPrefix s.data.toList lengthIs with
  | false =>
    have HB := Lib.hid (show bodyL s.data.toList = none by unfold bodyL; rw [hp]; rfl)
    have hp2 : Lib.hasPrefix s.data.toList [99, 111, 110, 116, 101, 110, 116, 45, 108, 101, 110, 103, 116, 104, 58, 32] = false := hp
    simp only [hp2] at HP
    generalize mkB (Lib.trimPrefix s.data.toList [99, 111, 110, 116, 101, 110, 116, 45, 108, 101, 110, 103, 116, 104, 58, 32]) = x at *
    generalize bodyL s.data.toList = o at *
    clear hp hp2
    go_enter Tryd.func27, Tryd.ntmps27
    go_wp2_with fail
    refine HP.out.mono ?_
    rintro e w1 ⟨rfl, rfl⟩
    go_wp2_with fail
    go_ret3
    exact ⟨by rw [HB.out]; rfl, Below.refl _ _⟩
  | true =>
    have hp2 : Lib.hasPrefix s.data.toList [99, 111, 110, 116, 101, 110, 116, 45, 108, 101, 110, 103, 116, 104, 58, 32] = true := hp
    simp only [hp2] at HP
    have hb0 : bodyL s.data.toList = bodyC (Lib.cut (Lib.trimPrefix s.data.toList lengthIs) (crlf ++ crlf)) := by unfold bodyL; rw [if_pos hp]
    have hx := trim_len s.data.toList lengthIs
    rw [data_len] at hx
    change Hid (Calls Tryd.prog 26 _ w fun e w' => e = .returned (.tuple #[.string (mkB (Lib.trimPrefix s.data.toList lengthIs)), .bool true]) ∧ w = w') at HP
    rw [hb0]
    clear hp hp2 hb0
    generalize Lib.trimPrefix s.data.toList lengthIs = t at *
    have HC := Lib.hid (cutc_any (mkB t) ⟨#[13, 10, 13, 10]⟩ w (by rw [mkB_size]; omega) hg.toGB)
    rw [mkB_data] at HC
    change Hid (Calls Tryd.prog 23 _ w fun e w' => e = .returned (cutV t (crlf ++ crlf)) ∧ _) at HC
    unfold cutV at HC
    have hcl := cut_len t (crlf ++ crlf)
    obtain ⟨d, y, f, hcut⟩ : ∃ d y f, Lib.cut t (crlf ++ crlf) = (d, y, f) := ⟨_, _, _, rfl⟩
    rw [hcut] at HC hcl ⊢
    simp only at HC hcl
    clear hcut
    have HN := Lib.hid (fun w hg => num_any (mkB d) (by rw [mkB_size]; omega) w hg)
    simp only [mkB_data] at HN
    have HG := Lib.hid hg
    clear hg
    cases f with
    | false =>
      have HB := Lib.hid (bodyC_no d y)
      generalize bodyC (d, y, false) = o at *
      generalize (numL d) = oo at *
      generalize mkB d = D at *
      generalize mkB y = Y at *
      generalize mkB t = X at *
      go_enter Tryd.func27, Tryd.ntmps27
      go_wp2_with fail
      refine HP.out.mono ?_
      rintro e w1 ⟨rfl, rfl⟩
      go_wp2_with fail
      refine HC.out.mono ?_
      rintro e w1 ⟨rfl, hb1⟩
      go_wp2_with fail
      refine (HN.out w1 (HG.out.on hb1)).mono ?_
      rintro e w2 ⟨v, rfl, hv, hb2⟩
      clear hv
      go_wp2_with fail
      go_ret3
      exact ⟨by rw [HB.out]; rfl, bt hb1 hb2⟩
    | true =>
      cases hn : numL d with
      | none =>
        have HB := Lib.hid (bodyC_none y hn)
        rw [hn] at HN
        simp only [Option.isSome_none] at HN
        generalize bodyC (d, y, true) = o at *
        clear hn
        generalize mkB d = D at *
        generalize mkB y = Y at *
        generalize mkB t = X at *
        go_enter Tryd.func27, Tryd.ntmps27
        go_wp2_with fail
        refine HP.out.mono ?_
        rintro e w1 ⟨rfl, rfl⟩
        go_wp2_with fail
        refine HC.out.mono ?_
        rintro e w1 ⟨rfl, hb1⟩
        go_wp2_with fail
        refine (HN.out w1 (HG.out.on hb1)).mono ?_
        rintro e w2 ⟨v, rfl, hv, hb2⟩
        clear hv
        go_wp2_with fail
        go_ret3
        exact ⟨by rw [HB.out]; rfl, bt hb1 hb2⟩
      | some n =>
        have hn0 := (num_some hn).1
        obtain ⟨m, rfl⟩ : ∃ m : Nat, n = m := ⟨n.toNat, by omega⟩
        rw [hn] at HN
        simp only [Option.isSome_some] at HN
        have hys := mkB_size y
        by_cases hm : m ≤ y.length
        · have HB := Lib.hid (bodyC_ok hn hm)
          have E1 := Lib.hid (take_ext y m hm)
          have E2 := Lib.hid (drop_ext y m)
          generalize bodyC (d, y, true) = o at *
          clear hn
          have c1 : (0 : Int) ≤ ↑m := by omega
          have c2 : (↑m : Int) ≤ ↑(mkB y).size := by omega
          have c3 : ¬ ((↑(mkB y).size : Int) < ↑m) := by omega
          generalize mkB d = D at *
          generalize mkB y = Y at *
          generalize mkB t = X at *
          clear hys hm
          go_enter Tryd.func27, Tryd.ntmps27
          go_wp2_with fail
          refine HP.out.mono ?_
          rintro e w1 ⟨rfl, rfl⟩
          go_wp2_with fail
          refine HC.out.mono ?_
          rintro e w1 ⟨rfl, hb1⟩
          go_wp2_with fail
          refine (HN.out w1 (HG.out.on hb1)).mono ?_
          rintro e w2 ⟨v, rfl, hv, hb2⟩
          obtain rfl := hv.1 m rfl
          clear hv
          go_wp2_with fail
          go_region
          go_wp2
          go_ret3
          refine ⟨?_, (bt hb1 hb2).drew⟩
          rw [HB.out]
          show Ending.returned (.tuple #[.string (Y.extract 0 m), .string (Y.extract m Y.size), .bool true]) = .returned (.tuple #[.string (mkB (y.take m)), .string (mkB (y.drop m)), .bool true])
          rw [E1.out, E2.out]
        · have HB := Lib.hid (bodyC_big hn hm)
          generalize bodyC (d, y, true) = o at *
          clear hn
          have c3 : ((↑(mkB y).size : Int) < ↑m) := by omega
          generalize mkB d = D at *
          generalize mkB y = Y at *
          generalize mkB t = X at *
          clear hys hm
          go_enter Tryd.func27, Tryd.ntmps27
          go_wp2_with fail
          refine HP.out.mono ?_
          rintro e w1 ⟨rfl, rfl⟩
          go_wp2_with fail
          refine HC.out.mono ?_
          rintro e w1 ⟨rfl, hb1⟩
          go_wp2_with fail
          refine (HN.out w1 (HG.out.on hb1)).mono ?_
          rintro e w2 ⟨v, rfl, hv, hb2⟩
          obtain rfl := hv.1 m rfl
          clear hv
          go_wp2_with fail
          go_ret3
          exact ⟨by rw [HB.out]; rfl, bt hb1 hb2⟩

end Go.Proofs.YtkbigfjaaiobfaaDoor
