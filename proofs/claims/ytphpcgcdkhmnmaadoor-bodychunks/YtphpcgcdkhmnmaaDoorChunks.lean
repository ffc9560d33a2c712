/- The walk of the law BodyChunks. -/
import Derived.Test.YtphpcgcdkhmnmaaDoorCuts
import Derived.Test.YtphpcgcdkhmnmaaDoorTailPlain
namespace Go.Proofs.YtphpcgcdkhmnmaaDoor
open Go.RowKit Pl

theorem len_size (s : ByteArray) : s.data.toList.length = s.size := by simp
theorem status_at {base : Nat} {w : World} {g : Nat} {b : Bst} {σ : Int} (h : Hid (BO base w g b)) (hd : Hid (b.status = σ)) : Calls Tryd.prog 8 #[.pointer (some ⟨g, 0, none⟩)] w fun e w' => e = .returned (.int .i64 σ) ∧ w = w' := by
  have := status_any h.out
  rwa [hd.out] at this
theorem tab_lt {w : World} (h : Tab w) : 2 < w.heap.size := World.block_lt_of_cell? w ⟨2, 15, none⟩ h

theorem chunks_feed_good (s m t : ByteArray) (N : Nat) (hN : 1 ≤ N) (hN2 : N < 256) (ht : t.data.toList = chunksL N s.data.toList) (hs : s.size ≤ 600) (hz : t.size + m.size ≤ 100000) (w : World) :
    Calls Tryd.prog 7 #[.int .i64 (-1), .string (t ++ m)] w fun e w' => ∃ g, e = .returned (.tuple #[.pointer (some ⟨g, 0, none⟩), .int .i64 (t.size : Int)]) ∧ BO w.heap.size w' g ⟨5, 0, 0, [], s.data.toList⟩ ∧ Below w.heap.size w w' := by
  have e := lawFeed_any (-1) (t ++ m) w (by omega) (by rw [app_size]; omega)
  rw [app_data, ht, cuts_run N hN hN2 _ _ (by rw [len_size]; exact hs), ← ht, len_size] at e
  exact e.mono fun _ _ ⟨g, he, ho, hb, _⟩ => ⟨g, he, ho, hb⟩
theorem chunks_feed_bad (s m t : ByteArray) (N : Nat) (hN : 1 ≤ N) (hN2 : N < 256) (ht : t.data.toList = chunksL N s.data.toList) (hs : s.size > 600) (hz : t.size + m.size ≤ 100000) (w : World) :
    Calls Tryd.prog 7 #[.int .i64 (-1), .string (t ++ m)] w fun e w' => ∃ g k b, e = .returned (.tuple #[.pointer (some ⟨g, 0, none⟩), .int .i64 k]) ∧ BO w.heap.size w' g b ∧ b.status = 413 ∧ Below w.heap.size w w' := by
  have e := lawFeed_any (-1) (t ++ m) w (by omega) (by rw [app_size]; omega)
  have hw := cuts_bad N hN hN2 s.data.toList m.data.toList (by rw [len_size]; exact hs)
  rw [app_data, ht] at e
  exact e.mono fun _ _ ⟨g, he, ho, hb, _⟩ => ⟨g, _, _, he, ho, hw, hb⟩

set_option maxRecDepth 100000 in
set_option maxHeartbeats 4000000 in
theorem chunks_walk (s : ByteArray) (n0 : Int) (m : ByteArray) (w : World) (ht : Tab w) : Calls Tryd.prog 3 #[.string s, .int .i64 n0, .string m] w fun e w' => e = .returned (.bool true) ∧ Below w.heap.size w w' := by
  have hcase : s.size > 1500 ∨ (s.size ≤ 1500 ∧ m.size > 500) ∨ (s.size ≤ 1500 ∧ m.size ≤ 500) := by omega
  rcases hcase with hs | ⟨hs, hm⟩ | ⟨hs, hm⟩
  · go_enter Tryd.func3, Tryd.ntmps3
    go_wp2_with (go_at_call 5; refine (fit_any _).mono ?_; rintro e w1 ⟨rfl, hb1⟩)
    go_ret
    exact ⟨rfl, hb1⟩
  · go_enter Tryd.func3, Tryd.ntmps3
    go_wp2_with (go_at_call 5; refine (fit_any _).mono ?_; rintro e w1 ⟨rfl, hb1⟩)
    go_ret
    exact ⟨rfl, hb1⟩
  · have hw := tab_lt ht
    have HW := Lib.hid hw
    have HT := Lib.hid ht
    clear ht hw
    go_enter Tryd.func3, Tryd.ntmps3
    go_wp2_with fail
    refine (fit_any _).mono ?_
    rintro e w1 ⟨rfl, hb1⟩
    have HB1 := Lib.hid hb1
    clear hb1
    go_wp2_with fail
    rw [i64_and63]
    obtain ⟨N, hN, hN1, hN2⟩ : ∃ N : Nat, n0 % 64 + 1 = (N : Int) ∧ 1 ≤ N ∧ N < 256 := ⟨(n0 % 64 + 1).toNat, by omega, by omega, by omega⟩
    have hwr : wrap64 (n0 % 64 + 1) = (N : Int) := by unfold wrap64; omega
    rw [hwr]
    clear hN hwr
    generalize n0 % 64 = n1 at *
    have HT1 : Hid (Tab w1) := Tab.below HT.out HB1.out HW.out
    have HC := Lib.hid (chunks_any s (N : Int) N (by omega) hN2 (by omega) w1 HT1.out (Nat.lt_of_lt_of_le HW.out HB1.out.size))
    have hts := chunksW_len N hN1 hN2 s.data.toList.length s.data.toList (Nat.le_refl _)
    rw [len_size] at hts
    have hD : (⟨(chunksL N s.data.toList).toArray⟩ : ByteArray).data.toList = chunksL N s.data.toList := by simp
    have htz : (⟨(chunksL N s.data.toList).toArray⟩ : ByteArray).size ≤ 20000 := by
      rw [← len_size, hD, chunksL, List.length_append]
      have : endT.length = 5 := rfl
      omega
    generalize (⟨(chunksL N s.data.toList).toArray⟩ : ByteArray) = t at *
    have HDT := Lib.hid hD
    clear hD hts
    refine HC.out.mono ?_
    rintro e w2 ⟨rfl, hb2⟩
    have HB2 := Lib.hid (bt HB1.out hb2)
    clear hb2 HC
    have hcase : s.size > 600 ∨ s.size ≤ 600 := by omega
    rcases hcase with hc | hc
    · have HF := Lib.hid fun w => chunks_feed_bad s m t N hN1 hN2 HDT.out hc (by omega) w
      go_wp2_with fail
      refine (HF.out _).mono ?_
      rintro e w3 ⟨g, k, b, rfl, ho, hst, hb3⟩
      have HO := Lib.hid ho; have HST := Lib.hid hst; have HB3 := Lib.hid (bt HB2.out hb3)
      clear ho hst hb3 HF
      go_wp2_with fail
      refine (status_at HO HST).mono ?_
      rintro e w4 ⟨rfl, rfl⟩
      go_wp2_with fail
      go_ret
      exact ⟨rfl, HB3.out⟩
    · have HF := Lib.hid fun w => chunks_feed_good s m t N hN1 hN2 HDT.out hc (by omega) w
      go_wp2_with fail
      refine (HF.out _).mono ?_
      rintro e w3 ⟨g, rfl, ho, hb3⟩
      have HD := Lib.hid (done_any ho); have HSS := Lib.hid (status_any ho); have HA := Lib.hid (data_any ho)
      have HB3 := Lib.hid (bt HB2.out hb3)
      clear ho hb3 HF
      have HT3 : Hid (Tab w3) := Tab.below HT.out HB3.out HW.out
      have HC1 := Lib.hid (chunks_any s (-(N : Int)) 1 (by omega) (by omega) (by omega) w3 HT3.out (Nat.lt_of_lt_of_le HW.out HB3.out.size))
      have HC2 := Lib.hid fun (w4 : World) (h : Below w3.heap.size w3 w4) => chunks_any s 1 1 (by omega) (by omega) (by omega) w4 (Tab.below HT3.out h (Nat.lt_of_lt_of_le HW.out HB3.out.size)) (Nat.lt_of_lt_of_le (Nat.lt_of_lt_of_le HW.out HB3.out.size) h.size)
      generalize (⟨(chunksL 1 s.data.toList).toArray⟩ : ByteArray) = t1 at *
      go_wp2_with fail
      refine HD.out.mono ?_
      rintro e w4 ⟨rfl, rfl⟩
      go_wp2_with fail
      refine HSS.out.mono ?_
      rintro e w4 ⟨rfl, rfl⟩
      go_wp2_with fail
      refine HA.out.mono ?_
      rintro e w4 ⟨rfl, rfl⟩
      go_wp2_with fail
      refine HC1.out.mono ?_
      rintro e w4 ⟨rfl, hb4⟩
      go_wp2_with fail
      refine (HC2.out _ hb4).mono ?_
      rintro e w5 ⟨rfl, hb5⟩
      go_wp2_with fail
      go_ret
      exact ⟨rfl, bt (bt HB3.out hb4) hb5⟩

theorem chunks_row (s : ByteArray) (n0 : Int) (m : ByteArray) (w : World) (_hs : s.size ≤ maxLen) (_hn : (Lit.int .i64 n0).wf = true) (_hm : m.size ≤ maxLen) (ht : Tab w) : Calls Tryd.prog 3 #[.string s, .int .i64 n0, .string m] w fun e w' => e = .returned (.bool true) ∧ Below w.heap.size w w' := chunks_walk s n0 m w ht

end Go.Proofs.YtphpcgcdkhmnmaaDoor
