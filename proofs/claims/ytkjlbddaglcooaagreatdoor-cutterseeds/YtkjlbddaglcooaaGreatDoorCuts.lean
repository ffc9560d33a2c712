/- The contract of body.Chunks. -/
import Derived.Test.YtkjlbddaglcooaaGreatDoorFmt
import Derived.Test.YtkjlbddaglcooaaGreatDoorBld
import Derived.Test.YtkjlbddaglcooaaGreatDoorBits
import Derived.Deep.RegionHeld3
namespace Go.Proofs.YtkjlbddaglcooaaGreatDoor
open Go.RowKit Pl

theorem bld_below {B b : Nat} {bs : List Value} {w w' : World} (h : Lib.IsBuilder 75 5 B b bs w) (hb : Below w.heap.size w w') : Lib.IsBuilder 75 5 B b bs w' := by
  rcases h with ⟨h1, v, h2, h3, h4⟩ | ⟨h1, v, h2, h3, h4⟩
  · exact .inl ⟨h1, v, (hb.block b (blk_lt h2)).trans h2, own_below h3 hb, h4⟩
  · exact .inr ⟨h1, v, (hb.block b (blk_lt h2)).trans h2, own_below h3 hb, h4⟩
theorem Tab.below {w w' : World} {B : Nat} (h : Tab w) (hb : Below B w w') (hw : 6 < B) : Tab w' := by
  unfold Tab at *
  rw [← h]
  exact World.cell?_of_block (hb.block 6 hw)
def strLen : Value → Nat
  | .string s => s.size
  | _ => 0

/-- One more chunk. -/
structure CutSt (N : Nat) (s T : ByteArray) (l : List UInt8) : Prop where
  text : l ++ chunksW N T.data.toList = chunksW N s.data.toList
  len : l.length + 7 * T.size ≤ 7 * s.size
theorem cut_next {N : Nat} {s T : ByteArray} {l : List UInt8} (h : CutSt N s T l) (hN : 1 ≤ N) (hN2 : N < 256) (mm : Nat) (hmm : mm = min N T.size) (hT : T.size ≠ 0) :
    CutSt N s (T.extract mm T.size) (l ++ (((⟨(fmtL mm).toArray⟩ : ByteArray) ++ ⟨#[13, 10]⟩ ++ T.extract 0 mm) ++ ⟨#[13, 10]⟩).data.toList) := by
  have hlen : T.data.toList.length = T.size := by simp
  have hne : T.data.toList ≠ [] := by intro e; rw [e] at hlen; simp at hlen; omega
  have hd1 : (T.extract 0 mm).data.toList = T.data.toList.take N := by
    rw [Lib.extract_data]
    simp only [List.drop_zero]
    rw [hmm, ← hlen]
    by_cases h1 : N ≤ T.data.toList.length
    · rw [Nat.min_eq_left h1]; simp
    · rw [Nat.min_eq_right (by omega), List.take_of_length_le (by omega), List.take_of_length_le (by omega)]
  have hd2 : (T.extract mm T.size).data.toList = T.data.toList.drop N := by
    rw [Lib.extract_data, ← hlen, hmm, ← hlen]
    by_cases h1 : N ≤ T.data.toList.length
    · rw [Nat.min_eq_left h1, List.take_of_length_le (by simp)]
    · rw [Nat.min_eq_right (by omega), List.drop_of_length_le (Nat.le_refl _), List.drop_of_length_le (by omega)]; simp
  have hdat : (((⟨(fmtL mm).toArray⟩ : ByteArray) ++ ⟨#[13, 10]⟩ ++ T.extract 0 mm) ++ ⟨#[13, 10]⟩).data.toList = chunkT (fmtL (min N T.data.toList.length)) (T.data.toList.take N) := by
    rw [app_data, app_data, app_data, hd1, hlen, ← hmm]
    simp [chunkT]
  refine ⟨?_, ?_⟩
  · rw [hdat, hd2, List.append_assoc, ← chunksW_more N _ hN hne]
    exact h.text
  · have h2 := h.len
    have h3 := fmt_len mm (by omega)
    have h4 : (T.extract mm T.size).size = T.size - mm := by
      have := congrArg List.length hd2
      simp at this
      simp
    have h5 : (chunkT (fmtL (min N T.data.toList.length)) (T.data.toList.take N)).length = (fmtL mm).length + mm + 4 := by
      rw [hlen, ← hmm]
      unfold chunkT
      simp only [List.length_append, List.length_cons, List.length_nil, List.length_take]
      rw [hlen]
      omega
    rw [h4, hdat, List.length_append, h5]
    omega

set_option maxRecDepth 100000 in
set_option maxHeartbeats 4000000 in
theorem chunks_any (s : ByteArray) (n : Int) (N : Nat) (hN : max n 1 = (N : Int)) (hN2 : N < 256) (hs : s.size ≤ 100000) (w : World) (ht : Tab w) (hw : 6 < w.heap.size) :
    Calls Tryz.prog 23 #[.string s, .int .i64 n] w fun e w' => e = .returned (.string ⟨(chunksL N s.data.toList).toArray⟩) ∧ Below w.heap.size w w' := by
  have hN1 : 1 ≤ N := by omega
  have h0 : Lib.IsBuilder 75 5 w.heap.size w.heap.size [] (w.alloc (.cells #[.pointer none, .slice none 0 0] 75)) := Lib.fresh_isBuilder 75 5 w
  have b0 : Below w.heap.size w (w.alloc (.cells #[.pointer none, .slice none 0 0] 75)) := (Below.refl _ w).alloc (Nat.le_refl _) _
  have H0 := Lib.hid h0; have HB0 := Lib.hid b0; have HT := Lib.hid ht; have HW := Lib.hid hw
  clear h0 b0 ht hw
  go_enter Tryz.func23, Tryz.ntmps23
  go_wp2_with fail
  generalize w.alloc (.cells #[.pointer none, .slice none 0 0] 75) = W0 at *
  go_loopw [0] (fun v wr => ∃ (T : ByteArray) (l : List UInt8), v = .string T ∧ Lib.IsBuilder 75 5 w.heap.size w.heap.size (Lib.byteCells l) wr ∧ Below w.heap.size w wr ∧ T.size ≤ s.size ∧ Hid (CutSt N s T l)) (fun v _ => strLen v)
  case atStart => exact ⟨s, [], rfl, H0.out, HB0.out, Nat.le_refl _, ⟨rfl, by simp⟩⟩
  case round =>
    obtain ⟨T, l, rfl, hbl, hbel, hTs, hcs⟩ := hrel
    have HBL := Lib.hid hbl; have HBE := Lib.hid hbel
    clear hbl hbel
    by_cases hT : T.data.toList = []
    · have he := str_empty T hT
      have hend := hcs.out.text
      have hll := hcs.out.len
      rw [hT, chunksW_nil, List.append_nil] at hend
      have HE : Hid (chunksL N s.data.toList = l ++ (⟨#[48, 13, 10, 13, 10]⟩ : ByteArray).data.toList) := by show _ = _; rw [chunksL, ← hend]; rfl
      have HP := Lib.hid (put_any w.heap.size w.heap.size l ⟨#[48, 13, 10, 13, 10]⟩ wr HBL.out (by have : (⟨#[48, 13, 10, 13, 10]⟩ : ByteArray).size = 5 := rfl; omega) HBE.out.size)
      clear hT hend hll hcs
      go_wp2_with fail
      refine HP.out.mono ?_
      rintro e w1 ⟨rfl, h1, hb1⟩
      have HS := Lib.hid (str_any w.heap.size w.heap.size _ w1 h1 (Nat.le_trans HBE.out.size hb1.size))
      have HB1 := Lib.hid hb1
      clear h1 hb1
      go_wp2_with fail
      refine HS.out.mono ?_
      rintro e w2 ⟨rfl, hb2⟩
      go_wp2_with fail
      go_ret
      exact ⟨by rw [HE.out]; rfl, (HBE.out.trans HB1.out).trans hb2⟩
    · have he := str_nonempty T hT
      have hTn : T.size ≠ 0 := by
        intro e
        apply hT
        apply List.length_eq_zero_iff.1
        simpa using e
      obtain ⟨mm, hmm⟩ : ∃ mm, mm = min N T.size := ⟨_, rfl⟩
      have hmin : min (N : Int) (T.size : Int) = (mm : Int) := by omega
      have hm1 : 1 ≤ mm := by omega
      have hm2 : mm < 256 := by omega
      have hmT : mm ≤ T.size := by omega
      have HN := Lib.hid (cut_next hcs.out hN1 hN2 mm hmm hTn)
      have hll := hcs.out.len
      have hfl := fmt_len mm hm2
      have c1 : (0 : Int) ≤ ↑mm := by omega
      have c2 : (↑mm : Int) ≤ ↑T.size := by omega
      have HTW : Hid (Tab wr.drew) := Tab.below HT.out HBE.out.drew HW.out
      have HF := Lib.hid (fmt_any mm hm1 hm2 wr.drew HTW.out (Nat.lt_of_lt_of_le HW.out HBE.out.size))
      have hxs : (⟨(fmtL mm).toArray⟩ : ByteArray).size ≤ 2 := by simpa [ByteArray.size] using hfl
      clear hmm hT hcs hfl
      generalize (⟨(fmtL mm).toArray⟩ : ByteArray) = X at *
      have hes : (T.extract 0 mm).size ≤ 256 := by simp; omega
      have hsum : l.length + ((X ++ ⟨#[13, 10]⟩ ++ T.extract 0 mm) ++ ⟨#[13, 10]⟩ : ByteArray).size ≤ 1000000000 := by
        have : (⟨#[13, 10]⟩ : ByteArray).size = 2 := rfl
        rw [app_size, app_size, app_size]
        omega
      have HSUM := Lib.hid hsum
      clear hsum
      have k3 := fun wx => run_string_add_sum (P := Tryz.prog) wx X ⟨#[13, 10]⟩ (by have : (⟨#[13, 10]⟩ : ByteArray).size = 2 := rfl; omega)
      have k4 := fun wx => run_string_add_sum (P := Tryz.prog) wx (X ++ ⟨#[13, 10]⟩) (T.extract 0 mm) (by have : (⟨#[13, 10]⟩ : ByteArray).size = 2 := rfl; rw [app_size]; omega)
      have k5 := fun wx => run_string_add_sum (P := Tryz.prog) wx (X ++ ⟨#[13, 10]⟩ ++ T.extract 0 mm) ⟨#[13, 10]⟩ (by have : (⟨#[13, 10]⟩ : ByteArray).size = 2 := rfl; rw [app_size, app_size]; omega)
      go_wp2_with fail
      go_region_held3 (fun _ => True) (trivial)
        ((first
          | (go_at_call 35; refine HF.out.mono ?_; rintro e w1 ⟨rfl, hb1⟩; have HBL1 := Lib.hid (bld_below (bld_below HBL.out (Below.refl _ _).drew) hb1); have HB1 := Lib.hid (HBE.out.drew.trans (hb1.mono HBE.out.size)); clear hb1)
          | (go_at_call 34; refine (put_any w.heap.size w.heap.size l _ _ HBL1.out HSUM.out HB1.out.size).mono ?_; rintro e w2 ⟨rfl, h2, hb2⟩)))
      have HNB : Hid (Below w.heap.size w w2) := HB1.out.trans hb2
      have hTe : (T.extract mm T.size).size < T.size := by simp; omega
      clear k3 k4 k5 HF hes hb2
      go_wp2_with fail
      go_roundw
      case rel => exact ⟨T.extract mm T.size, _, rfl, h2, HNB.out, by omega, HN.out⟩
      case measure => exact hTe

end Go.Proofs.YtkjlbddaglcooaaGreatDoor
