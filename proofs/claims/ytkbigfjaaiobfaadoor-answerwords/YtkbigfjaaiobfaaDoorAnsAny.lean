/- The contracts of strings.IndexAny and strings.ContainsAny at CR and LF, whatever the bytes. -/
import Derived.Test.YtkbigfjaaiobfaaDoorAnsRune
import Derived.Test.YtkbigfjaaiobfaaDoorLower
namespace Go.Proofs.YtkbigfjaaiobfaaDoor
open Go.RowKit Pl Go.Shelf

theorem no_high (s : ByteArray) (pos : Nat) (h : pos < s.size) (ha : 128 ≤ (s[pos]'h).toNat) (hk : Lib.NoAny s.data.toList crlf pos) (j : Nat) (hj : j ≤ (Utf8.decode s pos).2) : Lib.NoAny s.data.toList crlf (pos + j) := by
  induction j with
  | zero => exact hk
  | succ j ih =>
    obtain ⟨hlt, hb⟩ := decode_cont s pos h ha j (by omega)
    have hx : s.data.toList[pos + j]? = some (s[pos + j]'hlt) := Lib.data_getElem? s (pos + j) hlt
    refine (ih (by omega)).succ hx ?_
    cases hc : crlf.contains (s[pos + j]'hlt) with
    | false => rfl
    | true =>
      exfalso
      simp [crlf] at hc
      rcases hc with hc | hc
      · rw [hc] at hb; revert hb; decide
      · rw [hc] at hb; revert hb; decide

structure AnySt (s : ByteArray) (w wr : World) (I pos : Nat) : Prop where
  iter : wr.heap[I]? = some (.stringIter s pos)
  lI : w.heap.size ≤ I
  below : Below w.heap.size w wr
  no : Lib.NoAny s.data.toList crlf pos
theorem AnySt.go {s : ByteArray} {w wr w' : World} {I pos pos' : Nat} (h : AnySt s w wr I pos) (hn : Lib.NoAny s.data.toList crlf pos') (hb : Below (wr.iterAt I s pos').heap.size (wr.iterAt I s pos') w') : AnySt s w w' I pos' := by
  have hi := Lib.iterAt_heap wr I s pos pos' h.iter
  have h2 : Below w.heap.size w (wr.iterAt I s pos') := Lib.below_iterAt h.below h.lI s pos'
  exact ⟨(hb.block I (blk_lt hi)).trans hi, h.lI, bt h2 hb, hn⟩

theorem ascii_rune (r : Int) (w : World) (h0 : 0 ≤ r) (h1 : r < 128) : Calls Tryd.prog 68 #[.string crB, .int .i32 r] w fun e w' => e = .returned (.int .i64 (Lib.indexByte crlf r.toNat.toUInt8)) ∧ w = w' :=
  (Any.strings_IndexRune_ascii { Tryd.lays153 with } crB r w h0 h1).mono fun _ _ ⟨he, hw⟩ => ⟨he, hw.symm⟩
theorem use_set (n : Int) (w : World) : Calls Tryd.prog 90 #[.int .i64 n] w fun e w' => e = .returned (.bool (decide (8 < n))) ∧ w = w' :=
  (Any.strings_shouldUseASCIISet { Tryd.lays153 with } n w).mono fun _ _ ⟨he, hw⟩ => ⟨he, hw.symm⟩

set_option maxRecDepth 100000 in
set_option maxHeartbeats 4000000 in
theorem any_short (s : ByteArray) (w : World) (h8 : s.size ≤ 8) : Calls Tryd.prog 82 #[.string s, .string crB] w fun e w' => e = .returned (.int .i64 (Lib.indexAny s.data.toList crlf)) ∧ Below w.heap.size w w' := by
  have HU := Lib.hid (use_set s.size w)
  have h8z : decide ((8 : Int) < (s.size : Int)) = false := decide_eq_false (by omega)
  rw [h8z] at HU
  clear h8z
  have HR := Lib.hid rune_high
  have HA := Lib.hid ascii_rune
  obtain ⟨cs, c2, ce, hcs⟩ : ∃ cs : ByteArray, (cs.size : Int) = 2 ∧ cs.toList.isEmpty = false ∧ crB = cs := ⟨crB, rfl, str_nonempty crB (by decide), rfl⟩
  rw [hcs] at HR HA ⊢
  clear hcs
  have HS0 : Hid (AnySt s w (w.iter s 0) w.heap.size 0) := ⟨World.iter_heap w s 0, Nat.le_refl _, below_iter w s 0, Lib.NoAny.zero _ _⟩
  go_enter Tryd.func82, Tryd.ntmps82
  go_wp2_with fail
  refine HU.out.mono ?_
  rintro e w1 ⟨rfl, rfl⟩
  go_wp2_with fail
  generalize w.iter s 0 = W0 at *
  generalize hI : w.heap.size = I at *
  have HIE := Lib.hid hI
  clear hI
  go_loopw [4] (fun _ wr => ∃ pos : Nat, Hid (AnySt s w wr I pos)) (fun _ wr => s.size - wr.iterPos I)
  case atStart => exact ⟨0, HS0⟩
  case round =>
    obtain ⟨pos, HR0⟩ := hrel
    have HP := Lib.hid (iterPos_of HR0.out.iter)
    by_cases hp : pos < s.size
    · by_cases ha : (s[pos]'hp).toNat < 128
      · have hnx : ∀ ty, (Instr.next (.pointer (some ⟨I, 0, none⟩)) true ty).run Tryd.prog wr = _ := fun ty => Lib.run_next_ascii_at wr I s pos ty HR0.out.iter hp ha
        have hxl : s.data.toList[pos]? = some (s[pos]'hp) := Lib.data_getElem? s pos hp
        have hback : (((s[pos]'hp).toNat : Int)).toNat.toUInt8 = s[pos]'hp := by simp
        have HAC := Lib.hid (HA.out ((s[pos]'hp).toNat : Int) (wr.iterAt I s (pos + 1)) (by omega) (by omega))
        rw [hback] at HAC
        have hcon := Lib.contains_iff_indexByte crlf (s[pos]'hp)
        clear hback
        cases hin : crlf.contains (s[pos]'hp) with
        | false =>
          rw [hin] at hcon
          have hlt : ¬ ((0 : Int) ≤ Lib.indexByte crlf (s[pos]'hp)) := of_decide_eq_false hcon.symm
          have HN : Hid (AnySt s w (wr.iterAt I s (pos + 1)) I (pos + 1)) := HR0.out.go (HR0.out.no.succ hxl hin) (Below.refl _ _)
          clear hcon hxl hin
          generalize Lib.indexByte crlf (s[pos]'hp) = v at *
          generalize ((s[pos]'hp).toNat) = c at *
          generalize wr.iterAt I s (pos + 1) = wr2 at *
          go_wp2_with fail
          refine HAC.out.mono ?_
          rintro e w2 ⟨rfl, rfl⟩
          go_wp2_with fail
          go_roundw
          case rel => exact ⟨pos + 1, HN⟩
          case measure => rw [iterPos_of HN.out.iter, HP.out]; omega
        | true =>
          rw [hin] at hcon
          have hge : (0 : Int) ≤ Lib.indexByte crlf (s[pos]'hp) := of_decide_eq_true hcon.symm
          have HE := Lib.hid (Lib.indexAny_hit HR0.out.no hxl hin)
          have HB : Hid (Below w.heap.size w (wr.iterAt I s (pos + 1))) := Lib.below_iterAt HR0.out.below HR0.out.lI s (pos + 1)
          clear hcon hxl hin
          generalize Lib.indexByte crlf (s[pos]'hp) = v at *
          generalize ((s[pos]'hp).toNat) = c at *
          generalize wr.iterAt I s (pos + 1) = wr2 at *
          go_wp2_with fail
          refine HAC.out.mono ?_
          rintro e w2 ⟨rfl, rfl⟩
          go_wp2_with fail
          go_ret
          exact ⟨by rw [HE.out]; rfl, by first | exact HB.out | (rw [HIE.out] at HB; exact HB.out)⟩
      · have hnx : ∀ ty, (Instr.next (.pointer (some ⟨I, 0, none⟩)) true ty).run Tryd.prog wr = _ := fun ty => Lib.run_next_any_at wr I s pos ty HR0.out.iter hp
        have hno := no_high s pos hp (by omega) HR0.out.no _ (Nat.le_refl _)
        have hd := decode_high s pos hp (by omega)
        have hd2 := decode_le s pos
        have HGO := Lib.hid (fun (w' : World) hb => AnySt.go (w' := w') HR0.out hno hb)
        clear hno
        generalize (Utf8.decode s pos).1 = c at *
        generalize (Utf8.decode s pos).2 = d at *
        have HRH := Lib.hid (HR.out (c : Int) (wr.iterAt I s (pos + d)) (by omega) (by omega))
        generalize wr.iterAt I s (pos + d) = wr2 at *
        go_wp2_with fail
        refine HRH.out.mono ?_
        rintro e w2 ⟨rfl, hb2⟩
        have HN := Lib.hid (HGO.out w2 hb2)
        clear hb2
        go_wp2_with fail
        go_roundw
        case rel => exact ⟨pos + d, HN⟩
        case measure => rw [iterPos_of HN.out.iter, HP.out]; omega
    · have hnx : ∀ ty, (Instr.next (.pointer (some ⟨I, 0, none⟩)) true ty).run Tryd.prog wr = _ := fun ty => Lib.run_next_end_at wr I s pos ty HR0.out.iter hp
      have HE : Hid (Lib.indexAny s.data.toList crlf = -1) := Lib.indexAny_none (fun j b hj hb => HR0.out.no j b (by rw [data_len] at hj; omega) hb)
      have HB := Lib.hid HR0.out.below
      go_wp2
      go_ret
      exact ⟨by rw [HE.out]; rfl, by first | exact HB.out | (rw [HIE.out] at HB; exact HB.out)⟩

theorem info71 : (Tryd.prog.info? 71).map (fun i => (i.zero, i.size)) = some (some (.agg (Array.replicate 256 (.bool false))), 256) := by kernel_rfl

theorem any_any (s : ByteArray) (w : World) (hs : s.size ≤ 1000000000) : Calls Tryd.prog 82 #[.string s, .string crB] w fun e w' => e = .returned (.int .i64 (Lib.indexAny s.data.toList crlf)) ∧ Below w.heap.size w w' := by
  by_cases h8 : s.size ≤ 8
  · exact any_short s w h8
  · exact (Any.strings_IndexAny_long Tryd.lays153 (zero_of_info info71).1 (zero_of_info info71).2 s crB w (by decide) (by omega) (by omega) (by decide) (ascii_of_all (by decide))).mono fun _ _ ⟨he, hw⟩ => ⟨he, by rw [hw]; exact ((Below.refl _ w).alloc (Nat.le_refl _) _).alloc (by simp) _⟩

set_option maxHeartbeats 1000000 in
theorem contains_any (s : ByteArray) (w : World) (hs : s.size ≤ 1000000000) : Calls Tryd.prog 66 #[.string s, .string crB] w fun e w' => e = .returned (.bool (Lib.containsAny s.data.toList crlf)) ∧ Below w.heap.size w w' := by
  have HC := Lib.hid (any_any s w hs)
  unfold Lib.containsAny
  generalize Lib.indexAny s.data.toList crlf = v at *
  generalize crB = cs at *
  go_enter Tryd.func66, Tryd.ntmps66
  go_wp2_with fail
  refine HC.out.mono ?_
  rintro e w1 ⟨rfl, hb⟩
  go_wp2_with fail
  go_ret
  exact ⟨rfl, hb⟩

end Go.Proofs.YtkbigfjaaiobfaaDoor
