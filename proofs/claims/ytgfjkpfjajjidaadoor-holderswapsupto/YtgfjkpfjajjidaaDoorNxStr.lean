/- The contracts of strings.TrimLeft and strings.Cut at a blank, and of table.next. -/
import Derived.Test.YtgfjkpfjajjidaaDoorPlains
import Derived.Test.YtgfjkpfjajjidaaDoorPtStr
namespace Go.Proofs.YtgfjkpfjajjidaaDoor
open Go.RowKit Pl

theorem ret_s {a b : ByteArray} (h : a = b) : Ending.returned (.string a) = .returned (.string b) := by rw [h]

theorem drop_one (s : ByteArray) (h : 0 < s.size) : s.data.toList = s[0] :: s.data.toList.drop 1 := by
  have : s.data.toList = s.data.toList.drop 0 := rfl
  rw [this, List.drop_eq_getElem_cons (by rw [data_len]; exact h)]
  rfl
theorem skip_step (s : ByteArray) (h : 0 < s.size) (hc : s[0] = 32) : skipL s.data.toList = skipL (s.extract 1 s.size).data.toList := by
  have e : (s.extract 1 s.size).data.toList = s.data.toList.drop 1 := tl_data s
  rw [e]
  conv => { lhs; rw [drop_one s h] }
  rw [skipL, List.dropWhile_cons, hc]
  rfl
theorem skip_stop (s : ByteArray) (h : 0 < s.size) (hc : s[0] ≠ 32) : skipL s.data.toList = s.data.toList := by
  conv => { lhs; rw [drop_one s h] }
  rw [skipL, List.dropWhile_cons, if_neg (by simpa using hc)]
  exact (drop_one s h).symm

set_option maxRecDepth 100000 in
set_option maxHeartbeats 1000000 in
theorem trimb_any (s : ByteArray) (w : World) (hs : s.size ≤ 1000000000000) : Calls Tryd.prog 68 #[.string s, .int .u8 32] w fun e w' => e = .returned (.string (mkB (skipL s.data.toList))) ∧ w = w' := by
  go_enter Tryd.func68, Tryd.ntmps68
  go_wp2
  go_loop [0] (fun v => ∃ t : ByteArray, v = .string t ∧ t.size ≤ s.size ∧ Hid (skipL t.data.toList = skipL s.data.toList)) (fun v => match v with | .string t => t.size | _ => 0)
  case atStart => exact ⟨s, rfl, Nat.le_refl _, rfl⟩
  case round =>
    obtain ⟨t, rfl, hts, HT⟩ := hrel
    by_cases h0 : 0 < t.size
    · have t1 : ((t[0].toNat : Int) == 32) = decide (t[0] = 32) := by
        rw [Bool.eq_iff_iff]
        simp only [beq_iff_eq, decide_eq_true_eq]
        exact ⟨fun h => UInt8.toNat_inj.1 (by have : ((32 : UInt8).toNat : Int) = 32 := rfl; omega), fun h => by rw [h]; rfl⟩
      by_cases hc : t[0] = 32
      · rw [decide_eq_true hc] at t1
        have HT2 : Hid (skipL (t.extract 1 t.size).data.toList = skipL s.data.toList) := (skip_step t h0 hc).symm.trans HT.out
        have hz : (t.extract 1 t.size).size < t.size := by simp; omega
        clear hc
        go_wp2_with fail
        refine ⟨⟨_, rfl, by omega, HT2⟩, ?_⟩
        exact hz
      · rw [decide_eq_false hc] at t1
        have HT2 : Hid (t = mkB (skipL s.data.toList)) := by show _ = _; rw [← HT.out, skip_stop t h0 hc, mkB_of]
        clear hc
        go_wp2_with fail
        go_ret
        exact ⟨ret_s HT2.out, rfl⟩
    · have HT2 : Hid (t = mkB (skipL s.data.toList)) := by
        have : t.data.toList = [] := by rw [← List.length_eq_zero_iff, data_len]; omega
        have h2 := HT.out
        rw [this] at h2
        show _ = _
        rw [← h2]
        exact bytes_ext (by rw [this, mkB_data]; rfl)
      go_wp2_with fail
      go_ret
      exact ⟨ret_s HT2.out, rfl⟩

set_option maxRecDepth 100000 in
set_option maxHeartbeats 1000000 in
theorem trim_any (s : ByteArray) (w : World) (hs : s.size ≤ 1000000000000) : Calls Tryd.prog 43 #[.string s, .string ⟨#[32]⟩] w fun e w' => e = .returned (.string (mkB (skipL s.data.toList))) ∧ w = w' := by
  have HC := Lib.hid (fun w => trimb_any s w hs)
  have he := eq_list s []
  by_cases h0 : s.data.toList = []
  · rw [decide_eq_true h0] at he
    have HK : Hid (s = mkB (skipL s.data.toList)) := bytes_ext (by rw [mkB_data, h0]; rfl)
    clear h0
    go_enter Tryd.func43, Tryd.ntmps43
    go_wp2_with fail
    go_ret
    exact ⟨ret_s HK.out, rfl⟩
  · rw [decide_eq_false h0] at he
    clear h0
    go_enter Tryd.func43, Tryd.ntmps43
    go_wp2_with fail
    refine (HC.out _).mono ?_
    rintro e w' ⟨rfl, rfl⟩
    go_wp2_with fail
    go_ret
    exact ⟨rfl, rfl⟩

theorem take_free (c : UInt8) (l r : List UInt8) (h : c ∉ l) : (l ++ c :: r).takeWhile (fun d => decide (d ≠ c)) = l ∧ (l ++ c :: r).dropWhile (fun d => decide (d ≠ c)) = c :: r := by
  induction l with
  | nil => simp
  | cons a l ih =>
    simp at h
    obtain ⟨i1, i2⟩ := ih h.2
    have ha : decide (a ≠ c) = true := by simp; exact fun e => h.1 e.symm
    rw [List.cons_append, List.takeWhile_cons, List.dropWhile_cons, if_pos ha, if_pos ha, i1, i2]
    exact ⟨rfl, rfl⟩
theorem all_free (c : UInt8) (l : List UInt8) (h : c ∉ l) : l.takeWhile (fun d => decide (d ≠ c)) = l ∧ l.dropWhile (fun d => decide (d ≠ c)) = [] := by
  induction l with
  | nil => simp
  | cons a l ih =>
    simp at h
    obtain ⟨i1, i2⟩ := ih h.2
    have ha : decide (a ≠ c) = true := by simp; exact fun e => h.1 e.symm
    rw [List.takeWhile_cons, List.dropWhile_cons, if_pos ha, if_pos ha, i1, i2]
    exact ⟨rfl, rfl⟩

def headL (l : List UInt8) : List UInt8 := l.takeWhile (fun c => decide (c ≠ 32))
def tailL (l : List UInt8) : List UInt8 := (l.dropWhile (fun c => decide (c ≠ 32))).drop 1
theorem word_idx (l : List UInt8) : (Lib.indexByte l 32 = -1 ∧ headL l = l ∧ tailL l = []) ∨ ∃ i : Nat, Lib.indexByte l 32 = i ∧ i < l.length ∧ headL l = l.take i ∧ tailL l = l.drop (i + 1) := by
  rcases idx_cases 32 l with ⟨h1, h2⟩ | ⟨i, h1, h2, h3, h4⟩
  · obtain ⟨e1, e2⟩ := all_free 32 l h2
    exact .inl ⟨h1, e1, by rw [tailL, e2]; rfl⟩
  · obtain ⟨e1, e2⟩ := take_free 32 (l.take i) (l.drop (i + 1)) h3
    rw [← h4] at e1 e2
    exact .inr ⟨i, h1, h2, e1, by rw [tailL, e2]; rfl⟩

set_option maxRecDepth 100000 in
set_option maxHeartbeats 1000000 in
theorem cutb_low (s : ByteArray) (w : World) (hs : s.size ≤ 1000000000000) : Calls Tryd.prog 67 #[.string s, .string ⟨#[32]⟩] w fun e w' => (∃ v, e = .returned (.tuple #[.string (mkB (headL s.data.toList)), .string (mkB (tailL s.data.toList)), .bool v])) ∧ Below w.heap.size w w' := by
  have hc := fun w => index_one s 32 w
  rcases word_idx s.data.toList with ⟨h1, h2, h3⟩ | ⟨i, h1, h2, h3, h4⟩
  · rw [h1] at hc
    have HC := Lib.hid hc
    rw [h2, h3]
    have HK : Hid (mkB s.data.toList = s) := mkB_of s
    clear h1 h2 h3 hc
    go_enter Tryd.func67, Tryd.ntmps67
    go_wp2_with (go_at_call 86; refine (HC.out _).mono ?_; rintro e w' ⟨rfl, rfl⟩)
    go_ret3
    exact ⟨⟨false, by rw [HK.out]; rfl⟩, Below.refl _ _⟩
  · rw [h1] at hc
    have HC := Lib.hid hc
    rw [h3, h4]
    have HK : Hid (s.extract 0 i = mkB (s.data.toList.take i)) := bytes_ext (by rw [ext_data, mkB_data]; simp)
    have HK2 : Hid (s.extract (i + 1) s.size = mkB (s.data.toList.drop (i + 1))) := bytes_ext (by rw [ext_data, mkB_data, List.take_of_length_le]; simp)
    have hi : i < s.size := by rw [← data_len]; exact h2
    clear h1 h2 h3 h4 hc
    have c1 : (0 : Int) ≤ ↑i := by omega
    have c2 : (↑i : Int) ≤ ↑s.size := by omega
    have c3 : (0 : Int) ≤ ↑i + 1 := by omega
    have c4 : (↑i + 1 : Int) ≤ ↑s.size := by omega
    go_enter Tryd.func67, Tryd.ntmps67
    go_wp2_with (go_at_call 86; refine (HC.out _).mono ?_; rintro e w' ⟨rfl, rfl⟩)
    go_region
    go_wp2
    go_ret3
    refine ⟨⟨true, ?_⟩, (Below.refl _ _).drew⟩
    rw [← HK.out, ← HK2.out]
    rfl

theorem cutb_any (s : ByteArray) (w : World) (hs : s.size ≤ 1000000000000) : Calls Tryd.prog 42 #[.string s, .string ⟨#[32]⟩] w fun e w' => (∃ v, e = .returned (.tuple #[.string (mkB (headL s.data.toList)), .string (mkB (tailL s.data.toList)), .bool v])) ∧ Below w.heap.size w w' := by
  go_enter Tryd.func42, Tryd.ntmps42
  go_wp2_with (go_at_call 67; refine (cutb_low _ _ hs).mono ?_; rintro e w' ⟨⟨v, rfl⟩, hb⟩)
  go_ret3
  exact ⟨⟨v, rfl⟩, hb⟩

theorem skip_len (l : List UInt8) : (skipL l).length ≤ l.length := (List.dropWhile_sublist _).length_le
theorem rest_len (l : List UInt8) : (restL l).length ≤ l.length := by
  refine Nat.le_trans ?_ (skip_len l)
  rw [restL, List.length_drop]
  exact Nat.le_trans (Nat.sub_le _ _) (List.dropWhile_sublist _).length_le
theorem word_len (l : List UInt8) : (wordL l).length ≤ l.length := Nat.le_trans (List.takeWhile_sublist _).length_le (skip_len l)

set_option maxRecDepth 100000 in
set_option maxHeartbeats 1000000 in
theorem next_any (s : ByteArray) (w : World) (hs : s.size ≤ 1000000000000) : Calls Tryd.prog 29 #[.string s] w fun e w' => e = .returned (.tuple #[.string (mkB (wordL s.data.toList)), .string (mkB (restL s.data.toList))]) ∧ Below w.heap.size w w' := by
  have HT := Lib.hid (fun w => trim_any s w hs)
  have HC := Lib.hid (fun w => cutb_any (mkB (skipL s.data.toList)) w (by rw [mkB_size]; have := skip_len s.data.toList; rw [data_len] at this; omega))
  rw [mkB_data] at HC
  change Hid (∀ w, Calls Tryd.prog 42 #[.string (mkB (skipL s.data.toList)), .string ⟨#[32]⟩] w fun e w' => (∃ v, e = .returned (.tuple #[.string (mkB (wordL s.data.toList)), .string (mkB (restL s.data.toList)), .bool v])) ∧ Below w.heap.size w w') at HC
  generalize mkB (skipL s.data.toList) = k at *
  generalize mkB (wordL s.data.toList) = a at *
  generalize mkB (restL s.data.toList) = b at *
  go_enter Tryd.func29, Tryd.ntmps29
  go_wp2_with fail
  refine (HT.out _).mono ?_
  rintro e w1 ⟨rfl, rfl⟩
  go_wp2_with fail
  refine (HC.out _).mono ?_
  rintro e w1 ⟨⟨v, rfl⟩, hb⟩
  go_wp2_with fail
  go_ret2
  exact ⟨rfl, hb⟩

end Go.Proofs.YtgfjkpfjajjidaaDoor
