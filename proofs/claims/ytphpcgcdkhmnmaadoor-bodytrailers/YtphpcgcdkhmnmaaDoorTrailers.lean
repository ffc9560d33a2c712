/- The walk of the law BodyTrailers. -/
import Derived.Test.YtphpcgcdkhmnmaaDoorChunks
namespace Go.Proofs.YtphpcgcdkhmnmaaDoor
open Go.RowKit Pl

/-- A line that may stand there. -/
def okLine (x : ByteArray) : Prop := x.data.toList ≠ [] ∧ Pl.Clean x.data.toList ∧ x.data.toList.length ≤ 100
def headT (s : ByteArray) : List UInt8 := chunksW 7 s.data.toList ++ [48, 13, 10]

theorem crlf_two : (⟨#[13, 10]⟩ : ByteArray).size = 2 := rfl
theorem trail_feed (s m X : ByteArray) (ls : List ByteArray) (hX : X.data.toList = headT s ++ linesT (ls.map fun x => x.data.toList)) (hok : ∀ x ∈ ls, okLine x) (hs : s.size ≤ 600) (hz : X.size + m.size ≤ 100000) (w : World) :
    Calls Tryd.prog 7 #[.int .i64 (-1), .string ((X ++ ⟨#[13, 10]⟩) ++ m)] w fun e w' => ∃ g, e = .returned (.tuple #[.pointer (some ⟨g, 0, none⟩), .int .i64 ((X.size : Int) + 2)]) ∧ BO w.heap.size w' g ⟨5, 0, 0, [], s.data.toList⟩ ∧ Below w.heap.size w w' := by
  have e := lawFeed_any (-1) ((X ++ ⟨#[13, 10]⟩) ++ m) w (by omega) (by rw [app_size, app_size]; have : (⟨#[13, 10]⟩ : ByteArray).size = 2 := rfl; omega)
  have h := trail_run 7 (by omega) (by omega) s.data.toList m.data.toList (by rw [len_size]; exact hs) (ls.map fun x => x.data.toList) (by
    intro x hx
    rw [List.mem_map] at hx
    obtain ⟨y, hy, rfl⟩ := hx
    exact hok y hy)
  have hd : ((X ++ ⟨#[13, 10]⟩) ++ m).data.toList = chunksW 7 s.data.toList ++ [48, 13, 10] ++ linesT (ls.map fun x => x.data.toList) ++ [13, 10] ++ m.data.toList := by
    rw [app_data, app_data, hX]
    rfl
  have hl : (chunksW 7 s.data.toList ++ [48, 13, 10] ++ linesT (ls.map fun (x : ByteArray) => x.data.toList)).length = X.size := by
    rw [← len_size, hX]
    rfl
  rw [hd, h, hl] at e
  exact e.mono fun _ _ ⟨g, he, ho, hb, _⟩ => ⟨g, by rw [he]; simp, ho, hb⟩

theorem take_okLine (ls : List ByteArray) (k : Nat) (h : k < ls.length) (hk : ∀ x ∈ ls.take k, okLine x) (hx : okLine (ls[k])) : ∀ x ∈ ls.take (k + 1), okLine x := by
  intro x hx2
  rw [List.take_succ_eq_append_getElem h, List.mem_append] at hx2
  rcases hx2 with h1 | h1
  · exact hk x h1
  · simp at h1; subst h1; exact hx
theorem take_lines (ls : List ByteArray) (k : Nat) (h : k < ls.length) (X B : ByteArray) (hX : X.data.toList = headT B ++ linesT ((ls.take k).map fun x => x.data.toList)) :
    (X ++ (ls[k] ++ ⟨#[13, 10]⟩)).data.toList = headT B ++ linesT ((ls.take (k + 1)).map fun x => x.data.toList) := by
  rw [app_data, app_data, hX, List.take_succ_eq_append_getElem h, List.map_append, List.map_cons, List.map_nil, linesT_snoc, List.append_assoc]
theorem clean_of (x : ByteArray) (j : Nat) (h : x.size ≤ j) (hc : ∀ i (hi : i < x.size), i < j → x[i] ≠ 13 ∧ x[i] ≠ 10) : Pl.Clean x.data.toList := by
  intro c hcm
  obtain ⟨i, hi, rfl⟩ := List.getElem_of_mem hcm
  have hi2 : i < x.size := by simpa using hi
  exact hc i hi2 (by omega)
theorem head_cut (s t : ByteArray) (ht : t.data.toList = chunksL 7 s.data.toList) (k : Nat) (hk : k + 2 = t.size) : (t.extract 0 k).data.toList = headT s := by
  rw [Lib.extract_data, List.drop_zero, ht]
  have e : chunksL 7 s.data.toList = headT s ++ [13, 10] := by unfold chunksL headT endT; simp
  have hl : (headT s).length = k := by
    have := congrArg List.length (ht.trans e)
    rw [len_size, List.length_append] at this
    simp at this
    omega
  rw [e, ← hl]
  simp

set_option maxRecDepth 100000 in
set_option maxHeartbeats 8000000 in
theorem trailers_walk (s : ByteArray) (ls : List ByteArray) (A : Option Addr) (c : Nat) (m : ByteArray) (w : World) (hr : Rd w w.heap.size 1 A ls.length (ls.map .string)) (ht : Tab w) : Calls Tryd.prog 4 #[.string s, .slice A ls.length c, .string m] w fun e w' => e = .returned (.bool true) ∧ Below w.heap.size w w' := by
  have hcase : s.size > 500 ∨ (s.size ≤ 500 ∧ ls.length > 10) ∨ (s.size ≤ 500 ∧ ls.length ≤ 10 ∧ m.size > 100) ∨ (s.size ≤ 500 ∧ ls.length ≤ 10 ∧ m.size ≤ 100) := by omega
  have hw := tab_lt ht
  have HW := Lib.hid hw
  have HT := Lib.hid ht
  clear ht hw
  rcases hcase with hs | ⟨hs, hl⟩ | ⟨hs, hl, hm⟩ | ⟨hs, hl, hm⟩
  · go_enter Tryd.func4, Tryd.ntmps4
    go_wp2_with (go_at_call 5; refine (fit_any _).mono ?_; rintro e w1 ⟨rfl, hb1⟩)
    go_ret
    exact ⟨rfl, hb1⟩
  · go_enter Tryd.func4, Tryd.ntmps4
    go_wp2_with (go_at_call 5; refine (fit_any _).mono ?_; rintro e w1 ⟨rfl, hb1⟩)
    go_ret
    exact ⟨rfl, hb1⟩
  · go_enter Tryd.func4, Tryd.ntmps4
    go_wp2_with (go_at_call 5; refine (fit_any _).mono ?_; rintro e w1 ⟨rfl, hb1⟩)
    go_ret
    exact ⟨rfl, hb1⟩
  · go_enter Tryd.func4, Tryd.ntmps4
    go_wp2_with fail
    refine (fit_any _).mono ?_
    rintro e w1 ⟨rfl, hb1⟩
    have HB1 := Lib.hid hb1
    clear hb1
    have HT1 : Hid (Tab w1) := Tab.below HT.out HB1.out HW.out
    have HC := Lib.hid (chunks_any s 7 7 (by omega) (by omega) (by omega) w1 HT1.out (Nat.lt_of_lt_of_le HW.out HB1.out.size))
    have hts := chunksW_len 7 (by omega) (by omega) s.data.toList.length s.data.toList (Nat.le_refl _)
    rw [len_size] at hts
    have hD : (⟨(chunksL 7 s.data.toList).toArray⟩ : ByteArray).data.toList = chunksL 7 s.data.toList := by simp
    have htz : (⟨(chunksL 7 s.data.toList).toArray⟩ : ByteArray).size ≤ 5000 ∧ 5 ≤ (⟨(chunksL 7 s.data.toList).toArray⟩ : ByteArray).size := by
      rw [← len_size, hD, chunksL, List.length_append]
      have : endT.length = 5 := rfl
      omega
    generalize (⟨(chunksL 7 s.data.toList).toArray⟩ : ByteArray) = t at *
    obtain ⟨q, hq⟩ : ∃ q, q + 2 = t.size := ⟨t.size - 2, by omega⟩
    have HHD := Lib.hid (head_cut s t hD q hq)
    have hq2 : (t.size : Int) - 2 = (q : Int) := by omega
    have hq3 : (q : Int) ≤ (t.size : Int) := by omega
    have hq4 : (0 : Int) ≤ (q : Int) := by omega
    have hqs : (t.extract 0 q).size ≤ 5000 := by simp; omega
    obtain ⟨htz1, htz2⟩ := htz
    clear hD hts hq
    go_wp2_with fail
    refine HC.out.mono ?_
    rintro e w2 ⟨rfl, hb2⟩
    have HB2 := Lib.hid (bt HB1.out hb2)
    clear hb2 HC
    go_wp2_with fail
    generalize t.extract 0 q = X0 at *
    have HR2 : Hid (Rd w2 w.heap.size 1 A ls.length (ls.map .string)) := hr.below HB2.out (Nat.le_refl _)
    clear hr hq2 hq3 hq4 htz1 htz2
    go_loopw [7, 37] (fun v i wr => ∃ (k : Nat) (X : ByteArray), k ≤ ls.length ∧ i = .int .i64 k ∧ v = .string X ∧ wr = w2 ∧ X.size ≤ 5000 + 102 * k ∧ Hid (X.data.toList = headT s ++ linesT ((ls.take k).map fun x => x.data.toList)) ∧ Hid (∀ x ∈ ls.take k, okLine x)) (fun _ i _ => ls.length - (intOf i).toNat)
    case atStart => exact ⟨0, X0, by omega, rfl, rfl, rfl, by omega, by show _ = _; rw [HHD.out]; simp [linesT], fun x hx => by simp at hx⟩
    case round =>
      obtain ⟨k, X, hk, rfl, rfl, hwr, hX, HX, HOK⟩ := hrel
      subst hwr
      by_cases hlt : k < ls.length
      · obtain ⟨a, rfl, hab, hc⟩ := HR2.out.at hlt (.string ls[k]) (by simp [hlt])
        have HL := Lib.hid (take_lines ls k hlt X s HX.out)
        have HO := Lib.hid (take_okLine ls k hlt HOK.out)
        generalize ls[k] = x at *
        by_cases he : x.data.toList = []
        · have he1 := str_empty x he
          clear he
          go_wp2_with fail
          go_ret
          exact ⟨rfl, HB2.out⟩
        · have he1 := str_nonempty x he
          have HNE := Lib.hid he
          clear he
          by_cases hx : x.size > 100
          · go_wp2_with fail
            go_ret
            exact ⟨rfl, HB2.out⟩
          · go_wp2_with fail
            go_loopw [50] (fun i wr' => ∃ j : Nat, j ≤ x.size ∧ i = .int .i64 j ∧ wr' = wr ∧ Hid (∀ i (hi : i < x.size), i < j → x[i] ≠ 13 ∧ x[i] ≠ 10)) (fun i _ => x.size - (intOf i).toNat)
            case atStart => exact ⟨0, by omega, rfl, rfl, fun i hi h => by omega⟩
            case round =>
              obtain ⟨j, hj, rfl, hwr2, HJ⟩ := hrel
              subst hwr2
              by_cases hjl : j < x.size
              · by_cases h13 : x[j]'hjl = 13
                · have ht13 := cr_true h13
                  have H13 := Lib.hid h13
                  clear h13
                  go_wp2_with fail
                  go_ret
                  exact ⟨rfl, HB2.out⟩
                · by_cases h10 : x[j]'hjl = 10
                  · have ht13 := cr_false h13
                    have ht10 := ten_true h10
                    have H13 := Lib.hid h13; have H10 := Lib.hid h10
                    clear h13 h10
                    go_wp2_with fail
                    go_ret
                    exact ⟨rfl, HB2.out⟩
                  · have ht13 := cr_false h13
                    have ht10 := ten_false h10
                    have HN : Hid (∀ i (hi : i < x.size), i < j + 1 → x[i] ≠ 13 ∧ x[i] ≠ 10) := fun i hi h => by
                      by_cases e : i = j
                      · subst e; exact ⟨h13, h10⟩
                      · exact HJ.out i hi (by omega)
                    clear h13 h10
                    go_wp2_with fail
                    go_roundw
                    case rel => exact ⟨j + 1, by omega, by go_num, by simp, HN⟩
                    case measure => simp [intOf]; omega
              · have HCL := Lib.hid (clean_of x j (by omega) HJ.out)
                have HOL : Hid (∀ y ∈ ls.take (k + 1), okLine y) := HO.out ⟨HNE.out, HCL.out, by rw [len_size]; omega⟩
                clear HJ HO
                go_wp2_with fail
                go_roundw
                case rel => exact ⟨k + 1, X ++ (x ++ ⟨#[13, 10]⟩), by omega, by go_num, rfl, by simp, by rw [app_size, app_size, crlf_two]; omega, HL, HOL⟩
                case measure => simp [intOf]; omega
      · obtain rfl : k = ls.length := by omega
        have hE : ls.take ls.length = ls := List.take_length
        have HX2 := HX.out
        have HOK2 := HOK.out
        rw [hE] at HX2 HOK2
        have HF := Lib.hid fun w => trail_feed s m X ls HX2 HOK2 (by omega) (by omega) w
        clear hE HX2 HOK2 HX HOK
        go_wp2_with fail
        refine (HF.out _).mono ?_
        rintro e w3 ⟨g, rfl, ho, hb3⟩
        have HD := Lib.hid (done_any ho); have HSS := Lib.hid (status_any ho); have HA := Lib.hid (data_any ho)
        have HB3 := Lib.hid (bt HB2.out hb3)
        clear ho hb3 HF
        go_wp2_with fail
        refine HD.out.mono ?_
        rintro e w4 ⟨rfl, rfl⟩
        go_wp2_with fail
        refine HSS.out.mono ?_
        rintro e w4 ⟨rfl, rfl⟩
        go_wp2_with fail
        refine HA.out.mono ?_
        rintro e w4 ⟨rfl, rfl⟩
        go_wp2_with fail
        go_ret
        exact ⟨rfl, HB3.out⟩

theorem trailers_row (s : ByteArray) (ls : List ByteArray) (A : Option Addr) (c : Nat) (m : ByteArray) (w : World) (_hs : s.size ≤ maxLen) (hr : Rd w w.heap.size 1 A ls.length (ls.map .string)) (_hl : ls.length ≤ c) (_hc : c ≤ maxLen) (_hq : ∀ s ∈ ls, s.size ≤ maxLen) (_hm : m.size ≤ maxLen) (ht : Tab w) : Calls Tryd.prog 4 #[.string s, .slice A ls.length c, .string m] w fun e w' => e = .returned (.bool true) ∧ Below w.heap.size w w' := trailers_walk s ls A c m w hr ht

end Go.Proofs.YtphpcgcdkhmnmaaDoor
