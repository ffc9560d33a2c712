/- The contract of path.turn. -/
import Derived.Test.YtghlmdpkchepgaaPtKind
import Derived.Test.YtghlmdpkchepgaaNumber
import Derived.Test.YtghlmdpkchepgaaBld
namespace Go.Proofs.Ytghlmdpkchepgaa
open Go.RowKit Pl Go.Shelf

theorem own_shape {w : World} {base : Nat} {v : Value} {n : Nat} {xs : List Value} (h : w.ownsRow base 9 1 v n xs) (hn : 0 < n) : ∃ g cap, v = .slice (some ⟨g, 0, none⟩) n cap ∧ base ≤ g ∧ g < w.heap.size ∧ n ≤ cap ∧ cap ≤ maxLen := by
  rcases h.2 with ⟨_, h0⟩ | ⟨g, cap, cur, hv, hb, hh, h1, h2, _⟩
  · omega
  · exact ⟨g, cap, hv, hb, blk_lt hh, h1, h2⟩

theorem own_below {w w' : World} {B : Nat} {e : TypeId} {k n : Nat} {v : Value} {xs : List Value} (h : w.ownsRow B e k v n xs) (hb : Below w.heap.size w w') : w'.ownsRow B e k v n xs := by
  refine ⟨h.1, ?_⟩
  rcases h.2 with hn | ⟨g, cap, cur, hv, hg, hh, r⟩
  · exact .inl hn
  · exact .inr ⟨g, cap, cur, hv, hg, (hb.block g (blk_lt hh)).trans hh, r⟩
theorem bld_below {B b : Nat} {bs : List Value} {w w' : World} (h : Lib.IsBuilder 51 5 B b bs w) (hb : Below w.heap.size w w') : Lib.IsBuilder 51 5 B b bs w' := by
  rcases h with ⟨h1, v, h2, h3, h4⟩ | ⟨h1, v, h2, h3, h4⟩
  · exact .inl ⟨h1, v, (hb.block b (blk_lt h2)).trans h2, own_below h3 hb, h4⟩
  · exact .inr ⟨h1, v, (hb.block b (blk_lt h2)).trans h2, own_below h3 hb, h4⟩


theorem un_at (ps : List (List UInt8)) (k : Nat) (h : k < ps.length) (acc : List UInt8) : (unL (ps.drop k)).map (acc ++ ·) = if ps[k].length < 2 then none else match numB 16 (ps[k].take 2) with
    | none => none
    | some n => (unL (ps.drop (k + 1))).map (((acc ++ [UInt8.ofNat n.toNat]) ++ ps[k].drop 2) ++ ·) := by
  rw [List.drop_eq_getElem_cons h, unL]
  split
  · rfl
  · cases numB 16 (ps[k].take 2) with
    | none => rfl
    | some n => cases unL (ps.drop (k + 1)) <;> simp
theorem num_pair {l : List UInt8} (h : 2 ≤ l.length) {n : Int} (hn : numB 16 (l.take 2) = some n) : 0 ≤ n ∧ n < 256 := by
  match l, h with
  | a :: b :: r, _ => exact num_two_lt (by simpa using hn)

theorem ret_str {a b : ByteArray} {c d : Bool} (h : a = b) (k : c = d) : Ending.returned (.tuple #[.string a, .bool c]) = .returned (.tuple #[.string b, .bool d]) := by rw [h, k]
theorem new_builder (w : World) : Lib.IsBuilder 51 5 w.heap.size w.heap.size (Lib.byteCells []) (w.alloc (.cells #[.pointer none, .slice none 0 0] 51)) :=
  Or.inl ⟨Nat.le_refl _, .slice none 0 0, heap_alloc_new w _, World.ownsRow_nil _ _ _ _, by simp [Value.ownBlock]⟩

set_option maxRecDepth 100000 in
set_option maxHeartbeats 4000000 in
theorem turn_any (s : ByteArray) (w : World) (hs : s.size ≤ 10000) : Calls Try.prog 23 #[.string s] w fun e w' => e = .returned (.tuple #[.string (mkB ((turnL s.data.toList).getD [])), .bool (turnL s.data.toList).isSome]) ∧ Below w.heap.size w w' := by
  have HW := Lib.hid (fun w => words_any s 37 w (by omega))
  have hsm := words_small 37 s.data.toList
  have hwm := words_many 37 s.data.toList
  rw [data_len] at hsm hwm
  obtain ⟨a, ps, hws⟩ := words_cons 37 s.data.toList
  have htu : turnL s.data.toList = (unL ps).map (a ++ ·) := by rw [turnL, hws]
  rw [hws] at HW hsm hwm
  have HT := Lib.hid htu
  have hsa : (mkB a).size ≤ s.size := by rw [mkB_size]; exact hsm a (by simp)
  have HSP : Hid (∀ p ∈ ps, p.length ≤ s.size) := fun p hp => hsm p (by simp [hp])
  have hpl : ps.length ≤ s.size := by simp at hwm; omega
  clear hws htu hsm hwm
  go_enter Try.func23, Try.ntmps23
  go_wp2_with fail
  refine (HW.out _).mono ?_
  rintro e w1 ⟨v, rfl, ho, hb1⟩
  obtain ⟨g, cap, rfl, hg0, hgl, hcl, hcm⟩ := own_shape ho (by simp)
  have hc0 := ho.cellAt 0 (by simp)
  simp only [List.map_cons, List.getElem?_cons_zero] at hc0
  rw [strV_mk] at hc0
  have HO := Lib.hid ho
  have HB1 := Lib.hid hb1
  have HN := Lib.hid (new_builder w1)
  have HBA := Lib.hid ((Below.refl w1.heap.size w1).alloc (Nat.le_refl _) (.cells #[.pointer none, .slice none 0 0] 51))
  have hcA : (w1.alloc (.cells #[.pointer none, .slice none 0 0] 51)).cell? ⟨g, 0, none⟩ = some (.string (mkB a)) := (HBA.out.cell (p := ⟨g, 0, none⟩) hgl).trans hc0
  clear ho hb1 hc0
  have hl1 : (a :: ps).length = ps.length + 1 := rfl
  rw [hl1] at hcl HO ⊢
  go_wp2_with fail
  refine (put_any w1.heap.size w1.heap.size [] (mkB a) _ HN.out (by simp; omega) (by simp)).mono ?_
  rintro e w2 ⟨rfl, hI2, hb2⟩
  rw [mkB_data, List.nil_append] at hI2
  have HB2 : Hid (Below w1.heap.size w1 w2) := HBA.out.trans hb2
  have HI2 := Lib.hid hI2
  clear hI2 hb2 hcA
  by_cases hc1 : cap = 1
  · have hp0 : ps.length = 0 := by omega
    have HP0 : Hid (ps = []) := List.length_eq_zero_iff.1 hp0
    go_wp2_with fail
    go_loopw [19] (fun i wr => i = .int .i64 0 ∧ wr = w2) (fun _ _ => 0)
    case atStart => exact ⟨rfl, rfl⟩
    case round =>
      obtain ⟨rfl, rfl⟩ := hrel
      have HE : Hid (turnL s.data.toList = some a) := by
        have := HT.out
        rw [HP0.out] at this
        show _ = _
        rw [this]; simp [unL]
      go_wp2_with fail
      refine (str_any w1.heap.size w1.heap.size a _ HI2.out HB2.out.size).mono ?_
      rintro e w6 ⟨rfl, hb6⟩
      go_wp2_with fail
      go_ret2
      exact ⟨ret_str (by rw [HE.out]; rfl) (by rw [HE.out]; rfl), bt HB1.out (HB2.out.trans hb6)⟩
  · have hcr : ∀ k (h : k < ps.length), w1.cell? ⟨g, k + 1, none⟩ = some (.string (mkB ps[k])) := fun k h => by
      rw [HO.out.cellAt (k + 1) (by omega)]
      simp [h, strV_mk]
    have HCR := Lib.hid hcr
    clear hcr
    go_wp2_with fail
    go_loopw [19] (fun i wr => ∃ (k : Nat) (acc : List UInt8), k ≤ ps.length ∧ i = .int .i64 k ∧ acc.length ≤ 10001 * (k + 1) ∧ Hid (Lib.IsBuilder 51 5 w1.heap.size w1.heap.size (Lib.byteCells acc) wr) ∧ Hid (Below w1.heap.size w1 wr) ∧ Hid (turnL s.data.toList = (unL (ps.drop k)).map (acc ++ ·))) (fun i _ => ps.length - (intOf i).toNat)
    case atStart => exact ⟨0, a, by omega, rfl, by rw [mkB_size] at hsa; omega, HI2, HB2, HT⟩
    case round =>
      obtain ⟨k, acc, hk, rfl, hal, HI, HB, HV⟩ := hrel
      by_cases hlt : k < ps.length
      · have hc : wr.cell? ⟨g, 1 + k, none⟩ = some (.string (mkB ps[k])) := by
          rw [Nat.add_comm 1 k]; exact (HB.out.cell (p := ⟨g, k + 1, none⟩) hgl).trans (HCR.out k hlt)
        have hst := un_at ps k hlt acc
        rw [← HV.out] at hst
        have hps : (mkB ps[k]).size ≤ s.size := by rw [mkB_size]; exact HSP.out _ (List.getElem_mem hlt)
        have e2 : ((mkB ps[k]).extract 0 2).data.toList = ps[k].take 2 := by rw [ext_data, mkB_data]; simp
        have HNU := Lib.hid (fun w => num16_any ((mkB ps[k]).extract 0 2) w)
        rw [e2] at HNU
        clear e2
        have hln : ps[k].length = (mkB ps[k]).size := (mkB_size _).symm
        rw [hln] at hst
        by_cases h2 : (mkB ps[k]).size < 2
        · rw [if_pos h2] at hst
          have HS := Lib.hid hst
          clear hst HNU hln
          generalize mkB ps[k] = p at *
          go_wp2_with fail
          go_ret2
          exact ⟨ret_str (by rw [HS.out]; rfl) (by rw [HS.out]; rfl), bt HB1.out HB.out⟩
        · rw [if_neg h2] at hst
          cases hn : numB 16 (ps[k].take 2) with
          | none =>
            rw [hn] at hst HNU
            have HS := Lib.hid hst
            clear hst hln
            generalize mkB ps[k] = p at *
            go_wp2_with fail
            refine (HNU.out _).mono ?_
            rintro e w3 ⟨rfl, hb3⟩
            go_wp2_with fail
            go_ret2
            exact ⟨ret_str (by rw [HS.out]; rfl) (by rw [HS.out]; rfl), bt HB1.out (HB.out.trans (hb3.mono HB.out.size))⟩
          | some n =>
            rw [hn] at hst HNU
            obtain ⟨hn0, hn1⟩ := num_pair (by omega) hn
            have hd2 : ((mkB ps[k]).extract 2 (mkB ps[k]).size).data.toList = ps[k].drop 2 := by
              rw [ext_data, mkB_data, List.take_of_length_le (by rw [mkB_size]; simp)]
            simp only at hst
            rw [← hd2] at hst
            obtain ⟨c, hcn⟩ : ∃ c : UInt8, (c.toNat : Int) = n := ⟨UInt8.ofNat n.toNat, by simp; omega⟩
            have hcu : UInt8.ofNat n.toNat = c := by rw [← hcn]; simp
            rw [hcu] at hst
            clear hn hd2 hln hcu
            subst hcn
            have hqs : ((mkB ps[k]).extract 2 (mkB ps[k]).size).size ≤ s.size := by rw [← data_len, ext_data, mkB_data]; rw [mkB_size] at hps; simp; omega
            have HS := Lib.hid hst
            clear hst
            generalize mkB ps[k] = p at *
            go_wp2_with fail
            refine (HNU.out _).mono ?_
            rintro e w3 ⟨rfl, hb3⟩
            have HB3 : Hid (Below w1.heap.size w1 w3) := HB.out.trans (hb3.mono HB.out.size)
            have HI3 := Lib.hid (bld_below HI.out hb3)
            clear hb3
            go_wp2_with fail
            refine (putb_any w1.heap.size w1.heap.size acc c w3 HI3.out (by omega) HB3.out.size).mono ?_
            rintro e w4 ⟨rfl, hI4, hb4⟩
            have HB4 : Hid (Below w1.heap.size w1 w4) := HB3.out.trans hb4
            have HI4 := Lib.hid hI4
            clear hb4 hI4
            go_wp2_with fail
            generalize p.extract 2 p.size = q at *
            refine (put_any w1.heap.size w1.heap.size (acc ++ [c]) q w4 HI4.out (by simp; omega) HB4.out.size).mono ?_
            rintro e w5 ⟨rfl, hI5, hb5⟩
            have HB5 : Hid (Below w1.heap.size w1 w5) := HB4.out.trans hb5
            have HI5 := Lib.hid hI5
            clear hb5 hI5
            go_wp2_with fail
            go_roundw
            case rel => exact ⟨k + 1, (acc ++ [c]) ++ q.data.toList, by omega, by go_num, by simp only [List.length_append, data_len, List.length_singleton]; omega, HI5, HB5, HS⟩
            case measure => simp [intOf]; omega
      · have HE : Hid (turnL s.data.toList = some acc) := by
          have := HV.out
          rw [List.drop_of_length_le (by omega)] at this
          show _ = _
          rw [this]; simp [unL]
        go_wp2_with fail
        refine (str_any w1.heap.size w1.heap.size acc wr HI.out HB.out.size).mono ?_
        rintro e w6 ⟨rfl, hb6⟩
        go_wp2_with fail
        go_ret2
        exact ⟨ret_str (by rw [HE.out]; rfl) (by rw [HE.out]; rfl), bt HB1.out (HB.out.trans hb6)⟩

end Go.Proofs.Ytghlmdpkchepgaa
