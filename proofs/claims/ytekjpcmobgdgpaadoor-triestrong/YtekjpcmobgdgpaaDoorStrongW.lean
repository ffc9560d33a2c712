/- The walk of TrieStrong. -/
import Derived.Test.YtekjpcmobgdgpaaDoorStrongP
import Derived.Deep.RegionHeld3
import Derived.BigQuiet
import Derived.Deep.DrawnRows
namespace Go.Proofs.YtekjpcmobgdgpaaDoor
open Go.RowKit Pl

theorem i64_and7 (n : Int) : bits .and .i64 n 7 = n % 8 := by
  have h : (BitVec.ofInt 64 7).toNat = 2 ^ 3 - 1 := by decide
  have key : (BitVec.ofInt 64 n &&& BitVec.ofInt 64 7).toNat = (n % ((2 ^ 64 : Nat) : Int)).toNat % 2 ^ 3 := by
    rw [BitVec.toNat_and, BitVec.toNat_ofInt, h, Nat.and_two_pow_sub_one_eq_mod]
  show IntKind.i64.wrap ((BitVec.ofInt 64 n &&& BitVec.ofInt 64 7).toNat : Nat) = n % 8
  rw [key, IntKind.wrap_i64]
  omega

theorem sq2 : ∀ w : Fin 8, (bits .and .i64 (w.1 : Int) 2 == 2) = decide (w.1 / 2 % 2 = 1) := by decide +kernel
theorem sq4 : ∀ w : Fin 8, (bits .and .i64 (w.1 : Int) 4 == 4) = decide (w.1 / 4 % 2 = 1) := by decide +kernel
theorem sq1 : ∀ w : Fin 8, (bits .and .i64 (w.1 : Int) 1 = 1) ↔ (w.1 % 2 = 1) := by decide +kernel
theorem sqe (s : ByteArray) : (s.toList == [101, 110, 100]) = decide (s.data.toList = endB) := by
  rw [Lib.toList_data]
  exact Bool.beq_eq_decide_eq _ _
theorem sqt (s : ByteArray) (l : List UInt8) (h : s = mkB l) : (s.toList == l) = true := by
  rw [h, Lib.toList_data]; simp [mkB]
section
variable (W : Nat) (hW : W < 8) (s ta : ByteArray) (ht : ta = mkB (stWant W s.data.toList))
include hW ht
theorem sw1 (h1 : bits .and .i64 (W : Int) 1 = 1) (he : (s.toList == [101, 110, 100]) = true) : (ta.toList == [103, 101, 116]) = true := by
  have h1 := (sq1 ⟨W, hW⟩).1 h1
  rw [sqe, decide_eq_true_eq] at he
  refine sqt _ _ (ht.trans ?_)
  rw [stWant, if_pos ⟨h1, he⟩]
theorem sw2 (he : (s.toList == [101, 110, 100]) = false) (h2 : (bits .and .i64 (W : Int) 2 == 2) = true) : (ta.toList == [112, 117, 116]) = true := by
  rw [sqe, decide_eq_false_iff_not] at he
  rw [sq2 ⟨W, hW⟩, decide_eq_true_eq] at h2
  refine sqt _ _ (ht.trans ?_)
  rw [stWant, if_neg (fun h => he h.2), if_pos h2]
theorem sw5 (h1 : ¬ bits .and .i64 (W : Int) 1 = 1) (h2 : (bits .and .i64 (W : Int) 2 == 2) = true) : (ta.toList == [112, 117, 116]) = true := by
  have h1 := fun h => h1 ((sq1 ⟨W, hW⟩).2 h)
  rw [sq2 ⟨W, hW⟩, decide_eq_true_eq] at h2
  refine sqt _ _ (ht.trans ?_)
  rw [stWant, if_neg (fun h => h1 h.1), if_pos h2]
theorem sw3 (he : (s.toList == [101, 110, 100]) = false) (h2 : (bits .and .i64 (W : Int) 2 == 2) = false) (h4 : (bits .and .i64 (W : Int) 4 == 4) = true) : (ta.toList == [108, 105, 115, 116]) = true := by
  rw [sqe, decide_eq_false_iff_not] at he
  rw [sq2 ⟨W, hW⟩, decide_eq_false_iff_not] at h2
  rw [sq4 ⟨W, hW⟩, decide_eq_true_eq] at h4
  refine sqt _ _ (ht.trans ?_)
  rw [stWant, if_neg (fun h => he h.2), if_neg h2, if_pos h4]
theorem sw6 (h1 : ¬ bits .and .i64 (W : Int) 1 = 1) (h2 : (bits .and .i64 (W : Int) 2 == 2) = false) (h4 : (bits .and .i64 (W : Int) 4 == 4) = true) : (ta.toList == [108, 105, 115, 116]) = true := by
  have h1 := fun h => h1 ((sq1 ⟨W, hW⟩).2 h)
  rw [sq2 ⟨W, hW⟩, decide_eq_false_iff_not] at h2
  rw [sq4 ⟨W, hW⟩, decide_eq_true_eq] at h4
  refine sqt _ _ (ht.trans ?_)
  rw [stWant, if_neg (fun h => h1 h.1), if_neg h2, if_pos h4]
theorem sw4 (he : (s.toList == [101, 110, 100]) = false) (h2 : (bits .and .i64 (W : Int) 2 == 2) = false) (h4 : (bits .and .i64 (W : Int) 4 == 4) = false) : (ta.toList == [104, 101, 97, 108, 116, 104]) = true := by
  rw [sqe, decide_eq_false_iff_not] at he
  rw [sq2 ⟨W, hW⟩, decide_eq_false_iff_not] at h2
  rw [sq4 ⟨W, hW⟩, decide_eq_false_iff_not] at h4
  refine sqt _ _ (ht.trans ?_)
  rw [stWant, if_neg (fun h => he h.2), if_neg h2, if_neg h4, if_neg he]
theorem sw7 (h1 : ¬ bits .and .i64 (W : Int) 1 = 1) (h2 : (bits .and .i64 (W : Int) 2 == 2) = false) (h4 : (bits .and .i64 (W : Int) 4 == 4) = false) (he : (s.toList == [101, 110, 100]) = true) : (ta.toList == [119, 97, 108, 107]) = true := by
  have h1 := fun h => h1 ((sq1 ⟨W, hW⟩).2 h)
  rw [sqe, decide_eq_true_eq] at he
  rw [sq2 ⟨W, hW⟩, decide_eq_false_iff_not] at h2
  rw [sq4 ⟨W, hW⟩, decide_eq_false_iff_not] at h4
  refine sqt _ _ (ht.trans ?_)
  rw [stWant, if_neg (fun h => h1 h.1), if_neg h2, if_neg h4, if_pos he]
end

theorem st_bit (m : Nat) : (bits .and .i64 (m : Int) 1 == 1) = decide (m % 2 = 1) := by
  have h : (BitVec.ofInt 64 1).toNat = 2 ^ 1 - 1 := by decide
  have key : (BitVec.ofInt 64 (m : Int) &&& BitVec.ofInt 64 1).toNat = ((m : Int) % ((2 ^ 64 : Nat) : Int)).toNat % 2 ^ 1 := by
    rw [BitVec.toNat_and, BitVec.toNat_ofInt, h, Nat.and_two_pow_sub_one_eq_mod]
  have e : bits .and .i64 (m : Int) 1 = ((m % 2 : Nat) : Int) := by
    show IntKind.i64.wrap ((BitVec.ofInt 64 (m : Int) &&& BitVec.ofInt 64 1).toNat : Nat) = _
    rw [key, IntKind.wrap_i64]
    omega
  rw [e, Bool.eq_iff_iff]
  simp
  omega
theorem st_bit0 (W : Nat) : (bits .and .i64 (W : Int) 1 == 1) = stOn W 0 := by rw [st_bit]; simp [stOn]
theorem st_bit1 (W : Nat) : (bits .and .i64 ((W : Int) / 2) 1 == 1) = stOn W 1 := by rw [show ((W : Int) / 2) = ((W / 2 : Nat) : Int) from rfl, st_bit]; simp [stOn]
theorem st_bit2 (W : Nat) : (bits .and .i64 ((W : Int) / 4) 1 == 1) = stOn W 2 := by rw [show ((W : Int) / 4) = ((W / 4 : Nat) : Int) from rfl, st_bit]; simp [stOn]

set_option maxRecDepth 100000 in
set_option maxHeartbeats 8000000 in
theorem strong_go (n : Int) (W : Nat) (hn : n % 8 = (W : Int)) (hW : W < 8) (s : ByteArray) (hs0 : s.data.toList ≠ []) (hs : s.size ≤ 60) (w : World) (hw : HB w) :
    Calls Tryd.prog 6 #[.int .i64 n, .string s] w fun e w' => e = .returned (.bool true) ∧ Below w.heap.size w w' := by
  have HF := Lib.hid (fit_any w hw)
  have hand := i64_and7 n
  obtain ⟨i0, hi, hz0, hz1, hz2⟩ := info_parts Tryd.info41
  have HZ := Lib.hid (And.intro hz0 (And.intro hz1 hz2))
  clear hz0 hz1 hz2
  have hse := str_nonempty s hs0
  have hs60 : ¬ (60 : Int) < (s.size : Int) := by omega
  clear hw
  go_enter Tryd.func6, Tryd.ntmps6
  go_wp2_with fail
  refine HF.out.mono ?_
  rintro e w1 ⟨rfl, hb1⟩
  have HB1 := Lib.hid hb1
  clear hb1
  go_wp2_with fail
  have hN := rd_new w1 #[.string ⟨#[47, 119, 47, 101, 110, 100]⟩, .string ⟨#[47, 119, 47, 58, 120]⟩, .string ⟨#[47, 119, 47, 42, 121]⟩, .string ⟨#[47, 58, 97, 47, 101, 110, 100]⟩, .string ⟨#[47, 42, 122]⟩] 9 1 5 rfl
  have ha1 := (Below.refl w1.heap.size w1).alloc (Nat.le_refl _) (.cells #[.string ⟨#[47, 119, 47, 101, 110, 100]⟩, .string ⟨#[47, 119, 47, 58, 120]⟩, .string ⟨#[47, 119, 47, 42, 121]⟩, .string ⟨#[47, 58, 97, 47, 101, 110, 100]⟩, .string ⟨#[47, 42, 122]⟩] 9)
  generalize hw2 : w1.alloc (.cells #[.string ⟨#[47, 119, 47, 101, 110, 100]⟩, .string ⟨#[47, 119, 47, 58, 120]⟩, .string ⟨#[47, 119, 47, 42, 121]⟩, .string ⟨#[47, 58, 97, 47, 101, 110, 100]⟩, .string ⟨#[47, 42, 122]⟩] 9) = w2 at *
  have hH := rd_new w2 #[.string ⟨#[103, 101, 116]⟩, .string ⟨#[112, 117, 116]⟩, .string ⟨#[108, 105, 115, 116]⟩, .string ⟨#[119, 97, 108, 107]⟩, .string ⟨#[104, 101, 97, 108, 116, 104]⟩] 9 1 5 rfl
  have ha2 := (Below.refl w2.heap.size w2).alloc (Nat.le_refl _) (.cells #[.string ⟨#[103, 101, 116]⟩, .string ⟨#[112, 117, 116]⟩, .string ⟨#[108, 105, 115, 116]⟩, .string ⟨#[119, 97, 108, 107]⟩, .string ⟨#[104, 101, 97, 108, 116, 104]⟩] 9)
  have hN2 := (hN.below ha2 (Nat.le_refl _)).wide ha2.size
  generalize hw3 : w2.alloc (.cells #[.string ⟨#[103, 101, 116]⟩, .string ⟨#[112, 117, 116]⟩, .string ⟨#[108, 105, 115, 116]⟩, .string ⟨#[119, 97, 108, 107]⟩, .string ⟨#[104, 101, 97, 108, 116, 104]⟩] 9) = w3 at *
  have e2 : w2.heap.size = w1.heap.size + 1 := by rw [← hw2]; simp
  have hg2 : w2.heap.size < w3.heap.size := by rw [← hw3]; simp
  rw [e2] at hH hg2
  have HB3 := Lib.hid (bt HB1.out (bt ha1 ha2))
  generalize w1.heap.size = g1 at *
  have HN := Lib.hid hN2
  have HH := Lib.hid hH
  clear hN hN2 hH hw2 hw3 ha1 ha2 e2
  go_loopw [7, 26] (fun l i wr => ∃ (k : Nat), k ≤ 5 ∧ i = .int .i64 k ∧ Hid (wr.ownsRow w3.heap.size 41 3 l (stL W k).length (rtCells (stL W k))) ∧ Hid (Below w3.heap.size w3 wr)) (fun _ i _ => 5 - (intOf i).toNat)
  case atStart => exact ⟨0, by omega, rfl, World.ownsRow_nil _ _ _ _, Below.refl _ _⟩
  case round =>
    obtain ⟨k, hk, rfl, HO, HB⟩ := hrel
    by_cases hlt : k < 5
    · have hk5 : k = 0 ∨ k = 1 ∨ k = 2 ∨ k = 3 ∨ k = 4 := by omega
      rcases hk5 with rfl | rfl | rfl | rfl | rfl
      · have hq := st_bit0 W
        cases hT : stOn W 0 with
        | true =>
          rw [hT] at hq
          have HT := Lib.hid hT
          clear hT
          have HCS : Hid (∀ wx, Below w3.heap.size w3 wx → wx.cell? ⟨g1, 0, none⟩ = some (.string ⟨#[47, 119, 47, 101, 110, 100]⟩) ∧ wx.cell? ⟨g1 + 1, 0, none⟩ = some (.string ⟨#[103, 101, 116]⟩)) := fun wx h => by
            obtain ⟨a1, q1, _, h1⟩ := (HN.out.below h (Nat.le_refl _)).2 (by decide)
            obtain ⟨a2, q2, _, h2⟩ := (HH.out.below h (Nat.le_refl _)).2 (by decide)
            cases q1; cases q2
            refine ⟨?_, ?_⟩
            · have := h1 0 _ rfl; rwa [add_zero_own] at this
            · have := h2 0 _ rfl; rwa [add_zero_own] at this
          have HNW : Hid (∀ (wx : World) j u, [Value.string ⟨#[71, 69, 84]⟩, .string ⟨#[47, 119, 47, 101, 110, 100]⟩, .string ⟨#[103, 101, 116]⟩][j]? = some u → (wx.alloc (.cells #[.string ⟨#[71, 69, 84]⟩, .string ⟨#[47, 119, 47, 101, 110, 100]⟩, .string ⟨#[103, 101, 116]⟩] 41)).cell? ((⟨wx.heap.size, 0, none⟩ : Addr).add j) = some u) := fun wx j u hu => by
            rw [add_zero_own]
            exact (new_cell4 wx #[.string ⟨#[71, 69, 84]⟩, .string ⟨#[47, 119, 47, 101, 110, 100]⟩, .string ⟨#[103, 101, 116]⟩] 41 j).trans (by simpa using hu)
          have HSC : Hid (rtCells (stL W 1) = rtCells (stL W 0) ++ [.string ⟨#[71, 69, 84]⟩, .string ⟨#[47, 119, 47, 101, 110, 100]⟩, .string ⟨#[103, 101, 116]⟩]) := by
            show _ = _
            rw [stL_succ, HT.out, if_pos rfl, rt_app]; rfl
          have HSL : Hid ((stL W 1).length = (stL W 0).length + 1) := by
            show _ = _
            rw [stL_succ, HT.out, if_pos rfl]; simp
          have HOC : Hid (∀ u ∈ [Value.string ⟨#[71, 69, 84]⟩, .string ⟨#[47, 119, 47, 101, 110, 100]⟩, .string ⟨#[103, 101, 116]⟩], u.oneCell' = true) := fun u hu => by
            simp only [List.mem_cons, List.not_mem_nil, or_false] at hu
            rcases hu with rfl | rfl | rfl <;> rfl
          have hfew := stL_few W 0
          have H63 : Hid ((stL W 0).length + 1 ≤ maxLen) := by show _ ≤ _; unfold maxLen; omega
          have HBY : Hid (((stL W 0).length + 1) * 48 ≤ 140737488355328) := by show _ ≤ _; omega
          have HBS : Hid (w3.heap.size ≤ wr.heap.size) := HB.out.size
          have hAL := (Below.refl wr.heap.size wr).drew.alloc (Nat.le_refl _) (.cells #[.string ⟨#[71, 69, 84]⟩, .string ⟨#[47, 119, 47, 101, 110, 100]⟩, .string ⟨#[103, 101, 116]⟩] 41)
          have hO2 := own_below HO.out hAL
          generalize hX : rtCells (stL W 0) = X at *
          generalize hM : (stL W 0).length = M at *
          have HX := Lib.hid hX
          have HM := Lib.hid hM
          clear hX hM hfew HT
          go_wp2_with fail
          go_region_held3 (fun Y => Y.cell? ⟨g1, 0, none⟩ = some (.string ⟨#[47, 119, 47, 101, 110, 100]⟩) ∧ Y.cell? ⟨g1 + 1, 0, none⟩ = some (.string ⟨#[103, 101, 116]⟩)) (first | (exact HCS.out _ (HB.out.trans hb6)) | (exact HCS.out _ (HB.out.trans (hAL.mono HBS.out))) | (exact HCS.out _ HB.out.drew)) ((first
            | (refine step_append_lies _ (by rfl) (.tmp 38) (.tmp 48) 22 (by rfl) w3.heap.size 41 i0 (.agg #[.string ⟨#[]⟩, .string ⟨#[]⟩, .string ⟨#[]⟩]) 3 48 Tryd.underlying22 hi HZ.out.1 HZ.out.2.1 HZ.out.2.2 rfl (by decide) u7 M X (by rfl) hO2 ⟨wr.heap.size, 0, none⟩ 1 1 [.string ⟨#[71, 69, 84]⟩, .string ⟨#[47, 119, 47, 101, 110, 100]⟩, .string ⟨#[103, 101, 116]⟩] (by rfl) rfl (HNW.out wr.drew) HOC.out (by decide) H63.out HBY.out (by simp; have := HBS.out; omega) _ rfl ?_
               intro g6 c6 w6 hown6 hgr6 hat6 hlt6
               have hb6 : Below w3.heap.size wr w6 := (hAL.mono HBS.out).trans ((Below.refl _ _).grown hgr6 (by simp; have := HBS.out; omega) (fun k hk => (hO2.lt k hk).1))
               clear hat6 hgr6)))
          have HB6 : Hid (Below w3.heap.size w3 w6) := HB.out.trans hb6
          have HO6 : Hid (w6.ownsRow w3.heap.size 41 3 (.slice (some ⟨g6, 0, none⟩) (M + 1) c6) (stL W 1).length (rtCells (stL W 1))) := by
            show World.ownsRow _ _ _ _ _ _ _
            rw [HSL.out, HSC.out]; exact hown6
          clear hown6 hO2 hb6 hAL
          go_wp2_with fail
          go_roundw
          case rel => exact ⟨1, by omega, by rfl, HO6, HB6⟩
          case measure => simp [intOf]
        | false =>
          rw [hT] at hq
          have HT := Lib.hid hT
          clear hT
          have HSE : Hid (stL W 1 = stL W 0) := by
            show _ = _
            rw [stL_succ, HT.out]; simp
          rw [← HSE.out] at HO
          clear HSE HT
          go_wp2_with fail
          go_roundw
          case rel => exact ⟨1, by omega, by rfl, HO, HB⟩
          case measure => simp [intOf]
      · have hq := st_bit1 W
        cases hT : stOn W 1 with
        | true =>
          rw [hT] at hq
          have HT := Lib.hid hT
          clear hT
          have HCS : Hid (∀ wx, Below w3.heap.size w3 wx → wx.cell? ⟨g1, 1, none⟩ = some (.string ⟨#[47, 119, 47, 58, 120]⟩) ∧ wx.cell? ⟨g1 + 1, 1, none⟩ = some (.string ⟨#[112, 117, 116]⟩)) := fun wx h => by
            obtain ⟨a1, q1, _, h1⟩ := (HN.out.below h (Nat.le_refl _)).2 (by decide)
            obtain ⟨a2, q2, _, h2⟩ := (HH.out.below h (Nat.le_refl _)).2 (by decide)
            cases q1; cases q2
            refine ⟨?_, ?_⟩
            · have := h1 1 _ rfl; rwa [add_zero_own] at this
            · have := h2 1 _ rfl; rwa [add_zero_own] at this
          have HNW : Hid (∀ (wx : World) j u, [Value.string ⟨#[71, 69, 84]⟩, .string ⟨#[47, 119, 47, 58, 120]⟩, .string ⟨#[112, 117, 116]⟩][j]? = some u → (wx.alloc (.cells #[.string ⟨#[71, 69, 84]⟩, .string ⟨#[47, 119, 47, 58, 120]⟩, .string ⟨#[112, 117, 116]⟩] 41)).cell? ((⟨wx.heap.size, 0, none⟩ : Addr).add j) = some u) := fun wx j u hu => by
            rw [add_zero_own]
            exact (new_cell4 wx #[.string ⟨#[71, 69, 84]⟩, .string ⟨#[47, 119, 47, 58, 120]⟩, .string ⟨#[112, 117, 116]⟩] 41 j).trans (by simpa using hu)
          have HSC : Hid (rtCells (stL W 2) = rtCells (stL W 1) ++ [.string ⟨#[71, 69, 84]⟩, .string ⟨#[47, 119, 47, 58, 120]⟩, .string ⟨#[112, 117, 116]⟩]) := by
            show _ = _
            rw [stL_succ, HT.out, if_pos rfl, rt_app]; rfl
          have HSL : Hid ((stL W 2).length = (stL W 1).length + 1) := by
            show _ = _
            rw [stL_succ, HT.out, if_pos rfl]; simp
          have HOC : Hid (∀ u ∈ [Value.string ⟨#[71, 69, 84]⟩, .string ⟨#[47, 119, 47, 58, 120]⟩, .string ⟨#[112, 117, 116]⟩], u.oneCell' = true) := fun u hu => by
            simp only [List.mem_cons, List.not_mem_nil, or_false] at hu
            rcases hu with rfl | rfl | rfl <;> rfl
          have hfew := stL_few W 1
          have H63 : Hid ((stL W 1).length + 1 ≤ maxLen) := by show _ ≤ _; unfold maxLen; omega
          have HBY : Hid (((stL W 1).length + 1) * 48 ≤ 140737488355328) := by show _ ≤ _; omega
          have HBS : Hid (w3.heap.size ≤ wr.heap.size) := HB.out.size
          have hAL := (Below.refl wr.heap.size wr).drew.alloc (Nat.le_refl _) (.cells #[.string ⟨#[71, 69, 84]⟩, .string ⟨#[47, 119, 47, 58, 120]⟩, .string ⟨#[112, 117, 116]⟩] 41)
          have hO2 := own_below HO.out hAL
          generalize hX : rtCells (stL W 1) = X at *
          generalize hM : (stL W 1).length = M at *
          have HX := Lib.hid hX
          have HM := Lib.hid hM
          clear hX hM hfew HT
          go_wp2_with fail
          go_region_held3 (fun Y => Y.cell? ⟨g1, 1, none⟩ = some (.string ⟨#[47, 119, 47, 58, 120]⟩) ∧ Y.cell? ⟨g1 + 1, 1, none⟩ = some (.string ⟨#[112, 117, 116]⟩)) (first | (exact HCS.out _ (HB.out.trans hb6)) | (exact HCS.out _ (HB.out.trans (hAL.mono HBS.out))) | (exact HCS.out _ HB.out.drew)) ((first
            | (refine step_append_lies _ (by rfl) (.tmp 38) (.tmp 48) 22 (by rfl) w3.heap.size 41 i0 (.agg #[.string ⟨#[]⟩, .string ⟨#[]⟩, .string ⟨#[]⟩]) 3 48 Tryd.underlying22 hi HZ.out.1 HZ.out.2.1 HZ.out.2.2 rfl (by decide) u7 M X (by rfl) hO2 ⟨wr.heap.size, 0, none⟩ 1 1 [.string ⟨#[71, 69, 84]⟩, .string ⟨#[47, 119, 47, 58, 120]⟩, .string ⟨#[112, 117, 116]⟩] (by rfl) rfl (HNW.out wr.drew) HOC.out (by decide) H63.out HBY.out (by simp; have := HBS.out; omega) _ rfl ?_
               intro g6 c6 w6 hown6 hgr6 hat6 hlt6
               have hb6 : Below w3.heap.size wr w6 := (hAL.mono HBS.out).trans ((Below.refl _ _).grown hgr6 (by simp; have := HBS.out; omega) (fun k hk => (hO2.lt k hk).1))
               clear hat6 hgr6)))
          have HB6 : Hid (Below w3.heap.size w3 w6) := HB.out.trans hb6
          have HO6 : Hid (w6.ownsRow w3.heap.size 41 3 (.slice (some ⟨g6, 0, none⟩) (M + 1) c6) (stL W 2).length (rtCells (stL W 2))) := by
            show World.ownsRow _ _ _ _ _ _ _
            rw [HSL.out, HSC.out]; exact hown6
          clear hown6 hO2 hb6 hAL
          go_wp2_with fail
          go_roundw
          case rel => exact ⟨2, by omega, by rfl, HO6, HB6⟩
          case measure => simp [intOf]
        | false =>
          rw [hT] at hq
          have HT := Lib.hid hT
          clear hT
          have HSE : Hid (stL W 2 = stL W 1) := by
            show _ = _
            rw [stL_succ, HT.out]; simp
          rw [← HSE.out] at HO
          clear HSE HT
          go_wp2_with fail
          go_roundw
          case rel => exact ⟨2, by omega, by rfl, HO, HB⟩
          case measure => simp [intOf]
      · have hq := st_bit2 W
        cases hT : stOn W 2 with
        | true =>
          rw [hT] at hq
          have HT := Lib.hid hT
          clear hT
          have HCS : Hid (∀ wx, Below w3.heap.size w3 wx → wx.cell? ⟨g1, 2, none⟩ = some (.string ⟨#[47, 119, 47, 42, 121]⟩) ∧ wx.cell? ⟨g1 + 1, 2, none⟩ = some (.string ⟨#[108, 105, 115, 116]⟩)) := fun wx h => by
            obtain ⟨a1, q1, _, h1⟩ := (HN.out.below h (Nat.le_refl _)).2 (by decide)
            obtain ⟨a2, q2, _, h2⟩ := (HH.out.below h (Nat.le_refl _)).2 (by decide)
            cases q1; cases q2
            refine ⟨?_, ?_⟩
            · have := h1 2 _ rfl; rwa [add_zero_own] at this
            · have := h2 2 _ rfl; rwa [add_zero_own] at this
          have HNW : Hid (∀ (wx : World) j u, [Value.string ⟨#[71, 69, 84]⟩, .string ⟨#[47, 119, 47, 42, 121]⟩, .string ⟨#[108, 105, 115, 116]⟩][j]? = some u → (wx.alloc (.cells #[.string ⟨#[71, 69, 84]⟩, .string ⟨#[47, 119, 47, 42, 121]⟩, .string ⟨#[108, 105, 115, 116]⟩] 41)).cell? ((⟨wx.heap.size, 0, none⟩ : Addr).add j) = some u) := fun wx j u hu => by
            rw [add_zero_own]
            exact (new_cell4 wx #[.string ⟨#[71, 69, 84]⟩, .string ⟨#[47, 119, 47, 42, 121]⟩, .string ⟨#[108, 105, 115, 116]⟩] 41 j).trans (by simpa using hu)
          have HSC : Hid (rtCells (stL W 3) = rtCells (stL W 2) ++ [.string ⟨#[71, 69, 84]⟩, .string ⟨#[47, 119, 47, 42, 121]⟩, .string ⟨#[108, 105, 115, 116]⟩]) := by
            show _ = _
            rw [stL_succ, HT.out, if_pos rfl, rt_app]; rfl
          have HSL : Hid ((stL W 3).length = (stL W 2).length + 1) := by
            show _ = _
            rw [stL_succ, HT.out, if_pos rfl]; simp
          have HOC : Hid (∀ u ∈ [Value.string ⟨#[71, 69, 84]⟩, .string ⟨#[47, 119, 47, 42, 121]⟩, .string ⟨#[108, 105, 115, 116]⟩], u.oneCell' = true) := fun u hu => by
            simp only [List.mem_cons, List.not_mem_nil, or_false] at hu
            rcases hu with rfl | rfl | rfl <;> rfl
          have hfew := stL_few W 2
          have H63 : Hid ((stL W 2).length + 1 ≤ maxLen) := by show _ ≤ _; unfold maxLen; omega
          have HBY : Hid (((stL W 2).length + 1) * 48 ≤ 140737488355328) := by show _ ≤ _; omega
          have HBS : Hid (w3.heap.size ≤ wr.heap.size) := HB.out.size
          have hAL := (Below.refl wr.heap.size wr).drew.alloc (Nat.le_refl _) (.cells #[.string ⟨#[71, 69, 84]⟩, .string ⟨#[47, 119, 47, 42, 121]⟩, .string ⟨#[108, 105, 115, 116]⟩] 41)
          have hO2 := own_below HO.out hAL
          generalize hX : rtCells (stL W 2) = X at *
          generalize hM : (stL W 2).length = M at *
          have HX := Lib.hid hX
          have HM := Lib.hid hM
          clear hX hM hfew HT
          go_wp2_with fail
          go_region_held3 (fun Y => Y.cell? ⟨g1, 2, none⟩ = some (.string ⟨#[47, 119, 47, 42, 121]⟩) ∧ Y.cell? ⟨g1 + 1, 2, none⟩ = some (.string ⟨#[108, 105, 115, 116]⟩)) (first | (exact HCS.out _ (HB.out.trans hb6)) | (exact HCS.out _ (HB.out.trans (hAL.mono HBS.out))) | (exact HCS.out _ HB.out.drew)) ((first
            | (refine step_append_lies _ (by rfl) (.tmp 38) (.tmp 48) 22 (by rfl) w3.heap.size 41 i0 (.agg #[.string ⟨#[]⟩, .string ⟨#[]⟩, .string ⟨#[]⟩]) 3 48 Tryd.underlying22 hi HZ.out.1 HZ.out.2.1 HZ.out.2.2 rfl (by decide) u7 M X (by rfl) hO2 ⟨wr.heap.size, 0, none⟩ 1 1 [.string ⟨#[71, 69, 84]⟩, .string ⟨#[47, 119, 47, 42, 121]⟩, .string ⟨#[108, 105, 115, 116]⟩] (by rfl) rfl (HNW.out wr.drew) HOC.out (by decide) H63.out HBY.out (by simp; have := HBS.out; omega) _ rfl ?_
               intro g6 c6 w6 hown6 hgr6 hat6 hlt6
               have hb6 : Below w3.heap.size wr w6 := (hAL.mono HBS.out).trans ((Below.refl _ _).grown hgr6 (by simp; have := HBS.out; omega) (fun k hk => (hO2.lt k hk).1))
               clear hat6 hgr6)))
          have HB6 : Hid (Below w3.heap.size w3 w6) := HB.out.trans hb6
          have HO6 : Hid (w6.ownsRow w3.heap.size 41 3 (.slice (some ⟨g6, 0, none⟩) (M + 1) c6) (stL W 3).length (rtCells (stL W 3))) := by
            show World.ownsRow _ _ _ _ _ _ _
            rw [HSL.out, HSC.out]; exact hown6
          clear hown6 hO2 hb6 hAL
          go_wp2_with fail
          go_roundw
          case rel => exact ⟨3, by omega, by rfl, HO6, HB6⟩
          case measure => simp [intOf]
        | false =>
          rw [hT] at hq
          have HT := Lib.hid hT
          clear hT
          have HSE : Hid (stL W 3 = stL W 2) := by
            show _ = _
            rw [stL_succ, HT.out]; simp
          rw [← HSE.out] at HO
          clear HSE HT
          go_wp2_with fail
          go_roundw
          case rel => exact ⟨3, by omega, by rfl, HO, HB⟩
          case measure => simp [intOf]
      · have HT : Hid (stOn W 3 = true) := rfl
        have HCS : Hid (∀ wx, Below w3.heap.size w3 wx → wx.cell? ⟨g1, 3, none⟩ = some (.string ⟨#[47, 58, 97, 47, 101, 110, 100]⟩) ∧ wx.cell? ⟨g1 + 1, 3, none⟩ = some (.string ⟨#[119, 97, 108, 107]⟩)) := fun wx h => by
          obtain ⟨a1, q1, _, h1⟩ := (HN.out.below h (Nat.le_refl _)).2 (by decide)
          obtain ⟨a2, q2, _, h2⟩ := (HH.out.below h (Nat.le_refl _)).2 (by decide)
          cases q1; cases q2
          refine ⟨?_, ?_⟩
          · have := h1 3 _ rfl; rwa [add_zero_own] at this
          · have := h2 3 _ rfl; rwa [add_zero_own] at this
        have HNW : Hid (∀ (wx : World) j u, [Value.string ⟨#[71, 69, 84]⟩, .string ⟨#[47, 58, 97, 47, 101, 110, 100]⟩, .string ⟨#[119, 97, 108, 107]⟩][j]? = some u → (wx.alloc (.cells #[.string ⟨#[71, 69, 84]⟩, .string ⟨#[47, 58, 97, 47, 101, 110, 100]⟩, .string ⟨#[119, 97, 108, 107]⟩] 41)).cell? ((⟨wx.heap.size, 0, none⟩ : Addr).add j) = some u) := fun wx j u hu => by
          rw [add_zero_own]
          exact (new_cell4 wx #[.string ⟨#[71, 69, 84]⟩, .string ⟨#[47, 58, 97, 47, 101, 110, 100]⟩, .string ⟨#[119, 97, 108, 107]⟩] 41 j).trans (by simpa using hu)
        have HSC : Hid (rtCells (stL W 4) = rtCells (stL W 3) ++ [.string ⟨#[71, 69, 84]⟩, .string ⟨#[47, 58, 97, 47, 101, 110, 100]⟩, .string ⟨#[119, 97, 108, 107]⟩]) := by
          show _ = _
          rw [stL_succ, HT.out, if_pos rfl, rt_app]; rfl
        have HSL : Hid ((stL W 4).length = (stL W 3).length + 1) := by
          show _ = _
          rw [stL_succ, HT.out, if_pos rfl]; simp
        have HOC : Hid (∀ u ∈ [Value.string ⟨#[71, 69, 84]⟩, .string ⟨#[47, 58, 97, 47, 101, 110, 100]⟩, .string ⟨#[119, 97, 108, 107]⟩], u.oneCell' = true) := fun u hu => by
          simp only [List.mem_cons, List.not_mem_nil, or_false] at hu
          rcases hu with rfl | rfl | rfl <;> rfl
        have hfew := stL_few W 3
        have H63 : Hid ((stL W 3).length + 1 ≤ maxLen) := by show _ ≤ _; unfold maxLen; omega
        have HBY : Hid (((stL W 3).length + 1) * 48 ≤ 140737488355328) := by show _ ≤ _; omega
        have HBS : Hid (w3.heap.size ≤ wr.heap.size) := HB.out.size
        have hAL := (Below.refl wr.heap.size wr).drew.alloc (Nat.le_refl _) (.cells #[.string ⟨#[71, 69, 84]⟩, .string ⟨#[47, 58, 97, 47, 101, 110, 100]⟩, .string ⟨#[119, 97, 108, 107]⟩] 41)
        have hO2 := own_below HO.out hAL
        generalize hX : rtCells (stL W 3) = X at *
        generalize hM : (stL W 3).length = M at *
        have HX := Lib.hid hX
        have HM := Lib.hid hM
        clear hX hM hfew HT
        go_wp2_with fail
        go_region_held3 (fun Y => Y.cell? ⟨g1, 3, none⟩ = some (.string ⟨#[47, 58, 97, 47, 101, 110, 100]⟩) ∧ Y.cell? ⟨g1 + 1, 3, none⟩ = some (.string ⟨#[119, 97, 108, 107]⟩)) (first | (exact HCS.out _ (HB.out.trans hb6)) | (exact HCS.out _ (HB.out.trans (hAL.mono HBS.out))) | (exact HCS.out _ HB.out.drew)) ((first
          | (refine step_append_lies _ (by rfl) (.tmp 38) (.tmp 48) 22 (by rfl) w3.heap.size 41 i0 (.agg #[.string ⟨#[]⟩, .string ⟨#[]⟩, .string ⟨#[]⟩]) 3 48 Tryd.underlying22 hi HZ.out.1 HZ.out.2.1 HZ.out.2.2 rfl (by decide) u7 M X (by rfl) hO2 ⟨wr.heap.size, 0, none⟩ 1 1 [.string ⟨#[71, 69, 84]⟩, .string ⟨#[47, 58, 97, 47, 101, 110, 100]⟩, .string ⟨#[119, 97, 108, 107]⟩] (by rfl) rfl (HNW.out wr.drew) HOC.out (by decide) H63.out HBY.out (by simp; have := HBS.out; omega) _ rfl ?_
             intro g6 c6 w6 hown6 hgr6 hat6 hlt6
             have hb6 : Below w3.heap.size wr w6 := (hAL.mono HBS.out).trans ((Below.refl _ _).grown hgr6 (by simp; have := HBS.out; omega) (fun k hk => (hO2.lt k hk).1))
             clear hat6 hgr6)))
        have HB6 : Hid (Below w3.heap.size w3 w6) := HB.out.trans hb6
        have HO6 : Hid (w6.ownsRow w3.heap.size 41 3 (.slice (some ⟨g6, 0, none⟩) (M + 1) c6) (stL W 4).length (rtCells (stL W 4))) := by
          show World.ownsRow _ _ _ _ _ _ _
          rw [HSL.out, HSC.out]; exact hown6
        clear hown6 hO2 hb6 hAL
        go_wp2_with fail
        go_roundw
        case rel => exact ⟨4, by omega, by rfl, HO6, HB6⟩
        case measure => simp [intOf]
      · have HT : Hid (stOn W 4 = true) := rfl
        have HCS : Hid (∀ wx, Below w3.heap.size w3 wx → wx.cell? ⟨g1, 4, none⟩ = some (.string ⟨#[47, 42, 122]⟩) ∧ wx.cell? ⟨g1 + 1, 4, none⟩ = some (.string ⟨#[104, 101, 97, 108, 116, 104]⟩)) := fun wx h => by
          obtain ⟨a1, q1, _, h1⟩ := (HN.out.below h (Nat.le_refl _)).2 (by decide)
          obtain ⟨a2, q2, _, h2⟩ := (HH.out.below h (Nat.le_refl _)).2 (by decide)
          cases q1; cases q2
          refine ⟨?_, ?_⟩
          · have := h1 4 _ rfl; rwa [add_zero_own] at this
          · have := h2 4 _ rfl; rwa [add_zero_own] at this
        have HNW : Hid (∀ (wx : World) j u, [Value.string ⟨#[71, 69, 84]⟩, .string ⟨#[47, 42, 122]⟩, .string ⟨#[104, 101, 97, 108, 116, 104]⟩][j]? = some u → (wx.alloc (.cells #[.string ⟨#[71, 69, 84]⟩, .string ⟨#[47, 42, 122]⟩, .string ⟨#[104, 101, 97, 108, 116, 104]⟩] 41)).cell? ((⟨wx.heap.size, 0, none⟩ : Addr).add j) = some u) := fun wx j u hu => by
          rw [add_zero_own]
          exact (new_cell4 wx #[.string ⟨#[71, 69, 84]⟩, .string ⟨#[47, 42, 122]⟩, .string ⟨#[104, 101, 97, 108, 116, 104]⟩] 41 j).trans (by simpa using hu)
        have HSC : Hid (rtCells (stL W 5) = rtCells (stL W 4) ++ [.string ⟨#[71, 69, 84]⟩, .string ⟨#[47, 42, 122]⟩, .string ⟨#[104, 101, 97, 108, 116, 104]⟩]) := by
          show _ = _
          rw [stL_succ, HT.out, if_pos rfl, rt_app]; rfl
        have HSL : Hid ((stL W 5).length = (stL W 4).length + 1) := by
          show _ = _
          rw [stL_succ, HT.out, if_pos rfl]; simp
        have HOC : Hid (∀ u ∈ [Value.string ⟨#[71, 69, 84]⟩, .string ⟨#[47, 42, 122]⟩, .string ⟨#[104, 101, 97, 108, 116, 104]⟩], u.oneCell' = true) := fun u hu => by
          simp only [List.mem_cons, List.not_mem_nil, or_false] at hu
          rcases hu with rfl | rfl | rfl <;> rfl
        have hfew := stL_few W 4
        have H63 : Hid ((stL W 4).length + 1 ≤ maxLen) := by show _ ≤ _; unfold maxLen; omega
        have HBY : Hid (((stL W 4).length + 1) * 48 ≤ 140737488355328) := by show _ ≤ _; omega
        have HBS : Hid (w3.heap.size ≤ wr.heap.size) := HB.out.size
        have hAL := (Below.refl wr.heap.size wr).drew.alloc (Nat.le_refl _) (.cells #[.string ⟨#[71, 69, 84]⟩, .string ⟨#[47, 42, 122]⟩, .string ⟨#[104, 101, 97, 108, 116, 104]⟩] 41)
        have hO2 := own_below HO.out hAL
        generalize hX : rtCells (stL W 4) = X at *
        generalize hM : (stL W 4).length = M at *
        have HX := Lib.hid hX
        have HM := Lib.hid hM
        clear hX hM hfew HT
        go_wp2_with fail
        go_region_held3 (fun Y => Y.cell? ⟨g1, 4, none⟩ = some (.string ⟨#[47, 42, 122]⟩) ∧ Y.cell? ⟨g1 + 1, 4, none⟩ = some (.string ⟨#[104, 101, 97, 108, 116, 104]⟩)) (first | (exact HCS.out _ (HB.out.trans hb6)) | (exact HCS.out _ (HB.out.trans (hAL.mono HBS.out))) | (exact HCS.out _ HB.out.drew)) ((first
          | (refine step_append_lies _ (by rfl) (.tmp 38) (.tmp 48) 22 (by rfl) w3.heap.size 41 i0 (.agg #[.string ⟨#[]⟩, .string ⟨#[]⟩, .string ⟨#[]⟩]) 3 48 Tryd.underlying22 hi HZ.out.1 HZ.out.2.1 HZ.out.2.2 rfl (by decide) u7 M X (by rfl) hO2 ⟨wr.heap.size, 0, none⟩ 1 1 [.string ⟨#[71, 69, 84]⟩, .string ⟨#[47, 42, 122]⟩, .string ⟨#[104, 101, 97, 108, 116, 104]⟩] (by rfl) rfl (HNW.out wr.drew) HOC.out (by decide) H63.out HBY.out (by simp; have := HBS.out; omega) _ rfl ?_
             intro g6 c6 w6 hown6 hgr6 hat6 hlt6
             have hb6 : Below w3.heap.size wr w6 := (hAL.mono HBS.out).trans ((Below.refl _ _).grown hgr6 (by simp; have := HBS.out; omega) (fun k hk => (hO2.lt k hk).1))
             clear hat6 hgr6)))
        have HB6 : Hid (Below w3.heap.size w3 w6) := HB.out.trans hb6
        have HO6 : Hid (w6.ownsRow w3.heap.size 41 3 (.slice (some ⟨g6, 0, none⟩) (M + 1) c6) (stL W 5).length (rtCells (stL W 5))) := by
          show World.ownsRow _ _ _ _ _ _ _
          rw [HSL.out, HSC.out]; exact hown6
        clear hown6 hO2 hb6 hAL
        go_wp2_with fail
        go_roundw
        case rel => exact ⟨5, by omega, by rfl, HO6, HB6⟩
        case measure => simp [intOf]
    · have hk5 : k = 5 := by omega
      subst hk5
      obtain ⟨oa, oc, rfl, _, hr4⟩ := Rd.ownc HO.out
      have hck := st_check ⟨W, hW⟩
      have hpt : ∀ r ∈ stL W 5, (patL r.p).isSome = true ∧ r.p.length ≤ 10000 := fun r hr => by
        have h := List.all_eq_true.1 (st_pat ⟨W, hW⟩) r hr
        rw [Bool.and_eq_true, decide_eq_true_eq] at h
        exact h
      have hfew := stL_few W 5
      have HWI := Lib.hid (with_any none [] (stL W 5) oa oc wr (Tr.nil _ _) hr4 hpt (by simp; omega))
      have HBB := Lib.hid (bt HB3.out HB.out)
      have HMT := Lib.hid (fun (v : Option Addr) (wx : World) (ht : Tr wx wx.heap.size v (stL W 5)) (hp : Pth wx wx.heap.size (some ⟨wx.heap.size - 1, 0, none⟩) 2 2 [[119], s.data.toList]) => match_any v (stL W 5) ⟨#[71, 69, 84]⟩ (some ⟨wx.heap.size - 1, 0, none⟩) 2 2 [[119], s.data.toList] wx ht (check_good hck) (check_apart hck) hp (by omega))
      have hmm := st_match s.data.toList hs0 W hW
      rw [show (ByteArray.mk #[71, 69, 84]).data.toList = [71, 69, 84] from rfl] at HMT
      generalize matchL [71, 69, 84] [[119], s.data.toList] (stL W 5) = T at *
      have HMM := Lib.hid hmm
      generalize stL W 5 = L at *
      clear hck hpt hr4 HO HN HH hmm
      generalize L.length = nL at *
      go_wp2_with fail
      rw [List.nil_append] at HWI
      refine HWI.out.mono ?_
      rintro e w4 ⟨ga, rfl, hta, hb4⟩
      have HTA := Lib.hid hta
      have HB4 := Lib.hid (bt HBB.out hb4)
      clear hta hb4
      go_wp2_with fail
      have hal := (Below.refl w4.heap.size w4).alloc (Nat.le_refl _) (.cells #[.string ⟨#[119]⟩, .string s] 9)
      have hsz : (w4.alloc (.cells #[.string ⟨#[119]⟩, .string s] 9)).heap.size - 1 = w4.heap.size := by simp
      have hm := HMT.out (some ⟨ga, 0, none⟩) (w4.alloc (.cells #[.string ⟨#[119]⟩, .string s] 9)) (HTA.out.on hal) (by
        rw [hsz]
        refine Pth.of (xs := [[119], s.data.toList]) ?_ (by simp) (by simp) (fun x hx => ?_)
        · have := rd_new w4 #[.string ⟨#[119]⟩, .string s] 9 1 2 rfl
          exact this
        · simp at hx
          rcases hx with rfl | rfl
          · simp
          · have := data_len s
            omega)
      rw [hsz] at hm
      have HB5 := Lib.hid (bt HB4.out hal)
      have HM := Lib.hid hm
      clear hm hal hsz
      generalize w4.alloc (.cells #[.string ⟨#[119]⟩, .string s] 9) = v4 at *
      refine HM.out.mono ?_
      rintro e w5 ⟨⟨P1, n1, c1, Q1, m1, d1, he, _⟩, hb5⟩
      rw [HMM.out.2] at he
      subst he
      have hta : mkB T.h = mkB (stWant W s.data.toList) := by rw [HMM.out.1]
      generalize mkB T.h = ta at *
      have HB6 := Lib.hid (bt HB5.out (hb5.alloc hb5.size (.cells #[.string ta, .slice P1 n1 c1, .slice Q1 m1 d1] 32)))
      have x0 := new_cell4 w5 #[.string ta, .slice P1 n1 c1, .slice Q1 m1 d1] 32 0
      have x1 := new_cell4 w5 #[.string ta, .slice P1 n1 c1, .slice Q1 m1 d1] 32 1
      simp only [List.getElem?_toArray, List.getElem?_cons_succ, List.getElem?_cons_zero] at x0 x1
      have HTA2 := Lib.hid hta
      clear hta hb5
      go_wp2_with fail
      all_goals
        go_ret
        refine ⟨congrArg (fun b => Ending.returned (Value.bool b)) ?_, HB6.out⟩
        first
          | exact sw1 W hW s ta HTA2.out ‹_› ‹_›
          | exact sw2 W hW s ta HTA2.out ‹_› ‹_›
          | exact sw5 W hW s ta HTA2.out ‹_› ‹_›
          | exact sw3 W hW s ta HTA2.out ‹_› ‹_› ‹_›
          | exact sw6 W hW s ta HTA2.out ‹_› ‹_› ‹_›
          | exact sw4 W hW s ta HTA2.out ‹_› ‹_› ‹_›
          | exact sw7 W hW s ta HTA2.out ‹_› ‹_› ‹_› ‹_›

set_option maxRecDepth 100000 in
set_option maxHeartbeats 8000000 in
theorem strong_out (n : Int) (s : ByteArray) (hs : s.data.toList = [] ∨ 60 < s.size) (w : World) (hw : HB w) :
    Calls Tryd.prog 6 #[.int .i64 n, .string s] w fun e w' => e = .returned (.bool true) ∧ Below w.heap.size w w' := by
  have HF := Lib.hid (fit_any w hw)
  clear hw
  cases he : s.toList.isEmpty with
  | true =>
    go_enter Tryd.func6, Tryd.ntmps6
    go_wp2_with fail
    refine HF.out.mono ?_
    rintro e w1 ⟨rfl, hb1⟩
    have HB1 := Lib.hid hb1
    clear hb1
    go_wp2_with fail
    go_ret
    exact ⟨rfl, HB1.out⟩
  | false =>
    have h60 : (60 : Int) < (s.size : Int) := by
      rcases hs with h | h
      · rw [str_empty s h] at he; cases he
      · omega
    clear hs
    go_enter Tryd.func6, Tryd.ntmps6
    go_wp2_with fail
    refine HF.out.mono ?_
    rintro e w1 ⟨rfl, hb1⟩
    have HB1 := Lib.hid hb1
    clear hb1
    go_wp2_with fail
    go_ret
    exact ⟨rfl, HB1.out⟩

theorem strong_walk (n : Int) (s : ByteArray) (w : World) (hw : HB w) :
    Calls Tryd.prog 6 #[.int .i64 n, .string s] w fun e w' => e = .returned (.bool true) ∧ Below w.heap.size w w' := by
  by_cases h0 : s.data.toList = []
  · exact strong_out n s (.inl h0) w hw
  by_cases h1 : 60 < s.size
  · exact strong_out n s (.inr h1) w hw
  have h8 := Int.emod_nonneg n (b := 8) (by omega)
  have h9 := Int.emod_lt_of_pos n (b := 8) (by omega)
  exact strong_go n (n % 8).toNat (by omega) (by omega) s h0 (by omega) w hw
end Go.Proofs.YtekjpcmobgdgpaaDoor
