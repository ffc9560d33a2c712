/- The walk of the law HeadMany. -/
import Derived.Test.YtihdjgjceadooaaDoorFirst
import Derived.Test.YtihdjgjceadooaaDoorManyPlain
namespace Go.Proofs.YtihdjgjceadooaaDoor
open Go.RowKit Pl

def getS : ByteArray := ⟨#[71, 69, 84, 32, 47]⟩
def xS : ByteArray := ⟨#[120]⟩
def verS : ByteArray := ⟨#[32, 72, 84, 84, 80, 47, 49, 46, 49]⟩
def linesM (L : ByteArray) (k : Nat) : List ByteArray := L :: hostL :: List.replicate k fvL
theorem linesM_len (L : ByteArray) (k : Nat) : (linesM L k).length = k + 2 := by simp [linesM]
theorem linesM_snoc (L : ByteArray) (k : Nat) : linesM L (k + 1) = linesM L k ++ [fvL] := by
  unfold linesM
  rw [List.replicate_succ']
  rfl
theorem own_blk {w : World} {g base n : Nat} {cs : Array Value} {e : TypeId} (h : w.heap[g]? = some (.cells cs e (0, 0))) (hb : base ≤ g) (hn : cs.size = n) (hm : n ≤ maxLen) : w.ownsRow base e 1 (.slice (some ⟨g, 0, none⟩) n n) n cs.toList :=
  ⟨by simp [hn], .inr ⟨g, n, cs, rfl, hb, h, Nat.le_refl _, hm, by omega, by rw [Nat.mul_one, ← hn, ← Array.length_toList, List.take_length]⟩⟩

set_option maxHeartbeats 4000000 in
theorem many_walk (n0 m0 : Int) (w : World) : Calls Tryd.prog 4 #[.int .i64 n0, .int .i64 m0] w fun e w' => e = .returned (.bool true) ∧ Below w.heap.size w w' := by
  obtain ⟨i0, hi, hz0, hz1, hz2⟩ := info_parts Tryd.info9
  have HI := Lib.hid hi; have HZ0 := Lib.hid hz0; have HZ1 := Lib.hid hz1; have HZ2 := Lib.hid hz2
  clear hi hz0 hz1 hz2
  go_enter Tryd.func4, Tryd.ntmps4
  go_wp2_with fail
  refine (fit_any _).mono ?_
  rintro e w1 ⟨rfl, hb1⟩
  go_wp2_with fail
  rw [i64_and31, i64_and511]
  obtain ⟨n, hn⟩ : ∃ n : Nat, n0 % 32 = (n : Int) := ⟨(n0 % 32).toNat, by omega⟩
  obtain ⟨m, hm⟩ : ∃ m : Nat, m0 % 512 = (m : Int) := ⟨(m0 % 512).toNat, by omega⟩
  have hnb : n < 32 := by omega
  have hmb : m < 512 := by omega
  rw [hn, hm]
  clear hn hm
  have hb2 : Below w.heap.size w (w1.alloc (Obj.cells #[Value.string { data := #[71, 69, 84, 32, 47] }, Value.string { data := #[104, 111, 115, 116, 58, 32, 97] }] 9)) := ba hb1 _
  have hblk : (w1.alloc (Obj.cells #[Value.string { data := #[71, 69, 84, 32, 47] }, Value.string { data := #[104, 111, 115, 116, 58, 32, 97] }] 9)).heap[w1.heap.size]? = some (.cells #[.string getS, .string hostL] 9 (0, 0)) := heap_alloc_new w1 _
  have HBLK := Lib.hid hblk
  clear hblk
  have hg1 : w.heap.size ≤ w1.heap.size := hb1.size
  generalize w1.alloc (Obj.cells #[Value.string { data := #[71, 69, 84, 32, 47] }, Value.string { data := #[104, 111, 115, 116, 58, 32, 97] }] 9) = W at *
  generalize w1.heap.size = g at *
  go_loopw [15] (fun i wr => ∃ (k : Nat) (T : ByteArray), k ≤ m ∧ i = .int .i64 k ∧ T.size = k + 5 ∧ Hid (T.data.toList = [71, 69, 84, 32, 47] ++ List.replicate k 120) ∧ Hid (wr.heap[g]? = some (.cells #[.string T, .string hostL] 9 (0, 0))) ∧ Below w.heap.size w wr) (fun i _ => m - (intOf i).toNat)
  case atStart => exact ⟨0, getS, by omega, rfl, rfl, rfl, HBLK, hb2⟩
  case round =>
    obtain ⟨k, T, hk, rfl, hT, hTd, hbk, hbr⟩ := hrel
    have HT := Lib.hid hT
    have hTs : T.size ≤ k + 5 := by omega
    clear hT
    have c0 : wr.cell? ⟨g, 0, none⟩ = some (.string T) := by rw [blk_cell hbk.out]; rfl
    have f0 := blk_free hbk.out 0
    by_cases hlt : k < m
    · have hN : (T ++ xS).size = (k + 1) + 5 := by rw [app_size, HT.out]; show k + 5 + 1 = _; omega
      have HD : Hid ((T ++ xS).data.toList = [71, 69, 84, 32, 47] ++ List.replicate (k + 1) 120) := by
        show _ = _
        rw [app_data, hTd.out, List.replicate_succ', List.append_assoc]; rfl
      have HB : Hid ((wr.setCell ⟨g, 0, none⟩ (.string (T ++ xS))).heap[g]? = some (.cells #[.string (T ++ xS), .string hostL] 9 (0, 0))) := Lib.heap_setCell_same (i := 0) (v := .string (T ++ xS)) hbk.out
      have HN := Lib.hid hN
      clear hN
      unfold xS at HN HD HB
      go_wp2
      go_roundw
      case rel => exact ⟨k + 1, _, by omega, by go_num, HN.out, HD, HB, hbr.setCell hg1 _⟩
      case measure => simp [intOf]; omega
    · obtain rfl : k = m := by omega
      have HD : Hid ((T ++ verS).data.toList = manyL k) := by
        show _ = _
        rw [app_data, hTd.out]; rfl
      have HSL := Lib.hid (many_size (T ++ verS) k HD.out)
      have HB : Hid ((wr.setCell ⟨g, 0, none⟩ (.string (T ++ verS))).heap[g]? = some (.cells #[.string (T ++ verS), .string hostL] 9 (0, 0))) := Lib.heap_setCell_same (i := 0) (v := .string (T ++ verS)) hbk.out
      have hb3 : Below w.heap.size w (wr.setCell ⟨g, 0, none⟩ (.string (T ++ verS))) := hbr.setCell hg1 _
      unfold verS at HD HSL HB hb3
      go_wp2_with fail
      generalize T ++ ({ data := #[32, 72, 84, 84, 80, 47, 49, 46, 49] } : ByteArray) = L at *
      generalize wr.setCell ⟨g, 0, none⟩ (.string L) = V at *
      clear c0 f0 hbk hTd HT hTs
      have hgV := blk_lt HB.out
      go_loopw [5, 29] (fun v i wq => ∃ j : Nat, j ≤ n ∧ i = .int .i64 j ∧ wq.ownsRow w.heap.size 9 1 v (linesM L j).length ((linesM L j).map .string) ∧ Below w.heap.size w wq) (fun _ i _ => n - (intOf i).toNat)
      case atStart => exact ⟨0, by omega, rfl, own_blk HB.out hg1 rfl (by decide), hb3⟩
      case round =>
        obtain ⟨j, hj, rfl, hown, hbq⟩ := hrel
        by_cases hjl : j < n
        · have hll := linesM_len L j
          have hsn := linesM_snoc L j
          go_wp2_with (at_builtin; refine wpList_append_own _ rfl _ _ 24 rfl w.heap.size 9 i0 (.string ⟨#[]⟩) 1 16 Tryd.underlying24 HI.out HZ0.out HZ1.out HZ2.out rfl (by decide) _ _ _ rfl (hown.alloc _) ⟨wr.heap.size, 0, none⟩ 1 1 [.string fvL] rfl rfl ?c1 ?c2 ?c3 ?c4 ?c5 ?_)
          case c1 => exact cell_one_new wr (.string fvL) 9
          case c2 => intro u hu; simp at hu; subst hu; rfl
          case c3 => unfold maxLen; omega
          case c4 => omega
          case c5 => have := hbq.size; simp; omega
          intro v' w3 hown' hgr _
          have hb4 : Below w.heap.size w w3 := (ba hbq _).grown hgr (by have := hbq.size; simp; omega) (fun k hk => (hown.lt k hk).1)
          have HO : Hid (w3.ownsRow w.heap.size 9 1 v' (linesM L (j + 1)).length ((linesM L (j + 1)).map .string)) := by
            show w3.ownsRow _ _ _ _ _ _
            rw [hsn, List.length_append, List.map_append, hll]; exact hown'
          clear hown' hgr hown hll hsn
          go_wp2
          go_roundw
          case rel => exact ⟨j + 1, by omega, by go_num, HO.out, hb4⟩
          case measure => simp [intOf]; omega
        · obtain rfl : j = n := by omega
          have hll := linesM_len L j
          obtain ⟨g2, cg, rfl, hrd, hcc, hcm, hgb, hgl⟩ := own_rd hown (by omega)
          have HS : Hid (∀ s ∈ linesM L j, s.size ≤ 1000000) := by
            intro s hs
            unfold linesM at hs
            rw [List.mem_cons, List.mem_cons] at hs
            rcases hs with rfl | rfl | hs
            · rw [HSL.out]; omega
            · decide
            · rw [List.eq_of_mem_replicate hs]; decide
          have hpa := parse_any (linesM L j) _ cg wr hrd (by omega) hcc hcm HS.out
          have hcl : wr.cell? ⟨g2, 0, none⟩ = some (.string L) := by
            have := hown.cells (g := g2) rfl 0 (.string L) rfl
            rwa [add_zero_own] at this
          have HCL := Lib.hid hcl
          have HO := Lib.hid hown
          have hlp : 0 < (linesM L j).length := by omega
          clear hown hrd hcl hll
          by_cases hlong : 16 < j + 1 ∨ 200 < k + 14
          · rw [show parseF (linesM L j) = badH 431 from parse_many_long L j k HD.out hlong] at hpa
            have HPA := Lib.hid hpa
            clear hpa
            have hLz : L.size = k + 14 := HSL.out
            by_cases hj16 : 16 < j + 1
            · have t1 : decide ((16 : Int) < (j : Int) + 1) = true := by simp; omega
              clear hLz
              go_wp2_with fail
              refine HPA.out.mono ?_
              rintro e w4 ⟨vv, rfl, hov, hb4⟩
              obtain ⟨Av, cv, rfl, _⟩ := Rd.own hov
              clear hov
              simp only [hdVal, badH]
              go_wp2_with fail
              go_ret
              exact ⟨rfl, ba (bt hbq hb4) _⟩
            · have hL2 : 200 < L.size := by omega
              have hL3 : L.size ≤ 1000 := by omega
              clear hLz
              go_wp2_with fail
              refine HPA.out.mono ?_
              rintro e w4 ⟨vv, rfl, hov, hb4⟩
              obtain ⟨Av, cv, rfl, _⟩ := Rd.own hov
              clear hov
              have hcl4 := (hb4.cell (p := ⟨g2, 0, none⟩) hgl).trans HCL.out
              have hal := fun o => (World.cell?_alloc_lt w4 o ⟨g2, 0, none⟩ (Nat.lt_of_lt_of_le hgl hb4.size)).trans hcl4
              simp only [hdVal, badH]
              go_wp2_with fail
              go_ret
              exact ⟨rfl, ba (bt hbq hb4) _⟩
          · obtain ⟨t, ht⟩ := parse_many_ok L j k HD.out (by omega) (by omega)
            rw [show parseF (linesM L j) = _ from ht] at hpa
            have HPA := Lib.hid hpa
            clear hpa ht
            have hLz : L.size = k + 14 := HSL.out
            have hL2 : L.size ≤ 200 := by omega
            have hj16 : j + 1 ≤ 16 := by omega
            clear hLz hlong
            go_wp2_with fail
            refine HPA.out.mono ?_
            rintro e w4 ⟨vv, rfl, hov, hb4⟩
            obtain ⟨Av, cv, rfl, _⟩ := Rd.own hov
            clear hov
            have hcl4 := (hb4.cell (p := ⟨g2, 0, none⟩) hgl).trans HCL.out
            have hal := fun o => (World.cell?_alloc_lt w4 o ⟨g2, 0, none⟩ (Nat.lt_of_lt_of_le hgl hb4.size)).trans hcl4
            simp only [hdVal, List.length_cons, List.length_replicate]
            go_wp2_with fail
            refine (parse_none _ _ _).mono ?_
            rintro e w5 ⟨v5, rfl, ho5, hb5⟩
            obtain ⟨A5, c5, rfl, _⟩ := Rd.own ho5
            clear ho5
            simp only [hdVal, badH]
            have e1 := field_request (.string ⟨#[]⟩) (.string ⟨#[]⟩) (.slice A5 0 c5) (.string ⟨#[]⟩) (.bool false) (.int .i64 0) (.int .i64 400)
            have e2 := field_fields (.string ⟨#[]⟩) (.string ⟨#[]⟩) (.string ⟨#[]⟩) (.bool false) A5 0 c5
            go_wp2_with fail
            refine (parse_none _ _ _).mono ?_
            rintro e w6 ⟨v6, rfl, ho6, hb6⟩
            obtain ⟨A6, c6, rfl, _⟩ := Rd.own ho6
            clear ho6
            simp only [hdVal, badH]
            have e3 := field_status (.string ⟨#[]⟩) (.string ⟨#[]⟩) (.slice A6 0 c6) (.string ⟨#[]⟩) (.bool false) (.int .i64 0) 400
            go_wp2_with fail
            go_ret
            exact ⟨ret_bool (by simp), bt (bt (ba (bt hbq hb4) _) hb5) hb6⟩

theorem many_any (n0 m0 : Int) (w : World) (_h0 : (Lit.int .i64 n0).wf = true) (_h1 : (Lit.int .i64 m0).wf = true) : Calls Tryd.prog 4 #[.int .i64 n0, .int .i64 m0] w fun e w' => e = .returned (.bool true) ∧ Below w.heap.size w w' := many_walk n0 m0 w

end Go.Proofs.YtihdjgjceadooaaDoor
