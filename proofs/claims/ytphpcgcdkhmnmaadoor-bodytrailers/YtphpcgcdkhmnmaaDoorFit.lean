/- The contracts of the laws' own helpers fit and Feed. -/
import Derived.Test.YtphpcgcdkhmnmaaDoorBodyFeed
import Derived.Test.YtphpcgcdkhmnmaaDoorRunPlain
import Derived.Lib.SmallJoins
namespace Go.Proofs.YtphpcgcdkhmnmaaDoor
open Go.RowKit Pl
open Go.Lib (byteCells)

def fitL : List UInt8 := [50, 13, 10, 97, 98, 13, 10, 49, 13, 10, 99, 13, 10, 48, 13, 10, 13, 10]
theorem fit_feeds : feeds (newB (-1)) fitL = ⟨5, 0, 0, [], [97, 98, 99]⟩ := by rfl

theorem BO.rebase {base' : Nat} {w : World} {g : Nat} {st left status : Int} (h : w.heap[g]? = some (.cells #[.int .i64 st, .int .i64 left, .int .i64 status, .slice none 0 0, .slice none 0 0] 45 (0, 0))) (hb : base' ≤ w.heap.size) : BO base' w g ⟨st, left, status, [], []⟩ :=
  ⟨_, _, h, World.ownsRow_nil _ _ _ _, World.ownsRow_nil _ _ _ _, hb, fun k hk => by cases hk⟩

theorem new_chunks (w : World) : Calls Tryd.prog 11 #[.int .i64 (-1)] w fun e w' => e = .returned (.pointer (some ⟨w.heap.size, 0, none⟩)) ∧ w' = w.alloc (.cells #[.int .i64 1, .int .i64 0, .int .i64 0, .slice none 0 0, .slice none 0 0] 45) := by
  go_enter Tryd.func11, Tryd.ntmps11
  go_wp2
  go_ret
  exact ⟨rfl, rfl⟩

def fitC : Array Value := #[.int .u8 50, .int .u8 13, .int .u8 10, .int .u8 97, .int .u8 98, .int .u8 13, .int .u8 10, .int .u8 49, .int .u8 13, .int .u8 10, .int .u8 99, .int .u8 13, .int .u8 10, .int .u8 48, .int .u8 13, .int .u8 10, .int .u8 13, .int .u8 10]
theorem fitC_eq : fitC = (byteCells fitL).toArray := rfl
def bodyC : Array Value := #[.int .i64 1, .int .i64 0, .int .i64 0, .slice none 0 0, .slice none 0 0]
theorem fit_take (k : Nat) (h : k < 18) : fitL.take (k + 1) = fitL.take k ++ [fitL[k]'h] := List.take_succ_eq_append_getElem h
theorem fit_cell {wr : World} {gb : Nat} (h : wr.heap[gb]? = some (.cells fitC 5 (18, 19))) (k : Nat) (hk : k < 18) : wr.cell? ⟨gb, k, none⟩ = some (.int .u8 ((fitL[k]'hk).toNat : Int)) := by
  have hk2 : k < fitL.length := hk
  have e : wr.cell? ⟨gb, k, none⟩ = fitC[k]? := by simp [World.cell?, h]
  rw [e, fitC_eq]
  simp [byteCells, hk2]
  rfl

set_option maxHeartbeats 2000000 in
theorem fit_any (w : World) : Calls Tryd.prog 5 #[] w fun e w' => e = .returned (.bool true) ∧ Below w.heap.size w w' := by
  have HT := Lib.hid fun w => tok_any ⟨#[97]⟩ w
  have hcv := Go.Joins.run_convert_bytes_const_at (P := Tryd.prog) (w.alloc (.cells bodyC 45)) 33 5 fitC 18 18 (w.heap.size + 1) (by simp) Tryd.underlying33 Tryd.underlying5
  have h0 : ((w.alloc (.cells bodyC 45)).alloc (.cells fitC 5 (18, 19))).heap[w.heap.size]? = some (.cells bodyC 45 (0, 0)) := by
    rw [Below.heap_alloc _ _ _ (by simp)]; exact heap_alloc_new w _
  have h1 : ((w.alloc (.cells bodyC 45)).alloc (.cells fitC 5 (18, 19))).heap[w.heap.size + 1]? = some (.cells fitC 5 (18, 19)) := by
    have := heap_alloc_new (w.alloc (.cells bodyC 45)) (.cells fitC 5 (18, 19))
    simpa using this
  have hsz : ((w.alloc (.cells bodyC 45)).alloc (.cells fitC 5 (18, 19))).heap.size = w.heap.size + 2 := by simp
  have hb0 : Below w.heap.size w ((w.alloc (.cells bodyC 45)).alloc (.cells fitC 5 (18, 19))) := ((Below.refl _ _).alloc (Nat.le_refl _) _).alloc (by simp) _
  have HB0 : Hid (BO (w.heap.size + 2) ((w.alloc (.cells bodyC 45)).alloc (.cells fitC 5 (18, 19))) w.heap.size (feeds (newB (-1)) (fitL.take 0))) := BO.rebase h0 (by omega)
  have H1 := Lib.hid h1; have HB := Lib.hid hb0
  clear h0 h1 hsz hb0
  unfold bodyC at *
  simp only [show fitC.size = 18 from rfl] at hcv
  unfold fitC at *
  go_enter Tryd.func5, Tryd.ntmps5
  go_wp2_with (go_at_call 11; refine (new_chunks _).mono ?_; rintro e w1 ⟨rfl, rfl⟩)
  generalize (w.alloc (.cells #[.int .i64 1, .int .i64 0, .int .i64 0, .slice none 0 0, .slice none 0 0] 45)).alloc _ = W0 at *
  have hg : Hid (w.heap.size = w.heap.size) := rfl
  generalize hg0 : w.heap.size = g at *
  have HG := Lib.hid hg0
  clear hg hg0 hcv
  go_loopw [8] (fun i wr => ∃ k : Nat, k ≤ 18 ∧ i = .int .i64 k ∧ BO (g + 2) wr g (feeds (newB (-1)) (fitL.take k)) ∧ Fr (g + 2) g W0 wr) (fun i _ => 18 - (intOf i).toNat)
  case atStart => exact ⟨0, by omega, rfl, HB0.out, Fr.refl _ _ _⟩
  case round =>
    obtain ⟨k, hk, rfl, hbo, hfr⟩ := hrel
    have hok : Okb (feeds (newB (-1)) (fitL.take k)) := okb_feeds (okb_new _ (by decide)) _
    by_cases hlt : k < 18
    · have hblk := (hfr.block (g + 1) (by omega) (by omega)).trans H1.out
      have hc := fit_cell hblk k hlt
      have HN := Lib.hid (fit_take k hlt)
      have HF := Lib.hid (feed_any hbo hok (fitL[k]'hlt))
      clear hblk hok
      generalize (fitL[k]'hlt) = c at *
      go_wp2_with (go_at_call 12; refine HF.out.mono ?_; rintro e w2 ⟨rfl, ho2, hf2⟩)
      go_roundw
      case rel => exact ⟨k + 1, by omega, by go_num, by rw [HN.out, feeds_snoc]; exact ho2, hfr.trans hf2⟩
      case measure => simp [intOf]; omega
    · obtain rfl : k = 18 := by omega
      have hbo2 : BO (g + 2) wr g ⟨5, 0, 0, [], [97, 98, 99]⟩ := hbo
      clear hbo hok hlt
      have HD := Lib.hid (done_any hbo2); have HS := Lib.hid (status_any hbo2); have HA := Lib.hid (data_any hbo2)
      have HW : Hid (Below g w wr) := ⟨hfr.os.trans HB.out.os, hfr.tape.trans HB.out.tape, hfr.output.trans HB.out.output, Nat.le_trans HB.out.size hfr.size, fun i hi => (hfr.block i (by omega) (by omega)).trans (HB.out.block i hi)⟩
      clear hbo2
      go_wp2_with (first | (go_at_call 9; refine HD.out.mono ?_; rintro e w2 ⟨rfl, rfl⟩) | (go_at_call 8; refine HS.out.mono ?_; rintro e w2 ⟨rfl, rfl⟩) | (go_at_call 10; refine HA.out.mono ?_; rintro e w2 ⟨rfl, rfl⟩) | (go_at_call 13; refine (HT.out _).mono ?_; rintro e w2 ⟨rfl, hb2⟩))
      go_ret
      have hgw : g ≤ wr.heap.size := by have := HW.out.size; have := HG.out; omega
      exact ⟨ret_bool (by decide), by rw [HG.out]; exact HW.out.trans (hb2.mono hgw)⟩

set_option maxHeartbeats 2000000 in
/-- The laws' Feed: bytes till the body is done, and how many were taken. -/
theorem lawFeed_any (n : Int) (s : ByteArray) (w : World) (hn : n ≤ 9223372036854775807) (hs : s.size ≤ 1000000000000) :
    Calls Tryd.prog 7 #[.int .i64 n, .string s] w fun e w' => ∃ g, e = .returned (.tuple #[.pointer (some ⟨g, 0, none⟩), .int .i64 ((runB (newB n) s.data.toList).2 : Int)]) ∧ BO w.heap.size w' g (runB (newB n) s.data.toList).1 ∧ Below w.heap.size w w' ∧ w.heap.size ≤ g := by
  have HN := Lib.hid fun w => new_any n w
  have hok0 := Lib.hid (okb_new n hn)
  generalize newB n = b0 at *
  generalize hR : runB b0 s.data.toList = R at *
  have HR0 : Hid (R = ((runB b0 (s.data.toList.drop 0)).1, (runB b0 (s.data.toList.drop 0)).2 + 0)) := by show _ = _; rw [← hR]; rfl
  clear hR
  go_enter Tryd.func7, Tryd.ntmps7
  go_wp2_with (go_at_call 11; refine (HN.out _).mono ?_; rintro e w1 ⟨g, rfl, ho, hb1, hg⟩; have HG : Hid (w.heap.size ≤ g) := Nat.le_of_eq hg.symm; have HO := Lib.hid ho; have HB1 := Lib.hid hb1; clear ho hb1 hg)
  go_loopw [7] (fun i wr => ∃ (k : Nat) (b : Bst), k ≤ s.size ∧ i = .int .i64 k ∧ BO w.heap.size wr g b ∧ Okb b ∧ Below w.heap.size w wr ∧ Hid (R = ((runB b (s.data.toList.drop k)).1, (runB b (s.data.toList.drop k)).2 + k))) (fun i _ => s.size - (intOf i).toNat)
  case atStart => exact ⟨0, b0, by omega, rfl, HO.out, hok0.out, HB1.out, HR0.out⟩
  case round =>
    obtain ⟨k, b, hk, rfl, hbo, hok, hbel, HR⟩ := hrel
    have HD := Lib.hid (done_any hbo)
    have HBO := Lib.hid hbo; have HOK := Lib.hid hok; have HBE := Lib.hid hbel
    clear HO HB1 HR0 hok0 hbo hok hbel
    by_cases hlt : k < s.size
    · by_cases h5 : b.st = 5
      · have h5t : (b.st == 5) = true := by rw [h5]; rfl
        have HE : Hid (R = (b, k)) := by rw [HR.out, run_done h5]; show _ = _; simp
        rw [h5t] at HD
        clear h5 h5t HR
        go_wp2_with (first | (go_at_call 9; refine HD.out.mono ?_; rintro e w2 ⟨rfl, rfl⟩))
        go_ret2
        exact ⟨g, by rw [HE.out]; rfl, by rw [HE.out]; exact HBO.out, HBE.out, HG.out⟩
      · have h5t : (b.st == 5) = false := by simpa using h5
        have hR2 := HR.out
        rw [drop_at s k hlt] at hR2
        have HS := Lib.hid (run_loop_step b0 b _ _ k R h5 hR2)
        have HF := Lib.hid (feed_any HBO.out HOK.out (s[k]'hlt))
        have HOK2 := Lib.hid (okb_feed HOK.out (s[k]'hlt))
        rw [h5t] at HD
        clear h5 h5t HR hR2
        go_wp2_with (first | (go_at_call 9; refine HD.out.mono ?_; rintro e w2 ⟨rfl, rfl⟩) | (go_at_call 12; refine HF.out.mono ?_; rintro e w3 ⟨rfl, ho3, hf3⟩))
        go_roundw
        case rel => exact ⟨k + 1, _, by omega, by go_num, ho3, HOK2.out, HBE.out.trans (hf3.low HG.out), HS.out⟩
        case measure => simp [intOf]; omega
    · have HE : Hid (R = (b, k)) := by rw [HR.out, drop_all s k (by omega)]; show _ = _; simp [runB]
      clear HR
      go_wp2_with (first | (go_at_call 9; refine HD.out.mono ?_; rintro e w2 ⟨rfl, rfl⟩))
      go_ret2
      exact ⟨g, by rw [HE.out]; rfl, by rw [HE.out]; exact HBO.out, HBE.out, HG.out⟩

end Go.Proofs.YtphpcgcdkhmnmaaDoor
