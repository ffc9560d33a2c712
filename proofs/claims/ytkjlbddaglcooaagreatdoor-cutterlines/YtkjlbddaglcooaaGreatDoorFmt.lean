/- The contract of strconv.FormatInt at base 16, from 1 up to 255. -/
import Derived.Test.YtkjlbddaglcooaaGreatDoorBodyFeed
import Derived.Test.YtkjlbddaglcooaaGreatDoorCutsPlain
namespace Go.Proofs.YtkjlbddaglcooaaGreatDoor
open Go.RowKit Pl

/-- The one place of math/bits's table that is read: that of 16. -/
def Tab (w : World) : Prop := w.cell? ⟨6, 15, none⟩ = some (.int .u8 4)

theorem pow_any (w : World) : Calls Tryz.prog 85 #[.int .i64 16] w fun e w' => e = .returned (.bool true) ∧ w = w' := by
  have hk : bits .and .i64 16 15 = 0 := by decide
  go_enter Tryz.func85, Tryz.ntmps85
  go_wp2
  go_ret
  exact ⟨rfl, rfl⟩

theorem tz64_any (w : World) (ht : Tab w) : Calls Tryz.prog 100 #[.int .u64 16] w fun e w' => e = .returned (.int .i64 4) ∧ w = w' := by
  unfold Tab at ht
  have key : IntKind.u64.wrap (bits BinOp.and IntKind.u64 16 (IntKind.u64.wrap (-16)) * 285870213051353865) / 288230376151711744 = 15 := by decide
  go_enter Tryz.func100, Tryz.ntmps100
  go_wp2_with (simp only [key])
  go_ret
  exact ⟨rfl, rfl⟩

theorem tz_any (w : World) (ht : Tab w) : Calls Tryz.prog 86 #[.int .u64 16] w fun e w' => e = .returned (.int .i64 4) ∧ w = w' := by
  have HT := Lib.hid (tz64_any w ht)
  go_enter Tryz.func86, Tryz.ntmps86
  go_wp2_with (go_at_call 100; refine HT.out.mono ?_; rintro e w1 ⟨rfl, rfl⟩)
  go_ret
  exact ⟨rfl, rfl⟩

theorem zero65 (w : World) : (zeroValue 117).run Tryz.prog w = .ok (.agg (Array.replicate 65 (.int .u8 0))) w := by kernel_rfl

theorem u64_and15 (m : Nat) (h : m < 256) : bits .and .u64 (m : Int) 15 = ((m % 16 : Nat) : Int) := by
  have : ∀ m : Fin 256, bits .and .u64 (m.1 : Int) 15 = ((m.1 % 16 : Nat) : Int) := by decide +kernel
  exact this ⟨m, h⟩

theorem digit_at (n : Nat) (h : n < 16) : (⟨#[48, 49, 50, 51, 52, 53, 54, 55, 56, 57, 97, 98, 99, 100, 101, 102, 103, 104, 105, 106, 107, 108, 109, 110, 111, 112, 113, 114, 115, 116, 117, 118, 119, 120, 121, 122]⟩ : ByteArray)[n]'(Nat.lt_of_lt_of_le h (by decide)) = dig16 n := by
  have : ∀ n : Fin 16, (⟨#[48, 49, 50, 51, 52, 53, 54, 55, 56, 57, 97, 98, 99, 100, 101, 102, 103, 104, 105, 106, 107, 108, 109, 110, 111, 112, 113, 114, 115, 116, 117, 118, 119, 120, 121, 122]⟩ : ByteArray)[n.1]'(Nat.lt_of_lt_of_le n.2 (by decide)) = dig16 n.1 := by decide +kernel
  exact this ⟨n, h⟩

/-- A row's cells as a text. -/
theorem conv_at (W : World) (B off : Nat) (l : List UInt8) (cap : Nat) (hc : ∀ i (hi : i < l.length), W.cell? ⟨B, off + i, none⟩ = some (.int .u8 (l[i].toNat : Int))) : (convert 46 9 (.slice (some ⟨B, off, none⟩) l.length cap)).run Tryz.prog W = .ok (.string ⟨l.toArray⟩) W := by
  have := run_convert_bytes_arg (P := Tryz.prog) W 46 5 Tryz.underlying46 Tryz.underlying5 B off l.length cap (l.map fun b => (b.toNat : Int)) (by simp) (fun i hi => by rw [hc i hi]; simp [hi]) 9 Tryz.underlying9
  rw [this]
  simp [strOfNums, Function.comp_def]

theorem conv_one {W : World} {B : Nat} {ZZ : Array Value} (h : W.heap[B]? = some (.cells ZZ 117 (0, 0))) (hs : ZZ.size = 65) (d : UInt8) : (convert 46 9 (.slice (some ⟨B, 64, none⟩) 1 1)).run Tryz.prog (W.setCell ⟨B, 64, none⟩ (.int .u8 (d.toNat : Int))) = .ok (.string ⟨#[d]⟩) (W.setCell ⟨B, 64, none⟩ (.int .u8 (d.toNat : Int))) :=
  conv_at _ B 64 [d] 1 (fun i hi => by
    obtain rfl : i = 0 := by simpa using hi
    rw [blk_cell (set_same 64 h) (64 + 0)]
    simp [hs])
theorem conv_two {W : World} {B : Nat} {ZZ : Array Value} (h : W.heap[B]? = some (.cells ZZ 117 (0, 0))) (hs : ZZ.size = 65) (c d : UInt8) : (convert 46 9 (.slice (some ⟨B, 63, none⟩) 2 2)).run Tryz.prog ((W.setCell ⟨B, 64, none⟩ (.int .u8 (d.toNat : Int))).setCell ⟨B, 63, none⟩ (.int .u8 (c.toNat : Int))) = .ok (.string ⟨#[c, d]⟩) ((W.setCell ⟨B, 64, none⟩ (.int .u8 (d.toNat : Int))).setCell ⟨B, 63, none⟩ (.int .u8 (c.toNat : Int))) :=
  conv_at _ B 63 [c, d] 2 (fun i hi => by
    have : i = 0 ∨ i = 1 := by simp at hi; omega
    rw [blk_cell (set_same 63 (set_same 64 h)) (63 + i)]
    rcases this with rfl | rfl
    · simp [hs]
    · simp [hs])

set_option maxRecDepth 100000 in
set_option maxHeartbeats 4000000 in
theorem bits_any (m : Nat) (h1 : 1 ≤ m) (h256 : m < 256) (w : World) (ht : Tab w) (hw : 6 < w.heap.size) : Calls Tryz.prog 66 #[.slice none 0 0, .int .u64 (m : Int), .int .i64 16, .bool false, .bool false] w fun e w' => e = .returned (.tuple #[.slice none 0 0, .string ⟨(fmtL m).toArray⟩]) ∧ Below w.heap.size w w' := by
  have hz := zero65
  have hZ64 : (Array.replicate 65 (Value.int .u8 0))[64]? = some (.int .u8 0) := by rfl
  have hZ63 : (Array.replicate 65 (Value.int .u8 0))[63]? = some (.int .u8 0) := by rfl
  have hZs : (Array.replicate 65 (Value.int .u8 0)).size = 65 := by simp
  have hT2 : Tab (w.alloc (.cells (Array.replicate 65 (.int .u8 0)) 117)) := by
    unfold Tab at *
    rw [← ht]
    exact World.cell?_of_block (Below.heap_alloc _ _ _ (by simpa using hw))
  have HT2 := Lib.hid hT2
  have HB0 := Lib.hid ((Below.refl w.heap.size w).alloc (Nat.le_refl _) (.cells (Array.replicate 65 (.int .u8 0)) 117))
  have HBK := Lib.hid (heap_alloc_new w (.cells (Array.replicate 65 (.int .u8 0)) 117))
  clear hT2 ht
  generalize Array.replicate 65 (Value.int .u8 0) = ZZ at *
  have hand := u64_and15 m h256
  go_enter Tryz.func66, Tryz.ntmps66
  go_wp2_with fail
  refine (pow_any _).mono ?_
  rintro e w1 ⟨rfl, rfl⟩
  go_wp2_with fail
  refine (tz_any _ HT2.out).mono ?_
  rintro e w1 ⟨rfl, rfl⟩
  go_wp2_with fail
  generalize w.alloc (.cells ZZ 117) = W0 at *
  generalize hB : w.heap.size = B at *
  have HBW := Lib.hid hB
  clear hB
  have c64 := blk_cell HBK.out 64
  have c63 := blk_cell HBK.out 63
  have f64 := blk_free HBK.out 64
  have f63 := blk_free HBK.out 63
  rw [hZ64] at c64
  rw [hZ63] at c63
  go_loopw [1, 13] (fun u i wr => (u = .int .u64 (m : Int) ∧ i = .int .i64 65 ∧ wr = W0) ∨ (16 ≤ m ∧ u = .int .u64 ((m / 16 : Nat) : Int) ∧ i = .int .i64 64 ∧ wr = W0.setCell ⟨B, 64, none⟩ (.int .u8 ((dig16 (m % 16)).toNat : Int)))) (fun _ i _ => (intOf i).toNat)
  case atStart => exact .inl ⟨rfl, rfl, rfl⟩
  case round =>
    rcases hrel with ⟨rfl, rfl, rfl⟩ | ⟨hm, rfl, rfl, rfl⟩
    · by_cases h16 : 16 ≤ m
      · have hdig := digit_at (m % 16) (by omega)
        go_wp2_with fail
        go_roundw
        case rel => exact .inr ⟨h16, by simp, by simp, by simp⟩
        case measure => simp [intOf]
      · have hdig := digit_at m (by omega)
        have HF : Hid (fmtL m = [dig16 m]) := by unfold fmtL; rw [if_pos (by omega)]; rfl
        have hcv := conv_one HBK.out hZs (dig16 m)
        go_wp2_with fail
        go_ret2
        exact ⟨by rw [HF.out]; rfl, by rw [HBW.out]; exact HB0.out.setCell (by exact Nat.le_refl _) _⟩
    · have hdig := digit_at (m / 16) (by omega)
      have HF : Hid (fmtL m = [dig16 (m / 16), dig16 (m % 16)]) := by unfold fmtL; rw [if_neg (by omega)]; rfl
      have hcv := conv_two HBK.out hZs (dig16 (m / 16)) (dig16 (m % 16))
      have hm16 : m / 16 < 16 := by omega
      go_wp2_with fail
      go_ret2
      exact ⟨by rw [HF.out]; rfl, by rw [HBW.out]; exact (HB0.out.setCell (by exact Nat.le_refl _) _).setCell (by exact Nat.le_refl _) _⟩

set_option maxHeartbeats 1000000 in
theorem fmt_inner (m : Nat) (h1 : 1 ≤ m) (h256 : m < 256) (w : World) (ht : Tab w) (hw : 6 < w.heap.size) : Calls Tryz.prog 51 #[.int .i64 (m : Int), .int .i64 16] w fun e w' => e = .returned (.string ⟨(fmtL m).toArray⟩) ∧ Below w.heap.size w w' := by
  have HB := Lib.hid (bits_any m h1 h256 w ht hw)
  generalize fmtL m = r at *
  go_enter Tryz.func51, Tryz.ntmps51
  go_wp2_with (go_at_call 66; refine HB.out.mono ?_; rintro e w1 ⟨rfl, hb1⟩)
  go_ret
  exact ⟨rfl, hb1⟩

theorem fmt_any (m : Nat) (h1 : 1 ≤ m) (h256 : m < 256) (w : World) (ht : Tab w) (hw : 6 < w.heap.size) : Calls Tryz.prog 35 #[.int .i64 (m : Int), .int .i64 16] w fun e w' => e = .returned (.string ⟨(fmtL m).toArray⟩) ∧ Below w.heap.size w w' := by
  have HB := Lib.hid (fmt_inner m h1 h256 w ht hw)
  generalize fmtL m = r at *
  go_enter Tryz.func35, Tryz.ntmps35
  go_wp2_with (go_at_call 51; refine HB.out.mono ?_; rintro e w1 ⟨rfl, hb1⟩)
  go_ret
  exact ⟨rfl, hb1⟩

end Go.Proofs.YtkjlbddaglcooaaGreatDoor
