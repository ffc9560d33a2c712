/- The contract of strconv.FormatUint at base 16, below 2^32. -/
import Derived.Test.YtilhegdhbcmlkaaDoorTgPlain
namespace Go.Proofs.YtilhegdhbcmlkaaDoor
open Go.RowKit

/-- The one place of math/bits's table that is read: that of 16. -/
def Tab (w : World) : Prop := w.cell? ⟨2, 15, none⟩ = some (.int .u8 4)

theorem pow_any (w : World) : Calls Tryd.prog 55 #[.int .i64 16] w fun e w' => e = .returned (.bool true) ∧ w = w' := by
  have hk : bits .and .i64 16 15 = 0 := by decide
  go_enter Tryd.func55, Tryd.ntmps55
  go_wp2
  go_ret
  exact ⟨rfl, rfl⟩

theorem tz64_any (w : World) (ht : Tab w) : Calls Tryd.prog 64 #[.int .u64 16] w fun e w' => e = .returned (.int .i64 4) ∧ w = w' := by
  unfold Tab at ht
  have key : IntKind.u64.wrap (bits BinOp.and IntKind.u64 16 (IntKind.u64.wrap (-16)) * 285870213051353865) / 288230376151711744 = 15 := by decide
  go_enter Tryd.func64, Tryd.ntmps64
  go_wp2_with (simp only [key])
  go_ret
  exact ⟨rfl, rfl⟩

theorem tz_any (w : World) (ht : Tab w) : Calls Tryd.prog 56 #[.int .u64 16] w fun e w' => e = .returned (.int .i64 4) ∧ w = w' := by
  have HT := Lib.hid (tz64_any w ht)
  go_enter Tryd.func56, Tryd.ntmps56
  go_wp2_with (go_at_call 64; refine HT.out.mono ?_; rintro e w1 ⟨rfl, rfl⟩)
  go_ret
  exact ⟨rfl, rfl⟩

theorem zero91 (w : World) : (zeroValue 91).run Tryd.prog w = .ok (.agg (Array.replicate 65 (.int .u8 0))) w := by kernel_rfl

theorem u64_and15 (m : Nat) (h : m < 4294967296) : bits .and .u64 (m : Int) 15 = ((m % 16 : Nat) : Int) := by
  have h15 : (BitVec.ofInt 64 15).toNat = 2 ^ 4 - 1 := by decide
  have key : (BitVec.ofInt 64 (m : Int) &&& BitVec.ofInt 64 15).toNat = m % 16 := by
    rw [BitVec.toNat_and, BitVec.toNat_ofInt, h15, Nat.and_two_pow_sub_one_eq_mod]
    omega
  show IntKind.u64.wrap ((BitVec.ofInt 64 (m : Int) &&& BitVec.ofInt 64 15).toNat : Nat) = _
  rw [key]
  simp [IntKind.wrap, IntKind.bits, IntKind.signed]
  omega

theorem digit_at (n : Nat) (h : n < 16) : (⟨#[48, 49, 50, 51, 52, 53, 54, 55, 56, 57, 97, 98, 99, 100, 101, 102, 103, 104, 105, 106, 107, 108, 109, 110, 111, 112, 113, 114, 115, 116, 117, 118, 119, 120, 121, 122]⟩ : ByteArray)[n]'(Nat.lt_of_lt_of_le h (by decide)) = dig16 n := by
  have : ∀ n : Fin 16, (⟨#[48, 49, 50, 51, 52, 53, 54, 55, 56, 57, 97, 98, 99, 100, 101, 102, 103, 104, 105, 106, 107, 108, 109, 110, 111, 112, 113, 114, 115, 116, 117, 118, 119, 120, 121, 122]⟩ : ByteArray)[n.1]'(Nat.lt_of_lt_of_le n.2 (by decide)) = dig16 n.1 := by decide +kernel
  exact this ⟨n, h⟩

/-- A row's cells as a text. -/
theorem conv_at (W : World) (B off : Nat) (l : Bytes) (n cap : Nat) (hn : n = l.length) (hc : ∀ i (hi : i < l.length), W.cell? ⟨B, off + i, none⟩ = some (.int .u8 (l[i].toNat : Int))) : (convert 50 9 (.slice (some ⟨B, off, none⟩) n cap)).run Tryd.prog W = .ok (.string (mkB l)) W := by
  subst hn
  have := run_convert_bytes_arg (P := Tryd.prog) W 50 5 Tryd.underlying50 Tryd.underlying5 B off l.length cap (l.map fun b => (b.toNat : Int)) (by simp) (fun i hi => by rw [hc i hi]; simp [hi]) 9 Tryd.underlying9
  rw [this]
  simp [strOfNums, Function.comp_def, mkB]

/-- The last cells of a block of 65 hold a text. -/
def DB (W : World) (B q : Nat) (acc : Bytes) : Prop := ∃ cs : Array Value, W.heap[B]? = some (.cells cs 91 (0, 0)) ∧ cs.size = 65 ∧ q + acc.length = 65 ∧ ∀ i (hi : i < acc.length), cs[q + i]? = some (.int .u8 (acc[i].toNat : Int))
theorem DB.free {W : World} {B q : Nat} {acc : Bytes} (h : DB W B q acc) (i : Nat) : W.frozen? ⟨B, i, none⟩ = false := by
  obtain ⟨cs, h1, _⟩ := h
  exact blk_free h1 i
theorem DB.has {W : World} {B q : Nat} {acc : Bytes} (h : DB W B q acc) (i : Nat) (hi : i < 65) : ∃ u, W.cell? ⟨B, i, none⟩ = some u := by
  obtain ⟨cs, h1, h2, _⟩ := h
  exact ⟨cs[i]'(by omega), by rw [blk_cell h1]; simp [h2, hi]⟩
theorem slice91 (W : World) (B q : Nat) (hq : q ≤ 64) : (Instr.sliceAt 91 (.pointer (some ⟨B, 0, none⟩)) (some (.int .i64 (q : Int))) none none).run Tryd.prog W = .ok (.slice (some ⟨B, q, none⟩) (65 - q) (65 - q)) W := by
  have hl : Tryd.prog.arrayLen 91 = 65 := by kernel_rfl
  have he : Tryd.prog.elem 91 = 5 := by kernel_rfl
  have hs : (sizeOf 5).run Tryd.prog W = .ok 1 W := by kernel_rfl
  have h := run_sliceAt_array_l (P := Tryd.prog) W 91 ⟨B, 0, none⟩ (by rw [hl, he]; exact Tryd.underlying91) .i64 (q : Int) (by omega) (by rw [hl]; omega)
  rw [h, hl, he, hs]
  simp only [Result.andThen, slicedAt, Int.toNat_natCast]
  rw [if_neg (by omega), Nat.mul_one]
  have : (⟨B, 0, none⟩ : Addr).add q = ⟨B, q, none⟩ := by
    unfold Addr.add
    split
    · rename_i h0; rw [h0]
    · simp
  rw [this]
theorem DB.put {W : World} {B q : Nat} {acc : Bytes} (h : DB W B (q + 1) acc) (d : UInt8) : DB (W.setCell ⟨B, q, none⟩ (.int .u8 (d.toNat : Int))) B q (d :: acc) := by
  obtain ⟨cs, h1, h2, h3, h4⟩ := h
  refine ⟨_, set_same q h1, by simpa using h2, by simp; omega, fun i hi => ?_⟩
  rw [Array.getElem?_setIfInBounds]
  cases i with
  | zero => simp; omega
  | succ i =>
    rw [if_neg (by omega)]
    have := h4 i (by simpa using hi)
    rw [show q + (i + 1) = q + 1 + i by omega, this]
    rfl
theorem DB.conv {W : World} {B q n cap : Nat} {acc : Bytes} (h : DB W B q acc) (hn : n + q = 65) : (convert 50 9 (.slice (some ⟨B, q, none⟩) n cap)).run Tryd.prog W = .ok (.string (mkB acc)) W := by
  obtain ⟨cs, h1, h2, h3, h4⟩ := h
  exact conv_at W B q acc n cap (by omega) fun i hi => by rw [blk_cell h1]; exact h4 i hi
theorem db_new (W : World) : DB (W.alloc (.cells (Array.replicate 65 (.int .u8 0)) 91)) W.heap.size 65 [] := ⟨_, heap_alloc_new W _, Array.size_replicate, rfl, fun i hi => absurd hi (Nat.not_lt_zero _)⟩

theorem pow_two {k q : Nat} (h16 : 16 ≤ k) (h : k < 16 ^ (q + 1)) : 1 ≤ q ∧ k / 16 < 16 ^ q := by
  constructor
  · cases q with
    | zero => simp at h; omega
    | succ q => omega
  · rw [Nat.div_lt_iff_lt_mul (by decide)]; rw [Nat.pow_succ] at h; exact h

set_option maxRecDepth 100000 in
set_option maxHeartbeats 4000000 in
theorem bits_any (m : Nat) (hm : m < 4294967296) (w : World) (ht : Tab w) (hw : 2 < w.heap.size) : Calls Tryd.prog 40 #[.slice none 0 0, .int .u64 (m : Int), .int .i64 16, .bool false, .bool false] w fun e w' => e = .returned (.tuple #[.slice none 0 0, .string (mkB (hexR m []))]) ∧ Below w.heap.size w w' := by
  have hz := zero91
  have hT2 : Tab (w.alloc (.cells (Array.replicate 65 (.int .u8 0)) 91)) := by
    unfold Tab at *
    rw [← ht]
    exact World.cell?_of_block (Below.heap_alloc _ _ _ (by simpa using hw))
  have HT2 := Lib.hid hT2
  have HB0 := Lib.hid ((Below.refl w.heap.size w).alloc (Nat.le_refl _) (.cells (Array.replicate 65 (.int .u8 0)) 91))
  have HDB := Lib.hid (db_new w)
  clear hT2 ht
  generalize Array.replicate 65 (Value.int .u8 0) = ZZ at *
  generalize hR : hexR m [] = R
  have HR := Lib.hid hR
  clear hR
  go_enter Tryd.func40, Tryd.ntmps40
  go_wp2_with fail
  refine (pow_any _).mono ?_
  rintro e w1 ⟨rfl, rfl⟩
  go_wp2_with fail
  refine (tz_any _ HT2.out).mono ?_
  rintro e w1 ⟨rfl, rfl⟩
  go_wp2_with fail
  generalize w.alloc (.cells ZZ 91) = W0 at *
  generalize hB : w.heap.size = B at *
  have HBW := Lib.hid hB
  clear hB
  go_loopw [1, 13] (fun u i wr => ∃ (k q : Nat) (acc : Bytes), u = .int .u64 (k : Int) ∧ i = .int .i64 ((q : Int) + 1) ∧ q ≤ 64 ∧ 57 ≤ q ∧ k < 4294967296 ∧ Hid (k < 16 ^ (q - 57 + 1)) ∧ Hid (hexR k acc = R) ∧ Hid (DB wr B (q + 1) acc) ∧ Hid (Below B w wr)) (fun _ i _ => (intOf i).toNat)
  case atStart => exact ⟨m, 64, [], rfl, rfl, by omega, by omega, hm, by show _ < _; omega, HR.out, HDB.out, HB0.out⟩
  case round =>
    obtain ⟨k, q, acc, rfl, rfl, hq, hq2, hk, hpw, hH, hD, hB⟩ := hrel
    by_cases h16 : 16 ≤ k
    · have hand := u64_and15 k hk
      have hdig := digit_at (k % 16) (by omega)
      obtain ⟨u0, hc⟩ := hD.out.has q (by omega)
      have hf := hD.out.free q
      obtain ⟨p1, p2⟩ := pow_two h16 hpw.out
      have HP := Lib.hid p2
      have HD := Lib.hid (hD.out.put (dig16 (k % 16)))
      have HB := Lib.hid (hB.out.setCell (p := ⟨B, q, none⟩) (Nat.le_refl _) (.int .u8 ((dig16 (k % 16)).toNat : Int)))
      have HH := Lib.hid ((hexR_big h16 acc).symm.trans hH.out)
      clear hpw p2 hD hB hH
      go_wp2_with fail
      go_roundw
      case rel =>
        obtain ⟨q, rfl⟩ : ∃ q', q = q' + 1 := ⟨q - 1, by omega⟩
        exact ⟨k / 16, q, dig16 (k % 16) :: acc, by simp, by simp, by omega, by omega, by omega, by have := HP.out; rw [show q + 1 - 57 = q - 57 + 1 by omega] at this; exact this, HH.out, HD.out, HB.out⟩
      case measure => simp [intOf]
    · have hdig := digit_at k (by omega)
      obtain ⟨u0, hc⟩ := hD.out.has q (by omega)
      have hf := hD.out.free q
      have HB := Lib.hid (hB.out.setCell (p := ⟨B, q, none⟩) (Nat.le_refl _) (.int .u8 ((dig16 k).toNat : Int)))
      have HF : Hid (dig16 k :: acc = R) := (hexR_small (by omega) acc).symm.trans hH.out
      have hcv := (hD.out.put (dig16 k)).conv (n := 65 - q) (cap := 65 - q) (by omega)
      clear hpw hD hB hH
      have hsl := slice91 (wr.setCell ⟨B, q, none⟩ (.int .u8 ((dig16 k).toNat : Int))) B q hq
      go_wp2_with fail
      go_ret2
      exact ⟨by rw [HF.out]; rfl, by rw [HBW.out]; exact HB.out⟩

set_option maxHeartbeats 1000000 in
theorem fmt_inner (m : Nat) (hm : m < 4294967296) (w : World) (ht : Tab w) (hw : 2 < w.heap.size) : Calls Tryd.prog 32 #[.int .u64 (m : Int), .int .i64 16] w fun e w' => e = .returned (.string (mkB (hexR m []))) ∧ Below w.heap.size w w' := by
  have HB := Lib.hid (bits_any m hm w ht hw)
  generalize hexR m [] = r at *
  go_enter Tryd.func32, Tryd.ntmps32
  go_wp2_with (go_at_call 40; refine HB.out.mono ?_; rintro e w1 ⟨rfl, hb1⟩)
  go_ret
  exact ⟨rfl, hb1⟩

theorem fmt_any (m : Nat) (hm : m < 4294967296) (w : World) (ht : Tab w) (hw : 2 < w.heap.size) : Calls Tryd.prog 25 #[.int .u64 (m : Int), .int .i64 16] w fun e w' => e = .returned (.string (mkB (hexR m []))) ∧ Below w.heap.size w w' := by
  have HB := Lib.hid (fmt_inner m hm w ht hw)
  generalize hexR m [] = r at *
  go_enter Tryd.func25, Tryd.ntmps25
  go_wp2_with (go_at_call 32; refine HB.out.mono ?_; rintro e w1 ⟨rfl, hb1⟩)
  go_ret
  exact ⟨rfl, hb1⟩

end Go.Proofs.YtilhegdhbcmlkaaDoor
