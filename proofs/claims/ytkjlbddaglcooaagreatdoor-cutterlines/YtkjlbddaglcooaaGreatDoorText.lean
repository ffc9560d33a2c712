/- The contracts of the laws' own helpers digits and Seed.Text. -/
import Derived.Test.YtkjlbddaglcooaaGreatDoorSeedRun
import Derived.Test.YtkjlbddaglcooaaGreatDoorCuts
import Derived.Test.YtkjlbddaglcooaaGreatDoorCtHead
import Derived.BigQuiet
namespace Go.Proofs.YtkjlbddaglcooaaGreatDoor
open Go.RowKit Pl
open Go.Lib (byteCells)

def mkT (l : List UInt8) : ByteArray := ⟨l.toArray⟩
theorem mkT_app (a b : List UInt8) : mkT a ++ mkT b = mkT (a ++ b) := bytes_ext (by simp [mkT])
theorem mkT_size (a : List UInt8) : (mkT a).size = a.length := by simp [mkT, ByteArray.size]
theorem mkT_data (a : List UInt8) : (mkT a).data.toList = a := by simp [mkT]
theorem one_byte_at (v : Int) (b : UInt8) (h : v = (b.toNat : Int)) (W : World) : (convert 46 9 (.slice (some ⟨W.heap.size, 0, none⟩) 1 1)).run Tryz.prog (W.alloc (.cells #[.int .u8 v] 5)) = .ok (.string (mkT [b])) (W.alloc (.cells #[.int .u8 v] 5)) := by
  subst h
  have := run_convert_bytes_arg (P := Tryz.prog) (W.alloc (.cells #[.int .u8 (b.toNat : Int)] 5)) 46 5 Tryz.underlying46 Tryz.underlying5 W.heap.size 0 1 1 [(b.toNat : Int)] rfl (fun i hi => by
    obtain rfl : i = 0 := by omega
    simp) 9 Tryz.underlying9
  rw [this]
  simp [strOfNums, mkT]

def digL (n : Nat) : List UInt8 := if n < 10 then [UInt8.ofNat (48 + n)] else if n < 100 then [UInt8.ofNat (48 + n / 10), UInt8.ofNat (48 + n % 10)] else [UInt8.ofNat (48 + n / 100), UInt8.ofNat (48 + n / 10 % 10), UInt8.ofNat (48 + n % 10)]
theorem digits_all : ∀ bi : Fin 8, digL (bodyT bi).length = digitsT bi := by decide +kernel

set_option maxRecDepth 10000 in
theorem dig1_any (n : Nat) (h : n < 10) (w : World) : Calls Tryz.prog 24 #[.int .i64 (n : Int)] w fun e w' => e = .returned (.string (mkT [UInt8.ofNat (48 + n)])) ∧ Below w.heap.size w w' := by
  have hv : ((48 : Int) + (n : Int)) = ((UInt8.ofNat (48 + n)).toNat : Int) := by
    have h2 : (UInt8.ofNat (48 + n)).toNat = (48 + n) % 256 := by simp
    rw [h2]
    omega
  generalize UInt8.ofNat (48 + n) = b at *
  have hc := one_byte_at ((48 : Int) + (n : Int)) b hv w
  clear hv
  go_enter Tryz.func24, Tryz.ntmps24
  go_wp2_with fail
  go_ret
  exact ⟨rfl, (Below.refl _ _).alloc (Nat.le_refl _) _⟩


theorem dig_two (a b : UInt8) : mkT [a] ++ mkT [b] = mkT [a, b] := mkT_app [a] [b]
theorem dig_three (a b c : UInt8) : mkT [a, b] ++ mkT [c] = mkT [a, b, c] := mkT_app [a, b] [c]
set_option maxRecDepth 10000 in
set_option maxHeartbeats 1000000 in
theorem dig2_any (n : Nat) (h0 : 10 ≤ n) (h : n < 100) (w : World) : Calls Tryz.prog 24 #[.int .i64 (n : Int)] w fun e w' => e = .returned (.string (mkT [UInt8.ofNat (48 + n / 10), UInt8.ofNat (48 + n % 10)])) ∧ Below w.heap.size w w' := by
  have H1 := Lib.hid fun w => dig1_any (n / 10) (by omega) w
  have H2 := Lib.hid fun w => dig1_any (n % 10) (by omega) w
  generalize UInt8.ofNat (48 + n / 10) = a at *
  generalize UInt8.ofNat (48 + n % 10) = b at *
  have hz1 : (mkT [a]).size = 1 := rfl
  have hz2 : (mkT [b]).size = 1 := rfl
  have hs := dig_two a b
  have hd : ((n / 10 : Nat) : Int) = (n : Int) / 10 := by omega
  have hr : ((n % 10 : Nat) : Int) = (n : Int) % 10 := by omega
  rw [hd] at H1
  rw [hr] at H2
  clear hd hr
  generalize mkT [a] = t1 at *
  generalize mkT [b] = t2 at *
  generalize mkT [a, b] = t3 at *
  go_enter Tryz.func24, Tryz.ntmps24
  go_wp2_with fail
  refine (H1.out _).mono ?_
  rintro e w1 ⟨rfl, hb1⟩
  go_wp2_with fail
  refine (H2.out _).mono ?_
  rintro e w2 ⟨rfl, hb2⟩
  go_wp2_with fail
  go_ret
  exact ⟨rfl, bt hb1 hb2⟩
set_option maxRecDepth 10000 in
set_option maxHeartbeats 1000000 in
theorem dig3_any (n : Nat) (h0 : 100 ≤ n) (h : n < 1000) (w : World) : Calls Tryz.prog 24 #[.int .i64 (n : Int)] w fun e w' => e = .returned (.string (mkT [UInt8.ofNat (48 + n / 100), UInt8.ofNat (48 + n / 10 % 10), UInt8.ofNat (48 + n % 10)])) ∧ Below w.heap.size w w' := by
  have H1 := Lib.hid fun w => dig2_any (n / 10) (by omega) (by omega) w
  have H2 := Lib.hid fun w => dig1_any (n % 10) (by omega) w
  have e1 : n / 10 / 10 = n / 100 := by omega
  rw [e1] at H1
  generalize UInt8.ofNat (48 + n / 100) = a at *
  generalize UInt8.ofNat (48 + n / 10 % 10) = c at *
  generalize UInt8.ofNat (48 + n % 10) = b at *
  have hz1 : (mkT [a, c]).size = 2 := rfl
  have hz2 : (mkT [b]).size = 1 := rfl
  have hs := dig_three a c b
  have hd : ((n / 10 : Nat) : Int) = (n : Int) / 10 := by omega
  have hr : ((n % 10 : Nat) : Int) = (n : Int) % 10 := by omega
  rw [hd] at H1
  rw [hr] at H2
  clear hd hr e1
  generalize mkT [a, c] = t1 at *
  generalize mkT [b] = t2 at *
  generalize mkT [a, c, b] = t3 at *
  go_enter Tryz.func24, Tryz.ntmps24
  go_wp2_with fail
  refine (H1.out _).mono ?_
  rintro e w1 ⟨rfl, hb1⟩
  go_wp2_with fail
  refine (H2.out _).mono ?_
  rintro e w2 ⟨rfl, hb2⟩
  go_wp2_with fail
  go_ret
  exact ⟨rfl, bt hb1 hb2⟩
theorem digits_any (n : Nat) (h : n < 1000) (w : World) : Calls Tryz.prog 24 #[.int .i64 (n : Int)] w fun e w' => e = .returned (.string (mkT (digL n))) ∧ Below w.heap.size w w' := by
  unfold digL
  by_cases h1 : n < 10
  · rw [if_pos h1]; exact dig1_any n h1 w
  · by_cases h2 : n < 100
    · rw [if_neg h1, if_pos h2]; exact dig2_any n (by omega) h2 w
    · rw [if_neg h1, if_neg h2]; exact dig3_any n (by omega) h w


theorem chunkS_eq (n : Nat) (hn : 1 ≤ n) (hn2 : n < 10) : ∀ (f : Nat) (b : List UInt8), b.length ≤ f → chunkS f n b = chunksL n b
  | 0, b, h => by
    have : b = [] := List.length_eq_zero_iff.1 (by omega)
    subst this
    rw [chunksL, chunksW_nil]
    rfl
  | f + 1, [], _ => by
    rw [chunksL, chunksW_nil]
    rfl
  | f + 1, x :: b, h => by
    have ih := chunkS_eq n hn hn2 f ((x :: b).drop n) (by simp at h ⊢; omega)
    have hm : min n (x :: b).length < 10 := by omega
    have hf : fmtL (min n (x :: b).length) = [UInt8.ofNat (48 + min n (x :: b).length)] := by
      unfold fmtL dig16
      rw [if_pos (by omega), if_pos hm]
    rw [chunkS, chunksL, chunksW_more n (x :: b) hn (by simp), hf, ih, chunksL]
    · simp [chunkT]
    · simp
theorem below_drewN' (B : Nat) (w : World) (n : Nat) : Below B w (w.drewN n) := ⟨rfl, rfl, rfl, Nat.le_refl _, fun _ _ => rfl⟩
theorem join_app (a b : List (List UInt8)) : joinL (a ++ b) = joinL a ++ joinL b := by
  induction a with
  | nil => rfl
  | cons x a ih => rw [List.cons_append, joinL, joinL, ih]; simp
theorem dig_len (n : Nat) : (digL n).length ≤ 3 := by
  unfold digL
  repeat' split
  all_goals simp
theorem chunk_len : ∀ bi : Fin 8, ∀ ch : Fin 4, (chunkS 200 ch (bodyT bi)).length ≤ 2000 := by decide +kernel
structure TB (w : World) : Prop where
  m : ∀ i, i < 6 → w.cell? ⟨2, i, none⟩ = some (.string (mkT (methodT i)))
  t : ∀ i, i < 16 → w.cell? ⟨1, i, none⟩ = some (.string (mkT (targetT i)))
  b : ∀ i, i < 8 → w.cell? ⟨0, i, none⟩ = some (.string (mkT (bodyT i)))
  tab : Tab w
  lo : 6 < w.heap.size
theorem TB.below {w w' : World} (h : TB w) (k : Below w.heap.size w w') : TB w' := by
  have hl := h.lo
  refine ⟨fun i hi => ?_, fun i hi => ?_, fun i hi => ?_, h.tab.below k h.lo, Nat.lt_of_lt_of_le h.lo k.size⟩
  · exact (World.cell?_of_block (k.block 2 (by omega))).trans (h.m i hi)
  · exact (World.cell?_of_block (k.block 1 (by omega))).trans (h.t i hi)
  · exact (World.cell?_of_block (k.block 0 (by omega))).trans (h.b i hi)
theorem method_len : ∀ i : Fin 6, (methodT i).length ≤ 10 := by decide
theorem target_len : ∀ i : Fin 16, (targetT i).length ≤ 20 := by decide
theorem body_len : ∀ i : Fin 8, (bodyT i).length ≤ 150 := by decide +kernel
def i64_and (k : Nat) (hk : k ≤ 62) : Prop := ∀ n : Int, bits .and .i64 n (2 ^ k - 1 : Nat) = n % (2 ^ k : Nat)
theorem i64_and8 (n : Int) : bits .and .i64 n 255 = n % 256 := by
  have h : (BitVec.ofInt 64 255).toNat = 2 ^ 8 - 1 := by decide
  have key : (BitVec.ofInt 64 n &&& BitVec.ofInt 64 255).toNat = (n % ((2 ^ 64 : Nat) : Int)).toNat % 2 ^ 8 := by
    rw [BitVec.toNat_and, BitVec.toNat_ofInt, h, Nat.and_two_pow_sub_one_eq_mod]
  show IntKind.i64.wrap ((BitVec.ofInt 64 n &&& BitVec.ofInt 64 255).toNat : Nat) = n % 256
  rw [key, IntKind.wrap_i64]
  omega
theorem i64_and4 (n : Int) : bits .and .i64 n 15 = n % 16 := by
  have h : (BitVec.ofInt 64 15).toNat = 2 ^ 4 - 1 := by decide
  have key : (BitVec.ofInt 64 n &&& BitVec.ofInt 64 15).toNat = (n % ((2 ^ 64 : Nat) : Int)).toNat % 2 ^ 4 := by
    rw [BitVec.toNat_and, BitVec.toNat_ofInt, h, Nat.and_two_pow_sub_one_eq_mod]
  show IntKind.i64.wrap ((BitVec.ofInt 64 n &&& BitVec.ofInt 64 15).toNat : Nat) = n % 16
  rw [key, IntKind.wrap_i64]
  omega
theorem i64_and3 (n : Int) : bits .and .i64 n 7 = n % 8 := by
  have h : (BitVec.ofInt 64 7).toNat = 2 ^ 3 - 1 := by decide
  have key : (BitVec.ofInt 64 n &&& BitVec.ofInt 64 7).toNat = (n % ((2 ^ 64 : Nat) : Int)).toNat % 2 ^ 3 := by
    rw [BitVec.toNat_and, BitVec.toNat_ofInt, h, Nat.and_two_pow_sub_one_eq_mod]
  show IntKind.i64.wrap ((BitVec.ofInt 64 n &&& BitVec.ofInt 64 7).toNat : Nat) = n % 8
  rw [key, IntKind.wrap_i64]
  omega
theorem i64_and2 (n : Int) : bits .and .i64 n 3 = n % 4 := by
  have h : (BitVec.ofInt 64 3).toNat = 2 ^ 2 - 1 := by decide
  have key : (BitVec.ofInt 64 n &&& BitVec.ofInt 64 3).toNat = (n % ((2 ^ 64 : Nat) : Int)).toNat % 2 ^ 2 := by
    rw [BitVec.toNat_and, BitVec.toNat_ofInt, h, Nat.and_two_pow_sub_one_eq_mod]
  show IntKind.i64.wrap ((BitVec.ofInt 64 n &&& BitVec.ofInt 64 3).toNat : Nat) = n % 4
  rw [key, IntKind.wrap_i64]
  omega

theorem tok_idx1 (W : World) : (Instr.index 55 (.agg #[.string ⟨#[]⟩, .string ⟨#[116]⟩, .string ⟨#[116]⟩, .string ⟨#[117]⟩]) (.int .i64 1)).run Tryz.prog W = .ok (.string ⟨#[116]⟩) W := by kernel_rfl
theorem tok_idx2 (W : World) : (Instr.index 55 (.agg #[.string ⟨#[]⟩, .string ⟨#[116]⟩, .string ⟨#[116]⟩, .string ⟨#[117]⟩]) (.int .i64 2)).run Tryz.prog W = .ok (.string ⟨#[116]⟩) W := by kernel_rfl
theorem tok_idx3 (W : World) : (Instr.index 55 (.agg #[.string ⟨#[]⟩, .string ⟨#[116]⟩, .string ⟨#[116]⟩, .string ⟨#[117]⟩]) (.int .i64 3)).run Tryz.prog W = .ok (.string ⟨#[117]⟩) W := by kernel_rfl
theorem ret_str {a b : ByteArray} (h : a = b) : Ending.returned (.string a) = .returned (.string b) := by rw [h]
set_option maxRecDepth 10000 in
set_option maxHeartbeats 4000000 in
theorem text_any (m t b k c wr : Int) (cl : Bool) (m8 mi ti bi tk ch wk : Nat) (hm8 : m % 256 = (m8 : Int)) (hmi : m8 % 6 = mi) (hti : t % 16 = (ti : Int)) (hbi : b % 8 = (bi : Int)) (htk : k % 4 = (tk : Int)) (hch : c % 4 = (ch : Int)) (hwk : wr % 16 = (wk : Int)) (hw : wk = 0 ∨ 3 < wk) (w : World) (htb : TB w) :
    Calls Tryz.prog 10 #[.agg #[.int .i64 m, .int .i64 t, .int .i64 b, .int .i64 k, .int .i64 c, .bool cl, .int .i64 wr]] w fun e w' => e = .returned (.string (mkT (seedT mi ti bi tk ch cl))) ∧ Below w.heap.size w w' := by
  have a1 := i64_and8 m; have a2 := i64_and4 t; have a3 := i64_and3 b; have a4 := i64_and2 k; have a5 := i64_and2 c; have a6 := i64_and4 wr
  rw [hm8] at a1; rw [hti] at a2; rw [hbi] at a3; rw [htk] at a4; rw [hch] at a5; rw [hwk] at a6
  have b1 : mi < 6 := by omega
  have b2 : ti < 16 := by omega
  have b3 : bi < 8 := by omega
  have b4 : tk < 4 := by omega
  have b5 : ch < 4 := by omega
  have b6 : m8 < 256 := by omega
  have hrem : (m8 : Int) % 6 = (mi : Int) := by omega
  have hb0 : Below w.heap.size w (w.alloc (.cells #[.int .i64 m, .int .i64 t, .int .i64 b, .int .i64 k, .int .i64 c, .bool cl, .int .i64 wr] 25)) := (Below.refl _ _).alloc (Nat.le_refl _) _
  have htb2 := htb.below hb0
  have c2 := htb2.m mi b1; have c1 := htb2.t ti b2; have c0 := htb2.b bi b3
  have z2 : (mkT (methodT mi)).size ≤ 10 := by rw [mkT_size]; exact method_len ⟨mi, b1⟩
  have z1 : (mkT (targetT ti)).size ≤ 20 := by rw [mkT_size]; exact target_len ⟨ti, b2⟩
  have z0 : (mkT (bodyT bi)).size ≤ 150 := by rw [mkT_size]; exact body_len ⟨bi, b3⟩
  have HB0 := Lib.hid hb0; have HTB := Lib.hid htb2
  clear hb0 htb2 hm8 hti hbi htk hch hwk htb
  generalize hM : mkT (methodT mi) = M at *
  generalize hT : mkT (targetT ti) = T at *
  generalize hB : mkT (bodyT bi) = B at *
  have HMM := Lib.hid hM; have HTT := Lib.hid hT; have HBB := Lib.hid hB
  clear hM hT hB
  go_enter Tryz.func10, Tryz.ntmps10
  go_wp2_with fail
  go_quiet (fail)
  have hbq : Below w.heap.size w ((w.alloc (.cells #[.int .i64 m, .int .i64 t, .int .i64 b, .int .i64 k, .int .i64 c, .bool cl, .int .i64 wr] 25)).drewN nq) := HB0.out.trans (below_drewN _ _ nq)
  have hblk : ((w.alloc (.cells #[.int .i64 m, .int .i64 t, .int .i64 b, .int .i64 k, .int .i64 c, .bool cl, .int .i64 wr] 25)).drewN nq).heap[w.heap.size]? = some (.cells #[.int .i64 m, .int .i64 t, .int .i64 b, .int .i64 k, .int .i64 c, .bool cl, .int .i64 wr] 25 (0, 0)) := heap_alloc_new w _
  have htq : TB ((w.alloc (.cells #[.int .i64 m, .int .i64 t, .int .i64 b, .int .i64 k, .int .i64 c, .bool cl, .int .i64 wr] 25)).drewN nq) := HTB.out.below (below_drewN _ _ nq)
  generalize (w.alloc (.cells #[.int .i64 m, .int .i64 t, .int .i64 b, .int .i64 k, .int .i64 c, .bool cl, .int .i64 wr] 25)).drewN nq = W at *
  have k3 := blk_cell hblk 3; have k4 := blk_cell hblk 4; have k5 := blk_cell hblk 5; have k6 := blk_cell hblk 6
  simp at k3 k4 k5 k6
  have HBQ := Lib.hid hbq; have HTQ := Lib.hid htq
  have hw1 : ((wk : Int) == 1) = false := by rw [beq_eq_false_iff_ne]; omega
  have hw2 : ((wk : Int) == 2) = false := by rw [beq_eq_false_iff_ne]; omega
  have hw3 : ((wk : Int) == 3) = false := by rw [beq_eq_false_iff_ne]; omega
  have hS : (M ++ ⟨#[32]⟩ ++ T ++ ⟨#[32, 72, 84, 84, 80, 47, 49, 46, 49, 13, 10, 72, 111, 115, 116, 58, 32, 104, 13, 10]⟩).data.toList = firstL mi ti ++ [13, 10] ++ hostL ++ [13, 10] := by
    rw [← HMM.out, ← HTT.out]
    simp [mkT, firstL, hostL]
  have zS : (M ++ ⟨#[32]⟩ ++ T ++ ⟨#[32, 72, 84, 84, 80, 47, 49, 46, 49, 13, 10, 72, 111, 115, 116, 58, 32, 104, 13, 10]⟩).size ≤ 60 := by
    have e1 : (⟨#[32]⟩ : ByteArray).size = 1 := rfl
    have e2 : (⟨#[32, 72, 84, 84, 80, 47, 49, 46, 49, 13, 10, 72, 111, 115, 116, 58, 32, 104, 13, 10]⟩ : ByteArray).size = 20 := rfl
    simp only [app_size, e1, e2]
    omega
  have HS := Lib.hid hS
  clear hbq hblk htq hS c0 c1 c2 HB0 HTB HMM HTT z1 z2 a1 a2 a3 hw b1 b2 b6 hrem
  generalize M ++ ⟨#[32]⟩ ++ T ++ ⟨#[32, 72, 84, 84, 80, 47, 49, 46, 49, 13, 10, 72, 111, 115, 116, 58, 32, 104, 13, 10]⟩ = S at *
  have HCK : Hid (0 < ch → ∀ W', TB W' → Calls Tryz.prog 23 #[.string B, .int .i64 (ch : Int)] W' fun e w' => e = .returned (.string (mkT (chunkS 200 ch (bodyT bi)))) ∧ Below W'.heap.size W' w') := fun h0 W' hW => by
    have := chunks_any B (ch : Int) ch (by omega) (by omega) (by omega) W' hW.tab hW.lo
    rw [← HBB.out, mkT_data, ← chunkS_eq ch (by omega) (by omega) 200 (bodyT bi) (by have := body_len ⟨bi, b3⟩; simp only at this; omega)] at this
    rw [← HBB.out]
    exact this
  have HDG := Lib.hid fun W' => digits_any B.size (by omega) W'
  have zC : (mkT (chunkS 200 ch (bodyT bi))).size ≤ 2000 := by rw [mkT_size]; exact chunk_len ⟨bi, b3⟩ ⟨ch, b5⟩
  have zD : (mkT (digL B.size)).size ≤ 3 := by rw [mkT_size]; exact dig_len _
  have HDL : Hid (digL B.size = digitsT bi) := by
    rw [← HBB.out, mkT_size]
    exact digits_all ⟨bi, b3⟩
  generalize hCH : mkT (chunkS 200 ch (bodyT bi)) = CH at *
  generalize hDG : mkT (digL B.size) = DG at *
  have HCH := Lib.hid hCH; have HDGT := Lib.hid hDG
  clear hCH hDG
  have hx1 := tok_idx1 W; have hx2 := tok_idx2 W; have hx3 := tok_idx3 W
  by_cases hc0 : ch = 0
  · subst hc0
    by_cases hbe : bodyT bi = []
    · have hB0 : B = ⟨#[]⟩ := by rw [← HBB.out, hbe]; rfl
      subst hB0
      have hE : ∀ X : List UInt8, firstL mi ti ++ [13, 10] ++ hostL ++ [13, 10] ++ joinL (tokenL tk ++ closeL cl) ++ [13, 10] = X → seedT mi ti bi tk 0 cl = X := fun X h => by
        rw [← h]
        simp [seedT, restL, kindL, tailT, hbe, joinL]
      have HE := Lib.hid hE
      clear hE HCK HDG hbe
      rcases (show tk = 0 ∨ tk = 1 ∨ tk = 2 ∨ tk = 3 by omega) with rfl | rfl | rfl | rfl <;> cases cl
      all_goals
        go_wp2_with fail
        go_ret
        refine ⟨ret_str ?_, HBQ.out⟩
        rw [HE.out _ rfl]
        refine bytes_ext ?_
        simp [HS.out, mkT, tokenL, closeL, joinL]
    · have hBe : (B.toList == []) = false := by
        rw [Lib.toList_data, beq_eq_false_iff_ne, ← HBB.out, mkT_data]
        exact hbe
      have hE : ∀ X : List UInt8, firstL mi ti ++ [13, 10] ++ hostL ++ [13, 10] ++ joinL (tokenL tk ++ closeL cl) ++ [67, 111, 110, 116, 101, 110, 116, 45, 76, 101, 110, 103, 116, 104, 58, 32] ++ digitsT bi ++ [13, 10, 13, 10] ++ bodyT bi = X → seedT mi ti bi tk 0 cl = X := fun X h => by
        rw [← h]
        simp [seedT, restL, kindL, tailT, hbe, joinL, join_app]
      have HE := Lib.hid hE
      have HBD : Hid (B.data.toList = bodyT bi) := by rw [← HBB.out]; exact mkT_data _
      have HDD : Hid (DG.data.toList = digitsT bi) := by rw [← HDGT.out, HDL.out]; exact mkT_data _
      clear hE HCK hbe
      rcases (show tk = 0 ∨ tk = 1 ∨ tk = 2 ∨ tk = 3 by omega) with rfl | rfl | rfl | rfl <;> cases cl
      all_goals
        go_wp2_with fail
        refine (HDG.out _).mono ?_
        rintro e w2 ⟨rfl, hb2⟩
        go_wp2_with fail
        go_ret
        refine ⟨ret_str ?_, bt HBQ.out hb2⟩
        rw [HE.out _ rfl]
        refine bytes_ext ?_
        simp [HS.out, HBD.out, HDD.out, mkT, tokenL, closeL, joinL]
  · have hcp : 0 < ch := by omega
    have hcd : decide ((0 : Int) < (ch : Int)) = true := decide_eq_true (by omega)
    have hE : ∀ X : List UInt8, firstL mi ti ++ [13, 10] ++ hostL ++ [13, 10] ++ joinL (tokenL tk ++ closeL cl) ++ [84, 114, 97, 110, 115, 102, 101, 114, 45, 69, 110, 99, 111, 100, 105, 110, 103, 58, 32, 99, 104, 117, 110, 107, 101, 100, 13, 10, 13, 10] ++ chunkS 200 ch (bodyT bi) = X → seedT mi ti bi tk ch cl = X := fun X h => by
      rw [← h]
      simp [seedT, restL, kindL, tailT, hcp, joinL, join_app]
    have HE := Lib.hid hE
    have HCD : Hid (CH.data.toList = chunkS 200 ch (bodyT bi)) := by rw [← HCH.out]; exact mkT_data _
    have HCK2 := Lib.hid (HCK.out hcp)
    clear hE HCK HDG
    rcases (show tk = 0 ∨ tk = 1 ∨ tk = 2 ∨ tk = 3 by omega) with rfl | rfl | rfl | rfl <;> cases cl
    all_goals
      go_wp2_with fail
      refine (HCK2.out _ HTQ.out).mono ?_
      rintro e w2 ⟨rfl, hb2⟩
      go_wp2_with fail
      go_ret
      refine ⟨ret_str ?_, bt HBQ.out hb2⟩
      rw [HE.out _ rfl]
      refine bytes_ext ?_
      simp [HS.out, HCD.out, mkT, tokenL, closeL, joinL]

end Go.Proofs.YtkjlbddaglcooaaGreatDoor
