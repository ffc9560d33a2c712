/- Seed.Text where a head is made wrong. -/
import Derived.Test.YtkjlbddaglcooaaGreatDoorText
import Derived.Test.YtkjlbddaglcooaaGreatDoorSeedMore
namespace Go.Proofs.YtkjlbddaglcooaaGreatDoor
open Go.RowKit Pl
open Go.Lib (byteCells)

set_option maxRecDepth 10000 in
set_option maxHeartbeats 4000000 in
theorem text_bad (m t b k c wr : Int) (cl : Bool) (m8 mi ti bi tk ch wk : Nat) (hm8 : m % 256 = (m8 : Int)) (hmi : m8 % 6 = mi) (hti : t % 16 = (ti : Int)) (hbi : b % 8 = (bi : Int)) (htk : k % 4 = (tk : Int)) (hch : c % 4 = (ch : Int)) (hwk : wr % 16 = (wk : Int)) (hw : wk = 1 ∨ wk = 2 ∨ wk = 3) (w : World) (htb : TB w) :
    Calls Tryz.prog 10 #[.agg #[.int .i64 m, .int .i64 t, .int .i64 b, .int .i64 k, .int .i64 c, .bool cl, .int .i64 wr]] w fun e w' => e = .returned (.string (mkT (wrongT mi ti tk cl wk))) ∧ Below w.heap.size w w' := by
  have a1 := i64_and8 m; have a2 := i64_and4 t; have a3 := i64_and3 b; have a4 := i64_and2 k; have a5 := i64_and2 c; have a6 := i64_and4 wr
  rw [hm8] at a1; rw [hti] at a2; rw [hbi] at a3; rw [htk] at a4; rw [hch] at a5; rw [hwk] at a6
  have b1 : mi < 6 := by omega
  have b2 : ti < 16 := by omega
  have b3 : bi < 8 := by omega
  have b4 : tk < 4 := by omega
  have b5 : ch < 4 := by omega
  have b6 : m8 < 256 := by omega
  have hrem : (m8 : Int) % 6 = (mi : Int) := by omega
  have hb0 : Below w.heap.size w (w.alloc (.cells #[.int .i64 m, .int .i64 t, .int .i64 b, .int .i64 k, .int .i64 c, .bool cl, .int .i64 wr] 25)) := (Below.refl _ _).alloc (Nat.le_refl _) _
  have htb2 := htb.below hb0
  have c2 := htb2.m mi b1; have c1 := htb2.t ti b2; have c0 := htb2.b bi b3
  have z2 : (mkT (methodT mi)).size ≤ 10 := by rw [mkT_size]; exact method_len ⟨mi, b1⟩
  have z1 : (mkT (targetT ti)).size ≤ 20 := by rw [mkT_size]; exact target_len ⟨ti, b2⟩
  have z0 : (mkT (bodyT bi)).size ≤ 150 := by rw [mkT_size]; exact body_len ⟨bi, b3⟩
  have HB0 := Lib.hid hb0; have HTB := Lib.hid htb2
  clear hb0 htb2 hm8 hti hbi htk hch hwk htb
  generalize hM : mkT (methodT mi) = M at *
  generalize hT : mkT (targetT ti) = T at *
  generalize hB : mkT (bodyT bi) = B at *
  have HMM := Lib.hid hM; have HTT := Lib.hid hT; have HBB := Lib.hid hB
  clear hM hT hB
  go_enter Tryz.func10, Tryz.ntmps10
  go_wp2_with fail
  go_quiet (fail)
  have hbq : Below w.heap.size w ((w.alloc (.cells #[.int .i64 m, .int .i64 t, .int .i64 b, .int .i64 k, .int .i64 c, .bool cl, .int .i64 wr] 25)).drewN nq) := HB0.out.trans (below_drewN _ _ nq)
  have hblk : ((w.alloc (.cells #[.int .i64 m, .int .i64 t, .int .i64 b, .int .i64 k, .int .i64 c, .bool cl, .int .i64 wr] 25)).drewN nq).heap[w.heap.size]? = some (.cells #[.int .i64 m, .int .i64 t, .int .i64 b, .int .i64 k, .int .i64 c, .bool cl, .int .i64 wr] 25 (0, 0)) := heap_alloc_new w _
  have htq : TB ((w.alloc (.cells #[.int .i64 m, .int .i64 t, .int .i64 b, .int .i64 k, .int .i64 c, .bool cl, .int .i64 wr] 25)).drewN nq) := HTB.out.below (below_drewN _ _ nq)
  generalize (w.alloc (.cells #[.int .i64 m, .int .i64 t, .int .i64 b, .int .i64 k, .int .i64 c, .bool cl, .int .i64 wr] 25)).drewN nq = W at *
  have k3 := blk_cell hblk 3; have k4 := blk_cell hblk 4; have k5 := blk_cell hblk 5; have k6 := blk_cell hblk 6
  simp at k3 k4 k5 k6
  have HBQ := Lib.hid hbq; have HTQ := Lib.hid htq
  have hS : (M ++ ⟨#[32]⟩ ++ T ++ ⟨#[32, 72, 84, 84, 80, 47, 49, 46, 49, 13, 10, 72, 111, 115, 116, 58, 32, 104, 13, 10]⟩).data.toList = firstL mi ti ++ [13, 10] ++ hostL ++ [13, 10] := by
    rw [← HMM.out, ← HTT.out]
    simp [mkT, firstL, hostL]
  have zS : (M ++ ⟨#[32]⟩ ++ T ++ ⟨#[32, 72, 84, 84, 80, 47, 49, 46, 49, 13, 10, 72, 111, 115, 116, 58, 32, 104, 13, 10]⟩).size ≤ 60 := by
    have e1 : (⟨#[32]⟩ : ByteArray).size = 1 := rfl
    have e2 : (⟨#[32, 72, 84, 84, 80, 47, 49, 46, 49, 13, 10, 72, 111, 115, 116, 58, 32, 104, 13, 10]⟩ : ByteArray).size = 20 := rfl
    simp only [app_size, e1, e2]
    omega
  have HS := Lib.hid hS
  clear hbq hblk htq hS c0 c1 c2 HB0 HTB HMM HTT z1 z2 a1 a2 a3 b1 b2 b6 hrem
  generalize M ++ ⟨#[32]⟩ ++ T ++ ⟨#[32, 72, 84, 84, 80, 47, 49, 46, 49, 13, 10, 72, 111, 115, 116, 58, 32, 104, 13, 10]⟩ = S at *
  have hE : ∀ X : List UInt8, firstL mi ti ++ [13, 10] ++ hostL ++ [13, 10] ++ joinL (tokenL tk ++ closeL cl) ++ wrongL wk ++ [13, 10, 13, 10] = X → wrongT mi ti tk cl wk = X := fun X h => by
    rw [← h]
    simp [wrongT, wrongR, joinL, join_app]
  have HE := Lib.hid hE
  have hx1 := tok_idx1 W; have hx2 := tok_idx2 W; have hx3 := tok_idx3 W
  clear hE HTQ HBB z0 b3 b5
  rcases hw with rfl | rfl | rfl <;> rcases (show tk = 0 ∨ tk = 1 ∨ tk = 2 ∨ tk = 3 by omega) with rfl | rfl | rfl | rfl <;> cases cl
  all_goals
    go_wp2_with fail
    go_ret
    refine ⟨ret_str ?_, HBQ.out⟩
    rw [HE.out _ rfl]
    refine bytes_ext ?_
    simp [HS.out, mkT, tokenL, closeL, joinL, wrongL]

end Go.Proofs.YtkjlbddaglcooaaGreatDoor
