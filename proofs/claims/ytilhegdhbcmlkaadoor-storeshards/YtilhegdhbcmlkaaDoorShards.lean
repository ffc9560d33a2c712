/- StoreShards, walked. -/
import Derived.Test.YtilhegdhbcmlkaaDoorSt6
namespace Go.Proofs.YtilhegdhbcmlkaaDoor
open Go.RowKit

set_option maxRecDepth 100000 in
set_option maxHeartbeats 2000000 in
theorem shards_walk (a : ByteArray) (n : Int) (w : World) (ha : (a.size : Nat) ≤ maxLen) (_hn : (Lit.int .i64 n).wf = true) (hg : GB w) : Calls Tryd.prog 9 #[.string a, .int .i64 n] w fun e w' => e = .returned (.bool true) ∧ Below w.heap.size w w' := by
  have HF := Lib.hid (fit_any w hg)
  unfold maxLen at ha
  clear hg
  by_cases hb : a.size ≤ 300
  · have HS := Lib.hid (fun wx => shard_any a (by omega) wx)
    have HL := Lib.hid (fun wx => lshard_any a (by omega) wx)
    have HR := Lib.hid (fun wx => right_any a wx)
    have hlt := shard_lt a.data.toList
    generalize shardL a.data.toList = k at *
    rcases (by omega : a.size = 0 ∨ (1 ≤ a.size ∧ a.size ≤ 40) ∨ 40 < a.size) with h0 | ⟨h0, h1⟩ | h0
    · have hr : rightL a.data.toList = false := by unfold rightL; rw [data_len]; simp; omega
      rw [hr] at HR
      clear hr
      have hd : decide ((a.size : Int) ≤ 40) = true := by simp; omega
      have hk4 : (k : Int) < 4 := by omega
      go_enter Tryd.func9, Tryd.ntmps9
      go_wp2_with fail
      refine HF.out.mono ?_
      rintro e w1 ⟨rfl, hb1⟩
      have HB1 := Lib.hid hb1
      clear hb1
      go_wp2_with fail
      refine (HS.out _).mono ?_
      rintro e w2 ⟨rfl, rfl⟩
      go_wp2_with fail
      refine (HL.out _).mono ?_
      rintro e w2 ⟨rfl, rfl⟩
      go_wp2_with fail
      refine (HR.out _).mono ?_
      rintro e w2 ⟨rfl, rfl⟩
      go_wp2_with fail
      go_ret
      exact ⟨rfl, HB1.out⟩
    · have hr : rightL a.data.toList = true := by unfold rightL; rw [data_len]; simp; omega
      rw [hr] at HR
      clear hr
      have hd : decide ((a.size : Int) ≤ 40) = true := by simp; omega
      have hk4 : (k : Int) < 4 := by omega
      go_enter Tryd.func9, Tryd.ntmps9
      go_wp2_with fail
      refine HF.out.mono ?_
      rintro e w1 ⟨rfl, hb1⟩
      have HB1 := Lib.hid hb1
      clear hb1
      go_wp2_with fail
      refine (HS.out _).mono ?_
      rintro e w2 ⟨rfl, rfl⟩
      go_wp2_with fail
      refine (HL.out _).mono ?_
      rintro e w2 ⟨rfl, rfl⟩
      go_wp2_with fail
      refine (HR.out _).mono ?_
      rintro e w2 ⟨rfl, rfl⟩
      go_wp2_with fail
      go_ret
      exact ⟨rfl, HB1.out⟩
    · have hr : rightL a.data.toList = false := by unfold rightL; rw [data_len]; simp; omega
      rw [hr] at HR
      clear hr
      have hd : decide ((a.size : Int) ≤ 40) = false := by simp; omega
      have hk4 : (k : Int) < 4 := by omega
      go_enter Tryd.func9, Tryd.ntmps9
      go_wp2_with fail
      refine HF.out.mono ?_
      rintro e w1 ⟨rfl, hb1⟩
      have HB1 := Lib.hid hb1
      clear hb1
      go_wp2_with fail
      refine (HS.out _).mono ?_
      rintro e w2 ⟨rfl, rfl⟩
      go_wp2_with fail
      refine (HL.out _).mono ?_
      rintro e w2 ⟨rfl, rfl⟩
      go_wp2_with fail
      refine (HR.out _).mono ?_
      rintro e w2 ⟨rfl, rfl⟩
      go_wp2_with fail
      go_ret
      exact ⟨rfl, HB1.out⟩
  · go_enter Tryd.func9, Tryd.ntmps9
    go_wp2_with fail
    refine HF.out.mono ?_
    rintro e w1 ⟨rfl, hb1⟩
    have HB1 := Lib.hid hb1
    clear hb1
    go_wp2_with fail
    go_ret
    exact ⟨rfl, HB1.out⟩
end Go.Proofs.YtilhegdhbcmlkaaDoor
