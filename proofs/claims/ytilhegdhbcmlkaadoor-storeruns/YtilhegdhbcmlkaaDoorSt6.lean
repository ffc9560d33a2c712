/- The contract of the laws' fit; HasPrefix. -/
import Derived.Test.YtilhegdhbcmlkaaDoorSt5
namespace Go.Proofs.YtilhegdhbcmlkaaDoor
open Go.RowKit

def preL (p s : Bytes) : Bool := decide (p.length ≤ s.length) && (s.take p.length == p)

theorem own_upd : upd (fun _ => (0 : Int)) 1 1 = lockL (fun _ => 0) 1 1 := by unfold lockL; rw [if_pos (by decide)]; rfl

set_option maxRecDepth 100000 in
set_option maxHeartbeats 2000000 in
theorem fit_any (w : World) (hg : GB w) : Calls Tryd.prog 10 #[] w fun e w' => e = .returned (.bool true) ∧ Below w.heap.size w w' := by
  have HG := Lib.hid (fun w1 (hb : Below w.heap.size w w1) => hg.on hb)
  have HN := Lib.hid (new_any w)
  have e1 : freeL (fun _ => 0) 1 1 = true := by decide
  have e2 : lockL (fun _ => 0) 1 1 = upd (fun _ => 0) 1 1 := own_upd.symm
  have e3 : putC (upd (fun _ => 0) 1 1) (fun _ => []) 1 (⟨#[97]⟩ : ByteArray).data.toList (⟨#[]⟩ : ByteArray).data.toList = 0 := by decide
  have e4 : putR (upd (fun _ => 0) 1 1) (fun _ => []) 1 (⟨#[97]⟩ : ByteArray).data.toList (⟨#[]⟩ : ByteArray).data.toList = false := by decide
  have e5 : shardL (⟨#[97]⟩ : ByteArray).data.toList = 1 := by decide
  have HM : Hid (putM (upd (fun _ => 0) 1 1) (fun _ => []) 1 (⟨#[97]⟩ : ByteArray).data.toList (⟨#[118]⟩ : ByteArray).data.toList (⟨#[]⟩ : ByteArray).data.toList = upd (fun _ => []) 1 [([97], [118])]) := by
    show _ = _
    rw [(put_yes e3).1]; rfl
  have HGT : Hid (getL (upd (fun _ => 0) 1 1) (upd (fun _ => []) 1 [([97], [118])]) 1 (⟨#[97]⟩ : ByteArray).data.toList = ([118], 0)) := by show _ = _; decide
  have HS := Lib.hid (fun wx => shard_any ⟨#[97]⟩ (by decide) wx)
  rw [e5] at HS
  have HL := Lib.hid (fun G b m wx h => lock_any G b (fun _ => 0) m 1 1 wx h)
  rw [e1, e2] at HL
  have HP := Lib.hid (fun G b wx h hgx => put_any G b (upd (fun _ => 0) 1 1) (fun _ => []) 1 ⟨#[97]⟩ ⟨#[118]⟩ ⟨#[]⟩ wx h hgx (fun v hv => by simp [mLook] at hv) (by simp))
  rw [e3, e4, HM.out] at HP
  have HQ := Lib.hid (fun G b wx h => get_any G b (upd (fun _ => 0) 1 1) (upd (fun _ => []) 1 [([97], [118])]) 1 ⟨#[97]⟩ wx h)
  rw [HGT.out] at HQ
  have HT := Lib.hid (fun wx hgx => tag_any ⟨#[]⟩ (by decide) wx hgx)
  have e6 : tagB ⟨#[]⟩ = ⟨#[56, 49, 49, 99, 57, 100, 99, 53, 45, 48]⟩ := by
    show mkB (tagL []) = _
    rw [tag_nil]; rfl
  rw [e6] at HT
  have x1 : ((⟨#[118]⟩ : ByteArray).toList == (⟨#[118]⟩ : ByteArray).toList) = true := by rw [eq_test]; simp
  have x2 : ((⟨#[56, 49, 49, 99, 57, 100, 99, 53, 45, 48]⟩ : ByteArray).toList == (⟨#[56, 49, 49, 99, 57, 100, 99, 53, 45, 48]⟩ : ByteArray).toList) = true := by rw [eq_test]; simp
  have hsv : strV [118] = .string ⟨#[118]⟩ := rfl
  rw [hsv] at HQ
  clear hg e1 e2 e3 e4 e5 e6 HM HGT hsv
  go_enter Tryd.func10, Tryd.ntmps10
  go_wp2_with fail
  refine HN.out.mono ?_
  rintro e w1 ⟨b, rfl, hst, hbb, hb1⟩
  have HB1 := Lib.hid hb1
  have HST := Lib.hid hst
  have HBB := Lib.hid hbb
  clear hst hbb hb1
  go_wp2_with fail
  refine (HS.out _).mono ?_
  rintro e w2 ⟨rfl, rfl⟩
  go_wp2_with fail
  refine (HL.out _ _ _ _ HST.out).mono ?_
  rintro e w3 ⟨rfl, hst3, hf3⟩
  have HST3 := Lib.hid hst3
  have HB3 := Lib.hid (HB1.out.trans (hf3.below HB1.out.size (Nat.le_refl _) HBB.out))
  clear hst3 hf3
  go_wp2_with fail
  refine (HP.out _ _ _ HST3.out (HG.out _ HB3.out)).mono ?_
  rintro e w4 ⟨rfl, hst4, hf4⟩
  have HST4 := Lib.hid hst4
  have HB4 := Lib.hid (HB3.out.trans (hf4.below HB3.out.size (Nat.le_refl _) HBB.out))
  clear hst4 hf4
  go_wp2_with fail
  refine (HQ.out _ _ _ HST4.out).mono ?_
  rintro e w5 ⟨rfl, hb5⟩
  have HB5 := Lib.hid (HB4.out.trans (hb5.mono HB4.out.size))
  clear hb5
  go_wp2_with fail
  refine (HT.out _ (HG.out _ HB5.out)).mono ?_
  rintro e w6 ⟨rfl, hb6⟩
  have HB6 := Lib.hid (HB5.out.trans (hb6.mono HB5.out.size))
  clear hb6
  go_wp2_with fail
  go_ret
  exact ⟨rfl, HB6.out⟩

theorem pre_in (s p : ByteArray) (hs : s.size ≤ 1000000) (hp : p.size ≤ 1000000) (w : World) : Calls Tryd.prog 34 #[.string s, .string p] w fun e w' => e = .returned (.bool (preL p.data.toList s.data.toList)) ∧ w = w' := by
  unfold preL
  rw [data_len, data_len]
  by_cases h : p.size ≤ s.size
  · rw [decide_eq_true h, Bool.true_and]
    have hx : ((s.extract 0 p.size).toList == p.toList) = (s.data.toList.take p.size == p.data.toList) := by
      rw [Lib.toList_data, Lib.toList_data, ext_data]; simp
    generalize (s.data.toList.take p.size == p.data.toList) = r at *
    go_enter Tryd.func34, Tryd.ntmps34
    go_wp2_with fail
    go_ret
    exact ⟨rfl, rfl⟩
  · rw [decide_eq_false h, Bool.false_and]
    go_enter Tryd.func34, Tryd.ntmps34
    go_wp2_with fail
    go_ret
    exact ⟨rfl, rfl⟩
theorem pre_any (s p : ByteArray) (hs : s.size ≤ 1000000) (hp : p.size ≤ 1000000) (w : World) : Calls Tryd.prog 29 #[.string s, .string p] w fun e w' => e = .returned (.bool (preL p.data.toList s.data.toList)) ∧ w = w' := by
  have HP := Lib.hid (pre_in s p hs hp w)
  generalize preL p.data.toList s.data.toList = r at *
  go_enter Tryd.func29, Tryd.ntmps29
  go_wp2_with fail
  refine HP.out.mono ?_
  rintro e w1 ⟨rfl, rfl⟩
  go_wp2_with fail
  go_ret
  exact ⟨rfl, rfl⟩
end Go.Proofs.YtilhegdhbcmlkaaDoor
