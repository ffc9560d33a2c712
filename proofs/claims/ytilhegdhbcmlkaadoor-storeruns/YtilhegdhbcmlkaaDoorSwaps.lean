/- StoreSwaps, walked. -/
import Derived.Test.YtilhegdhbcmlkaaDoorSt6
namespace Go.Proofs.YtilhegdhbcmlkaaDoor
open Go.RowKit

theorem lock_all {o : Nat → Int} {ow : Int} (h0 : 0 < ow) (k : Nat) (hk : k < 4) (ho : ∀ j, j < 4 → o j = 0 ∨ o j = ow) : freeL o ow (k : Int) = true ∧ lockL o ow (k : Int) = upd o k ow := by
  have e : freeL o ow (k : Int) = true := by
    unfold freeL
    rw [decide_eq_true h0, decide_eq_true (by omega : (0 : Int) ≤ (k : Int)), decide_eq_true (by omega : (k : Int) < 4)]
    simp only [Int.toNat_natCast, Bool.true_and]
    rcases ho k hk with h | h <;> simp [h]
  exact ⟨e, by unfold lockL; rw [if_pos e]; simp⟩
/-- The first k shards are somebody's. -/
def ownK (ow : Int) (k : Nat) : Nat → Int := fun j => if j < k then ow else 0
theorem ownK_succ (ow : Int) (k : Nat) : upd (ownK ow k) k ow = ownK ow (k + 1) := by
  funext j
  unfold upd ownK
  by_cases hj : j = k
  · subst hj; simp
  · rw [if_neg hj]
    by_cases h : j < k
    · rw [if_pos h, if_pos (by omega)]
    · rw [if_neg h, if_neg (by omega)]
theorem ownK_or (ow : Int) (k j : Nat) (_ : j < 4) : ownK ow k j = 0 ∨ ownK ow k j = ow := by
  unfold ownK
  split
  · exact .inr rfl
  · exact .inl rfl

def kB : ByteArray := ⟨#[107]⟩
theorem home_k : homeC (ownK 2 4) 2 [107] = 0 := by decide
theorem sh_k : shardL [107] = 3 := by decide
theorem tagged_self (v : Bytes) : taggedL v (tagL v) = true := by unfold taggedL; simp
theorem tagged_not {v t : Bytes} (h1 : t ≠ []) (h2 : t ≠ tagL v) : taggedL v t = false := by unfold taggedL; simp [h1, h2]

def mK (v : Bytes) : Nat → Txs := upd (fun _ => []) 3 [([107], v)]
theorem mK_look (v : Bytes) : mLook (mK v (shardL [107])) [107] = some v := by rw [sh_k]; rfl
theorem mK_len (v : Bytes) : (mK v (shardL [107])).length = 1 := by rw [sh_k]; rfl
theorem p_first (a : Bytes) : putC (ownK 2 4) (fun _ => []) 2 [107] [] = 0 ∧ putM (ownK 2 4) (fun _ => []) 2 [107] a [] = mK a := by
  have e : putC (ownK 2 4) (fun _ => []) 2 [107] [] = 0 := by decide
  refine ⟨e, ?_⟩
  rw [(put_yes e).1, sh_k]; rfl
theorem mK_put (a b : Bytes) : upd (mK a) (shardL [107]) (mPut (mK a (shardL [107])) [107] b) = mK b := by
  rw [sh_k]
  have : mPut (mK a 3) [107] b = [([107], b)] := rfl
  rw [this]
  funext j
  unfold upd mK upd
  by_cases h : j = 3 <;> simp [h]
theorem p_yes (a b : Bytes) : putC (ownK 2 4) (mK a) 2 [107] (tagL a) = 0 ∧ putR (ownK 2 4) (mK a) 2 [107] (tagL a) = true ∧ putM (ownK 2 4) (mK a) 2 [107] b (tagL a) = mK b := by
  have e : putC (ownK 2 4) (mK a) 2 [107] (tagL a) = 0 := by rw [put_some home_k (mK_look a), tagged_self]; rfl
  refine ⟨e, ?_, ?_⟩
  · rw [(put_yes (v := []) e).2]; unfold mHas; rw [mK_look]; rfl
  · rw [(put_yes e).1, mK_put]
theorem p_no (a b c : Bytes) (h : tagL a ≠ tagL b) : putC (ownK 2 4) (mK b) 2 [107] (tagL a) = 6 ∧ putM (ownK 2 4) (mK b) 2 [107] c (tagL a) = mK b := by
  have e : putC (ownK 2 4) (mK b) 2 [107] (tagL a) = 6 := by rw [put_some home_k (mK_look b), tagged_not (tag_ne_nil a) h]; rfl
  exact ⟨e, (put_not e (by decide)).1⟩
theorem d_no (a b : Bytes) (h : tagL a ≠ tagL b) : delC (ownK 2 4) (mK b) 2 [107] (tagL a) = 6 ∧ delM (ownK 2 4) (mK b) 2 [107] (tagL a) = mK b :=
  del_bad home_k (mK_look b) (tagged_not (tag_ne_nil a) h)
def m0 : Nat → Txs := upd (fun _ => []) 3 []
theorem d_yes (b : Bytes) : delC (ownK 2 4) (mK b) 2 [107] (tagL b) = 0 ∧ delM (ownK 2 4) (mK b) 2 [107] (tagL b) = m0 := by
  obtain ⟨h1, h2⟩ := del_ok home_k (mK_look b) (tagged_self b)
  refine ⟨h1, ?_⟩
  rw [h2, sh_k]
  have : mDel (mK b 3) [107] = [] := rfl
  rw [this]
  funext j
  unfold upd mK m0 upd
  by_cases h : j = 3 <;> simp [h]
theorem g_k (b : Bytes) : getL (ownK 2 4) (mK b) 2 [107] = (b, 0) := by unfold getL; rw [if_pos home_k, mK_look]
theorem p_gone (b c : Bytes) : putC (ownK 2 4) m0 2 [107] (tagL b) = 6 ∧ putM (ownK 2 4) m0 2 [107] c (tagL b) = m0 := by
  have e : putC (ownK 2 4) m0 2 [107] (tagL b) = 6 := by
    have h1 : mLook (m0 (shardL [107])) [107] = none := by rw [sh_k]; rfl
    have h2 : (tagL b).isEmpty = false := by simp [tag_ne_nil]
    rw [put_none home_k h1, h2]; rfl
  exact ⟨e, (put_not e (by decide)).1⟩
theorem tagB_data (a : ByteArray) : (tagB a).data.toList = tagL a.data.toList := by unfold tagB; rw [mkB_data]

set_option maxRecDepth 100000 in
set_option maxHeartbeats 4000000 in
theorem swaps_walk (a b c : ByteArray) (w : World) (ha : (a.size : Nat) ≤ 140737488355328) (hb : (b.size : Nat) ≤ 140737488355328) (hc : (c.size : Nat) ≤ 140737488355328) (hg : GB w) : Calls Tryd.prog 7 #[.string a, .string b, .string c] w fun e w' => e = .returned (.bool true) ∧ Below w.heap.size w w' := by
  have HF := Lib.hid (fit_any w hg)
  have HG := Lib.hid (fun w1 (hb : Below w.heap.size w w1) => hg.on hb)
  clear hg
  by_cases hl : a.size + b.size + c.size ≤ 600
  · have HTA := Lib.hid (fun wx hgx => tag_any a (by omega) wx hgx)
    have HTB := Lib.hid (fun wx hgx => tag_any b (by omega) wx hgx)
    by_cases hne : tagL a.data.toList = tagL b.data.toList
    · have ht : ((tagB a).toList == (tagB b).toList) = true := by rw [eq_test]; unfold tagB; simp [hne]
      generalize tagB a = ta at *
      generalize tagB b = tb at *
      go_enter Tryd.func7, Tryd.ntmps7
      go_wp2_with fail
      refine HF.out.mono ?_
      rintro e w1 ⟨rfl, hb1⟩
      have HB1 := Lib.hid hb1
      clear hb1
      go_wp2_with fail
      refine (HTA.out _ (HG.out _ HB1.out)).mono ?_
      rintro e w2 ⟨rfl, hb2⟩
      have HB2 := Lib.hid (bt HB1.out hb2)
      clear hb2
      go_wp2_with fail
      refine (HTB.out _ (HG.out _ HB2.out)).mono ?_
      rintro e w3 ⟨rfl, hb3⟩
      have HB3 := Lib.hid (bt HB2.out hb3)
      clear hb3
      go_wp2_with fail
      go_ret
      exact ⟨rfl, HB3.out⟩
    · have ht : ((tagB a).toList == (tagB b).toList) = false := by
        rw [eq_test]; unfold tagB; simp
        intro h; exact hne (mkB_inj h)
      have hbb : (b.toList == b.toList) = true := by simp
      have HP1 := Lib.hid (fun G bm wx h hgx => put_any G bm (ownK 2 4) (fun _ => []) 2 ⟨#[107]⟩ a ⟨#[]⟩ wx h hgx (fun v hv => by simp [mLook] at hv) (by simp))
      have HP2 := Lib.hid (fun G bm wx h hgx => put_any G bm (ownK 2 4) (mK a.data.toList) 2 ⟨#[107]⟩ b (tagB a) wx h hgx (fun v hv => by have := mK_look a.data.toList; rw [this] at hv; cases hv; rw [data_len]; omega) (by have := mK_len a.data.toList; show (mK _ (shardL [107])).length ≤ _; omega))
      have HP3 := Lib.hid (fun G bm wx h hgx => put_any G bm (ownK 2 4) (mK b.data.toList) 2 ⟨#[107]⟩ c (tagB a) wx h hgx (fun v hv => by have := mK_look b.data.toList; rw [this] at hv; cases hv; rw [data_len]; omega) (by have := mK_len b.data.toList; show (mK _ (shardL [107])).length ≤ _; omega))
      have HD1 := Lib.hid (fun G bm wx h hgx => del_any G bm (ownK 2 4) (mK b.data.toList) 2 ⟨#[107]⟩ (tagB a) wx h hgx (fun v hv => by have := mK_look b.data.toList; rw [this] at hv; cases hv; rw [data_len]; omega))
      have HD2 := Lib.hid (fun G bm wx h hgx => del_any G bm (ownK 2 4) (mK b.data.toList) 2 ⟨#[107]⟩ (tagB b) wx h hgx (fun v hv => by have := mK_look b.data.toList; rw [this] at hv; cases hv; rw [data_len]; omega))
      have HG1 := Lib.hid (fun G bm wx h => get_any G bm (ownK 2 4) (mK b.data.toList) 2 ⟨#[107]⟩ wx h)
      have HP4 := Lib.hid (fun G bm wx h hgx => put_any G bm (ownK 2 4) m0 2 ⟨#[107]⟩ c (tagB b) wx h hgx (fun v hv => by have h1 : mLook (m0 (shardL [107])) [107] = none := (by rw [sh_k]; rfl); rw [show mLook (m0 (shardL (⟨#[107]⟩ : ByteArray).data.toList)) (⟨#[107]⟩ : ByteArray).data.toList = none from h1] at hv; cases hv) (by show (m0 (shardL [107])).length ≤ _; rw [sh_k]; decide))
      rw [tagB_data] at HP2 HP3 HD1 HD2 HP4
      have ek : (⟨#[107]⟩ : ByteArray).data.toList = [107] := rfl
      have en : (⟨#[]⟩ : ByteArray).data.toList = [] := rfl
      rw [ek] at HP1 HP2 HP3 HP4 HD1 HD2 HG1
      rw [en, (p_first a.data.toList).1, (p_first a.data.toList).2] at HP1
      obtain ⟨q1, q2, q3⟩ := p_yes a.data.toList b.data.toList
      rw [q1, q2, q3] at HP2
      obtain ⟨r1, r2⟩ := p_no a.data.toList b.data.toList c.data.toList hne
      rw [r1, r2] at HP3
      obtain ⟨s1, s2⟩ := d_no a.data.toList b.data.toList hne
      rw [s1, s2] at HD1
      obtain ⟨t1, t2⟩ := d_yes b.data.toList
      rw [t1, t2] at HD2
      rw [g_k] at HG1
      simp only [strV_of] at HG1
      obtain ⟨u1, u2⟩ := p_gone b.data.toList c.data.toList
      rw [u1, u2] at HP4
      clear q1 q2 q3 r1 r2 s1 s2 t1 t2 u1 u2 ek en hne
      have HN := Lib.hid (fun wx => new_any wx)
      have HL := Lib.hid (fun G bm wx k (hk : k < 4) h => lock_any G bm (ownK 2 k) (fun _ => []) 2 (k : Int) wx h)
      have HLL := Lib.hid (fun k (hk : k < 4) => lock_all (o := ownK 2 k) (ow := 2) (by decide) k hk (ownK_or 2 k))
      generalize tagB a = ta at *
      generalize tagB b = tb at *
      go_enter Tryd.func7, Tryd.ntmps7
      go_wp2_with fail
      refine HF.out.mono ?_
      rintro e w1 ⟨rfl, hb1⟩
      have HB1 := Lib.hid hb1
      clear hb1
      go_wp2_with fail
      refine (HTA.out _ (HG.out _ HB1.out)).mono ?_
      rintro e w2 ⟨rfl, hb2⟩
      have HB2 := Lib.hid (bt HB1.out hb2)
      clear hb2
      go_wp2_with fail
      refine (HTB.out _ (HG.out _ HB2.out)).mono ?_
      rintro e w3 ⟨rfl, hb3⟩
      have HB3 := Lib.hid (bt HB2.out hb3)
      clear hb3
      go_wp2_with fail
      refine (HN.out _).mono ?_
      rintro e w4 ⟨bm, rfl, hst, hbm, hb4⟩
      obtain ⟨G, hG⟩ : ∃ G, w3.heap.size = G := ⟨_, rfl⟩
      rw [hG] at hst hbm hb4
      have hGB : w.heap.size ≤ G := by have := HB3.out.size; omega
      have HGB := Lib.hid hGB
      have HBM := Lib.hid (fun i (hi : i < 4) => Nat.le_trans hGB (hbm i hi))
      have HB4 := Lib.hid (HB3.out.trans (hb4.mono hGB))
      have HST : Hid (StAt w4 G bm (ownK 2 0) fun _ => []) := hst.same (fun i _ => rfl) (fun _ _ => rfl)
      rw [hG]
      clear hst hbm hb4 hGB
      go_wp2_with fail
      go_loopw [39] (fun i wr => ∃ k : Nat, i = .int .i64 k ∧ k ≤ 4 ∧ Hid (StAt wr G bm (ownK 2 k) fun _ => []) ∧ Hid (Below w.heap.size w wr)) (fun i _ => 4 - (intOf i).toNat)
      case atStart => exact ⟨0, rfl, by omega, HST.out, HB4.out⟩
      case round =>
        obtain ⟨k, rfl, hk, hS, hB⟩ := hrel
        by_cases hk4 : k < 4
        · have HLk := Lib.hid (HL.out G bm wr k hk4 hS.out)
          obtain ⟨l1, l2⟩ := HLL.out k hk4
          rw [l1, l2, ownK_succ] at HLk
          clear l1 l2
          go_wp2_with fail
          refine HLk.out.mono ?_
          rintro e w5 ⟨rfl, hst5, hf5⟩
          have HST5 := Lib.hid hst5
          have HB5 := Lib.hid (hB.out.trans (hf5.below hB.out.size HGB.out HBM.out))
          clear hst5 hf5
          go_wp2_with fail
          exact ⟨⟨k + 1, by simp, by omega, HST5.out, HB5.out⟩, by simp [intOf]; omega⟩
        · obtain rfl : k = 4 := by omega
          go_wp2_with fail
          refine (HP1.out G bm _ hS.out (HG.out _ hB.out)).mono ?_
          rintro e x1 ⟨rfl, hs1, hf1⟩
          have HS1 := Lib.hid hs1
          have HX1 := Lib.hid (hB.out.trans (hf1.below hB.out.size HGB.out HBM.out))
          clear hs1 hf1
          go_wp2_with fail
          refine (HTA.out _ (HG.out _ HX1.out)).mono ?_
          rintro e x2 ⟨rfl, hb2⟩
          have HS2 := Lib.hid (HS1.out.on hb2)
          have HX2 := Lib.hid (bt HX1.out hb2)
          clear hb2
          go_wp2_with fail
          refine (HP2.out G bm _ HS2.out (HG.out _ HX2.out)).mono ?_
          rintro e x3 ⟨rfl, hs3, hf3⟩
          have HS3 := Lib.hid hs3
          have HX3 := Lib.hid (HX2.out.trans (hf3.below HX2.out.size HGB.out HBM.out))
          clear hs3 hf3
          go_wp2_with fail
          refine (HP3.out G bm _ HS3.out (HG.out _ HX3.out)).mono ?_
          rintro e x4 ⟨rfl, hs4, hf4⟩
          have HS4 := Lib.hid hs4
          have HX4 := Lib.hid (HX3.out.trans (hf4.below HX3.out.size HGB.out HBM.out))
          clear hs4 hf4
          go_wp2_with fail
          refine (HD1.out G bm _ HS4.out (HG.out _ HX4.out)).mono ?_
          rintro e x5 ⟨rfl, hs5, hf5⟩
          have HS5 := Lib.hid hs5
          have HX5 := Lib.hid (HX4.out.trans (hf5.below HX4.out.size HGB.out HBM.out))
          clear hs5 hf5
          go_wp2_with fail
          refine (HG1.out G bm _ HS5.out).mono ?_
          rintro e x6 ⟨rfl, hb6⟩
          have HS6 := Lib.hid (HS5.out.on hb6)
          have HX6 := Lib.hid (bt HX5.out hb6)
          clear hb6
          go_wp2_with fail
          refine (HTB.out _ (HG.out _ HX6.out)).mono ?_
          rintro e x7 ⟨rfl, hb7⟩
          have HS7 := Lib.hid (HS6.out.on hb7)
          have HX7 := Lib.hid (bt HX6.out hb7)
          clear hb7
          go_wp2_with fail
          refine (HD2.out G bm _ HS7.out (HG.out _ HX7.out)).mono ?_
          rintro e x8 ⟨rfl, hs8, hf8⟩
          have HS8 := Lib.hid hs8
          have HX8 := Lib.hid (HX7.out.trans (hf8.below HX7.out.size HGB.out HBM.out))
          clear hs8 hf8
          go_wp2_with fail
          refine (HTB.out _ (HG.out _ HX8.out)).mono ?_
          rintro e x9 ⟨rfl, hb9⟩
          have HS9 := Lib.hid (HS8.out.on hb9)
          have HX9 := Lib.hid (bt HX8.out hb9)
          clear hb9
          go_wp2_with fail
          refine (HP4.out G bm _ HS9.out (HG.out _ HX9.out)).mono ?_
          rintro e x10 ⟨rfl, hs10, hf10⟩
          have HX10 := Lib.hid (HX9.out.trans (hf10.below HX9.out.size HGB.out HBM.out))
          clear hs10 hf10
          go_wp2_with fail
          go_ret
          exact ⟨rfl, HX10.out⟩
  · go_enter Tryd.func7, Tryd.ntmps7
    go_wp2_with fail
    refine HF.out.mono ?_
    rintro e w1 ⟨rfl, hb1⟩
    have HB1 := Lib.hid hb1
    clear hb1
    go_wp2_with fail
    go_ret
    exact ⟨rfl, HB1.out⟩
end Go.Proofs.YtilhegdhbcmlkaaDoor
