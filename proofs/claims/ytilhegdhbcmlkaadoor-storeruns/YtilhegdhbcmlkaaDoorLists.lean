/- StoreLists, walked. -/
import Derived.Test.YtilhegdhbcmlkaaDoorSi
import Derived.Test.YtilhegdhbcmlkaaDoorSwaps
namespace Go.Proofs.YtilhegdhbcmlkaaDoor
open Go.RowKit

def tV (_ : Bytes) : Value := .bool true
theorem zero4 (w : World) : (zeroValue 4).run Tryd.prog w = .ok (.bool false) w := by kernel_rfl
theorem tlook (M : Txs) (x : Bytes) : (mLook (vMap tV M) x).getD (.bool false) = .bool (mHas M x) := by
  rw [vlook]
  unfold mHas
  cases mLook M x <;> rfl

theorem less_eq : ∀ a b : List UInt8, Go.Op.bytesLess a b = ltB a b
  | _, [] => by cases ‹List UInt8› <;> simp [Go.Op.bytesLess, ltB]
  | [], _ :: _ => by simp [Go.Op.bytesLess, ltB]
  | a :: l, b :: k => by
    rw [Go.Op.bytesLess, ltB, less_eq l k]
    rw [Bool.eq_iff_iff]
    simp [UInt8.lt_iff_toNat_lt, UInt8.toNat_inj]
theorem vmemF {f : Bytes → Value} {left : Txs} {q : Bytes × Value} (h : q ∈ vMap f left) : ∃ x, (q.1, x) ∈ left ∧ q.2 = f x := by
  obtain ⟨y, hy, e⟩ := List.mem_map.1 h
  subst e
  exact ⟨y.2, hy, rfl⟩
theorem SI.rightM {m : Nat → Txs} {M : Txs} (h : SI m M) {q : Bytes × Bytes} (hq : q ∈ M) : rightL q.1 = true := by
  have h1 : mHas M q.1 = true := has_iff.2 (mem_keys hq)
  rw [h.has] at h1
  obtain ⟨r, hr, e⟩ := List.mem_map.1 (has_iff.1 h1)
  have := (h.right _ (shard_lt q.1) r hr).1
  rwa [e] at this
/-- The store of a law beside the law's own map. -/
structure LS (W : World) (G bm : Nat) (b : Nat → Nat) (o : Nat → Int) (m : Nat → Txs) (f : Bytes → Value) (M : Txs) : Prop where
  st : StAt W G b o m
  mp : MA W bm (vMap f M)
  si : SI m M
  ne : ∀ i, i < 4 → bm ≠ b i
theorem LS.neG {W : World} {G bm : Nat} {b : Nat → Nat} {o : Nat → Int} {m : Nat → Txs} {f : Bytes → Value} {M : Txs} (h : LS W G bm b o m f M) : bm ≠ G := fun e => by
  obtain ⟨es, c, h1, _⟩ := h.mp
  rw [e, h.st.blk] at h1
  cases h1
theorem LS.on {W W' : World} {G bm : Nat} {b : Nat → Nat} {o : Nat → Int} {m : Nat → Txs} {f : Bytes → Value} {M : Txs} (h : LS W G bm b o m f M) (hb : Below W.heap.size W W') : LS W' G bm b o m f M :=
  ⟨h.st.on hb, h.mp.on hb, h.si, h.ne⟩
theorem LS.fr {W W' : World} {G bm : Nat} {b : Nat → Nat} {o : Nat → Int} {m : Nat → Txs} {f : Bytes → Value} {M : Txs} (h : LS W G bm b o m f M) (hf : SFr G b W W') : MA W' bm (vMap f M) :=
  h.mp.block (hf.block bm h.mp.lt h.neG h.ne)

theorem LS.keep {W W' : World} {G bm : Nat} {b : Nat → Nat} {o : Nat → Int} {m m' : Nat → Txs} {f : Bytes → Value} {M M' : Txs} (h : LS W G bm b o m f M) (hs : StAt W' G b o m') (hm : MA W' bm (vMap f M')) (hi : SI m' M') : LS W' G bm b o m' f M' := ⟨hs, hm, hi, h.ne⟩
theorem StAt.other {W W' : World} {G bm : Nat} {b : Nat → Nat} {o : Nat → Int} {m : Nat → Txs} (h : StAt W G b o m) (hot : ∀ j, j ≠ bm → W'.heap[j]? = W.heap[j]?) (hG : bm ≠ G) (hb : ∀ i, i < 4 → bm ≠ b i) : StAt W' G b o m :=
  h.block (hot G fun e => hG e.symm) fun i hi => hot _ fun e => hb i hi e.symm
theorem putC_free {o : Nat → Int} {m : Nat → Txs} {ow : Int} {s : Bytes} (hh : homeC o ow s = 0) : putC o m ow s [] = if mHas (m (shardL s)) s then 0 else if 8 ≤ (m (shardL s)).length then 4 else 0 := by
  unfold mHas
  cases hl : mLook (m (shardL s)) s with
  | none => rw [put_none hh hl]; rfl
  | some v => rw [put_some hh hl]; rfl
theorem home_own {ow : Int} (h0 : 0 < ow) (s : Bytes) : homeC (ownK ow 4) ow s = if rightL s then 0 else 8 := by
  unfold homeC
  have : ofL (ownK ow 4 (shardL s)) ow = true := by
    unfold ofL ownK
    rw [if_pos (shard_lt s), decide_eq_true h0]
    simp
  rw [this]
  rfl
theorem putC_own {ow : Int} (h0 : 0 < ow) {m : Nat → Txs} {s : Bytes} (h : putC (ownK ow 4) m ow s [] = 0) : rightL s = true ∧ (mHas (m (shardL s)) s = true ∨ (m (shardL s)).length < 8) := by
  have hh := home_own h0 s
  cases hr : rightL s with
  | false =>
    rw [hr] at hh
    have := (put_wait (m := m) (v := []) (tag := []) (by rw [hh]; decide : homeC (ownK ow 4) ow s ≠ 0)).1
    rw [this, hh] at h
    simp at h
  | true =>
    rw [hr] at hh
    refine ⟨rfl, ?_⟩
    rw [putC_free hh] at h
    cases hm : mHas (m (shardL s)) s with
    | true => exact .inl rfl
    | false =>
      rw [hm] at h
      right
      simp only [Bool.false_eq_true, if_false] at h
      by_cases h8 : 8 ≤ (m (shardL s)).length
      · rw [if_pos h8] at h; cases h
      · omega

theorem held_own {ow : Int} (h0 : 0 < ow) : heldK (ownK ow 4) ow 4 = 4 := by
  have : ∀ k, k < 4 → ofL (ownK ow 4 k) ow = true := fun k hk => by
    unfold ofL ownK
    rw [if_pos hk, decide_eq_true h0]
    simp
  rw [held_succ, held_succ, held_succ, held_succ, this 0 (by decide), this 1 (by decide), this 2 (by decide), this 3 (by decide)]
  rfl

set_option maxRecDepth 100000 in
set_option maxHeartbeats 8000000 in
theorem lists_walk (xs : List Bytes) (A : Option Addr) (c : Nat) (p : ByteArray) (w : World) (hrd : Rd w w.heap.size 1 A xs.length (xs.map strV)) (hxc : xs.length ≤ c) (hcm : c ≤ maxLen) (hz : ∀ x ∈ xs, x.length ≤ 140737488355328) (hp : (p.size : Nat) ≤ 140737488355328) (hg : GB w) : Calls Tryd.prog 8 #[.slice A xs.length c, .string p] w fun e w' => e = .returned (.bool true) ∧ Below w.heap.size w w' := by
  have HF := Lib.hid (fit_any w hg)
  have HG := Lib.hid (fun w1 (hb : Below w.heap.size w w1) => hg.on hb)
  unfold maxLen at hcm
  clear hg
  by_cases hl : xs.length ≤ 30
  · by_cases hp60 : p.size ≤ 60
    · have HN := Lib.hid (fun wx => new_any wx)
      have HL := Lib.hid (fun G bm wx k (hk : k < 4) h => lock_any G bm (ownK 3 k) (fun _ => []) 3 (k : Int) wx h)
      have HLL := Lib.hid (fun k (hk : k < 4) => lock_all (o := ownK 3 k) (ow := 3) (by decide) k hk (ownK_or 3 k))
      have HRD := Lib.hid (fun w1 (hb : Below w.heap.size w w1) => hrd.below hb (Nat.le_refl _))
      have HZ := Lib.hid hz
      have hmm := @run_makeMap Tryd.prog
      clear hrd hz
      obtain ⟨n, hn⟩ : ∃ n, xs.length = n := ⟨_, rfl⟩
      have HNX := Lib.hid hn
      rw [hn] at hl hxc HRD ⊢
      clear hn
      go_enter Tryd.func8, Tryd.ntmps8
      go_wp2_with fail
      refine HF.out.mono ?_
      rintro e w1 ⟨rfl, hb1⟩
      have HB1 := Lib.hid hb1
      clear hb1
      go_wp2_with fail
      refine (HN.out _).mono ?_
      rintro e w4 ⟨bs, rfl, hst, hbm, hb4⟩
      obtain ⟨G, hG⟩ : ∃ G, w1.heap.size = G := ⟨_, rfl⟩
      rw [hG] at hst hbm hb4
      have hGB : w.heap.size ≤ G := by have := HB1.out.size; omega
      have HGB := Lib.hid hGB
      have HBM := Lib.hid (fun i (hi : i < 4) => Nat.le_trans hGB (hbm i hi))
      have HB4 := Lib.hid (HB1.out.trans (hb4.mono hGB))
      have HST : Hid (StAt w4 G bs (ownK 3 0) fun _ => []) := hst.same (fun i _ => rfl) (fun _ _ => rfl)
      rw [hG]
      clear hst hbm hb4 hGB hG
      go_wp2_with fail
      go_loopw [29] (fun i wr => ∃ k : Nat, i = .int .i64 k ∧ k ≤ 4 ∧ Hid (StAt wr G bs (ownK 3 k) fun _ => []) ∧ Hid (Below w.heap.size w wr)) (fun i _ => 4 - (intOf i).toNat)
      case atStart => exact ⟨0, rfl, by omega, HST.out, HB4.out⟩
      case round =>
        obtain ⟨k, rfl, hk, hS, hB⟩ := hrel
        by_cases hk4 : k < 4
        · have HLk := Lib.hid (HL.out G bs wr k hk4 hS.out)
          obtain ⟨l1, l2⟩ := HLL.out k hk4
          rw [l1, l2, ownK_succ] at HLk
          clear l1 l2
          go_wp2_with fail
          refine HLk.out.mono ?_
          rintro e w5 ⟨rfl, hst5, hf5⟩
          have HST5 := Lib.hid hst5
          have HB5 := Lib.hid (hB.out.trans (hf5.below hB.out.size HGB.out HBM.out))
          clear hst5 hf5
          go_wp2_with fail
          exact ⟨⟨k + 1, by simp, by omega, HST5.out, HB5.out⟩, by simp [intOf]; omega⟩
        · have hk' : k = 4 := by omega
          have hkc : (k : Int) = 4 := by omega
          rw [hk'] at hS
          clear hk' HST HB4
          have HLS : Hid (LS (wr.alloc (.map #[] 0)) G wr.heap.size bs (ownK 3 4) (fun _ => []) tV []) := by
            have hb : Below wr.heap.size wr (wr.alloc (.map #[] 0)) := (Below.refl _ _).alloc (Nat.le_refl _) _
            exact ⟨hS.out.on hb, ma_new wr, SI.new, fun i hi => by have := (hS.out.maps i hi).lt; omega⟩
          have HBX := Lib.hid (hB.out.alloc hB.out.size (.map #[] 0))
          have HBB : Hid (w.heap.size ≤ wr.heap.size) := hB.out.size
          clear hS hB hk4 hk
          go_wp2_with fail
          obtain ⟨bm, hbm⟩ : ∃ bm, wr.heap.size = bm := ⟨_, rfl⟩
          rw [hbm] at HLS HBB
          rw [hbm]
          generalize wr.alloc (.map #[] 0) = w6 at *
          clear hbm hkc
          go_loopw [39] (fun i wx => ∃ (k : Nat) (m : Nat → Txs) (M : Txs), i = .int .i64 k ∧ k ≤ n ∧ Hid (LS wx G bm bs (ownK 3 4) m tV M) ∧ Hid (Below w.heap.size w wx) ∧ M.length ≤ k) (fun i _ => n - (intOf i).toNat)
          case atStart => exact ⟨0, _, _, rfl, by omega, HLS.out, HBX.out, by simp⟩
          case round =>
            obtain ⟨k, m, M, rfl, hk, hLS, hB, hMl⟩ := hrel
            by_cases hkn : k < n
            · obtain ⟨x, hx⟩ : ∃ x, xs[k]? = some x := ⟨xs[k]'(by rw [HNX.out]; exact hkn), List.getElem?_eq_getElem _⟩
              obtain ⟨a, rfl, _, hc⟩ := (HRD.out wr hB.out).at hkn (strV x) (by rw [List.getElem?_map, hx]; rfl)
              unfold strV at hc
              have hxs : x.length ≤ 140737488355328 := HZ.out x (List.mem_of_getElem? hx)
              clear hx
              by_cases hx60 : x.length ≤ 60
              · have hsz : (mkB x).size ≤ 60 := by rw [mkB_size]; exact hx60
                have HP := Lib.hid (put_any G bs (ownK 3 4) m 3 (mkB x) ⟨#[]⟩ ⟨#[]⟩ wr hLS.out.st (HG.out wr hB.out) (fun v hv => by rw [mkB_data] at hv; have := hLS.out.si.vlen _ _ hv; omega) (by have := hLS.out.si.len _ (shard_lt (mkB x).data.toList); omega))
                rw [mkB_data] at HP
                have hen : (⟨#[]⟩ : ByteArray).data.toList = [] := rfl
                rw [hen] at HP
                by_cases hc0 : putC (ownK 3 4) m 3 x [] = 0
                · obtain ⟨y1, y2⟩ := put_yes (v := []) hc0
                  rw [hc0, y1, y2] at HP
                  obtain ⟨z1, z2⟩ := putC_own (by decide) hc0
                  have HSI := Lib.hid (hLS.out.si.put z1 (by simp : ([] : Bytes).length ≤ 300) z2)
                  have hML : (mPut M x []).length ≤ k + 1 := by rw [len_put]; split <;> omega
                  clear hc0 y1 y2 z1 z2 hen
                  generalize mHas (m (shardL x)) x = bb at *
                  go_wp2_with fail
                  refine HP.out.mono ?_
                  rintro e w7 ⟨rfl, hs7, hf7⟩
                  have hb7 := hB.out.trans (hf7.below hB.out.size HGB.out HBM.out)
                  obtain ⟨W8, hr8, hm8, hs8, hbl8, hot8⟩ := ma_put Tryd.underlying53 (hLS.out.fr hf7) x (.bool true)
                  have hm8' : MA W8 bm (vMap tV (mPut M x [])) := by
                    have := vput tV M x []
                    rw [← this]; exact hm8
                  have HLS8 := Lib.hid (hLS.out.keep (hs7.other hot8 hLS.out.neG hLS.out.ne) hm8' HSI.out)
                  have HB8 := Lib.hid (hb7.trans (hbl8 w.heap.size HBB.out))
                  unfold strV at hr8
                  clear hs7 hf7 hb7 hm8 hm8' hs8 hbl8 hot8 hLS hB HSI
                  go_wp2_with fail
                  exact ⟨⟨k + 1, _, _, by simp, by omega, HLS8.out, HB8.out, hML⟩, by simp [intOf]; omega⟩
                · obtain ⟨y1, y2⟩ := put_not (v := []) rfl hc0
                  rw [y1, y2] at HP
                  have hcb : (putC (ownK 3 4) m 3 x [] == 0) = false := by simpa using hc0
                  generalize putC (ownK 3 4) m 3 x [] = pc at *
                  clear y1 y2 hen
                  go_wp2_with fail
                  refine HP.out.mono ?_
                  rintro e w7 ⟨rfl, hs7, hf7⟩
                  have HB7 := Lib.hid (hB.out.trans (hf7.below hB.out.size HGB.out HBM.out))
                  have HLS7 := Lib.hid (hLS.out.keep hs7 (hLS.out.fr hf7) hLS.out.si)
                  clear hs7 hf7 hLS hB
                  go_wp2_with fail
                  exact ⟨⟨k + 1, m, M, by simp, by omega, HLS7.out, HB7.out, by omega⟩, by simp [intOf]; omega⟩
              · have hsz : 60 < (mkB x).size := by rw [mkB_size]; omega
                have hsz2 : (mkB x).size ≤ 140737488355328 := by rw [mkB_size]; exact hxs
                go_wp2_with fail
                go_ret
                exact ⟨rfl, hB.out⟩
            · have hkl : ∀ i, i < 4 → (m i).length ≤ 1000 := fun i hi => by have := hLS.out.si.len i hi; omega
              have HLO := Lib.hid (list_ok G bs (ownK 3 4) m 3 p wr hLS.out.st (held_own (by decide)) hkl (fun i hi q hq => by have h1 := (hLS.out.si.right i hi q hq).1; unfold rightL at h1; simp at h1; omega) (by omega))
              go_wp2_with fail
              refine HLO.out.mono ?_
              rintro e w9 ⟨L, AL, cL, rfl, ⟨ks, hks, hL⟩, hrdL, hb9⟩
              have HLT := Lib.hid (hLS.out.si.listed hks hL)
              have HB9 := Lib.hid (bt hB.out hb9)
              have hma9 := hLS.out.mp.on hb9
              have HMA9 := Lib.hid hma9
              have hbmR := hma9.lt
              have HRL := Lib.hid hrdL
              obtain ⟨W10, hrng, hit, hsz10, hbl10⟩ := it_new hma9 Tryd.underlying53
              have HIT := Lib.hid hit
              have HC0 := Lib.hid (CI.start (p := p.data.toList) hLS.out.si.ndM)
              have HB10 := Lib.hid hbl10
              have hML : M.length ≤ 30 := by omega
              have hLl : L.length ≤ 30 := by
                have h1 := HLT.out.len
                have h2 := List.length_filter_le (preL p.data.toList) (mKeys M)
                have h3 : (mKeys M).length = M.length := by unfold mKeys; simp
                omega
              have HRM := Lib.hid (fun q (hq : q ∈ M) => hLS.out.si.rightM hq)
              clear HLO hks hL hrdL hb9 hma9 hit hbl10 hsz10 hLS hB HLS HBX HRD
              obtain ⟨R, hR⟩ : ∃ R, w9.heap.size = R := ⟨_, rfl⟩
              rw [hR] at hrng HIT HB10 HRL hbmR
              have HRR : Hid (w.heap.size ≤ R) := by show _ ≤ _; rw [← hR]; exact HB9.out.size
              clear hR
              go_wp2_with fail
              go_loopw [14] (fun n wx => ∃ (cnt : Nat) (left : Txs), n = .int .i64 cnt ∧ Hid (IT wx bm R (vMap tV M) (vMap tV left)) ∧ Hid (CI M p.data.toList left cnt) ∧ Hid (Below R w9 wx)) (fun _ wx => wx.rangeLeft bm R)
              case atStart => exact ⟨0, M, rfl, HIT.out, HC0.out, HB10.out⟩
              case round =>
                obtain ⟨cnt, left, rfl, hI, hC, hB11⟩ := hrel
                have hm0 : wr.rangeLeft bm R = left.length := by have := hI.out.left_eq; rwa [vlen] at this
                rcases it_next hI.out 0 with ⟨hl0, hnx⟩ | ⟨q, hq, W2, hnx, hit2, hen, hsz2, hbl2, hot2⟩
                · have hl1 : left = [] := by
                    cases left with
                    | nil => rfl
                    | cons x l => simp [vMap] at hl0
                  subst hl1
                  have hcd := hC.out.done
                  have HLL2 : Hid ((cnt : Int) = (L.length : Nat)) := by show _ = _; rw [HLT.out.len, hcd]
                  have HMW := Lib.hid (HMA9.out.block (hB11.out.block bm hbmR))
                  have HRW := Lib.hid (HRL.out.below hB11.out (Nat.le_refl _))
                  have HBW : Hid (Below w.heap.size w wr) := HB9.out.trans (hB11.out.mono HRR.out)
                  clear hl0 hm0 hI hC hcd hbmR
                  go_wp2_with fail
                  go_loopw [86] (fun i wx => ∃ j : Nat, i = .int .i64 j ∧ j ≤ L.length ∧ wr = wx) (fun i _ => L.length - (intOf i).toNat)
                  case atStart => exact ⟨0, rfl, by omega, rfl⟩
                  case round =>
                    obtain ⟨j, rfl, hj, rfl⟩ := hrel
                    by_cases hjl : j < L.length
                    · obtain ⟨x, hx⟩ : ∃ x, L[j]? = some x := ⟨L[j], List.getElem?_eq_getElem hjl⟩
                      obtain ⟨a2, rfl, _, hcx⟩ := HRW.out.at hjl (strV x) (by rw [List.getElem?_map, hx]; rfl)
                      obtain ⟨hm, hpx⟩ := HLT.out.mem x (List.mem_of_getElem? hx)
                      have hlk := ma_look1 Tryd.underlying53 zero4 HMW.out x
                      rw [tlook, hm] at hlk
                      have hpl : p.size ≤ (mkB x).size := by
                        unfold preL at hpx
                        rw [data_len] at hpx
                        simp at hpx
                        rw [mkB_size]; exact hpx.1
                      have hxe : (((mkB x).extract 0 p.size).toList == p.toList) = true := by
                        rw [← hpx]
                        unfold preL
                        rw [data_len, decide_eq_true (by rw [← mkB_size]; exact hpl), Bool.true_and, Lib.toList_data, Lib.toList_data, ext_data, mkB_data]
                        simp
                      have hmin : min (p.size : Int) ((mkB x).size : Int) = (p.size : Int) := by omega
                      unfold strV at hcx hlk
                      have hprev : ∀ j', j = j' + 1 → ∃ y, wr.cell? (a2.add j') = some (.string (mkB y)) ∧ Go.Op.bytesLess (mkB y).toList (mkB x).toList = true := by
                        intro j' hjj
                        subst hjj
                        have hy : L[j']? = some L[j'] := List.getElem?_eq_getElem (by omega)
                        obtain ⟨a3, e3, _, hcy⟩ := HRW.out.at (i := j') (by omega) (strV L[j']) (by rw [List.getElem?_map, hy]; rfl)
                        cases e3
                        refine ⟨L[j'], hcy, ?_⟩
                        have h1 := HLT.out.rise j' hjl
                        rw [List.getElem?_eq_getElem hjl] at hx
                        injection hx with hx
                        rw [hx] at h1
                        rw [Lib.toList_data, Lib.toList_data, mkB_data, mkB_data, less_eq]
                        exact h1
                      clear hm hpx hx
                      rcases Nat.eq_zero_or_pos j with h0 | h0
                      · have hd1 : decide ((0 : Int) < (j : Int)) = false := by simp; omega
                        have hd2 : decide (0 < j) = false := by simp; omega
                        clear hprev h0
                        go_wp2_with fail
                        exact ⟨⟨j + 1, by simp, by omega, trivial⟩, by simp [intOf]; omega⟩
                      · obtain ⟨y, hcy, hly⟩ := hprev (j - 1) (by omega)
                        have hd1 : decide ((0 : Int) < (j : Int)) = true := by simp; omega
                        have hd2 : decide (0 < j) = true := by simp; omega
                        have h1j : (1 : Int) ≤ (j : Int) := by omega
                        clear hprev h0
                        go_wp2_with fail
                        exact ⟨⟨j + 1, by simp, by omega, trivial⟩, by simp [intOf]; omega⟩
                    · have hjL : (j : Int) = (L.length : Nat) := by omega
                      have hll := HLL2.out
                      go_wp2_with fail
                      go_ret
                      exact ⟨rfl, HBW.out⟩
                · obtain ⟨qk, hqk⟩ : ∃ qk, q.1 = qk := ⟨_, rfl⟩
                  obtain ⟨x, hx, hv⟩ := vmemF hq
                  have hcl := hC.out.le
                  have hrt := HRM.out _ (hC.out.sub hx)
                  rw [vdel] at hit2
                  have hlen : (mDel left q.1).length < left.length := by
                    have := len_del hC.out.nd (k := q.1) (has_iff.2 (List.mem_map.2 ⟨_, hx, rfl⟩))
                    omega
                  have HCT : Hid (CI M p.data.toList (mDel left q.1) (cnt + if preL p.data.toList q.1 then 1 else 0)) := hC.out.take hx
                  have HB2 := Lib.hid (hB11.out.trans (hbl2 R (Nat.le_refl _)))
                  have hm2 : W2.rangeLeft bm R = (mDel left q.1).length := by have := hit2.left_eq; rwa [vlen] at this
                  have HI2 := Lib.hid hit2
                  unfold strV at hnx hen
                  rw [hv] at hnx hen
                  simp only at hrt
                  rw [hqk] at hnx hen hlen HCT hm2 HI2 hrt
                  have hks : (mkB qk).size ≤ 40 := by
                    rw [mkB_size]
                    unfold rightL at hrt
                    simp at hrt
                    omega
                  clear hsz2 hit2 hbl2 hot2 hI hC hqk hv hx hq hrt
                  by_cases hpl : p.size ≤ (mkB qk).size
                  · have hx : (((mkB qk).extract 0 p.size).toList == p.toList) = preL p.data.toList qk := by
                      unfold preL
                      rw [data_len, decide_eq_true (by rw [← mkB_size]; exact hpl), Bool.true_and, Lib.toList_data, Lib.toList_data, ext_data, mkB_data]
                      simp
                    cases hpr : preL p.data.toList qk with
                    | true =>
                      rw [hpr] at hx HCT
                      go_wp2_with fail
                      exact ⟨⟨cnt + 1, _, by simp, HI2.out, HCT.out, HB2.out⟩, by rw [hm2, hm0]; exact hlen⟩
                    | false =>
                      rw [hpr] at hx HCT
                      go_wp2_with fail
                      exact ⟨⟨cnt, _, rfl, HI2.out, HCT.out, HB2.out⟩, by rw [hm2, hm0]; exact hlen⟩
                  · have hpr : preL p.data.toList qk = false := by
                      unfold preL
                      rw [data_len, decide_eq_false (by rw [← mkB_size]; exact hpl), Bool.false_and]
                    rw [hpr] at HCT
                    go_wp2_with fail
                    exact ⟨⟨cnt, _, rfl, HI2.out, HCT.out, HB2.out⟩, by rw [hm2, hm0]; exact hlen⟩
    · go_enter Tryd.func8, Tryd.ntmps8
      go_wp2_with fail
      refine HF.out.mono ?_
      rintro e w1 ⟨rfl, hb1⟩
      have HB1 := Lib.hid hb1
      clear hb1
      go_wp2_with fail
      go_ret
      exact ⟨rfl, HB1.out⟩
  · go_enter Tryd.func8, Tryd.ntmps8
    go_wp2_with fail
    refine HF.out.mono ?_
    rintro e w1 ⟨rfl, hb1⟩
    have HB1 := Lib.hid hb1
    clear hb1
    go_wp2_with fail
    go_ret
    exact ⟨rfl, HB1.out⟩
end Go.Proofs.YtilhegdhbcmlkaaDoor
