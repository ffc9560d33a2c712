/- StoreRoom, walked. -/
import Derived.Test.YtilhegdhbcmlkaaDoorLists
namespace Go.Proofs.YtilhegdhbcmlkaaDoor
open Go.RowKit

theorem i64_and63 (n : Int) : bits .and .i64 n 63 = n % 64 := by
  have h : (BitVec.ofInt 64 63).toNat = 2 ^ 6 - 1 := by decide
  have key : (BitVec.ofInt 64 n &&& BitVec.ofInt 64 63).toNat = (n % ((2 ^ 64 : Nat) : Int)).toNat % 2 ^ 6 := by
    rw [BitVec.toNat_and, BitVec.toNat_ofInt, h, Nat.and_two_pow_sub_one_eq_mod]
  show IntKind.i64.wrap ((BitVec.ofInt 64 n &&& BitVec.ofInt 64 63).toNat : Nat) = n % 64
  rw [key, IntKind.wrap_i64]
  omega

/-- A block of cells of another type stays through a store's call. -/
theorem SFr.keep {W W' : World} {G : Nat} {b : Nat → Nat} {o : Nat → Int} {m : Nat → Txs} (h : SFr G b W W') (hs : StAt W G b o m) {j : Nat} {cs : Array Value} {t : TypeId} {fr : Nat × Nat} (hj : W.heap[j]? = some (.cells cs t fr)) (ht : t ≠ 61) : W'.heap[j]? = some (.cells cs t fr) := by
  rw [h.block j (blk_lt hj) (fun e => ?_) (fun i hi e => ?_)]
  · exact hj
  · rw [e, hs.blk] at hj
    cases hj
    exact ht rfl
  · obtain ⟨es, c, h1, _⟩ := hs.maps i hi
    rw [e, h1] at hj
    cases hj
theorem SFr.row {W W' : World} {G : Nat} {b : Nat → Nat} {o : Nat → Int} {m : Nat → Txs} (h : SFr G b W W') (hs : StAt W G b o m) {base n : Nat} {e : TypeId} {k : Nat} {v : Value} {xs : List Value} (ho : W.ownsRow base e k v n xs) (he : e ≠ 61) : W'.ownsRow base e k v n xs := by
  refine ⟨ho.1, ?_⟩
  rcases ho.2 with hn | ⟨g, cap, cur, hv, hg, hh, r⟩
  · exact .inl hn
  · exact .inr ⟨g, cap, cur, hv, hg, h.keep hs hh he, r⟩
theorem grown_keep {W W' : World} {base n : Nat} {e : TypeId} {k : Nat} {v : Value} {xs : List Value} (ho : W.ownsRow base e k v n xs) (hg : W.grownBy W' v.ownBlock) {j : Nat} {ob : Obj} (hj : W.heap[j]? = some ob) (hne : ∀ cs fr, ob ≠ .cells cs e fr) : W'.heap[j]? = some ob := by
  rw [hg.block j (blk_lt hj) fun q => ?_]
  · exact hj
  · rcases ho.2 with ⟨hv, _⟩ | ⟨g, cap, cur, hv, _, hh, _⟩
    · rw [hv] at q; simp [Value.ownBlock] at q
    · rw [hv] at q
      simp [Value.ownBlock] at q
      subst q
      rw [hh] at hj
      injection hj with hj
      exact hne _ _ hj.symm
theorem StAt.grown {W W' : World} {G : Nat} {b : Nat → Nat} {o : Nat → Int} {m : Nat → Txs} (hs : StAt W G b o m) {base n : Nat} {e : TypeId} {k : Nat} {v : Value} {xs : List Value} (ho : W.ownsRow base e k v n xs) (hg : W.grownBy W' v.ownBlock) (he : e ≠ 61) : StAt W' G b o m := by
  refine hs.block ?_ fun i hi => ?_
  · rw [grown_keep ho hg hs.blk fun cs fr h => ?_, hs.blk]
    cases h
    exact he rfl
  · obtain ⟨es, c, h1, _⟩ := hs.maps i hi
    rw [grown_keep ho hg h1 fun cs fr h => ?_, h1]
    cases h

/-- The key of a number. -/
def keyI (i : Nat) : Bytes := [107, UInt8.ofNat (97 + i / 26), UInt8.ofNat (97 + i % 26)]
theorem key_inj : ∀ i j : Nat, i < 64 → j < 64 → keyI i = keyI j → i = j := by
  intro i j hi hj h
  have : ∀ a b : Fin 64, keyI a.1 = keyI b.1 → a.1 = b.1 := by decide +kernel
  exact this ⟨i, hi⟩ ⟨j, hj⟩ h
theorem key_right (i : Nat) : rightL (keyI i) = true := rfl

/-- Four numbers in a block. -/
def nums (f : Nat → Nat) : Array Value := #[.int .i64 (f 0 : Nat), .int .i64 (f 1 : Nat), .int .i64 (f 2 : Nat), .int .i64 (f 3 : Nat)]
def Nm (W : World) (C : Nat) (f : Nat → Nat) : Prop := W.heap[C]? = some (.cells (nums f) 28 (0, 0))
theorem Nm.at {W : World} {C : Nat} {f : Nat → Nat} (h : Nm W C f) (k : Nat) (hk : k < 4) : W.cell? ⟨C, k, none⟩ = some (.int .i64 (f k : Nat)) ∧ W.frozen? ⟨C, k, none⟩ = false := by
  refine ⟨?_, blk_free h k⟩
  rw [blk_cell h]
  exact four (P := fun k => (nums f)[k]? = some (.int .i64 (f k : Nat))) rfl rfl rfl rfl k hk
theorem nums_upd (f : Nat → Nat) (v : Nat) : ∀ k, k < 4 → (nums f).setIfInBounds k (.int .i64 (v : Nat)) = nums (upd f k v) := four rfl rfl rfl rfl
theorem Nm.put {W : World} {C : Nat} {f : Nat → Nat} (h : Nm W C f) (k : Nat) (hk : k < 4) (v : Nat) : Nm (W.setCell ⟨C, k, none⟩ (.int .i64 (v : Nat))) C (upd f k v) := by
  unfold Nm
  rw [set_same k h, nums_upd f v k hk]
theorem Nm.on {W W' : World} {C : Nat} {f : Nat → Nat} (h : Nm W C f) (hb : W'.heap[C]? = W.heap[C]?) : Nm W' C f := hb.trans h
theorem StAt.cset {W : World} {G C : Nat} {b : Nat → Nat} {o : Nat → Int} {m : Nat → Txs} {f : Nat → Nat} (hs : StAt W G b o m) (hN : Nm W C f) (k : Nat) (v : Value) : StAt (W.setCell ⟨C, k, none⟩ v) G b o m := by
  have hg : G ≠ C := fun e => by
    unfold Nm at hN
    rw [← e, hs.blk] at hN
    injection hN with hN
    injection hN with _ h2
    exact absurd h2 (by decide)
  refine hs.block (set_oth W _ v G hg) fun i hi => set_oth W _ v _ fun e => ?_
  obtain ⟨es, c, h1, _⟩ := hs.maps i hi
  unfold Nm at hN
  rw [show b i = C from e] at h1
  rw [h1] at hN
  cases hN
theorem row_cset {W : World} {C : Nat} {f : Nat → Nat} (hN : Nm W C f) (k : Nat) (v : Value) {base n : Nat} {e : TypeId} {q : Nat} {u : Value} {xs : List Value} (ho : W.ownsRow base e q u n xs) (he : e ≠ 28) : (W.setCell ⟨C, k, none⟩ v).ownsRow base e q u n xs := by
  refine ⟨ho.1, ?_⟩
  rcases ho.2 with hn | ⟨g, cap, cur, hv, hg, hh, r⟩
  · exact .inl hn
  · refine .inr ⟨g, cap, cur, hv, hg, (set_oth W _ v g fun e' => ?_).trans hh, r⟩
    rw [show g = C from e'] at hh
    unfold Nm at hN
    rw [hN] at hh
    cases hh
    exact he rfl
theorem two_at (a b : UInt8) (W : World) : (convert 50 9 (.slice (some ⟨W.heap.size, 0, none⟩) 2 2)).run Tryd.prog (W.alloc (.cells #[.int .u8 (a.toNat : Int), .int .u8 (b.toNat : Int)] 5)) = .ok (.string (mkB [a, b])) (W.alloc (.cells #[.int .u8 (a.toNat : Int), .int .u8 (b.toNat : Int)] 5)) := by
  refine conv_at _ W.heap.size 0 [a, b] 2 2 rfl fun i hi => ?_
  rw [blk_cell (heap_alloc_new W _)]
  simp at hi
  match i, hi with
  | 0, _ => rfl
  | 1, _ => rfl

theorem join_k (a b : UInt8) : (⟨#[107]⟩ : ByteArray) ++ mkB [a, b] = mkB [107, a, b] := by
  apply bytes_ext
  rw [mkB_data, app_data, mkB_data]; rfl

set_option maxRecDepth 100000 in
set_option maxHeartbeats 8000000 in
theorem room_walk (n0 : Int) (w : World) (hn0 : (Lit.int .i64 n0).wf = true) (hg : GB w) : Calls Tryd.prog 6 #[.int .i64 n0] w fun e w' => e = .returned (.bool true) ∧ Below w.heap.size w w' := by
  obtain ⟨i0, hi, hz0, hz1, hz2⟩ := info_parts Tryd.info9
  have HI := Lib.hid hi; have HZ0 := Lib.hid hz0; have HZ1 := Lib.hid hz1; have HZ2 := Lib.hid hz2
  clear hi hz0 hz1 hz2
  have HF := Lib.hid (fit_any w hg)
  have HG := Lib.hid (fun w1 (hb : Below w.heap.size w w1) => hg.on hb)
  have hand := i64_and63 n0
  obtain ⟨q, hq⟩ : ∃ q : Nat, n0 % 64 = (q : Int) := ⟨(n0 % 64).toNat, by omega⟩
  have hq64 : q < 64 := by omega
  rw [hq] at hand
  have HN := Lib.hid (fun wx => new_any wx)
  have HL := Lib.hid (fun G bm wx k (hk : k < 4) h => lock_any G bm (ownK 1 k) (fun _ => []) 1 (k : Int) wx h)
  have HLL := Lib.hid (fun k (hk : k < 4) => lock_all (o := ownK 1 k) (ow := 1) (by decide) k hk (ownK_or 1 k))
  clear hg hq
  go_enter Tryd.func6, Tryd.ntmps6
  go_wp2_with fail
  refine HF.out.mono ?_
  rintro e w1 ⟨rfl, hb1⟩
  have HB1 := Lib.hid hb1
  clear hb1
  go_wp2_with fail
  refine (HN.out _).mono ?_
  rintro e w4 ⟨bs, rfl, hst, hbm, hb4⟩
  obtain ⟨G, hG⟩ : ∃ G, w1.heap.size = G := ⟨_, rfl⟩
  rw [hG] at hst hbm hb4
  have hGB : w.heap.size ≤ G := by have := HB1.out.size; omega
  have HGB := Lib.hid hGB
  have HBM := Lib.hid (fun i (hi : i < 4) => Nat.le_trans hGB (hbm i hi))
  have HB4 := Lib.hid (HB1.out.trans (hb4.mono hGB))
  have HST : Hid (StAt w4 G bs (ownK 1 0) fun _ => []) := hst.same (fun i _ => rfl) (fun _ _ => rfl)
  rw [hG]
  clear hst hbm hb4 hGB hG hand
  go_wp2_with fail
  go_loopw [24] (fun i wr => ∃ k : Nat, i = .int .i64 k ∧ k ≤ 4 ∧ Hid (StAt wr G bs (ownK 1 k) fun _ => []) ∧ Hid (Below w.heap.size w wr)) (fun i _ => 4 - (intOf i).toNat)
  case atStart => exact ⟨0, rfl, by omega, HST.out, HB4.out⟩
  case round =>
    obtain ⟨k, rfl, hk, hS, hB⟩ := hrel
    by_cases hk4 : k < 4
    · have HLk := Lib.hid (HL.out G bs wr k hk4 hS.out)
      obtain ⟨l1, l2⟩ := HLL.out k hk4
      rw [l1, l2, ownK_succ] at HLk
      clear l1 l2
      go_wp2_with fail
      refine HLk.out.mono ?_
      rintro e w5 ⟨rfl, hst5, hf5⟩
      have HST5 := Lib.hid hst5
      have HB5 := Lib.hid (hB.out.trans (hf5.below hB.out.size HGB.out HBM.out))
      clear hst5 hf5
      go_wp2_with fail
      exact ⟨⟨k + 1, by simp, by omega, HST5.out, HB5.out⟩, by simp [intOf]; omega⟩
    · have hk' : k = 4 := by omega
      have hkc : (k : Int) = 4 := by omega
      rw [hk'] at hS
      have hal : Below wr.heap.size wr (wr.alloc (.cells #[.int .i64 0, .int .i64 0, .int .i64 0, .int .i64 0] 28)) := (Below.refl _ _).alloc (Nat.le_refl _) _
      have HSC := Lib.hid (hS.out.on hal)
      have HNC : Hid (Nm (wr.alloc (.cells #[.int .i64 0, .int .i64 0, .int .i64 0, .int .i64 0] 28)) wr.heap.size fun _ => 0) := heap_alloc_new wr _
      have HBC := Lib.hid (bt hB.out hal)
      have HCB : Hid (w.heap.size ≤ wr.heap.size) := hB.out.size
      clear hk' HST HB4 hS hB hk hk4 hal
      go_wp2_with fail
      obtain ⟨C, hC⟩ : ∃ C, wr.heap.size = C := ⟨_, rfl⟩
      rw [hC] at HNC HCB
      rw [hC]
      generalize wr.alloc (.cells #[.int .i64 0, .int .i64 0, .int .i64 0, .int .i64 0] 28) = w6 at *
      clear hC hkc
      go_loopw [6, 32] (fun sv i wx => ∃ (j : Nat) (m : Nat → Txs) (M : Txs), i = .int .i64 j ∧ j ≤ q + 1 ∧ Hid (StAt wx G bs (ownK 1 4) m) ∧ Hid (SI m M) ∧ Hid (Nm wx C fun s => (m s).length) ∧ Hid (wx.ownsRow w.heap.size 9 1 sv (mKeys M).length ((mKeys M).map strV)) ∧ Hid (Below w.heap.size w wx) ∧ Hid (∀ x ∈ mKeys M, ∃ i, i < j ∧ x = keyI i) ∧ M.length ≤ j) (fun _ i _ => q + 1 - (intOf i).toNat)
      case atStart => exact ⟨0, _, [], rfl, by omega, HSC.out, SI.new, HNC.out, World.ownsRow_nil _ _ _ _, HBC.out, (fun x hx => (by cases hx) : ∀ x ∈ mKeys ([] : Txs), ∃ i, i < 0 ∧ x = keyI i), Nat.zero_le _⟩
      case round =>
        obtain ⟨j, m, M, rfl, hj, hS, hI, hNm, hO, hB, hK, hMl⟩ := hrel
        by_cases hjq : j < q + 1
        · have h1 : 97 + j / 26 < 256 := by omega
          have h2 : 97 + j % 26 < 256 := by omega
          have htw := two_at (UInt8.ofNat (97 + j / 26)) (UInt8.ofNat (97 + j % 26)) wr
          have e1 : ((UInt8.ofNat (97 + j / 26)).toNat : Int) = 97 + (j : Int) / 26 := by simp; omega
          have e2 : ((UInt8.ofNat (97 + j % 26)).toNat : Int) = 97 + (j : Int) % 26 := by simp; omega
          rw [e1, e2] at htw
          have hal : Below wr.heap.size wr (wr.alloc (.cells #[.int .u8 (97 + (j : Int) / 26), .int .u8 (97 + (j : Int) % 26)] 5)) := (Below.refl _ _).alloc (Nat.le_refl _) _
          have hjn : (⟨#[107]⟩ : ByteArray) ++ mkB [UInt8.ofNat (97 + j / 26), UInt8.ofNat (97 + j % 26)] = mkB (keyI j) := join_k _ _
          have hadd := add_str ⟨#[107]⟩ (mkB [UInt8.ofNat (97 + j / 26), UInt8.ofNat (97 + j % 26)]) (by rw [mkB_size]; show 1 + 2 ≤ 9223372036854775807; omega)
          rw [hjn] at hadd
          obtain ⟨d1, hd1⟩ : ∃ d1, UInt8.ofNat (97 + j / 26) = d1 := ⟨_, rfl⟩
          obtain ⟨d2, hd2⟩ : ∃ d2, UInt8.ofNat (97 + j % 26) = d2 := ⟨_, rfl⟩
          rw [hd1, hd2] at htw hadd
          clear hd1 hd2
          have hkl : (mkB (keyI j)).size = 3 := by rw [mkB_size]; rfl
          have hlt := shard_lt (keyI j)
          have hnew : mHas M (keyI j) = false := by
            rw [has_false]
            intro hm
            obtain ⟨i, hi, he⟩ := hK.out _ hm
            have := key_inj j i (by omega) (by omega) he
            omega
          have hnew2 : mHas (m (shardL (keyI j))) (keyI j) = false := by rw [← hI.out.has]; exact hnew
          have HSH := Lib.hid (fun wx => shard_any (mkB (keyI j)) (by omega) wx)
          rw [mkB_data] at HSH
          have HP := Lib.hid (fun wx (hs : StAt wx G bs (ownK 1 4) m) hgx => put_any G bs (ownK 1 4) m 1 (mkB (keyI j)) ⟨#[118]⟩ ⟨#[]⟩ wx hs hgx (fun v hv => by rw [mkB_data] at hv; have := hI.out.vlen _ _ hv; omega) (by have := hI.out.len _ (shard_lt (mkB (keyI j)).data.toList); omega))
          rw [mkB_data] at HP
          have hen : (⟨#[]⟩ : ByteArray).data.toList = [] := rfl
          have hev : (⟨#[118]⟩ : ByteArray).data.toList = [118] := rfl
          rw [hen, hev] at HP
          have hh := home_own (ow := 1) (by decide) (keyI j)
          rw [key_right] at hh
          have hpc := putC_free (m := m) hh
          rw [hnew2] at hpc
          simp only [Bool.false_eq_true, if_false] at hpc
          have hSI2 := fun h8 => hI.out.put (v := [118]) (key_right j) (by decide) (.inr h8)
          have hmp : mPut M (keyI j) [118] = M ++ [(keyI j, [118])] := by unfold mPut; rw [hnew]; rfl
          rw [hmp] at hSI2
          have hmp2 : (mPut (m (shardL (keyI j))) (keyI j) [118]).length = (m (shardL (keyI j))).length + 1 := by rw [len_put, hnew2]; rfl
          have HS1 := Lib.hid (hS.out.on hal)
          have HN1 := Lib.hid (hNm.out.on (hal.block C (blk_lt hNm.out)))
          have HO1 := Lib.hid (own_below hO.out hal)
          have HBX1 := Lib.hid (hB.out.trans (hal.mono hB.out.size))
          have HK2 : Hid (∀ x ∈ mKeys (M ++ [(keyI j, [118])]), ∃ i, i < j + 1 ∧ x = keyI i) := by
            intro x hx
            unfold mKeys at hx
            rw [List.map_append, List.mem_append] at hx
            rcases hx with hx | hx
            · obtain ⟨i, hi, he⟩ := hK.out x hx
              exact ⟨i, by omega, he⟩
            · simp at hx
              exact ⟨j, by omega, hx⟩
          have HK3 : Hid (∀ x ∈ mKeys M, ∃ i, i < j + 1 ∧ x = keyI i) := fun x hx => by
            obtain ⟨i, hi, he⟩ := hK.out x hx
            exact ⟨i, by omega, he⟩
          have HI1 := Lib.hid hI.out
          clear e1 e2 hal hjn hnew hen hev hh hmp hS hNm hO hB hK hI hkl
          generalize keyI j = kk at *
          obtain ⟨s, hs⟩ : ∃ s, shardL kk = s := ⟨_, rfl⟩
          rw [hs] at hlt hnew2 HSH hpc hSI2 hmp2
          have HSS := Lib.hid hs
          clear hs
          by_cases h8 : 8 ≤ (m s).length
          · rw [if_pos h8] at hpc
            obtain ⟨y1, y2⟩ := put_not (v := [118]) hpc (by decide)
            rw [hpc, y1, y2] at HP
            obtain ⟨ln, hln⟩ : ∃ ln, (m s).length = ln := ⟨_, rfl⟩
            rw [hln] at h8
            have HLN := Lib.hid hln
            clear hSI2 hpc y1 y2 hmp2 hnew2 hln
            go_wp2_with fail
            refine (HSH.out _).mono ?_
            rintro e x1 ⟨rfl, rfl⟩
            go_wp2_with fail
            refine (HP.out _ HS1.out (HG.out _ HBX1.out)).mono ?_
            rintro e x2 ⟨rfl, hs2, hf2⟩
            have HN2 := Lib.hid (hf2.keep HS1.out HN1.out (by decide))
            have HO2 := Lib.hid (hf2.row HS1.out HO1.out (by decide))
            have HX2 := Lib.hid (HBX1.out.trans (hf2.below HBX1.out.size HGB.out HBM.out))
            have HS2 := Lib.hid hs2
            have hN2 : Nm x2 C fun s => (m s).length := HN2.out
            obtain ⟨c1, c2⟩ := hN2.at s hlt
            simp only [HLN.out] at c1
            clear hs2 hf2 hN2
            go_wp2_with fail
            exact ⟨⟨j + 1, m, M, by simp, by omega, HS2.out, HI1.out, HN2.out, HO2.out, HX2.out, HK3.out, by omega⟩, by simp [intOf]; omega⟩
          · rw [if_neg h8] at hpc
            obtain ⟨y1, y2⟩ := put_yes (v := [118]) hpc
            rw [hpc, y1, y2, HSS.out, hnew2] at HP
            have HSI2 := Lib.hid (hSI2 (by omega))
            obtain ⟨ln, hln⟩ : ∃ ln, (m s).length = ln := ⟨_, rfl⟩
            rw [hln] at h8 hmp2
            have HLN := Lib.hid hln
            clear hSI2 hpc y1 y2 hnew2 hln
            go_wp2_with fail
            refine (HSH.out _).mono ?_
            rintro e x1 ⟨rfl, rfl⟩
            go_wp2_with fail
            refine (HP.out _ HS1.out (HG.out _ HBX1.out)).mono ?_
            rintro e x2 ⟨rfl, hs2, hf2⟩
            have HN2 := Lib.hid (hf2.keep HS1.out HN1.out (by decide))
            have HO2 := Lib.hid (hf2.row HS1.out HO1.out (by decide))
            have HX2 := Lib.hid (HBX1.out.trans (hf2.below HBX1.out.size HGB.out HBM.out))
            have HS2 := Lib.hid hs2
            have hN2 : Nm x2 C fun s => (m s).length := HN2.out
            obtain ⟨c1, c2⟩ := hN2.at s hlt
            simp only [HLN.out] at c1
            have HN3 := Lib.hid (hN2.put s hlt (ln + 1))
            have HS3 := Lib.hid (HS2.out.cset hN2 s (.int .i64 ((ln + 1 : Nat) : Int)))
            have HO3 := Lib.hid (row_cset hN2 s (.int .i64 ((ln + 1 : Nat) : Int)) HO2.out (by decide))
            have hcB : w.heap.size ≤ C := HCB.out
            have HX3 := Lib.hid (HX2.out.setCell (p := ⟨C, s, none⟩) hcB (.int .i64 ((ln + 1 : Nat) : Int)))
            have hle : ((ln + 1 : Nat) : Int) = (ln : Int) + 1 := rfl
            rw [hle] at HN3 HS3 HO3 HX3
            have hMk : (mKeys M).length = M.length := by unfold mKeys; simp
            have HFE : Hid (upd (fun s => (m s).length) s (ln + 1) = fun s' => (upd m s (mPut (m s) kk [118]) s').length) := by
              show _ = _
              funext s'
              unfold upd
              by_cases hss : s' = s
              · rw [if_pos hss, if_pos hss, hmp2]
              · rw [if_neg hss, if_neg hss]
            clear hs2 hf2 hN2 hmp2 hle
            go_wp2_with (at_builtin; refine wpList_append_own _ rfl _ _ 40 rfl w.heap.size 9 i0 (.string ⟨#[]⟩) 1 16 Tryd.underlying40 HI.out HZ0.out HZ1.out HZ2.out rfl (by decide) _ _ _ rfl (HO3.out.alloc _) ⟨x2.heap.size, 0, none⟩ 1 1 [.string (mkB kk)] rfl rfl ?c1 ?c2 ?c3 ?c4 ?c5 ?_)
            case c1 =>
              have := cell_one_new (x2.setCell ⟨C, s, none⟩ (.int .i64 ((ln : Int) + 1))) (.string (mkB kk)) 9
              rw [set_size] at this
              exact this
            case c2 => intro u hu; simp at hu; subst hu; rfl
            case c3 => unfold maxLen; omega
            case c4 => omega
            case c5 => have := HX3.out.size; simp [set_size] at this ⊢; omega
            intro v' w4 hown' hgrow _
            have hal3 : Below (x2.setCell ⟨C, s, none⟩ (.int .i64 ((ln : Int) + 1))).heap.size (x2.setCell ⟨C, s, none⟩ (.int .i64 ((ln : Int) + 1))) ((x2.setCell ⟨C, s, none⟩ (.int .i64 ((ln : Int) + 1))).alloc (.cells #[.string (mkB kk)] 9)) := (Below.refl _ _).alloc (Nat.le_refl _) _
            have HS4 := Lib.hid ((HS3.out.on hal3).grown (HO3.out.alloc _) hgrow (by decide))
            have hn4 : Nm w4 C (upd (fun s => (m s).length) s (ln + 1)) := grown_keep (HO3.out.alloc _) hgrow ((hal3.block C (blk_lt HN3.out)).trans HN3.out) (fun cs fr h => by cases h)
            rw [HFE.out] at hn4
            have HN4 := Lib.hid hn4
            have HX4 : Hid (Below w.heap.size w w4) := ((HX3.out.trans (hal3.mono HX3.out.size)).grown hgrow (by have := HX3.out.size; have := hal3.size; omega) (fun k hk => ((HO3.out.alloc (.cells #[.string (mkB kk)] 9)).lt k hk).1))
            have HO4 : Hid (w4.ownsRow w.heap.size 9 1 v' (mKeys (M ++ [(kk, [118])])).length ((mKeys (M ++ [(kk, [118])])).map strV)) := by
              show World.ownsRow _ _ _ _ _ _ _
              have e1 : (mKeys (M ++ [(kk, [118])])).length = M.length + 1 := by unfold mKeys; simp
              have e2 : (mKeys (M ++ [(kk, [118])])).map strV = (mKeys M).map strV ++ [.string (mkB kk)] := by unfold mKeys; rw [List.map_append, List.map_append]; rfl
              rw [e1, e2]
              exact hown'
            clear hown' hgrow hn4 hal3
            go_wp2_with fail
            exact ⟨⟨j + 1, _, M ++ [(kk, [118])], by simp, by omega, HS4.out, HSI2.out, HN4.out, HO4.out, HX4.out, HK2.out, by simp; omega⟩, by simp [intOf]; omega⟩
        · have hkl : ∀ i, i < 4 → (m i).length ≤ 1000 := fun i hi => by have := hI.out.len i hi; omega
          have HLO := Lib.hid (list_ok G bs (ownK 1 4) m 1 ⟨#[]⟩ wr hS.out (held_own (by decide)) hkl (fun i hi q hq => by have h1 := (hI.out.right i hi q hq).1; unfold rightL at h1; simp at h1; omega) (by decide))
          obtain ⟨ks0, hks0⟩ : ∃ ks0, mKeys M = ks0 := ⟨_, rfl⟩
          have hall : ∀ x ∈ ks0, mHas M x = true := fun x hx => has_iff.2 (by rw [hks0]; exact hx)
          rw [hks0] at hO
          obtain ⟨A6, c6, hv6, _⟩ := Rd.own hO.out
          subst hv6
          have hkl0 : ks0.length ≤ 64 := by
            rw [← hks0]
            have : (mKeys M).length = M.length := by unfold mKeys; simp
            omega
          clear hkl
          go_wp2_with fail
          refine HLO.out.mono ?_
          rintro e w9 ⟨L, AL, cL, rfl, ⟨ks, hks, hL⟩, hrdL, hb9⟩
          have hlt := hI.out.listed hks hL
          have hfl : (mKeys M).filter (preL []) = mKeys M := List.filter_eq_self.2 fun x _ => by unfold preL; simp
          have hLn : (L.length : Int) = (ks0.length : Int) := by
            have h1 := hlt.len
            change L.length = ((mKeys M).filter (preL [])).length at h1
            rw [hfl, hks0] at h1
            omega
          have HS9 := Lib.hid (hS.out.on hb9)
          have HB9 := Lib.hid (bt hB.out hb9)
          have HO9 := Lib.hid (own_below hO.out hb9)
          have HI9 := Lib.hid hI.out
          have HA9 := Lib.hid hall
          clear hrdL hlt hfl hks hL hb9 hS hB hO hI hNm hall hks0 HLO hK
          obtain ⟨ll, hll⟩ : ∃ ll : Int, (L.length : Int) = ll := ⟨_, rfl⟩
          rw [hll] at hLn
          obtain ⟨n6, hn6⟩ : ∃ n6, ks0.length = n6 := ⟨_, rfl⟩
          have HN6 := Lib.hid hn6
          rw [hn6] at hLn HO9 hkl0 ⊢
          clear hn6
          subst hLn
          go_wp2_with fail
          go_loopw [93] (fun i wx => ∃ (j : Nat) (m : Nat → Txs) (M : Txs), i = .int .i64 j ∧ j ≤ n6 ∧ Hid (StAt wx G bs (ownK 1 4) m) ∧ Hid (SI m M) ∧ Hid (wx.ownsRow w.heap.size 9 1 (.slice A6 n6 c6) n6 (ks0.map strV)) ∧ Hid (Below w.heap.size w wx) ∧ Hid (∀ x ∈ ks0, mHas M x = true)) (fun i _ => n6 - (intOf i).toNat)
          case atStart => exact ⟨0, m, M, rfl, by omega, HS9.out, HI9.out, HO9.out, HB9.out, HA9.out⟩
          case round =>
            clear HS9 HI9 HO9 HB9 HA9
            obtain ⟨j2, m2, M2, rfl, hj2, hS2, hI2, hO2, hB2, hA2⟩ := hrel
            by_cases hjn : j2 < n6
            · obtain ⟨x, hx⟩ : ∃ x, ks0[j2]? = some x := ⟨ks0[j2]'(by rw [HN6.out]; exact hjn), List.getElem?_eq_getElem _⟩
              obtain ⟨A7, c7, hv7, hrd7⟩ := Rd.own hO2.out
              cases hv7
              obtain ⟨a, rfl, _, hc⟩ := hrd7.at hjn (strV x) (by rw [List.getElem?_map, hx]; rfl)
              unfold strV at hc
              have hmx := hA2.out x (List.mem_of_getElem? hx)
              have hrx : rightL x = true := by
                obtain ⟨q, hq, e⟩ := List.mem_map.1 (has_iff.1 hmx)
                have := hI2.out.rightM hq
                rwa [e] at this
              have hmx2 : mHas (m2 (shardL x)) x = true := by rw [← hI2.out.has]; exact hmx
              have hh := home_own (ow := 1) (by decide) x
              rw [hrx] at hh
              obtain ⟨v, hv⟩ : ∃ v, mLook (m2 (shardL x)) x = some v := by
                unfold mHas at hmx2
                cases hl : mLook (m2 (shardL x)) x with
                | none => rw [hl] at hmx2; cases hmx2
                | some v => exact ⟨v, rfl⟩
              obtain ⟨d1, d2⟩ := del_ok (tag := []) hh hv rfl
              have hen : (⟨#[]⟩ : ByteArray).data.toList = [] := rfl
              have hew : (⟨#[119]⟩ : ByteArray).data.toList = [119] := rfl
              have HD := Lib.hid (del_any G bs (ownK 1 4) m2 1 (mkB x) ⟨#[]⟩ wr hS2.out (HG.out _ hB2.out) (fun v hv => by rw [mkB_data] at hv; have := hI2.out.vlen _ _ hv; omega))
              rw [mkB_data, hen, d1, d2] at HD
              have hSD := hI2.out.del x
              have hld := len_del (hI2.out.nd _ (shard_lt x)) hmx2
              have hl8 := hI2.out.len _ (shard_lt x)
              obtain ⟨m3, hm3⟩ : ∃ m3, upd m2 (shardL x) (mDel (m2 (shardL x)) x) = m3 := ⟨_, rfl⟩
              have hm3s : m3 (shardL x) = mDel (m2 (shardL x)) x := by rw [← hm3]; unfold upd; rw [if_pos rfl]
              rw [hm3] at HD hSD
              have hl7 : (m3 (shardL x)).length < 8 := by rw [hm3s]; omega
              have hnx : mHas (m3 (shardL x)) x = false := by rw [hm3s]; unfold mHas; rw [look_del, if_pos rfl]; rfl
              have hpc := putC_free (m := m3) hh
              rw [hnx] at hpc
              simp only [Bool.false_eq_true, if_false] at hpc
              rw [if_neg (by omega)] at hpc
              obtain ⟨y1, y2⟩ := put_yes (v := [119]) hpc
              have HP := Lib.hid (fun wx (hs : StAt wx G bs (ownK 1 4) m3) hgx => put_any G bs (ownK 1 4) m3 1 (mkB x) ⟨#[119]⟩ ⟨#[]⟩ wx hs hgx (fun v hv => by rw [mkB_data] at hv; have := hSD.vlen _ _ hv; omega) (by rw [mkB_data]; omega))
              rw [mkB_data, hen, hew, hpc, y1, y2, hnx] at HP
              have HSP := Lib.hid (hSD.put (v := [119]) hrx (by decide) (.inr hl7))
              have HAP : Hid (∀ y ∈ ks0, mHas (mPut (mDel M2 x) x [119]) y = true) := by
                intro y hy
                unfold mHas
                rw [look_put]
                by_cases hyx : y = x
                · rw [if_pos hyx]; rfl
                · rw [if_neg hyx, look_del, if_neg hyx]
                  exact hA2.out y hy
              clear hx hrd7 hmx hrx hmx2 hh hv d1 d2 hen hew hSD hld hl8 hm3 hm3s hl7 hnx hpc y1 y2
              go_wp2_with fail
              refine HD.out.mono ?_
              rintro e x3 ⟨rfl, hs3, hf3⟩
              have HS3 := Lib.hid hs3
              have HX3 := Lib.hid (hB2.out.trans (hf3.below hB2.out.size HGB.out HBM.out))
              have HO3 := Lib.hid (hf3.row hS2.out hO2.out (by decide))
              clear hs3 hf3 hS2 hO2 hB2
              go_wp2_with fail
              refine (HP.out _ HS3.out (HG.out _ HX3.out)).mono ?_
              rintro e x4 ⟨rfl, hs4, hf4⟩
              have HS4 := Lib.hid hs4
              have HX4 := Lib.hid (HX3.out.trans (hf4.below HX3.out.size HGB.out HBM.out))
              have HO4 := Lib.hid (hf4.row HS3.out HO3.out (by decide))
              clear hs4 hf4
              go_wp2_with fail
              exact ⟨⟨j2 + 1, _, _, by simp, by omega, HS4.out, HSP.out, HO4.out, HX4.out, HAP.out⟩, by simp [intOf]; omega⟩
            · go_wp2_with fail
              go_ret
              exact ⟨rfl, hB2.out⟩
end Go.Proofs.YtilhegdhbcmlkaaDoor
