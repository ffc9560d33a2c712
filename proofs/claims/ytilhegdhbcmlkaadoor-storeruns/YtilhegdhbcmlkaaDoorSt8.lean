/- The contract of List, where all shards are theirs. -/
import Derived.Test.YtilhegdhbcmlkaaDoorSt7
namespace Go.Proofs.YtilhegdhbcmlkaaDoor
open Go.RowKit

set_option maxRecDepth 100000 in
set_option maxHeartbeats 4000000 in
theorem list_ok (G : Nat) (b : Nat → Nat) (o : Nat → Int) (m : Nat → Txs) (owner : Int) (p : ByteArray) (w : World) (h : StAt w G b o m) (hh : heldK o owner 4 = 4) (hN : ∀ i, i < 4 → (m i).length ≤ 1000) (hkl : ∀ i, i < 4 → ∀ q ∈ m i, q.1.length ≤ 1000) (hp : p.size ≤ 1000000) :
    Calls Tryd.prog 20 #[.pointer (some ⟨G, 0, none⟩), .int .i64 owner, .string p] w fun e w' => ∃ (L : List Bytes) (A : Option Addr) (c : Nat), e = .returned (.tuple #[.slice A L.length c, .int .i64 0]) ∧ (∃ ks : List Bytes, ks.Perm (lkK m p.data.toList 4) ∧ L = srt ks) ∧ Rd w' w'.heap.size 1 A L.length (L.map strV) ∧ Below w.heap.size w w' := by
  obtain ⟨i0, hi, hz0, hz1, hz2⟩ := info_parts Tryd.info9
  have HI := Lib.hid hi; have HZ0 := Lib.hid hz0; have HZ1 := Lib.hid hz1; have HZ2 := Lib.hid hz2
  clear hi hz0 hz1 hz2
  have HH := Lib.hid (held_any G b o m owner w h)
  rw [hh] at HH
  have HST := Lib.hid (fun w1 (hb : Below w.heap.size w w1) => h.on hb)
  have HPR := Lib.hid (fun s (hs : s.size ≤ 1000000) wx => pre_any s p hs hp wx)
  have HN := Lib.hid hN
  have HK := Lib.hid hkl
  clear h hh hN hkl hp
  obtain ⟨base, hbase⟩ : ∃ base, w.heap.size = base := ⟨_, rfl⟩
  rw [hbase] at HST ⊢
  have HBS := Lib.hid hbase
  clear hbase
  go_enter Tryd.func20, Tryd.ntmps20
  go_wp2_with fail
  refine HH.out.mono ?_
  rintro e w1 ⟨rfl, rfl⟩
  go_wp2_with fail
  go_loopw [8, 15] (fun l i wr => ∃ (k : Nat) (ks : List Bytes), i = .int .i64 k ∧ k ≤ 4 ∧ Hid (ks.Perm (lkK m p.data.toList k)) ∧ Hid (wr.ownsRow base 9 1 l ks.length (ks.map strV)) ∧ Hid (Below base w wr)) (fun _ i _ => 4 - (intOf i).toNat)
  case atStart => exact ⟨0, [], rfl, by omega, by show List.Perm _ _; unfold lkK; simp, World.ownsRow_nil _ _ _ _, Below.refl _ _⟩
  case round =>
    obtain ⟨k, ks, rfl, hk, hP, hO, hB⟩ := hrel
    by_cases hk4 : k < 4
    · have hst := HST.out wr hB.out
      have hc := hst.ent k hk4
      obtain ⟨W1, hrng, hit, hsz, hbl⟩ := it_new (hst.maps k hk4) Tryd.underlying56
      have hnd : (mKeys (m k)).Nodup := by
        have := (hst.maps k hk4).nodup
        rwa [vkeys] at this
      have HIT := Lib.hid hit
      have hBw := hB
      have HLI := Lib.hid (LI.start hP.out hnd)
      have HO1 := Lib.hid (own_below hO.out hbl)
      have HB1 := Lib.hid (hB.out.trans (hbl.mono (by have := hB.out.size; have := HBS.out; omega)))
      have hbk : ∃ bk, b k = bk := ⟨_, rfl⟩
      obtain ⟨bk, hbk⟩ := hbk
      rw [hbk] at hc hrng HIT
      clear hit hnd hbl hst hO hB hP hbk hsz
      obtain ⟨R, hR⟩ : ∃ R, wr.heap.size = R := ⟨_, rfl⟩
      have HRB : Hid (base ≤ R) := by
        show _ ≤ _
        have := hBw.out.size; have := HBS.out; omega
      rw [hR] at hrng HIT
      clear hR hBw
      have hkd : decide ((k : Int) < 4) = true := by simp; omega
      go_wp2_with fail
      go_loopw [8] (fun l wx => ∃ (ks : List Bytes) (left : Txs), Hid (IT wx bk R (vMap eV (m k)) (vMap eV left)) ∧ Hid (LI m p.data.toList k ks left) ∧ Hid (wx.ownsRow base 9 1 l ks.length (ks.map strV)) ∧ Hid (Below base w wx)) (fun _ wx => wx.rangeLeft bk R)
      case atStart => exact ⟨ks, m k, HIT.out, HLI.out, HO1.out, HB1.out⟩
      case round =>
        obtain ⟨ks2, left, hI, hL, hO2, hB2⟩ := hrel
        have hm0 : wr.rangeLeft bk R = left.length := by have := hI.out.left_eq; rwa [vlen] at this
        rcases it_next hI.out 0 with ⟨hl0, hnx⟩ | ⟨q, hq, W2, hnx, hit2, hen, hsz2, hbl2, hot2⟩
        · have hl1 : left = [] := by
            cases left with
            | nil => rfl
            | cons x l => simp [vMap] at hl0
          subst hl1
          have HD := Lib.hid hL.out.done
          clear hl0 hm0 hL hI
          go_wp2_with fail
          exact ⟨⟨k + 1, ks2, by simp, by omega, HD.out, hO2.out, hB2.out⟩, by simp [intOf]; omega⟩
        · obtain ⟨x, hx, hv⟩ := vmem hq
          have hgl := hL.out.len HN.out hk4
          rw [vdel] at hit2
          have hlen : (mDel left q.1).length < left.length := by
            have := len_del hL.out.nd (k := q.1) (has_iff.2 (List.mem_map.2 ⟨_, hx, rfl⟩))
            omega
          have hB3 : Below base w W2 := by
            have hR : base ≤ R := HRB.out
            exact hB2.out.trans (hbl2 base hR)
          have hO3 := hI.out.own hot2 hO2.out
          have HO3 := Lib.hid hO3
          have HB3 := Lib.hid hB3
          have HI2 := Lib.hid hit2
          have hm2 : W2.rangeLeft bk R = (mDel left q.1).length := by have := hit2.left_eq; rwa [vlen] at this
          have hks : (mkB q.1).size ≤ 1000000 := by
            rw [mkB_size]
            have := HK.out k hk4 _ (hL.out.sub hx)
            simp only at this
            omega
          have HPQ := Lib.hid (HPR.out (mkB q.1) hks W2)
          rw [mkB_data] at HPQ
          unfold strV at hnx hen
          have HLT : Hid (preL p.data.toList q.1 = true → LI m p.data.toList k (ks2 ++ [q.1]) (mDel left q.1)) := fun h => hL.out.take hx h
          have HLS : Hid (preL p.data.toList q.1 = false → LI m p.data.toList k ks2 (mDel left q.1)) := fun h => hL.out.skip hx h
          have hbz : base ≤ W2.heap.size := by have := hB3.size; have := HBS.out; omega
          clear hsz2 hit2 hbl2 hO2 hB2 hO3 hB3 hI hL hks
          obtain ⟨qk, hqk⟩ : ∃ qk, q.1 = qk := ⟨_, rfl⟩
          obtain ⟨qv, hqv⟩ : ∃ qv, q.2 = qv := ⟨_, rfl⟩
          rw [hqk] at hx hnx hen hlen HI2 hm2 HPQ HLT HLS
          rw [hqv] at hnx hen
          clear hq hqv hv hqk
          cases hpr : preL p.data.toList qk with
          | false =>
            rw [hpr] at HPQ
            have HLN := Lib.hid (HLS.out hpr)
            clear HLT HLS hpr hx
            go_wp2_with fail
            refine HPQ.out.mono ?_
            rintro e w3 ⟨rfl, rfl⟩
            go_wp2_with fail
            exact ⟨⟨ks2, mDel left qk, HI2.out, HLN.out, HO3.out, HB3.out⟩, by rw [hm2, hm0]; exact hlen⟩
          | true =>
            rw [hpr] at HPQ
            have HLN := Lib.hid (HLT.out hpr)
            clear HLT HLS hpr hx
            go_wp2_with fail
            refine HPQ.out.mono ?_
            rintro e w3 ⟨rfl, rfl⟩
            go_wp2_with (at_builtin; go_loud (refine wpList_append_own _ rfl _ _ 40 rfl base 9 i0 (.string ⟨#[]⟩) 1 16 Tryd.underlying40 HI.out HZ0.out HZ1.out HZ2.out rfl (by decide) _ _ _ rfl (HO3.out.alloc _) ⟨W2.heap.size, 0, none⟩ 1 1 [.string (mkB qk)] rfl rfl ?c1 ?c2 ?c3 ?c4 ?c5 ?_))
            case c1 => exact cell_one_new _ _ _
            case c2 => intro u hu; simp at hu; subst hu; rfl
            case c3 => unfold maxLen; omega
            case c4 => omega
            case c5 => simp; omega
            intro v' w4 hown' hgrow _
            have hb4 : Below base w w4 := (HB3.out.alloc hbz _).grown hgrow (by simp; omega) (fun j hj => (HO3.out.lt j hj).1)
            have hit4 : IT w4 bk R (vMap eV (m k)) (vMap eV (mDel left qk)) := (HI2.out.on ((Below.refl _ _).alloc (Nat.le_refl _) _)).grown (HO3.out.alloc _) hgrow
            have HO4 : Hid (w4.ownsRow base 9 1 v' (ks2 ++ [qk]).length ((ks2 ++ [qk]).map strV)) := by
              show World.ownsRow _ _ _ _ _ _ _
              rw [List.length_append, List.map_append]
              exact hown'
            have hm4 : w4.rangeLeft bk R = (mDel left qk).length := by have := hit4.left_eq; rwa [vlen] at this
            have HB4 := Lib.hid hb4
            have HI4 := Lib.hid hit4
            clear hown' hgrow hb4 hit4
            go_wp2_with fail
            exact ⟨⟨ks2 ++ [qk], mDel left qk, HI4.out, HLN.out, HO4.out, HB4.out⟩, by rw [hm4, hm0]; exact hlen⟩
    · obtain rfl : k = 4 := by omega
      have hbz : base ≤ wr.heap.size := by have := hB.out.size; have := HBS.out; omega
      have hlen : ks.length ≤ 4000 := by
        have h1 := hP.out.length_eq
        have h2 := lk_len m p.data.toList 1000 HN.out 4 (by decide)
        omega
      by_cases h0 : ks.length = 0
      · have hks : ks = [] := List.eq_nil_of_length_eq_zero h0
        subst hks
        obtain ⟨A, c, hv, hrd⟩ := Rd.own hO.out
        subst hv
        have HRD := Lib.hid hrd
        have HSN := Lib.hid (sort_none A c wr)
        clear hO hrd
        go_wp2_with fail
        refine HSN.out.mono ?_
        rintro e w5 ⟨rfl, rfl⟩
        go_wp2_with fail
        go_ret2
        exact ⟨[], A, c, rfl, ⟨[], hP.out, (List.eq_nil_of_length_eq_zero (by rw [srt_len]; rfl)).symm⟩, HRD.out, hB.out⟩
      · obtain ⟨g, cap, hv, hg, hgl, hnc, hcm⟩ := own_shape hO.out (by omega)
        subst hv
        have HSA := Lib.hid (sort_any g cap ks wr base (Rw.own hO.out rfl (by omega)) hg (by omega))
        have hsl := srt_len ks
        obtain ⟨nl, hnl⟩ : ∃ nl, ks.length = nl := ⟨_, rfl⟩
        rw [hnl] at HSA hsl
        have HNL := Lib.hid hnl
        clear hO
        rw [hnl]
        go_wp2_with fail
        refine HSA.out.mono ?_
        rintro e w5 ⟨rfl, hrw, hb5⟩
        have HB5 := Lib.hid (hB.out.trans hb5)
        have HRD := Lib.hid (holds_rd hrw.2 hrw.1 (srt ks).length (Nat.le_refl _))
        rw [List.take_length] at HRD
        clear hrw hb5
        go_wp2_with fail
        go_ret2
        exact ⟨srt ks, some ⟨g, 0, none⟩, cap, by rw [hsl]; rfl, ⟨ks, hP.out, rfl⟩, HRD.out, HB5.out⟩
end Go.Proofs.YtilhegdhbcmlkaaDoor
