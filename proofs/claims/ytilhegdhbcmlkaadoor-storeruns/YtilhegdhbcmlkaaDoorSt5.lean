/- The contract of Put. -/
import Derived.Test.YtilhegdhbcmlkaaDoorSt4
namespace Go.Proofs.YtilhegdhbcmlkaaDoor
open Go.RowKit

set_option maxRecDepth 100000 in
set_option maxHeartbeats 2000000 in
theorem put_any (G : Nat) (b : Nat → Nat) (o : Nat → Int) (m : Nat → Txs) (owner : Int) (s vn tag : ByteArray) (w : World) (h : StAt w G b o m) (hg : GB w) (hsz : ∀ v, mLook (m (shardL s.data.toList)) s.data.toList = some v → v.length ≤ 100000) (hln : (m (shardL s.data.toList)).length ≤ 1000) : Calls Tryd.prog 21 #[.pointer (some ⟨G, 0, none⟩), .int .i64 owner, .string s, .string vn, .string tag] w fun e w' => e = .returned (.tuple #[.bool (putR o m owner s.data.toList tag.data.toList), .int .i64 (putC o m owner s.data.toList tag.data.toList)]) ∧ StAt w' G b o (putM o m owner s.data.toList vn.data.toList tag.data.toList) ∧ SFr G b w w' := by
  have HH := Lib.hid (home_any G b o m owner s w h)
  have HST := Lib.hid h
  rcases home_cases G o owner s.data.toList with ⟨h1, h2⟩ | ⟨h1, h2⟩
  · obtain ⟨p1, p2, p3⟩ := put_wait (m := m) (v := vn.data.toList) (tag := tag.data.toList) h1
    rw [p1, p2, p3]
    rw [h2] at HH
    generalize homeC o owner s.data.toList = c at *
    have hcb : (c == 0) = false := by simpa using h1
    clear h h2 hg hsz p1 p2 p3
    go_enter Tryd.func21, Tryd.ntmps21
    go_wp2_with fail
    refine HH.out.mono ?_
    rintro e w1 ⟨rfl, n, rfl⟩
    go_wp2_with fail
    go_ret2
    exact ⟨rfl, HST.out.on (drewN_below _ _), SFr.of (drewN_below _ _)⟩
  · rw [h2] at HH
    have HPN := fun hl => put_none (m := m) (tag := tag.data.toList) h1 hl
    have HPS := fun v hl => put_some (m := m) (tag := tag.data.toList) (v := v) h1 hl
    have HPX := fun c e hc => put_not (o := o) (m := m) (owner := owner) (s := s.data.toList) (v := vn.data.toList) (tag := tag.data.toList) (c := c) e hc
    have HPY := fun e => put_yes (o := o) (m := m) (owner := owner) (s := s.data.toList) (v := vn.data.toList) (tag := tag.data.toList) e
    generalize putC o m owner s.data.toList tag.data.toList = dc at *
    generalize putM o m owner s.data.toList vn.data.toList tag.data.toList = dm at *
    generalize putR o m owner s.data.toList tag.data.toList = dr at *
    have hlt := shard_lt s.data.toList
    have HC := Lib.hid (fun w1 (hb : Below w.heap.size w w1) => (h.on hb).ent _ hlt)
    have HL := Lib.hid (fun w1 (hb : Below w.heap.size w w1) => (h.on hb).look _ hlt s)
    have HLN := Lib.hid (fun w1 (hb : Below w.heap.size w w1) ty => (h.on hb).len _ hlt ty)
    have HP := Lib.hid (fun w1 (hb : Below w.heap.size w w1) => (h.on hb).mput _ hlt s vn)
    have HG := Lib.hid (fun w1 (hb : Below w.heap.size w w1) => hg.on hb)
    have hie := empty_iff tag
    clear h h2 h1 hg
    generalize shardL s.data.toList = k at *
    cases hlk : mLook (m k) s.data.toList with
    | none =>
      have hno : mHas (m k) s.data.toList = false := by unfold mHas; rw [hlk]; rfl
      rw [hlk, hno] at HL
      have hpn := HPN hlk
      clear hsz HPN HPS
      cases he : tag.data.toList.isEmpty with
      | false =>
        rw [he] at hie hpn
        simp only [Bool.false_eq_true, if_false] at hpn
        obtain ⟨q1, q2⟩ := HPX 6 hpn (by decide)
        rw [hpn, q1, q2]
        clear hpn q1 q2 HPX HPY hlk he hno
        go_enter Tryd.func21, Tryd.ntmps21
        go_wp2_with fail
        refine HH.out.mono ?_
        rintro e w1 ⟨rfl, hn⟩
        have HB1 := Lib.hid (quiet_below hn)
        have hc := HC.out _ HB1.out
        have hl := HL.out _ HB1.out
        clear hn
        simp only [Option.getD_none, strV] at hl
        have HB := Lib.hid (HB1.out.alloc HB1.out.size (.cells #[.string (mkB [])] 69))
        go_wp2_with fail
        go_ret2
        exact ⟨rfl, HST.out.on HB.out, SFr.of HB.out⟩
      | true =>
        rw [he] at hie hpn
        simp only [if_true] at hpn
        by_cases h8 : 8 ≤ (m k).length
        · rw [if_pos h8] at hpn
          obtain ⟨q1, q2⟩ := HPX 4 hpn (by decide)
          rw [hpn, q1, q2]
          generalize (m k).length = ln at *
          clear hpn q1 q2 HPX HPY hlk he hno
          go_enter Tryd.func21, Tryd.ntmps21
          go_wp2_with fail
          refine HH.out.mono ?_
          rintro e w1 ⟨rfl, hn⟩
          have HB1 := Lib.hid (quiet_below hn)
          have hc := HC.out _ HB1.out
          have hl := HL.out _ HB1.out
          clear hn
          simp only [Option.getD_none, strV] at hl
          have HB := Lib.hid (HB1.out.alloc HB1.out.size (.cells #[.string (mkB [])] 69))
          have hc2 := HC.out _ HB.out
          have hln2 := HLN.out _ HB.out
          go_wp2_with fail
          go_ret2
          exact ⟨rfl, HST.out.on HB.out, SFr.of HB.out⟩
        · rw [if_neg h8] at hpn
          obtain ⟨q1, q2⟩ := HPY hpn
          rw [hpn, q1, q2, hno]
          obtain ⟨nl, hnl⟩ : ∃ nl, (m k).length = nl := ⟨_, rfl⟩
          rw [hnl] at HLN h8 hln
          clear hpn q1 q2 HPX HPY hlk he hno hnl
          go_enter Tryd.func21, Tryd.ntmps21
          go_wp2_with fail
          refine HH.out.mono ?_
          rintro e w1 ⟨rfl, hn⟩
          have HB1 := Lib.hid (quiet_below hn)
          have hc := HC.out _ HB1.out
          have hl := HL.out _ HB1.out
          clear hn
          simp only [Option.getD_none, strV] at hl
          have HB := Lib.hid (HB1.out.alloc HB1.out.size (.cells #[.string (mkB [])] 69))
          have hc2 := HC.out _ HB.out
          have hln2 := HLN.out _ HB.out
          obtain ⟨W3, hr, hS3, hF3⟩ := HP.out _ HB.out
          have HS3 := Lib.hid hS3
          have HF3 := Lib.hid ((SFr.of (G := G) (b := b) HB.out).trans hF3)
          clear hS3 hF3
          go_wp2_with fail
          go_ret2
          exact ⟨rfl, HS3.out, HF3.out⟩
    | some v =>
      have hno : mHas (m k) s.data.toList = true := by unfold mHas; rw [hlk]; rfl
      rw [hlk, hno] at HL
      have hps := HPS v hlk
      have hvs := hsz v hlk
      have HT := Lib.hid (fun w1 (hb : Below w.heap.size w w1) => tagged_any (mkB v) tag (by rw [mkB_size]; exact hvs) w1 (HG.out w1 hb))
      rw [mkB_data] at HT
      clear hsz HPN HPS hie
      cases ht : taggedL v tag.data.toList with
      | false =>
        rw [ht] at HT hps
        simp only [Bool.false_eq_true, if_false] at hps
        obtain ⟨q1, q2⟩ := HPX 6 hps (by decide)
        rw [hps, q1, q2]
        clear hps q1 q2 HPX HPY hlk ht hno
        go_enter Tryd.func21, Tryd.ntmps21
        go_wp2_with fail
        refine HH.out.mono ?_
        rintro e w1 ⟨rfl, hn⟩
        have HB1 := Lib.hid (quiet_below hn)
        have hc := HC.out _ HB1.out
        have hl := HL.out _ HB1.out
        clear hn
        simp only [Option.getD_some, strV] at hl
        have HB := Lib.hid (HB1.out.alloc HB1.out.size (.cells #[.string (mkB v)] 69))
        have HTT := Lib.hid (HT.out _ HB.out)
        go_wp2_with fail
        refine HTT.out.mono ?_
        rintro e w2 ⟨rfl, hb2⟩
        have HB2 := Lib.hid (bt HB.out hb2)
        clear hb2
        go_wp2_with fail
        go_ret2
        exact ⟨rfl, HST.out.on HB2.out, SFr.of HB2.out⟩
      | true =>
        rw [ht] at HT hps
        simp only [if_true] at hps
        obtain ⟨q1, q2⟩ := HPY hps
        rw [hps, q1, q2, hno]
        clear hps q1 q2 HPX HPY hlk ht hno
        go_enter Tryd.func21, Tryd.ntmps21
        go_wp2_with fail
        refine HH.out.mono ?_
        rintro e w1 ⟨rfl, hn⟩
        have HB1 := Lib.hid (quiet_below hn)
        have hc := HC.out _ HB1.out
        have hl := HL.out _ HB1.out
        clear hn
        simp only [Option.getD_some, strV] at hl
        have HB := Lib.hid (HB1.out.alloc HB1.out.size (.cells #[.string (mkB v)] 69))
        have HTT := Lib.hid (HT.out _ HB.out)
        go_wp2_with fail
        refine HTT.out.mono ?_
        rintro e w2 ⟨rfl, hb2⟩
        have HB2 := Lib.hid (bt HB.out hb2)
        have hc2 := HC.out _ HB2.out
        obtain ⟨W3, hr, hS3, hF3⟩ := HP.out _ HB2.out
        have HS3 := Lib.hid hS3
        have HF3 := Lib.hid ((SFr.of (G := G) (b := b) HB2.out).trans hF3)
        clear hb2 hc hl hS3 hF3
        go_wp2_with fail
        go_ret2
        exact ⟨rfl, HS3.out, HF3.out⟩
end Go.Proofs.YtilhegdhbcmlkaaDoor
