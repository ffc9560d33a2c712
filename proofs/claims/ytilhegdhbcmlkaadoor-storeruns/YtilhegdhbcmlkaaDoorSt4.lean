/- The contracts of Put and Delete. -/
import Derived.Test.YtilhegdhbcmlkaaDoorSt3
namespace Go.Proofs.YtilhegdhbcmlkaaDoor
open Go.RowKit

theorem empty_iff (t : ByteArray) : t.toList.isEmpty = t.data.toList.isEmpty := by rw [Lib.toList_data]

theorem del_wait {o : Nat → Int} {m : Nat → Txs} {owner : Int} {s tag : Bytes} (h : homeC o owner s ≠ 0) : delC o m owner s tag = homeC o owner s ∧ delM o m owner s tag = m := by
  have e : delC o m owner s tag = homeC o owner s := by unfold delC; rw [if_neg h]
  exact ⟨e, by unfold delM; rw [e, if_neg h]⟩
theorem del_none {o : Nat → Int} {m : Nat → Txs} {owner : Int} {s tag : Bytes} (h : homeC o owner s = 0) (hl : mLook (m (shardL s)) s = none) : delC o m owner s tag = 5 ∧ delM o m owner s tag = m := by
  have e : delC o m owner s tag = 5 := by unfold delC; rw [if_pos h, hl]
  exact ⟨e, by unfold delM; rw [e, if_neg (by decide)]⟩
theorem del_bad {o : Nat → Int} {m : Nat → Txs} {owner : Int} {s tag v : Bytes} (h : homeC o owner s = 0) (hl : mLook (m (shardL s)) s = some v) (ht : taggedL v tag = false) : delC o m owner s tag = 6 ∧ delM o m owner s tag = m := by
  have e : delC o m owner s tag = 6 := by unfold delC; rw [if_pos h, hl]; simp [ht]
  exact ⟨e, by unfold delM; rw [e, if_neg (by decide)]⟩
theorem del_ok {o : Nat → Int} {m : Nat → Txs} {owner : Int} {s tag v : Bytes} (h : homeC o owner s = 0) (hl : mLook (m (shardL s)) s = some v) (ht : taggedL v tag = true) : delC o m owner s tag = 0 ∧ delM o m owner s tag = upd m (shardL s) (mDel (m (shardL s)) s) := by
  have e : delC o m owner s tag = 0 := by unfold delC; rw [if_pos h, hl]; simp [ht]
  exact ⟨e, by unfold delM; rw [e, if_pos rfl]⟩
theorem put_wait {o : Nat → Int} {m : Nat → Txs} {owner : Int} {s v tag : Bytes} (h : homeC o owner s ≠ 0) : putC o m owner s tag = homeC o owner s ∧ putM o m owner s v tag = m ∧ putR o m owner s tag = false := by
  have e : putC o m owner s tag = homeC o owner s := by unfold putC; rw [if_neg h]
  exact ⟨e, by unfold putM; rw [e, if_neg h], by unfold putR; rw [e]; simp [h]⟩
theorem put_not {o : Nat → Int} {m : Nat → Txs} {owner : Int} {s v tag : Bytes} {c : Int} (e : putC o m owner s tag = c) (hc : c ≠ 0) : putM o m owner s v tag = m ∧ putR o m owner s tag = false :=
  ⟨by unfold putM; rw [e, if_neg hc], by unfold putR; rw [e]; simp [hc]⟩
theorem put_yes {o : Nat → Int} {m : Nat → Txs} {owner : Int} {s v tag : Bytes} (e : putC o m owner s tag = 0) : putM o m owner s v tag = upd m (shardL s) (mPut (m (shardL s)) s v) ∧ putR o m owner s tag = mHas (m (shardL s)) s :=
  ⟨by unfold putM; rw [e, if_pos rfl], by unfold putR; rw [e]; simp⟩
theorem put_none {o : Nat → Int} {m : Nat → Txs} {owner : Int} {s tag : Bytes} (h : homeC o owner s = 0) (hl : mLook (m (shardL s)) s = none) : putC o m owner s tag = if tag.isEmpty then (if 8 ≤ (m (shardL s)).length then 4 else 0) else 6 := by
  unfold putC; rw [if_pos h, hl]
theorem put_some {o : Nat → Int} {m : Nat → Txs} {owner : Int} {s tag v : Bytes} (h : homeC o owner s = 0) (hl : mLook (m (shardL s)) s = some v) : putC o m owner s tag = if taggedL v tag then 0 else 6 := by
  unfold putC; rw [if_pos h, hl]

set_option maxRecDepth 100000 in
set_option maxHeartbeats 2000000 in
theorem del_any (G : Nat) (b : Nat → Nat) (o : Nat → Int) (m : Nat → Txs) (owner : Int) (s tag : ByteArray) (w : World) (h : StAt w G b o m) (hg : GB w) (hsz : ∀ v, mLook (m (shardL s.data.toList)) s.data.toList = some v → v.length ≤ 100000) : Calls Tryd.prog 19 #[.pointer (some ⟨G, 0, none⟩), .int .i64 owner, .string s, .string tag] w fun e w' => e = .returned (.int .i64 (delC o m owner s.data.toList tag.data.toList)) ∧ StAt w' G b o (delM o m owner s.data.toList tag.data.toList) ∧ SFr G b w w' := by
  have HH := Lib.hid (home_any G b o m owner s w h)
  have HST := Lib.hid h
  rcases home_cases G o owner s.data.toList with ⟨h1, h2⟩ | ⟨h1, h2⟩
  · rw [(del_wait h1).1, (del_wait h1).2]
    rw [h2] at HH
    generalize homeC o owner s.data.toList = c at *
    have hcb : (c == 0) = false := by simpa using h1
    clear h h2 hg hsz
    go_enter Tryd.func19, Tryd.ntmps19
    go_wp2_with fail
    refine HH.out.mono ?_
    rintro e w1 ⟨rfl, n, rfl⟩
    go_wp2_with fail
    go_ret
    exact ⟨rfl, HST.out.on (drewN_below _ _), SFr.of (drewN_below _ _)⟩
  · rw [h2] at HH
    have HDN := fun hl => del_none (m := m) (tag := tag.data.toList) h1 hl
    have HDB := fun v hl ht => del_bad (m := m) (tag := tag.data.toList) (v := v) h1 hl ht
    have HDO := fun v hl ht => del_ok (m := m) (tag := tag.data.toList) (v := v) h1 hl ht
    generalize delC o m owner s.data.toList tag.data.toList = dc at *
    generalize delM o m owner s.data.toList tag.data.toList = dm at *
    have hlt := shard_lt s.data.toList
    have HC := Lib.hid (fun w1 (hb : Below w.heap.size w w1) => (h.on hb).ent _ hlt)
    have HL := Lib.hid (fun w1 (hb : Below w.heap.size w w1) => (h.on hb).look _ hlt s)
    have HD := Lib.hid (fun w1 (hb : Below w.heap.size w w1) ty => (h.on hb).mdel _ hlt s ty)
    have HG := Lib.hid (fun w1 (hb : Below w.heap.size w w1) => hg.on hb)
    clear h h2 h1 hg
    generalize shardL s.data.toList = k at *
    unfold mHas at HL
    cases hlk : mLook (m k) s.data.toList with
    | none =>
      rw [hlk] at HL
      obtain ⟨rfl, rfl⟩ := HDN hlk
      clear hlk hsz HDN HDB HDO
      go_enter Tryd.func19, Tryd.ntmps19
      go_wp2_with fail
      refine HH.out.mono ?_
      rintro e w1 ⟨rfl, hn⟩
      have HB1 := Lib.hid (quiet_below hn)
      have hc := HC.out _ HB1.out
      have hl := HL.out _ HB1.out
      clear hn
      simp only [Option.getD_none, Option.isSome_none, strV] at hl
      have HB := Lib.hid (HB1.out.alloc HB1.out.size (.cells #[.string (mkB [])] 69))
      go_wp2_with fail
      go_ret
      exact ⟨rfl, HST.out.on HB.out, SFr.of HB.out⟩
    | some v =>
      rw [hlk] at HL
      have hvs := hsz v hlk
      clear hsz HDN
      have HT := Lib.hid (fun w1 (hb : Below w.heap.size w w1) => tagged_any (mkB v) tag (by rw [mkB_size]; exact hvs) w1 (HG.out w1 hb))
      rw [mkB_data] at HT
      cases ht : taggedL v tag.data.toList with
      | false =>
        rw [ht] at HT
        obtain ⟨rfl, rfl⟩ := HDB v hlk ht
        clear ht hlk HDB HDO
        go_enter Tryd.func19, Tryd.ntmps19
        go_wp2_with fail
        refine HH.out.mono ?_
        rintro e w1 ⟨rfl, hn⟩
        have HB1 := Lib.hid (quiet_below hn)
        have hc := HC.out _ HB1.out
        have hl := HL.out _ HB1.out
        clear hn
        simp only [Option.getD_some, Option.isSome_some, strV] at hl
        have HB := Lib.hid (HB1.out.alloc HB1.out.size (.cells #[.string (mkB v)] 69))
        have HTT := Lib.hid (HT.out _ HB.out)
        go_wp2_with fail
        refine HTT.out.mono ?_
        rintro e w2 ⟨rfl, hb2⟩
        have HB2 := Lib.hid (bt HB.out hb2)
        clear hb2
        go_wp2_with fail
        go_ret
        exact ⟨rfl, HST.out.on HB2.out, SFr.of HB2.out⟩
      | true =>
        rw [ht] at HT
        obtain ⟨rfl, rfl⟩ := HDO v hlk ht
        clear ht hlk HDB HDO
        go_enter Tryd.func19, Tryd.ntmps19
        go_wp2_with fail
        refine HH.out.mono ?_
        rintro e w1 ⟨rfl, hn⟩
        have HB1 := Lib.hid (quiet_below hn)
        have hc := HC.out _ HB1.out
        have hl := HL.out _ HB1.out
        clear hn
        simp only [Option.getD_some, Option.isSome_some, strV] at hl
        have HB := Lib.hid (HB1.out.alloc HB1.out.size (.cells #[.string (mkB v)] 69))
        have HTT := Lib.hid (HT.out _ HB.out)
        go_wp2_with fail
        refine HTT.out.mono ?_
        rintro e w2 ⟨rfl, hb2⟩
        have HB2 := Lib.hid (bt HB.out hb2)
        have hc2 := HC.out _ HB2.out
        obtain ⟨W3, hr, hS3, hF3⟩ := HD.out _ HB2.out 0
        have HS3 := Lib.hid hS3
        have HF3 := Lib.hid ((SFr.of (G := G) (b := b) HB2.out).trans hF3)
        clear hb2 hc hl hS3 hF3
        go_wp2_with fail
        go_ret
        exact ⟨rfl, HS3.out, HF3.out⟩

end Go.Proofs.YtilhegdhbcmlkaaDoor
