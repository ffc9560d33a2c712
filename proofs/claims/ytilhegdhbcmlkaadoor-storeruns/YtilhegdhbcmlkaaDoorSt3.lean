/- The contracts of Get, tagged, Put, Delete. -/
import Derived.Test.YtilhegdhbcmlkaaDoorSt2
namespace Go.Proofs.YtilhegdhbcmlkaaDoor
open Go.RowKit

def getL (o : Nat → Int) (m : Nat → Txs) (owner : Int) (s : Bytes) : Bytes × Int :=
  if homeC o owner s = 0 then (match mLook (m (shardL s)) s with
    | none => ([], 5)
    | some v => (v, 0)) else ([], homeC o owner s)
def taggedL (v tag : Bytes) : Bool := tag.isEmpty || decide (tag = tagL v)
def putC (o : Nat → Int) (m : Nat → Txs) (owner : Int) (s tag : Bytes) : Int :=
  if homeC o owner s = 0 then (match mLook (m (shardL s)) s with
    | none => if tag.isEmpty then (if 8 ≤ (m (shardL s)).length then 4 else 0) else 6
    | some v => if taggedL v tag then 0 else 6) else homeC o owner s
def putR (o : Nat → Int) (m : Nat → Txs) (owner : Int) (s tag : Bytes) : Bool := decide (putC o m owner s tag = 0) && mHas (m (shardL s)) s
def putM (o : Nat → Int) (m : Nat → Txs) (owner : Int) (s v tag : Bytes) : Nat → Txs := if putC o m owner s tag = 0 then upd m (shardL s) (mPut (m (shardL s)) s v) else m
def delC (o : Nat → Int) (m : Nat → Txs) (owner : Int) (s tag : Bytes) : Int :=
  if homeC o owner s = 0 then (match mLook (m (shardL s)) s with
    | none => 5
    | some v => if taggedL v tag then 0 else 6) else homeC o owner s
def delM (o : Nat → Int) (m : Nat → Txs) (owner : Int) (s tag : Bytes) : Nat → Txs := if delC o m owner s tag = 0 then upd m (shardL s) (mDel (m (shardL s)) s) else m

theorem home_cases (G : Nat) (o : Nat → Int) (owner : Int) (s : Bytes) : (homeC o owner s ≠ 0 ∧ homeV G o owner s = .tuple #[.pointer none, .int .i64 (homeC o owner s)]) ∨ (homeC o owner s = 0 ∧ homeV G o owner s = .tuple #[.pointer (some ⟨G, shardL s * 2, none⟩), .int .i64 0]) := by
  unfold homeV homeP
  by_cases h : homeC o owner s = 0
  · exact .inr ⟨h, by rw [if_pos h, h]⟩
  · exact .inl ⟨h, by rw [if_neg h]⟩
theorem quiet_below {w w1 : World} (h : ∃ n, w1 = w.drewN n) : Below w.heap.size w w1 := by obtain ⟨n, rfl⟩ := h; exact drewN_below w n
theorem zero69 (w : World) : (zeroValue 69).run Tryd.prog w = .ok (.agg #[.string ⟨#[]⟩]) w := by kernel_rfl

theorem StAt.look {W : World} {G : Nat} {b : Nat → Nat} {o : Nat → Int} {m : Nat → Txs} (h : StAt W G b o m) (k : Nat) (hk : k < 4) (s : ByteArray) : (Instr.lookup 56 (.map (some (b k))) (.string s) true).run Tryd.prog W = .ok (.tuple #[.agg #[strV ((mLook (m k) s.data.toList).getD [])], .bool (mHas (m k) s.data.toList)]) W := by
  have := ma_look Tryd.underlying56 zero69 (h.maps k hk) s.data.toList
  rw [strV_of, vlook, vhas] at this
  rw [this]
  cases mLook (m k) s.data.toList <;> rfl
theorem StAt.len {W : World} {G : Nat} {b : Nat → Nat} {o : Nat → Int} {m : Nat → Txs} (h : StAt W G b o m) (k : Nat) (hk : k < 4) (ty : TypeId) : (Builtin.len_ #[56] ty #[.map (some (b k))]).run Tryd.prog W = .ok (.int .i64 ((m k).length : Nat)) W := by
  have := ma_len Tryd.underlying56 (h.maps k hk) ty
  rwa [vlen] at this
theorem StAt.turned {W W' : World} {G : Nat} {b : Nat → Nat} {o : Nat → Int} {m : Nat → Txs} (h : StAt W G b o m) {k : Nat} (hk : k < 4) {l : Txs} (hM : MA W' (b k) (vMap eV l)) (ho : ∀ j, j ≠ b k → W'.heap[j]? = W.heap[j]?) : StAt W' G b o (upd m k l) := by
  refine ⟨(ho G (fun e => h.neG k hk e.symm)).trans h.blk, fun i hi => ?_, h.ne⟩
  unfold upd
  by_cases hik : i = k
  · subst hik
    rw [if_pos rfl]
    exact hM
  · rw [if_neg hik]
    exact (h.maps i hi).block (ho _ fun e => hik (h.ne i k hi hk e))
theorem StAt.mput {W : World} {G : Nat} {b : Nat → Nat} {o : Nat → Int} {m : Nat → Txs} (h : StAt W G b o m) (k : Nat) (hk : k < 4) (s v : ByteArray) :
    ∃ W', (Instr.mapUpdate 56 (.map (some (b k))) (.string s) (.agg #[.string v])).run Tryd.prog W = .ok () W' ∧ StAt W' G b o (upd m k (mPut (m k) s.data.toList v.data.toList)) ∧ SFr G b W W' := by
  obtain ⟨W', h1, h2, h3, h4, h5⟩ := ma_put Tryd.underlying56 (h.maps k hk) s.data.toList (eV v.data.toList)
  have e : eV v.data.toList = .agg #[.string v] := by unfold eV; rw [strV_of]
  rw [vput] at h2
  rw [strV_of, e] at h1
  have hb := h4 (b k) (Nat.le_refl _)
  exact ⟨W', h1, h.turned hk h2 h5, ⟨hb.os, hb.tape, hb.output, hb.size, fun j _ _ hj => h5 j (hj k hk)⟩⟩
theorem StAt.mdel {W : World} {G : Nat} {b : Nat → Nat} {o : Nat → Int} {m : Nat → Txs} (h : StAt W G b o m) (k : Nat) (hk : k < 4) (s : ByteArray) (ty : TypeId) :
    ∃ W', (Builtin.delete_ #[56, 9] ty #[.map (some (b k)), .string s]).run Tryd.prog W = .ok (.tuple #[]) W' ∧ StAt W' G b o (upd m k (mDel (m k) s.data.toList)) ∧ SFr G b W W' := by
  obtain ⟨W', h1, h2, h3, h4, h5⟩ := ma_del Tryd.underlying56 (h.maps k hk) s.data.toList ty
  rw [vdel] at h2
  rw [strV_of] at h1
  have hb := h4 (b k) (Nat.le_refl _)
  exact ⟨W', h1, h.turned hk h2 h5, ⟨hb.os, hb.tape, hb.output, hb.size, fun j _ _ hj => h5 j (hj k hk)⟩⟩

set_option maxRecDepth 100000 in
set_option maxHeartbeats 1000000 in
theorem get_any (G : Nat) (b : Nat → Nat) (o : Nat → Int) (m : Nat → Txs) (owner : Int) (s : ByteArray) (w : World) (h : StAt w G b o m) : Calls Tryd.prog 18 #[.pointer (some ⟨G, 0, none⟩), .int .i64 owner, .string s] w fun e w' => e = .returned (.tuple #[strV (getL o m owner s.data.toList).1, .int .i64 (getL o m owner s.data.toList).2]) ∧ Below w.heap.size w w' := by
  have HH := Lib.hid (home_any G b o m owner s w h)
  unfold getL
  rcases home_cases G o owner s.data.toList with ⟨h1, h2⟩ | ⟨h1, h2⟩
  · rw [if_neg h1]
    rw [h2] at HH
    generalize homeC o owner s.data.toList = c at *
    have hcb : (c == 0) = false := by simpa using h1
    clear h h2
    go_enter Tryd.func18, Tryd.ntmps18
    go_wp2_with fail
    refine HH.out.mono ?_
    rintro e w1 ⟨rfl, n, rfl⟩
    go_wp2_with fail
    go_ret2
    exact ⟨rfl, drewN_below _ _⟩
  · rw [if_pos h1]
    rw [h2] at HH
    have hlt := shard_lt s.data.toList
    have HC := Lib.hid (fun w1 (hb : Below w.heap.size w w1) => (h.on hb).ent _ hlt)
    have HL := Lib.hid (fun w1 (hb : Below w.heap.size w w1) => (h.on hb).look _ hlt s)
    clear h h2 h1
    generalize shardL s.data.toList = k at *
    unfold mHas at HL
    cases hlk : mLook (m k) s.data.toList with
    | none =>
      rw [hlk] at HL
      clear hlk
      go_enter Tryd.func18, Tryd.ntmps18
      go_wp2_with fail
      refine HH.out.mono ?_
      rintro e w1 ⟨rfl, hn⟩
      have HB1 := Lib.hid (quiet_below hn)
      have hc := HC.out _ HB1.out
      have hl := HL.out _ HB1.out
      clear hn
      simp only [Option.getD_none, Option.isSome_none, strV] at hl
      have HB := Lib.hid (HB1.out.alloc HB1.out.size (.cells #[.string (mkB [])] 69))
      go_wp2_with fail
      go_ret2
      exact ⟨rfl, HB.out⟩
    | some v =>
      rw [hlk] at HL
      clear hlk
      go_enter Tryd.func18, Tryd.ntmps18
      go_wp2_with fail
      refine HH.out.mono ?_
      rintro e w1 ⟨rfl, hn⟩
      have HB1 := Lib.hid (quiet_below hn)
      have hc := HC.out _ HB1.out
      have hl := HL.out _ HB1.out
      clear hn
      simp only [Option.getD_some, Option.isSome_some, strV] at hl
      have HB := Lib.hid (HB1.out.alloc HB1.out.size (.cells #[.string (mkB v)] 69))
      go_wp2_with fail
      go_ret2
      exact ⟨rfl, HB.out⟩

set_option maxHeartbeats 1000000 in
theorem tagged_any (v tag : ByteArray) (hv : v.size ≤ 100000) (w : World) (hg : GB w) : Calls Tryd.prog 28 #[.agg #[.string v], .string tag] w fun e w' => e = .returned (.bool (taggedL v.data.toList tag.data.toList)) ∧ Below w.heap.size w w' := by
  have HB0 := Lib.hid ((Below.refl w.heap.size w).alloc (Nat.le_refl _) (.cells #[.string v] 69))
  have HT := Lib.hid (tag_any v hv _ (hg.on ((Below.refl w.heap.size w).alloc (Nat.le_refl _) (.cells #[.string v] 69))))
  unfold taggedL
  cases he : tag.data.toList.isEmpty with
  | true =>
    have h1 : tag.toList.isEmpty = true := by rw [Lib.toList_data]; exact he
    rw [Bool.true_or]
    clear he hg
    go_enter Tryd.func28, Tryd.ntmps28
    go_wp2_with fail
    go_ret
    exact ⟨rfl, HB0.out⟩
  | false =>
    have h1 : tag.toList.isEmpty = false := by rw [Lib.toList_data]; exact he
    have h2 : (tag.toList == (tagB v).toList) = decide (tag.data.toList = tagL v.data.toList) := by
      rw [eq_list, Lib.toList_data]
      unfold tagB
      rw [mkB_data]
    rw [Bool.false_or]
    clear he hg
    generalize decide (tag.data.toList = tagL v.data.toList) = r at *
    generalize tagB v = tb at *
    go_enter Tryd.func28, Tryd.ntmps28
    go_wp2_with fail
    refine HT.out.mono ?_
    rintro e w1 ⟨rfl, hb1⟩
    have HB1 := Lib.hid (bt HB0.out hb1)
    clear hb1
    go_wp2_with fail
    go_ret
    exact ⟨rfl, HB1.out⟩
end Go.Proofs.YtilhegdhbcmlkaaDoor
