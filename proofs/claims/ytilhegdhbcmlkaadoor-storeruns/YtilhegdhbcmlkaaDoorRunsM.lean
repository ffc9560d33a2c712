/- What StoreRuns' walk stands on. -/
import Derived.Test.YtilhegdhbcmlkaaDoorLocks
namespace Go.Proofs.YtilhegdhbcmlkaaDoor
open Go.RowKit

theorem zero9 (w : World) : (zeroValue 9).run Tryd.prog w = .ok (.string ⟨#[]⟩) w := by kernel_rfl
theorem tm6 (n : Int) : -5 ≤ n.tmod 6 ∧ n.tmod 6 ≤ 5 := by
  have h1 := Int.tmod_lt_of_pos n (by decide : (0 : Int) < 6)
  have h2 := Int.lt_tmod_of_pos n (by decide : (0 : Int) < 6)
  omega

/-- The store of the law beside the law's own map and counts. -/
structure RS (W : World) (G bm C : Nat) (b : Nat → Nat) (o : Nat → Int) (m : Nat → Txs) (M : Txs) : Prop where
  st : StAt W G b o m
  mp : MA W bm (vMap strV M)
  si : SI m M
  nm : Nm W C fun s => (m s).length
  ne : ∀ i, i < 4 → bm ≠ b i
theorem RS.neG {W : World} {G bm C : Nat} {b : Nat → Nat} {o : Nat → Int} {m : Nat → Txs} {M : Txs} (h : RS W G bm C b o m M) : bm ≠ G := fun e => by
  obtain ⟨es, c, h1, _⟩ := h.mp
  rw [e, h.st.blk] at h1
  cases h1
theorem RS.neC {W : World} {G bm C : Nat} {b : Nat → Nat} {o : Nat → Int} {m : Nat → Txs} {M : Txs} (h : RS W G bm C b o m M) : bm ≠ C := fun e => by
  obtain ⟨es, c, h1, _⟩ := h.mp
  have h2 := h.nm
  unfold Nm at h2
  rw [e, h2] at h1
  cases h1
theorem RS.on {W W' : World} {G bm C : Nat} {b : Nat → Nat} {o : Nat → Int} {m : Nat → Txs} {M : Txs} (h : RS W G bm C b o m M) (hb : Below W.heap.size W W') : RS W' G bm C b o m M :=
  ⟨h.st.on hb, h.mp.on hb, h.si, (hb.block C (blk_lt h.nm)).trans h.nm, h.ne⟩
theorem RS.fr {W W' : World} {G bm C : Nat} {b : Nat → Nat} {o o' : Nat → Int} {m : Nat → Txs} {M : Txs} (h : RS W G bm C b o m M) (hf : SFr G b W W') (hs : StAt W' G b o' m) : RS W' G bm C b o' m M :=
  ⟨hs, h.mp.block (hf.block bm h.mp.lt h.neG h.ne), h.si, hf.keep h.st h.nm (by decide), h.ne⟩
/-- The law's own map is turned. -/
theorem RS.map {W W' : World} {G bm C : Nat} {b : Nat → Nat} {o : Nat → Int} {m : Nat → Txs} {M : Txs} (h : RS W G bm C b o m M) (hot : ∀ j, j ≠ bm → W'.heap[j]? = W.heap[j]?) : StAt W' G b o m ∧ Nm W' C fun s => (m s).length :=
  ⟨h.st.other hot h.neG h.ne, (hot C fun e => h.neC e.symm).trans h.nm⟩
/-- What the law's tag is. -/
def tgL (tk : Nat) (old : Bytes) : Bytes := if tk = 1 then tagL old else if tk = 2 then tagL old ++ [120] else []
def rtB (tk : Nat) (th : Bool) : Bool := if tk = 1 then th else if tk = 2 then false else true
theorem tagged_rt (tk : Nat) (v : Bytes) : taggedL v (tgL tk v) = rtB tk true := by
  unfold tgL rtB
  by_cases h1 : tk = 1
  · rw [if_pos h1, if_pos h1, tagged_self]
  · rw [if_neg h1, if_neg h1]
    by_cases h2 : tk = 2
    · rw [if_pos h2, if_pos h2]
      refine tagged_not (by simp) fun e => ?_
      have := congrArg List.length e
      simp at this
    · rw [if_neg h2, if_neg h2]; rfl
theorem tgL_empty (tk : Nat) (old : Bytes) : (tgL tk old).isEmpty = rtB tk false := by
  unfold tgL rtB
  by_cases h1 : tk = 1
  · rw [if_pos h1, if_pos h1]; simp [tag_ne_nil]
  · rw [if_neg h1, if_neg h1]
    by_cases h2 : tk = 2
    · rw [if_pos h2, if_pos h2]; simp
    · rw [if_neg h2, if_neg h2]; rfl
theorem tgL_len (tk : Nat) (old : Bytes) (h : old.length ≤ 300) : (tgL tk old).length ≤ 31 := by
  have h1 : (tagL old).length ≤ 30 := by
    unfold tagL
    have e1 := hexR_len 7 (fnvL old) [] (by have := fnv_lt old; omega)
    have e2 := Lib.itoa_length_le (old.length : Int) (by omega) (by omega)
    rw [Lib.itoa_nonneg] at e2
    simp at e1 ⊢
    omega
  unfold tgL
  split
  · omega
  · split
    · simp; omega
    · simp
/-- What the calls answer, by what the law's map has. -/
theorem si_get {m : Nat → Txs} {M : Txs} (h : SI m M) (s : Bytes) : getL (ownK 7 4) m 7 s = ((mLook M s).getD [], if rightL s then (if mHas M s then 0 else 5) else 8) := by
  have hh := home_own (ow := 7) (by decide) s
  unfold getL mHas
  rw [h.look]
  cases hr : rightL s with
  | true =>
    rw [hr] at hh
    simp only [if_true] at hh
    rw [if_pos hh]
    cases mLook (m (shardL s)) s <;> rfl
  | false =>
    rw [hr] at hh
    simp only [Bool.false_eq_true, if_false] at hh
    rw [hh, if_neg (by decide)]
    have : mLook (m (shardL s)) s = none := by
      cases hl : mLook (m (shardL s)) s with
      | none => rfl
      | some v =>
        have := (h.right _ (shard_lt s) _ (mem_of_look hl)).1
        simp only at this
        rw [hr] at this; cases this
    rw [this]; rfl
theorem si_hasR {m : Nat → Txs} {M : Txs} (h : SI m M) {s : Bytes} (hr : rightL s = false) : mHas M s = false := by
  cases hm : mHas M s with
  | false => rfl
  | true =>
    obtain ⟨q, hq, e⟩ := List.mem_map.1 (has_iff.1 hm)
    have := h.rightM hq
    rw [e, hr] at this; cases this
theorem si_del8 {m : Nat → Txs} {M : Txs} (h : SI m M) {s : Bytes} (tag : Bytes) (hr : rightL s = false) : delC (ownK 7 4) m 7 s tag = 8 ∧ delM (ownK 7 4) m 7 s tag = m := by
  have hh := home_own (ow := 7) (by decide) s
  rw [hr] at hh
  simp only [Bool.false_eq_true, if_false] at hh
  have := del_wait (m := m) (tag := tag) (by rw [hh]; decide : homeC (ownK 7 4) 7 s ≠ 0)
  rw [hh] at this
  exact this
theorem home7' {s : Bytes} (hr : rightL s = true) : homeC (ownK 7 4) 7 s = 0 := by
  have hh := home_own (ow := 7) (by decide) s
  rw [hr] at hh
  simpa using hh
theorem si_del5 {m : Nat → Txs} {M : Txs} (h : SI m M) {s : Bytes} (tag : Bytes) (hr : rightL s = true) (ht : mHas M s = false) : delC (ownK 7 4) m 7 s tag = 5 ∧ delM (ownK 7 4) m 7 s tag = m := by
  refine del_none (home7' hr) ?_
  rw [← h.look]
  unfold mHas at ht
  cases hl : mLook M s with
  | none => rfl
  | some v => rw [hl] at ht; cases ht
theorem si_some {m : Nat → Txs} {M : Txs} (h : SI m M) {s : Bytes} (ht : mHas M s = true) : mLook (m (shardL s)) s = some ((mLook M s).getD []) := by
  rw [← h.look]
  unfold mHas at ht
  cases hl : mLook M s with
  | none => rw [hl] at ht; cases ht
  | some v => rfl
theorem si_del6 {m : Nat → Txs} {M : Txs} (h : SI m M) {s : Bytes} {tk : Nat} (hr : rightL s = true) (ht : mHas M s = true) (hk : rtB tk true = false) : delC (ownK 7 4) m 7 s (tgL tk ((mLook M s).getD [])) = 6 ∧ delM (ownK 7 4) m 7 s (tgL tk ((mLook M s).getD [])) = m :=
  del_bad (home7' hr) (si_some h ht) (by rw [tagged_rt, hk])
theorem si_del0 {m : Nat → Txs} {M : Txs} (h : SI m M) {s : Bytes} {tk : Nat} (hr : rightL s = true) (ht : mHas M s = true) (hk : rtB tk true = true) : delC (ownK 7 4) m 7 s (tgL tk ((mLook M s).getD [])) = 0 ∧ delM (ownK 7 4) m 7 s (tgL tk ((mLook M s).getD [])) = upd m (shardL s) (mDel (m (shardL s)) s) :=
  del_ok (home7' hr) (si_some h ht) (by rw [tagged_rt, hk])
theorem si_put8 {m : Nat → Txs} {M : Txs} (h : SI m M) {s : Bytes} (v tag : Bytes) (hr : rightL s = false) : putC (ownK 7 4) m 7 s tag = 8 ∧ putM (ownK 7 4) m 7 s v tag = m ∧ putR (ownK 7 4) m 7 s tag = false := by
  have hh := home_own (ow := 7) (by decide) s
  rw [hr] at hh
  simp only [Bool.false_eq_true, if_false] at hh
  have := put_wait (m := m) (v := v) (tag := tag) (by rw [hh]; decide : homeC (ownK 7 4) 7 s ≠ 0)
  rw [hh] at this
  exact this
theorem si_put6 {m : Nat → Txs} {M : Txs} (h : SI m M) {s : Bytes} (v : Bytes) {tk : Nat} (hr : rightL s = true) (hk : rtB tk (mHas M s) = false) : putC (ownK 7 4) m 7 s (tgL tk ((mLook M s).getD [])) = 6 ∧ putM (ownK 7 4) m 7 s v (tgL tk ((mLook M s).getD [])) = m ∧ putR (ownK 7 4) m 7 s (tgL tk ((mLook M s).getD [])) = false := by
  have e : putC (ownK 7 4) m 7 s (tgL tk ((mLook M s).getD [])) = 6 := by
    cases ht : mHas M s with
    | true =>
      rw [ht] at hk
      rw [put_some (home7' hr) (si_some h ht), tagged_rt, hk]; rfl
    | false =>
      rw [ht] at hk
      have hl : mLook (m (shardL s)) s = none := by
        rw [← h.look]
        unfold mHas at ht
        cases hl : mLook M s with
        | none => rfl
        | some v => rw [hl] at ht; cases ht
      rw [put_none (home7' hr) hl, tgL_empty, hk]; rfl
  exact ⟨e, put_not e (by decide)⟩
theorem si_putT {m : Nat → Txs} {M : Txs} (h : SI m M) {s : Bytes} (v : Bytes) {tk : Nat} (hr : rightL s = true) (ht : mHas M s = true) (hk : rtB tk true = true) : putC (ownK 7 4) m 7 s (tgL tk ((mLook M s).getD [])) = 0 ∧ putM (ownK 7 4) m 7 s v (tgL tk ((mLook M s).getD [])) = upd m (shardL s) (mPut (m (shardL s)) s v) ∧ putR (ownK 7 4) m 7 s (tgL tk ((mLook M s).getD [])) = true := by
  have e : putC (ownK 7 4) m 7 s (tgL tk ((mLook M s).getD [])) = 0 := by
    rw [put_some (home7' hr) (si_some h ht), tagged_rt, hk]; rfl
  obtain ⟨h1, h2⟩ := put_yes (v := v) e
  refine ⟨e, h1, ?_⟩
  rw [h2, ← h.has]; exact ht
theorem si_putF {m : Nat → Txs} {M : Txs} (h : SI m M) {s : Bytes} (v : Bytes) {tk : Nat} (hr : rightL s = true) (ht : mHas M s = false) (hk : rtB tk false = true) (hl8 : (m (shardL s)).length < 8) : putC (ownK 7 4) m 7 s (tgL tk ((mLook M s).getD [])) = 0 ∧ putM (ownK 7 4) m 7 s v (tgL tk ((mLook M s).getD [])) = upd m (shardL s) (mPut (m (shardL s)) s v) ∧ putR (ownK 7 4) m 7 s (tgL tk ((mLook M s).getD [])) = false := by
  have hl : mLook (m (shardL s)) s = none := by
    rw [← h.look]
    unfold mHas at ht
    cases hl : mLook M s with
    | none => rfl
    | some v => rw [hl] at ht; cases ht
  have e : putC (ownK 7 4) m 7 s (tgL tk ((mLook M s).getD [])) = 0 := by
    rw [put_none (home7' hr) hl, tgL_empty, hk, if_pos rfl, if_neg (by omega)]
  obtain ⟨h1, h2⟩ := put_yes (v := v) e
  refine ⟨e, h1, ?_⟩
  rw [h2, ← h.has]; exact ht
theorem si_put4 {m : Nat → Txs} {M : Txs} (h : SI m M) {s : Bytes} (v : Bytes) {tk : Nat} (hr : rightL s = true) (ht : mHas M s = false) (hk : rtB tk false = true) (hl8 : (m (shardL s)).length = 8) : putC (ownK 7 4) m 7 s (tgL tk ((mLook M s).getD [])) = 4 ∧ putM (ownK 7 4) m 7 s v (tgL tk ((mLook M s).getD [])) = m ∧ putR (ownK 7 4) m 7 s (tgL tk ((mLook M s).getD [])) = false := by
  have hl : mLook (m (shardL s)) s = none := by
    rw [← h.look]
    unfold mHas at ht
    cases hl : mLook M s with
    | none => rfl
    | some v => rw [hl] at ht; cases ht
  have e : putC (ownK 7 4) m 7 s (tgL tk ((mLook M s).getD [])) = 4 := by
    rw [put_none (home7' hr) hl, tgL_empty, hk, if_pos rfl, if_pos (by omega)]
  exact ⟨e, put_not e (by decide)⟩
/-- The law's map is turned, and all else stays. -/
theorem put_map {W : World} {G bm C : Nat} {b : Nat → Nat} {o : Nat → Int} {m : Nat → Txs} {f : Nat → Nat} {M : Txs} (hs : StAt W G b o m) (hm : MA W bm (vMap strV M)) (hn : Nm W C f) (hG : bm ≠ G) (hC : bm ≠ C) (hne : ∀ i, i < 4 → bm ≠ b i) (s v : ByteArray) : ∃ W', (Instr.mapUpdate 27 (.map (some bm)) (.string s) (.string v)).run Tryd.prog W = .ok () W' ∧ StAt W' G b o m ∧ MA W' bm (vMap strV (mPut M s.data.toList v.data.toList)) ∧ Nm W' C f ∧ (∀ B, B ≤ bm → Below B W W') ∧ ∀ j, j ≠ bm → W'.heap[j]? = W.heap[j]? := by
  obtain ⟨W', h1, h2, _, h4, h5⟩ := ma_put Tryd.underlying27 hm s.data.toList (strV v.data.toList)
  rw [vput] at h2
  rw [strV_of, strV_of] at h1
  exact ⟨W', h1, hs.other h5 hG hne, h2, hn.on (h5 C fun e => hC e.symm), h4, h5⟩
theorem del_map {W : World} {G bm C : Nat} {b : Nat → Nat} {o : Nat → Int} {m : Nat → Txs} {f : Nat → Nat} {M : Txs} (hs : StAt W G b o m) (hm : MA W bm (vMap strV M)) (hn : Nm W C f) (hG : bm ≠ G) (hC : bm ≠ C) (hne : ∀ i, i < 4 → bm ≠ b i) (s : ByteArray) : ∃ W', (Builtin.delete_ #[27, 9] 0 #[.map (some bm), .string s]).run Tryd.prog W = .ok (.tuple #[]) W' ∧ StAt W' G b o m ∧ MA W' bm (vMap strV (mDel M s.data.toList)) ∧ Nm W' C f ∧ (∀ B, B ≤ bm → Below B W W') ∧ ∀ j, j ≠ bm → W'.heap[j]? = W.heap[j]? := by
  obtain ⟨W', h1, h2, _, h4, h5⟩ := ma_del Tryd.underlying27 hm s.data.toList 0
  rw [vdel] at h2
  rw [strV_of] at h1
  exact ⟨W', h1, hs.other h5 hG hne, h2, hn.on (h5 C fun e => hC e.symm), h4, h5⟩
theorem cnt_set {W : World} {G bm C : Nat} {b : Nat → Nat} {o : Nat → Int} {m : Nat → Txs} {f : Nat → Nat} {M : Txs} (hs : StAt W G b o m) (hm : MA W bm (vMap strV M)) (hn : Nm W C f) (hC : bm ≠ C) (k : Nat) (hk : k < 4) (v : Nat) : StAt (W.setCell ⟨C, k, none⟩ (.int .i64 (v : Nat))) G b o m ∧ MA (W.setCell ⟨C, k, none⟩ (.int .i64 (v : Nat))) bm (vMap strV M) ∧ Nm (W.setCell ⟨C, k, none⟩ (.int .i64 (v : Nat))) C (upd f k v) :=
  ⟨hs.cset hn k _, hm.block (set_oth W _ _ bm hC), hn.put k hk v⟩
theorem RS.fin {W W' : World} {G bm C : Nat} {b : Nat → Nat} {o : Nat → Int} {m m1 : Nat → Txs} {M1 : Txs} {f : Nat → Nat} (hs : StAt W G b o m) (hm : MA W bm (vMap strV M1)) (hn : Nm W C f) (hf1 : f = fun s => (m1 s).length) (hsi : SI m1 M1) (hG : bm ≠ G) (hne : ∀ i, i < 4 → bm ≠ b i) (hf : SFr G b W W') (hs' : StAt W' G b o m1) : RS W' G bm C b o m1 M1 := by
  subst hf1
  exact ⟨hs', hm.block (hf.block bm hm.lt hG hne), hsi, hf.keep hs hn (by decide), hne⟩
theorem cell_far {W W' : World} {q C : Nat} {cs : Array Value} {t : TypeId} (h : W.heap[q]? = some (.cells cs t (0, 0))) (hb : W'.heap[q]? = W.heap[q]?) : W'.heap[q]? = some (.cells cs t (0, 0)) := hb.trans h
theorem RS.qC {W : World} {G bm C : Nat} {b : Nat → Nat} {o : Nat → Int} {m : Nat → Txs} {M : Txs} (h : RS W G bm C b o m M) {q : Nat} {cs : Array Value} (hq : W.heap[q]? = some (.cells cs 30 (0, 0))) : q ≠ C ∧ q ≠ bm := by
  refine ⟨fun e => ?_, fun e => ?_⟩
  · have h2 := h.nm
    unfold Nm at h2
    rw [← e, hq] at h2
    injection h2 with h2
    injection h2 with _ h3
    exact absurd h3 (by decide)
  · obtain ⟨es, c, h1, _⟩ := h.mp
    rw [← e, hq] at h1
    cases h1
theorem cnt_fun (m : Nat → Txs) (s : Nat) (x : Txs) (v : Nat) (h : x.length = v) : upd (fun s => (m s).length) s v = fun s' => (upd m s x s').length := by
  funext s'
  unfold upd
  by_cases hss : s' = s
  · rw [if_pos hss, if_pos hss, h]
  · rw [if_neg hss, if_neg hss]
theorem cnt_same (m : Nat → Txs) (s : Nat) (x : Txs) (h : x.length = (m s).length) : (fun s => (m s).length) = fun s' => (upd m s x s').length := by
  funext s'
  unfold upd
  by_cases hss : s' = s
  · rw [if_pos hss, h, hss]
  · rw [if_neg hss]
end Go.Proofs.YtilhegdhbcmlkaaDoor
