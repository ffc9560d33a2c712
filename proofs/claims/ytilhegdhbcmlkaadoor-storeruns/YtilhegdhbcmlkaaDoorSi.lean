/- What a store holds, shard by shard, and what one map holds: the same. -/
import Derived.Test.YtilhegdhbcmlkaaDoorSt8
namespace Go.Proofs.YtilhegdhbcmlkaaDoor
open Go.RowKit

structure SI (m : Nat → Txs) (M : Txs) : Prop where
  look : ∀ k, mLook M k = mLook (m (shardL k)) k
  home : ∀ i, i < 4 → ∀ k ∈ mKeys (m i), shardL k = i
  nd : ∀ i, i < 4 → (mKeys (m i)).Nodup
  ndM : (mKeys M).Nodup
  len : ∀ i, i < 4 → (m i).length ≤ 8
  right : ∀ i, i < 4 → ∀ q ∈ m i, rightL q.1 = true ∧ q.2.length ≤ 300
theorem SI.new : SI (fun _ => []) [] := ⟨fun _ => rfl, fun _ _ k h => (by cases h), fun _ _ => List.nodup_nil, List.nodup_nil, fun _ _ => Nat.zero_le _, fun _ _ q h => (by cases h)⟩
theorem mem_put {m : Txs} {k v : Bytes} {q : Bytes × Bytes} (h : q ∈ mPut m k v) : q = (k, v) ∨ q ∈ m := by
  unfold mPut at h
  split at h
  · obtain ⟨p, hp, e⟩ := List.mem_map.1 h
    by_cases hk : p.1 = k
    · rw [if_pos hk] at e; left; rw [← e, hk]
    · rw [if_neg hk] at e; right; rw [← e]; exact hp
  · rcases List.mem_append.1 h with h | h
    · exact .inr h
    · left; simpa using h
theorem mem_keys {m : Txs} {q : Bytes × Bytes} (h : q ∈ m) : q.1 ∈ mKeys m := List.mem_map.2 ⟨q, h, rfl⟩
theorem SI.put {m : Nat → Txs} {M : Txs} (h : SI m M) {k v : Bytes} (hr : rightL k = true) (hv : v.length ≤ 300) (hl : mHas (m (shardL k)) k = true ∨ (m (shardL k)).length < 8) : SI (upd m (shardL k) (mPut (m (shardL k)) k v)) (mPut M k v) := by
  refine ⟨fun x => ?_, fun i hi x hx => ?_, fun i hi => ?_, nodup_put h.ndM _ _, fun i hi => ?_, fun i hi q hq => ?_⟩
  · rw [look_put, h.look x]
    unfold upd
    by_cases hxk : x = k
    · subst hxk; rw [if_pos rfl, if_pos rfl, look_put, if_pos rfl]
    · rw [if_neg hxk]
      by_cases hs : shardL x = shardL k
      · rw [if_pos hs, look_put, if_neg hxk, hs]
      · rw [if_neg hs]
  · unfold upd at hx
    by_cases hik : i = shardL k
    · rw [if_pos hik, keys_put] at hx
      split at hx
      · exact h.home i hi x (by rw [hik]; exact hx)
      · rcases List.mem_append.1 hx with hx | hx
        · exact h.home i hi x (by rw [hik]; exact hx)
        · simp at hx; rw [hx, hik]
    · rw [if_neg hik] at hx
      exact h.home i hi x hx
  · unfold upd
    split
    · exact nodup_put (h.nd _ (shard_lt k)) _ _
    · exact h.nd i hi
  · unfold upd
    split
    · rw [len_put]
      have := h.len _ (shard_lt k)
      rcases hl with hl | hl
      · rw [if_pos hl]; exact this
      · split <;> omega
    · exact h.len i hi
  · unfold upd at hq
    split at hq
    · rcases mem_put hq with e | hq
      · rw [e]; exact ⟨hr, hv⟩
      · exact h.right _ (shard_lt k) q hq
    · exact h.right i hi q hq
theorem SI.del {m : Nat → Txs} {M : Txs} (h : SI m M) (k : Bytes) : SI (upd m (shardL k) (mDel (m (shardL k)) k)) (mDel M k) := by
  refine ⟨fun x => ?_, fun i hi x hx => ?_, fun i hi => ?_, nodup_del h.ndM _, fun i hi => ?_, fun i hi q hq => ?_⟩
  · rw [look_del, h.look x]
    unfold upd
    by_cases hxk : x = k
    · subst hxk; rw [if_pos rfl, if_pos rfl, look_del, if_pos rfl]
    · rw [if_neg hxk]
      by_cases hs : shardL x = shardL k
      · rw [if_pos hs, look_del, if_neg hxk, hs]
      · rw [if_neg hs]
  · unfold upd at hx
    by_cases hik : i = shardL k
    · rw [if_pos hik, keys_del] at hx
      exact h.home i hi x (by rw [hik]; exact (List.mem_filter.1 hx).1)
    · rw [if_neg hik] at hx
      exact h.home i hi x hx
  · unfold upd
    split
    · exact nodup_del (h.nd _ (shard_lt k)) _
    · exact h.nd i hi
  · unfold upd
    split
    · have := h.len _ (shard_lt k)
      have h2 := List.length_filter_le (fun p : Bytes × Bytes => !decide (p.1 = k)) (m (shardL k))
      unfold mDel
      omega
    · exact h.len i hi
  · unfold upd at hq
    split at hq
    · exact h.right _ (shard_lt k) q (List.mem_filter.1 hq).1
    · exact h.right i hi q hq
theorem SI.vlen {m : Nat → Txs} {M : Txs} (h : SI m M) (k v : Bytes) (hv : mLook (m (shardL k)) k = some v) : v.length ≤ 300 := (h.right _ (shard_lt k) _ (mem_of_look hv)).2
theorem SI.has {m : Nat → Txs} {M : Txs} (h : SI m M) (k : Bytes) : mHas M k = mHas (m (shardL k)) k := by unfold mHas; rw [h.look]
theorem lk_mem {m : Nat → Txs} {p x : Bytes} : ∀ {k}, x ∈ lkK m p k ↔ ∃ i, i < k ∧ x ∈ mKeys (m i) ∧ preL p x = true := by
  intro k
  unfold lkK
  rw [List.mem_flatMap]
  constructor
  · rintro ⟨i, hi, hx⟩
    rw [List.mem_filter] at hx
    exact ⟨i, List.mem_range.1 hi, hx.1, hx.2⟩
  · rintro ⟨i, hi, h1, h2⟩
    exact ⟨i, List.mem_range.2 hi, List.mem_filter.2 ⟨h1, h2⟩⟩
theorem SI.lk_nodup {m : Nat → Txs} {M : Txs} (h : SI m M) (p : Bytes) : ∀ k, k ≤ 4 → (lkK m p k).Nodup
  | 0, _ => by simp [lkK]
  | k + 1, hk => by
    rw [lk_succ, List.nodup_append]
    refine ⟨h.lk_nodup p k (by omega), (h.nd k (by omega)).filter _, fun a ha b hb e => ?_⟩
    subst e
    obtain ⟨i, hi, h1, _⟩ := lk_mem.1 ha
    have h2 := h.home i (by omega) a h1
    have h3 := h.home k (by omega) a (List.mem_filter.1 hb).1
    omega
theorem SI.perm {m : Nat → Txs} {M : Txs} (h : SI m M) (p : Bytes) : (lkK m p 4).Perm ((mKeys M).filter (preL p)) := by
  refine (List.perm_ext_iff_of_nodup (h.lk_nodup p 4 (by decide)) (h.ndM.filter _)).2 fun x => ?_
  rw [lk_mem, List.mem_filter]
  constructor
  · rintro ⟨i, hi, h1, h2⟩
    refine ⟨?_, h2⟩
    rw [← has_iff, h.has, h.home i hi x h1]
    exact has_iff.2 h1
  · rintro ⟨h1, h2⟩
    refine ⟨shardL x, shard_lt x, ?_, h2⟩
    rw [← has_iff, ← h.has]
    exact has_iff.2 h1
/-- What List tells. -/
structure LT (M : Txs) (p : Bytes) (L : List Bytes) : Prop where
  len : L.length = ((mKeys M).filter (preL p)).length
  mem : ∀ x ∈ L, mHas M x = true ∧ preL p x = true
  rise : ∀ i (h : i + 1 < L.length), ltB L[i] L[i + 1] = true
theorem SI.listed {m : Nat → Txs} {M : Txs} (h : SI m M) {p : Bytes} {L ks : List Bytes} (h1 : ks.Perm (lkK m p 4)) (h2 : L = srt ks) : LT M p L := by
  subst h2
  have hp := h1.trans (h.perm p)
  have hs : (srt ks).Perm ks := List.mergeSort_perm _ _
  refine ⟨by rw [srt_len, hp.length_eq], fun x hx => ?_, fun i hi => ?_⟩
  · have := hp.mem_iff.1 (hs.mem_iff.1 hx)
    rw [List.mem_filter] at this
    exact ⟨has_iff.2 this.1, this.2⟩
  · have hnd : (srt ks).Nodup := (hs.trans hp).nodup_iff.2 (h.ndM.filter _)
    have hpw := List.pairwise_iff_getElem.1 (srt_pair ks) i (i + 1) (by omega) hi (by omega)
    have hne := List.pairwise_iff_getElem.1 hnd i (i + 1) (by omega) hi (by omega)
    cases hlt : ltB (srt ks)[i] (srt ks)[i + 1] with
    | true => rfl
    | false => exact absurd (lt_total hlt hpw) hne
/-- A count of those that begin so. -/
structure CI (M : Txs) (p : Bytes) (left : Txs) (n : Nat) : Prop where
  sub : ∀ {q}, q ∈ left → q ∈ M
  ex : ∃ done, (done ++ mKeys left).Perm (mKeys M) ∧ n = (done.filter (preL p)).length
  nd : (mKeys left).Nodup
theorem CI.start {M : Txs} {p : Bytes} (hn : (mKeys M).Nodup) : CI M p M 0 := ⟨id, ⟨[], by simp, by simp⟩, hn⟩
theorem CI.take {M : Txs} {p : Bytes} {left : Txs} {n : Nat} (h : CI M p left n) {q : Bytes × Bytes} (hq : q ∈ left) : CI M p (mDel left q.1) (n + if preL p q.1 then 1 else 0) := by
  obtain ⟨hs, ⟨done, h1, h2⟩, hn⟩ := h
  refine ⟨fun hq => hs (List.mem_filter.1 hq).1, ⟨done ++ [q.1], ?_, ?_⟩, nodup_del hn _⟩
  · have h3 : (mKeys left).Perm (q.1 :: mKeys (mDel left q.1)) := (perm_out hn hq).map _
    refine List.Perm.trans ?_ h1
    rw [List.append_assoc]
    exact List.Perm.append_left _ h3.symm
  · rw [List.filter_append, List.length_append, h2]
    cases hpq : preL p q.1 <;> simp [hpq]
theorem CI.done {M : Txs} {p : Bytes} {n : Nat} (h : CI M p [] n) : n = ((mKeys M).filter (preL p)).length := by
  obtain ⟨_, ⟨done, h1, h2⟩, _⟩ := h
  have : (mKeys ([] : Txs)) = [] := rfl
  rw [this, List.append_nil] at h1
  rw [h2, (h1.filter _).length_eq]
theorem CI.le {M : Txs} {p : Bytes} {left : Txs} {n : Nat} (h : CI M p left n) : n ≤ M.length := by
  obtain ⟨_, ⟨done, h1, h2⟩, _⟩ := h
  have e := h1.length_eq
  have h3 := List.length_filter_le (preL p) done
  rw [List.length_append] at e
  have h4 : (mKeys M).length = M.length := by unfold mKeys; simp
  omega
end Go.Proofs.YtilhegdhbcmlkaaDoor
