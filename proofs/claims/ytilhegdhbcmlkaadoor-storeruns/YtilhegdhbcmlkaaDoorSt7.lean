/- The contract of List. -/
import Derived.Test.YtilhegdhbcmlkaaDoorSt6
import Derived.Test.YtilhegdhbcmlkaaDoorSrt
import Derived.Maps.Range
import Derived.Carry
namespace Go.Proofs.YtilhegdhbcmlkaaDoor
open Go.RowKit

theorem Tryd.info9 : (Tryd.prog.info? 9).map (fun i => (i.zero, i.size, i.bytes)) = some (some (.string ⟨#[]⟩), 1, 16) := by kernel_rfl

/-- The keys of the first k shards that begin so. -/
def lkK (m : Nat → Txs) (p : Bytes) (k : Nat) : List Bytes := (List.range k).flatMap fun i => (mKeys (m i)).filter (preL p)
theorem lk_succ (m : Nat → Txs) (p : Bytes) (k : Nat) : lkK m p (k + 1) = lkK m p k ++ (mKeys (m k)).filter (preL p) := by
  unfold lkK
  rw [List.range_succ, List.flatMap_append]
  simp
theorem lk_len (m : Nat → Txs) (p : Bytes) (N : Nat) (hN : ∀ i, i < 4 → (m i).length ≤ N) : ∀ k, k ≤ 4 → (lkK m p k).length ≤ N * k
  | 0, _ => by simp [lkK]
  | k + 1, hk => by
    rw [lk_succ, List.length_append]
    have h1 := lk_len m p N hN k (by omega)
    have h2 := List.length_filter_le (preL p) (mKeys (m k))
    have h3 := hN k (by omega)
    have h4 : (mKeys (m k)).length = (m k).length := by unfold mKeys; simp
    rw [Nat.mul_succ]
    omega

theorem IT.left_eq {W : World} {b r : Nat} {m left : Prs} (h : IT W b r m left) : W.rangeLeft b r = left.length := by
  obtain ⟨es, clock, since, seen, c0, hb, _, _, hr, _, _, _, hl⟩ := h
  simp only [World.rangeLeft, hb, hr]
  have := congrArg List.length hl
  simpa using this
/-- An append to a row of cells leaves a range as it is. -/
theorem IT.grown {W W' : World} {b r : Nat} {m left : Prs} (h : IT W b r m left) {base n : Nat} {e : TypeId} {k : Nat} {v : Value} {xs : List Value} (ho : W.ownsRow base e k v n xs) (hg : W.grownBy W' v.ownBlock) : IT W' b r m left := by
  have hb : ∀ j, W.heap.size > j → (∀ cs t fr, W.heap[j]? ≠ some (.cells cs t fr)) → W'.heap[j]? = W.heap[j]? := by
    intro j hj hne
    refine hg.block j hj fun e => ?_
    rcases ho.2 with ⟨hv, _⟩ | ⟨g, cap, cur, hv, _, hh, _⟩
    · rw [hv] at e; simp [Value.ownBlock] at e
    · rw [hv] at e
      simp [Value.ownBlock] at e
      subst e
      exact hne _ _ _ hh
  have h0 := h
  obtain ⟨es, clock, since, seen, c0, h1, _, _, h2, _⟩ := h
  exact h0.block (hb b (blk_lt h1) (fun cs t fr he => by rw [h1] at he; cases he)) (hb r (blk_lt h2) (fun cs t fr he => by rw [h2] at he; cases he))

set_option maxHeartbeats 1000000 in
theorem list_wait (G : Nat) (b : Nat → Nat) (o : Nat → Int) (m : Nat → Txs) (owner : Int) (p : ByteArray) (w : World) (h : StAt w G b o m) (hh : heldK o owner 4 < 4) : Calls Tryd.prog 20 #[.pointer (some ⟨G, 0, none⟩), .int .i64 owner, .string p] w fun e w' => e = .returned (.tuple #[.slice none 0 0, .int .i64 7]) ∧ w = w' := by
  have HH := Lib.hid (held_any G b o m owner w h)
  obtain ⟨n, hn⟩ : ∃ n, heldK o owner 4 = n := ⟨_, rfl⟩
  rw [hn] at HH hh
  clear hn h
  go_enter Tryd.func20, Tryd.ntmps20
  go_wp2_with fail
  refine HH.out.mono ?_
  rintro e w1 ⟨rfl, rfl⟩
  go_wp2_with fail
  go_ret2
  exact ⟨rfl, rfl⟩

/-- What stands between two rounds over one shard's keys. -/
structure LI (m : Nat → Txs) (p : Bytes) (k : Nat) (ks : List Bytes) (left : Txs) : Prop where
  sub : ∀ {q}, q ∈ left → q ∈ m k
  ex : ∃ done, (done ++ mKeys left).Perm (mKeys (m k)) ∧ ks.Perm (lkK m p k ++ done.filter (preL p))
  nd : (mKeys left).Nodup
theorem LI.start {m : Nat → Txs} {p : Bytes} {k : Nat} {ks : List Bytes} (h : ks.Perm (lkK m p k)) (hn : (mKeys (m k)).Nodup) : LI m p k ks (m k) :=
  ⟨id, ⟨[], by simp, by simpa using h⟩, hn⟩
theorem LI.take {m : Nat → Txs} {p : Bytes} {k : Nat} {ks : List Bytes} {left : Txs} (h : LI m p k ks left) {q : Bytes × Bytes} (hq : q ∈ left) (hp : preL p q.1 = true) : LI m p k (ks ++ [q.1]) (mDel left q.1) := by
  obtain ⟨hsub, ⟨done, h1, h2⟩, hn⟩ := h
  refine ⟨fun hq => hsub ((List.mem_filter.1 hq).1), ⟨done ++ [q.1], ?_, ?_⟩, nodup_del hn _⟩
  · have h3 : (mKeys left).Perm (q.1 :: mKeys (mDel left q.1)) := (perm_out hn hq).map _
    refine List.Perm.trans ?_ h1
    rw [List.append_assoc]
    exact List.Perm.append_left _ h3.symm
  · rw [List.filter_append, ← List.append_assoc]
    refine h2.append ?_
    simp [hp]
theorem LI.skip {m : Nat → Txs} {p : Bytes} {k : Nat} {ks : List Bytes} {left : Txs} (h : LI m p k ks left) {q : Bytes × Bytes} (hq : q ∈ left) (hp : preL p q.1 = false) : LI m p k ks (mDel left q.1) := by
  obtain ⟨hsub, ⟨done, h1, h2⟩, hn⟩ := h
  refine ⟨fun hq => hsub ((List.mem_filter.1 hq).1), ⟨done ++ [q.1], ?_, ?_⟩, nodup_del hn _⟩
  · have h3 : (mKeys left).Perm (q.1 :: mKeys (mDel left q.1)) := (perm_out hn hq).map _
    refine List.Perm.trans ?_ h1
    rw [List.append_assoc]
    exact List.Perm.append_left _ h3.symm
  · rw [List.filter_append]
    simpa [hp] using h2
theorem LI.done {m : Nat → Txs} {p : Bytes} {k : Nat} {ks : List Bytes} (h : LI m p k ks []) : ks.Perm (lkK m p (k + 1)) := by
  obtain ⟨_, ⟨done, h1, h2⟩, _⟩ := h
  rw [lk_succ]
  refine h2.trans (List.Perm.append_left _ ?_)
  have : (mKeys ([] : Txs)) = [] := rfl
  rw [this, List.append_nil] at h1
  exact h1.filter _
theorem LI.len {m : Nat → Txs} {p : Bytes} {k : Nat} {ks : List Bytes} {left : Txs} (h : LI m p k ks left) {N : Nat} (hN : ∀ i, i < 4 → (m i).length ≤ N) (hk : k < 4) : ks.length ≤ N * 4 := by
  obtain ⟨_, ⟨done, h1, h2⟩, _⟩ := h
  have e1 := h2.length_eq
  have e2 := h1.length_eq
  rw [List.length_append] at e1 e2
  have h3 := lk_len m p N hN k (by omega)
  have h4 := List.length_filter_le (preL p) done
  have h5 := hN k hk
  have h6 : (mKeys (m k)).length = (m k).length := by unfold mKeys; simp
  have : N * k + N ≤ N * 4 := by
    rw [← Nat.mul_succ]
    exact Nat.mul_le_mul_left N (by omega)
  omega
theorem IT.own {W W' : World} {b r : Nat} {m left : Prs} (h : IT W b r m left) (hot : ∀ j, j ≠ r → W'.heap[j]? = W.heap[j]?) {base n : Nat} {e : TypeId} {k : Nat} {v : Value} {xs : List Value} (ho : W.ownsRow base e k v n xs) : W'.ownsRow base e k v n xs := by
  refine ⟨ho.1, ?_⟩
  rcases ho.2 with hn | ⟨g, cap, cur, hv, hg, hh, r'⟩
  · exact .inl hn
  · refine .inr ⟨g, cap, cur, hv, hg, (hot g (fun e => ?_)).trans hh, r'⟩
    obtain ⟨es, clock, since, seen, c0, _, _, _, h2, _⟩ := h
    rw [e, h2] at hh
    cases hh
theorem vmem {left : Txs} {q : Bytes × Value} (h : q ∈ vMap eV left) : ∃ x, (q.1, x) ∈ left ∧ q.2 = eV x := by
  obtain ⟨y, hy, e⟩ := List.mem_map.1 h
  subst e
  exact ⟨y.2, hy, rfl⟩
end Go.Proofs.YtilhegdhbcmlkaaDoor
