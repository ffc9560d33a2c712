/- The contracts of New, Unlock, Held, home. -/
import Derived.Test.YtilhegdhbcmlkaaDoorSt
namespace Go.Proofs.YtilhegdhbcmlkaaDoor
open Go.RowKit

def heldK (o : Nat → Int) (owner : Int) (k : Nat) : Nat := ((List.range k).filter fun j => ofL (o j) owner).length
theorem held_succ (o : Nat → Int) (owner : Int) (k : Nat) : heldK o owner (k + 1) = heldK o owner k + if ofL (o k) owner then 1 else 0 := by
  unfold heldK
  rw [List.range_succ, List.filter_append, List.length_append]
  cases h : ofL (o k) owner <;> simp [h]
theorem held_le (o : Nat → Int) (owner : Int) (k : Nat) : heldK o owner k ≤ k := by
  unfold heldK
  have := List.length_filter_le (fun j => ofL (o j) owner) (List.range k)
  simpa using this
def unlockK (o : Nat → Int) (owner : Int) (k : Nat) : Nat → Int := fun j => if j < k ∧ ofL (o j) owner then 0 else o j
def unlockL (o : Nat → Int) (owner : Int) : Nat → Int := fun j => if ofL (o j) owner then 0 else o j

set_option maxHeartbeats 1000000 in
theorem held_any (G : Nat) (b : Nat → Nat) (o : Nat → Int) (m : Nat → Txs) (owner : Int) (w : World) (h : StAt w G b o m) : Calls Tryd.prog 24 #[.pointer (some ⟨G, 0, none⟩), .int .i64 owner] w fun e w' => e = .returned (.int .i64 (heldK o owner 4 : Nat)) ∧ w = w' := by
  have HO := Lib.hid (fun k (hk : k < 4) => of_any G (k * 2) (o k) owner w (h.own k hk))
  have HS := Lib.hid (held_succ o owner)
  have HL := Lib.hid (held_le o owner)
  clear h
  go_enter Tryd.func24, Tryd.ntmps24
  go_wp2_with fail
  go_loopw [5, 7] (fun n i wr => ∃ k : Nat, i = .int .i64 k ∧ n = .int .i64 (heldK o owner k : Nat) ∧ k ≤ 4 ∧ w = wr) (fun _ i _ => 4 - (intOf i).toNat)
  case atStart => exact ⟨0, rfl, rfl, by omega, rfl⟩
  case round =>
    obtain ⟨k, rfl, rfl, hk, rfl⟩ := hrel
    by_cases hk4 : k < 4
    · have HOk := Lib.hid (HO.out k hk4)
      have HSk := HS.out k
      have hle := HL.out k
      go_wp2_with fail
      refine HOk.out.mono ?_
      rintro e w1 ⟨rfl, rfl⟩
      cases hof : ofL (o k) owner with
      | true =>
        rw [hof, if_pos rfl] at HSk
        obtain ⟨n2, hn2⟩ : ∃ n2, heldK o owner (k + 1) = n2 := ⟨_, rfl⟩
        rw [hn2] at HSk
        have HS3 := Lib.hid hn2
        clear hn2
        have HS2 := Lib.hid HSk
        clear HSk
        generalize heldK o owner k = n1 at *
        go_wp2_with fail
        exact ⟨⟨k + 1, by simp, by rw [HS3.out, HS2.out]; simp, by omega, trivial⟩, by simp [intOf]; omega⟩
      | false =>
        rw [hof] at HSk
        have HS3 := Lib.hid HSk
        clear HSk
        go_wp2_with fail
        exact ⟨⟨k + 1, by simp, by rw [HS3.out]; simp, by omega, trivial⟩, by simp [intOf]; omega⟩
    · obtain rfl : k = 4 := by omega
      go_wp2_with fail
      go_ret
      exact ⟨rfl, rfl⟩

theorem unlock_step (o : Nat → Int) (owner : Int) (k : Nat) : unlockK o owner (k + 1) = if ofL (o k) owner then upd (unlockK o owner k) k 0 else unlockK o owner k := by
  funext j
  unfold unlockK
  cases h : ofL (o k) owner with
  | true =>
    rw [if_pos rfl]
    unfold upd
    by_cases hj : j = k
    · subst hj; simp [h]
    · rw [if_neg hj]
      by_cases hjk : j < k
      · have : j < k + 1 := by omega
        simp [hjk, this]
      · have : ¬ j < k + 1 := by omega
        simp [hjk, this]
  | false =>
    simp only [Bool.false_eq_true, if_false]
    by_cases hj : j = k
    · subst hj; simp [h]
    · by_cases hjk : j < k
      · have : j < k + 1 := by omega
        simp [hjk, this]
      · have : ¬ j < k + 1 := by omega
        simp [hjk, this]

set_option maxHeartbeats 1000000 in
theorem unlock_any (G : Nat) (b : Nat → Nat) (o : Nat → Int) (m : Nat → Txs) (owner : Int) (w : World) (h : StAt w G b o m) : Calls Tryd.prog 22 #[.pointer (some ⟨G, 0, none⟩), .int .i64 owner] w fun e w' => e = .returned (.tuple #[]) ∧ StAt w' G b (unlockL o owner) m ∧ SFr G b w w' := by
  have HST := Lib.hid h
  have HU := Lib.hid (unlock_step o owner)
  clear h
  go_enter Tryd.func22, Tryd.ntmps22
  go_wp2_with fail
  go_loopw [5] (fun i wr => ∃ k : Nat, i = .int .i64 k ∧ k ≤ 4 ∧ Hid (StAt wr G b (unlockK o owner k) m) ∧ Hid (SFr G b w wr)) (fun i _ => 4 - (intOf i).toNat)
  case atStart => exact ⟨0, rfl, by omega, HST.out.same (fun i _ => by unfold unlockK; simp) (fun _ _ => rfl), SFr.refl _ _ _⟩
  case round =>
    obtain ⟨k, rfl, hk, hS, hF⟩ := hrel
    by_cases hk4 : k < 4
    · have hun : unlockK o owner k k = o k := by unfold unlockK; simp
      have hc := hS.out.own k hk4
      have hz := hS.out.free (k * 2)
      rw [hun] at hc
      have HOk := Lib.hid (of_any G (k * 2) (o k) owner wr hc)
      have HP := Lib.hid (hS.out.put k hk4 0)
      have HF := Lib.hid (hF.out.set (k * 2) (.int .i64 0))
      have HUk := Lib.hid (HU.out k)
      clear hun
      go_wp2_with fail
      refine HOk.out.mono ?_
      rintro e w1 ⟨rfl, rfl⟩
      cases hof : ofL (o k) owner with
      | true =>
        have HUk2 : Hid (unlockK o owner (k + 1) = upd (unlockK o owner k) k 0) := by
          have := HUk.out
          rwa [hof, if_pos rfl] at this
        clear HUk
        go_wp2_with fail
        exact ⟨⟨k + 1, by simp, by omega, by show StAt _ _ _ _ _; rw [HUk2.out]; exact HP.out, HF.out⟩, by simp [intOf]; omega⟩
      | false =>
        have HUk2 : Hid (unlockK o owner (k + 1) = unlockK o owner k) := by
          have := HUk.out
          rwa [hof, if_neg (by decide)] at this
        clear HUk
        go_wp2_with fail
        exact ⟨⟨k + 1, by simp, by omega, by show StAt _ _ _ _ _; rw [HUk2.out]; exact hS.out, hF.out⟩, by simp [intOf]; omega⟩
    · obtain rfl : k = 4 := by omega
      have HS4 : Hid (StAt wr G b (unlockL o owner) m) := hS.out.same (fun i hi => by unfold unlockK unlockL; simp [hi]) (fun _ _ => rfl)
      go_wp2_with fail
      go_end0
      exact ⟨rfl, HS4.out, hF.out⟩

def homeC (o : Nat → Int) (owner : Int) (s : Bytes) : Int := if rightL s then (if ofL (o (shardL s)) owner then 0 else 7) else 8
def homeP (G : Nat) (o : Nat → Int) (owner : Int) (s : Bytes) : Option Addr := if homeC o owner s = 0 then some ⟨G, shardL s * 2, none⟩ else none

def homeV (G : Nat) (o : Nat → Int) (owner : Int) (s : Bytes) : Value := .tuple #[.pointer (homeP G o owner s), .int .i64 (homeC o owner s)]
theorem home8 {G : Nat} {o : Nat → Int} {owner : Int} {s : Bytes} (h : rightL s = false) : homeV G o owner s = .tuple #[.pointer none, .int .i64 8] := by
  unfold homeV homeP homeC; simp [h]
theorem home7 {G : Nat} {o : Nat → Int} {owner : Int} {s : Bytes} (h : rightL s = true) (h2 : ofL (o (shardL s)) owner = false) : homeV G o owner s = .tuple #[.pointer none, .int .i64 7] := by
  unfold homeV homeP homeC; simp [h, h2]
theorem home0 {G : Nat} {o : Nat → Int} {owner : Int} {s : Bytes} (h : rightL s = true) (h2 : ofL (o (shardL s)) owner = true) : homeV G o owner s = .tuple #[.pointer (some ⟨G, shardL s * 2, none⟩), .int .i64 0] := by
  unfold homeV homeP homeC; simp [h, h2]

theorem idx59 (G : Nat) (W : World) : ∀ k, k < 4 → (Instr.indexAt 59 (.pointer (some ⟨G, 0, none⟩)) (.int .i64 ((k : Nat) : Int))).run Tryd.prog W = .ok (.pointer (some ⟨G, k * 2, none⟩)) W :=
  four (by kernel_rfl) (by kernel_rfl) (by kernel_rfl) (by kernel_rfl)

set_option maxHeartbeats 1000000 in
theorem home_any (G : Nat) (b : Nat → Nat) (o : Nat → Int) (m : Nat → Txs) (owner : Int) (s : ByteArray) (w : World) (h : StAt w G b o m) : Calls Tryd.prog 27 #[.pointer (some ⟨G, 0, none⟩), .int .i64 owner, .string s] w fun e w' => e = .returned (homeV G o owner s.data.toList) ∧ ∃ n, w' = w.drewN n := by
  have HR := Lib.hid (right_any s w)
  cases hr : rightL s.data.toList with
  | false =>
    rw [hr] at HR
    rw [home8 hr]
    clear hr h
    go_enter Tryd.func27, Tryd.ntmps27
    go_wp2_with fail
    refine HR.out.mono ?_
    rintro e w1 ⟨rfl, rfl⟩
    go_wp2_with fail
    go_ret2
    exact ⟨rfl, 0, rfl⟩
  | true =>
    rw [hr] at HR
    have hs : s.size ≤ 100000 := by
      unfold rightL at hr
      rw [data_len] at hr
      simp at hr
      omega
    have hlt := shard_lt s.data.toList
    have HS := Lib.hid (fun j => (shard_any s hs (w.drewN j)).mono (fun e w'' (hh : e = .returned (.int .i64 (shardL s.data.toList : Nat)) ∧ w.drewN j = w'') => (⟨hh.1, j, hh.2.symm⟩ : e = .returned (.int .i64 (shardL s.data.toList : Nat)) ∧ ∃ q, w'' = w.drewN q)))
    have HOF := Lib.hid (fun n => of_any G (shardL s.data.toList * 2) (o (shardL s.data.toList)) owner (w.drewN n) ((h.on (drewN_below w n)).own _ hlt))
    cases hof : ofL (o (shardL s.data.toList)) owner with
    | true =>
      rw [home0 hr hof]
      rw [hof] at HOF
      clear hr h hs hof
      obtain ⟨k, hk⟩ : ∃ k, shardL s.data.toList = k := ⟨_, rfl⟩
      rw [hk] at HS HOF hlt ⊢
      clear hk
      have hIA := fun wx => idx59 G wx k hlt
      have hk4 : (k : Int) < 4 := by omega
      go_enter Tryd.func27, Tryd.ntmps27
      go_wp2_with fail
      refine HR.out.mono ?_
      rintro e w1 ⟨rfl, rfl⟩
      go_wp2_with fail
      go_quiet ((go_at_call 14; exact HS.out _))
      go_wp2_with fail
      refine (HOF.out _).mono ?_
      rintro e w1 ⟨rfl, rfl⟩
      go_wp2_with fail
      go_ret2
      exact ⟨rfl, _, rfl⟩
    | false =>
      rw [home7 hr hof]
      rw [hof] at HOF
      clear hr h hs hof
      obtain ⟨k, hk⟩ : ∃ k, shardL s.data.toList = k := ⟨_, rfl⟩
      rw [hk] at HS HOF hlt
      clear hk
      have hIA := fun wx => idx59 G wx k hlt
      have hk4 : (k : Int) < 4 := by omega
      go_enter Tryd.func27, Tryd.ntmps27
      go_wp2_with fail
      refine HR.out.mono ?_
      rintro e w1 ⟨rfl, rfl⟩
      go_wp2_with fail
      go_quiet ((go_at_call 14; exact HS.out _))
      go_wp2_with fail
      refine (HOF.out _).mono ?_
      rintro e w1 ⟨rfl, rfl⟩
      go_wp2_with fail
      go_ret2
      exact ⟨rfl, _, rfl⟩

def nmV (G k j : Nat) : Value := if j < k then .map (some (G + 1 + j)) else .map none
def cellsN (G k : Nat) : Array Value := #[.int .i64 0, nmV G k 0, .int .i64 0, nmV G k 1, .int .i64 0, nmV G k 2, .int .i64 0, nmV G k 3]
theorem cellsN_put (G : Nat) : ∀ k, k < 4 → (cellsN G k).setIfInBounds (k * 2 + 1) (.map (some (G + 1 + k))) = cellsN G (k + 1) := four rfl rfl rfl rfl
structure NW (W : World) (G k : Nat) : Prop where
  blk : W.heap[G]? = some (.cells (cellsN G k) 61 (0, 0))
  size : W.heap.size = G + 1 + k
  maps : ∀ j, j < k → MA W (G + 1 + j) []
theorem NW.next {W : World} {G k : Nat} (h : NW W G k) (hk : k < 4) : NW ((W.alloc (.map #[] 0)).setCell ⟨G, k * 2 + 1, none⟩ (.map (some W.heap.size))) G (k + 1) := by
  have hG : G < W.heap.size := blk_lt h.blk
  have hb : (W.alloc (.map #[] 0)).heap[G]? = some (.cells (cellsN G k) 61 (0, 0)) := (heap_alloc_old W _ hG).trans h.blk
  refine ⟨?_, ?_, fun j hj => ?_⟩
  · rw [set_same (k * 2 + 1) hb, h.size, cellsN_put G k hk]
  · rw [set_size]; simp [h.size]; omega
  · have hne : G + 1 + j ≠ G := by omega
    refine MA.block (W := W.alloc (.map #[] 0)) ?_ (set_oth _ _ _ _ hne)
    by_cases hjk : j < k
    · exact (h.maps j hjk).block (heap_alloc_old W _ (by rw [h.size]; omega))
    · obtain rfl : j = k := by omega
      have := ma_new W
      rw [h.size] at this
      exact this
theorem NW.cell {W : World} {G k : Nat} (h : NW W G k) (hk : k < 4) : (W.alloc (.map #[] 0)).cell? ⟨G, k * 2 + 1, none⟩ = some (.map none) ∧ (W.alloc (.map #[] 0)).frozen? ⟨G, k * 2 + 1, none⟩ = false := by
  have hG : G < W.heap.size := blk_lt h.blk
  have hb : (W.alloc (.map #[] 0)).heap[G]? = some (.cells (cellsN G k) 61 (0, 0)) := (heap_alloc_old W _ hG).trans h.blk
  refine ⟨?_, blk_free hb _⟩
  rw [blk_cell hb]
  exact four (P := fun k => (cellsN G k)[k * 2 + 1]? = some (.map none)) rfl rfl rfl rfl k hk
theorem NW.done {W : World} {G : Nat} (h : NW W G 4) : StAt W G (fun j => G + 1 + j) (fun _ => 0) fun _ => [] :=
  ⟨h.blk, fun i hi => h.maps i hi, fun i j _ _ e => by simp at e; exact e⟩

set_option maxHeartbeats 1000000 in
theorem new_any (w : World) : Calls Tryd.prog 12 #[] w fun e w' => ∃ (b : Nat → Nat), e = .returned (.pointer (some ⟨w.heap.size, 0, none⟩)) ∧ StAt w' w.heap.size b (fun _ => 0) (fun _ => []) ∧ (∀ i, i < 4 → w.heap.size ≤ b i) ∧ Below w.heap.size w w' := by
  have hmm := @run_makeMap Tryd.prog
  have HN0 : Hid (NW (w.alloc (.cells #[.int .i64 0, .map none, .int .i64 0, .map none, .int .i64 0, .map none, .int .i64 0, .map none] 61)) w.heap.size 0) := by
    exact ⟨heap_alloc_new w _, by simp, fun j hj => by omega⟩
  have HB0 := Lib.hid ((Below.refl w.heap.size w).alloc (Nat.le_refl _) (.cells #[.int .i64 0, .map none, .int .i64 0, .map none, .int .i64 0, .map none, .int .i64 0, .map none] 61))
  go_enter Tryd.func12, Tryd.ntmps12
  go_wp2_with fail
  obtain ⟨G, hG⟩ : ∃ G, w.heap.size = G := ⟨_, rfl⟩
  rw [hG] at HN0 HB0 ⊢
  generalize w.alloc (.cells #[.int .i64 0, .map none, .int .i64 0, .map none, .int .i64 0, .map none, .int .i64 0, .map none] 61) = w0 at *
  have HGW := Lib.hid hG
  clear hG
  go_loopw [3] (fun i wr => ∃ k : Nat, i = .int .i64 k ∧ k ≤ 4 ∧ Hid (NW wr G k) ∧ Hid (Below G w wr)) (fun i _ => 4 - (intOf i).toNat)
  case atStart => exact ⟨0, rfl, by omega, HN0.out, HB0.out⟩
  case round =>
    obtain ⟨k, rfl, hk, hN, hB⟩ := hrel
    by_cases hk4 : k < 4
    · obtain ⟨c1, c2⟩ := hN.out.cell hk4
      have HNX := Lib.hid (hN.out.next hk4)
      have HB2 := Lib.hid ((hB.out.alloc (by rw [hN.out.size]; omega) (.map #[] 0)).setCell (p := ⟨G, k * 2 + 1, none⟩) (Nat.le_refl _) (.map (some wr.heap.size)))
      go_wp2_with fail
      exact ⟨⟨k + 1, by simp, by omega, HNX.out, HB2.out⟩, by simp [intOf]; omega⟩
    · obtain rfl : k = 4 := by omega
      go_wp2_with fail
      go_ret
      have hD := hN.out.done
      exact ⟨_, by rw [HGW.out]; rfl, by rw [HGW.out]; exact hD, fun i _ => by rw [HGW.out]; omega, by rw [HGW.out]; exact hB.out⟩
end Go.Proofs.YtilhegdhbcmlkaaDoor
