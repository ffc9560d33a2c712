/- Methods sorted, each once: plainly. slices.Sort and slices.Compact over methods in a row of the call's own. -/
import Derived.Test.YtgfjkpfjajjidaaDoorTrPlain
import Derived.Lib.SlicesCompact
import Derived.Test.YtgfjkpfjajjidaaDoorShelfS
import Derived.Test.YtgfjkpfjajjidaaDoorTrPars
namespace Go.Proofs.YtgfjkpfjajjidaaDoor
open Pl

theorem ltB_iff : ∀ a b : List UInt8, ltB a b = true ↔ a < b
  | a, [] => by
    have : ¬ a < [] := List.not_lt_nil a
    cases a <;> simp [ltB]
  | [], b :: bs => by simp [ltB]
  | a :: aq, b :: bs => by
    rw [List.cons_lt_cons_iff, ltB, Bool.or_eq_true, Bool.and_eq_true, decide_eq_true_eq, decide_eq_true_eq, ltB_iff aq bs, UInt8.lt_iff_toNat_lt, UInt8.toNat_inj]
theorem leB_iff (x y : List UInt8) : decide (x ≤ y) = !ltB y x := by
  rw [Bool.eq_iff_iff, decide_eq_true_iff, Bool.not_eq_true', ← Bool.not_eq_true, ltB_iff]
  exact Iff.rfl
def srt (l : List (List UInt8)) : List (List UInt8) := l.mergeSort fun x y => decide (x ≤ y)
theorem srt_mem (l : List (List UInt8)) (x : List UInt8) : x ∈ srt l ↔ x ∈ l := List.mem_mergeSort
theorem srt_len (l : List (List UInt8)) : (srt l).length = l.length := List.length_mergeSort l
theorem srt_pair (l : List (List UInt8)) : (srt l).Pairwise fun a b => ltB b a = false := by
  have h := List.pairwise_mergeSort (le := fun x y : List UInt8 => decide (x ≤ y)) (by
    intro a b c h1 h2
    rw [leB_iff, Bool.not_eq_true'] at h1 h2 ⊢
    rw [Bool.eq_false_iff]
    intro h3
    by_cases e : ltB a b = true
    · have := lt_trans' h3 e
      rw [h2] at this; cases this
    · have e2 : a = b := lt_total (by simpa using e) h1
      rw [e2] at h3
      rw [h2] at h3; cases h3) (by
    intro a b
    rw [leB_iff, leB_iff, Bool.or_eq_true, Bool.not_eq_true', Bool.not_eq_true']
    cases h : ltB b a with
    | false => exact .inl rfl
    | true =>
      right
      rw [Bool.eq_false_iff]
      intro h2
      have := lt_trans' h h2
      rw [lt_irr] at this; cases this) l
  refine h.imp fun {a b} hab => ?_
  rw [leB_iff, Bool.not_eq_true'] at hab
  exact hab

theorem cmp_up (d : Array (List UInt8)) (hs : ∀ i j, i ≤ j → j < d.size → ltB d[j]! d[i]! = false) : ∀ m, m ≤ d.size → Rises (Go.Lib.compactUpTo d m) ∧ ∀ x, x ∈ Go.Lib.compactUpTo d m ↔ ∃ j, j < m ∧ d[j]! = x
  | 0, _ => ⟨by simp [Go.Lib.compactUpTo, Rises], fun x => by simp [Go.Lib.compactUpTo]⟩
  | m + 1, hm => by
    obtain ⟨h1, h2⟩ := cmp_up d hs m (by omega)
    rw [Go.Lib.compactUpTo_succ]
    by_cases hk : m = 0 ∨ d[m]! ≠ d[m - 1]!
    · have hkk : Go.Lib.keeps d m = true := by simp only [Go.Lib.keeps, decide_eq_true_eq]; exact hk
      rw [hkk, if_pos rfl]
      refine ⟨?_, fun x => ?_⟩
      · unfold Rises
        rw [List.pairwise_append]
        refine ⟨h1, by simp, fun a ha b hb => ?_⟩
        simp at hb
        subst hb
        obtain ⟨j, hj, rfl⟩ := (h2 a).1 ha
        rcases hk with h0 | hne
        · omega
        · have h3 := hs (m - 1) m (by omega) (by omega)
          have h4 : ltB d[m - 1]! d[m]! = true := by
            cases h5 : ltB d[m - 1]! d[m]! with
            | true => rfl
            | false => exact absurd (lt_total h3 h5) hne
          have h6 := hs j (m - 1) (by omega) (by omega)
          cases h7 : ltB d[j]! d[m - 1]! with
          | true => exact lt_trans' h7 h4
          | false => rw [lt_total h7 h6]; exact h4
      · rw [List.mem_append, h2]
        simp only [List.mem_singleton]
        constructor
        · rintro (⟨j, hj, e⟩ | e)
          · exact ⟨j, by omega, e⟩
          · exact ⟨m, by omega, e.symm⟩
        · rintro ⟨j, hj, e⟩
          by_cases hjm : j = m
          · subst hjm; exact .inr e.symm
          · exact .inl ⟨j, by omega, e⟩
    · have hkk : Go.Lib.keeps d m = false := by simp only [Go.Lib.keeps, decide_eq_false_iff_not]; exact hk
      rw [hkk, if_neg (by simp), List.append_nil]
      refine ⟨h1, fun x => ?_⟩
      rw [h2]
      constructor
      · rintro ⟨j, hj, e⟩; exact ⟨j, by omega, e⟩
      · rintro ⟨j, hj, e⟩
        by_cases hjm : j = m
        · subst hjm
          have h0 : j ≠ 0 ∧ d[j]! = d[j - 1]! := by
            refine ⟨fun h => hk (.inl h), Classical.byContradiction fun h => hk (.inr h)⟩
          exact ⟨j - 1, by omega, by rw [← h0.2]; exact e⟩
        · exact ⟨j, by omega, e⟩
theorem cmp_srt (l : List (List UInt8)) : Rises (Go.Lib.compact (srt l)) ∧ ∀ x, x ∈ Go.Lib.compact (srt l) ↔ x ∈ l := by
  have hp := List.pairwise_iff_getElem.1 (srt_pair l)
  have h := cmp_up (srt l).toArray (by
    intro i j hij hj
    have hj' : j < (srt l).length := by simpa using hj
    have hi' : i < (srt l).length := by omega
    rw [getElem!_pos _ j (by simpa using hj'), getElem!_pos _ i (by simpa using hi')]
    simp only [List.getElem_toArray]
    by_cases e : i = j
    · subst e; exact lt_irr _
    · exact hp i j hi' hj' (by omega)) (srt l).length (by simp)
  refine ⟨h.1, fun x => ?_⟩
  have h2 := h.2 x
  rw [show Go.Lib.compact (srt l) = Go.Lib.compactUpTo (srt l).toArray (srt l).length from rfl, h2, ← srt_mem l x]
  constructor
  · rintro ⟨j, hj, rfl⟩
    rw [getElem!_pos _ j (by simpa using hj)]
    simp
  · intro hx
    obtain ⟨j, hj, rfl⟩ := List.getElem_of_mem hx
    exact ⟨j, hj, by rw [getElem!_pos _ j (by simpa using hj)]; simp⟩
theorem cmp_len (l : List (List UInt8)) : (Go.Lib.compact l).length ≤ l.length := by
  unfold Go.Lib.compact Go.Lib.compactUpTo
  rw [List.length_map]
  have := List.length_filter_le (Go.Lib.keeps l.toArray) (List.range l.length)
  rwa [List.length_range] at this

/-- What Match tells where none of the method was found. -/
theorem sort_allow {l : List Rt} (hg : Good cutL l) (x : List Seg) : Go.Lib.compact (srt ((findL (itemsL l) x).map En.m)) = allowL cutL x l := by
  have h := cmp_srt ((findL (itemsL l) x).map En.m)
  exact rises_one h.1 (allow_is cutL x l).1 fun m => (h.2 m).trans (find_allow hg x m)
end Go.Proofs.YtgfjkpfjajjidaaDoor

namespace Go.Proofs.YtgfjkpfjajjidaaDoor
open Go.RowKit Pl Go.Shelf Go.Sort

theorem put_below (w : World) (n g : Nat) (d : Array (List UInt8)) (os : Array Obj) (B : Nat) (hB : B ≤ g) (hg : B ≤ w.heap.size) : Below B w (grow (putRow encStr (Sort.ahead w n) g 0 d) os) := by
  refine ⟨rfl, rfl, rfl, ?_, fun k hk => ?_⟩
  · simp [grow, putRow, mapBlock, Sort.ahead]
  · have h1 : (grow (putRow encStr (Sort.ahead w n) g 0 d) os).heap[k]? = (putRow encStr (Sort.ahead w n) g 0 d).heap[k]? := heap_grow_old _ os (by simp [putRow, mapBlock, Sort.ahead]; omega)
    rw [h1]
    simp only [putRow, mapBlock, Sort.ahead, Array.getElem?_modify]
    rw [if_neg (by omega)]
theorem put_below0 (w : World) (n g : Nat) (d : Array (List UInt8)) (B : Nat) (hB : B ≤ g) (hg : B ≤ w.heap.size) : Below B w (putRow encStr (Sort.ahead w n) g 0 d) := by
  have h := put_below w n g d #[] B hB hg
  have e : grow (putRow encStr (Sort.ahead w n) g 0 d) #[] = putRow encStr (Sort.ahead w n) g 0 d := by unfold grow; rw [Array.append_empty]
  rwa [e] at h

/-- A row of methods in block g. -/
def Rw (w : World) (g : Nat) (ms : List (List UInt8)) : Prop := g < w.heap.size ∧ Holds encStr w g 0 ms.toArray
theorem Rw.own {w : World} {base g n cap : Nat} {ms : List (List UInt8)} (h : w.ownsRow base 9 1 (.slice (some ⟨g, 0, none⟩) n cap) n (ms.map strV)) (hn : n = ms.length) (h0 : 0 < n) : Rw w g ms := by
  obtain ⟨_, _, e, _, hlt, _⟩ := own_shape h h0
  cases e
  refine ⟨hlt, fun j hj => ?_⟩
  have hj' : j < ms.length := by simpa using hj
  refine ⟨?_, ?_⟩
  · rw [Nat.zero_add, h.cellAt j (by omega), getElem!_pos _ j hj]
    simp [hj', strV_mk, mkB]
  · rw [Nat.zero_add]; exact h.frozenAt j

set_option maxHeartbeats 1000000 in
theorem sort_any (g cap : Nat) (ms : List (List UInt8)) (w : World) (B : Nat) (h : Rw w g ms) (hB : B ≤ g) (hn : ms.length ≤ 1000000) :
    Calls Tryd.prog 23 #[.slice (some ⟨g, 0, none⟩) ms.length cap] w fun e w' => e = .returned (.tuple #[]) ∧ Rw w' g (srt ms) ∧ Below B w w' := by
  have hc := AnyM.slices_Sort_string Tryd.laysS g 0 cap ms w h.2 h.1 (by omega)
  change Calls Tryd.prog 23 _ _ _ at hc
  refine hc.mono ?_
  rintro e w' ⟨rfl, n, os, rfl⟩
  refine ⟨rfl, ⟨?_, ?_⟩, put_below w n g _ os B hB (by have := h.1; omega)⟩
  · have := h.1
    simp [grow, putRow, mapBlock, Sort.ahead]; omega
  · refine holds_grow encStr _ os g 0 _ (by simp [putRow, mapBlock, Sort.ahead]; exact h.1) ?_
    exact holds_putRow encStr _ g 0 ms.toArray _ (holds_ahead encStr w n g 0 _ h.2) (by simp)
theorem sort_none (p : Option Addr) (cap : Nat) (w : World) : Calls Tryd.prog 23 #[.slice p 0 cap] w fun e w' => e = .returned (.tuple #[]) ∧ w' = w := by
  have hc := AnyM.slices_Sort_string_none Tryd.laysS p cap w
  change Calls Tryd.prog 23 _ _ _ at hc
  exact hc

theorem holds_rd {w : World} {g : Nat} {ms : List (List UInt8)} (h : Holds encStr w g 0 ms.toArray) (hg : g < w.heap.size) (k : Nat) (hk : k ≤ ms.length) : Rd w w.heap.size 1 (some ⟨g, 0, none⟩) k ((ms.take k).map strV) := by
  refine ⟨by simp; omega, fun _ => ⟨_, rfl, hg, fun j u hu => ?_⟩⟩
  rw [add_zero_own]
  have hj : j < k := by have := (List.getElem?_eq_some_iff.1 hu).1; simp at this; omega
  have := (h j (by simp; omega)).1
  rw [Nat.zero_add, getElem!_pos _ j (by simp; omega)] at this
  rw [this]
  rw [List.getElem?_map, List.getElem?_take, if_pos hj, List.getElem?_eq_getElem (by omega)] at hu
  simp at hu
  rw [← hu]
  simp [strV_mk, mkB]

set_option maxHeartbeats 1000000 in
theorem compact_any (g cap : Nat) (ms : List (List UInt8)) (w : World) (B : Nat) (h : Rw w g ms) (hB : B ≤ g) (hn : ms.length ≤ 1000000) (hc : ms.length ≤ cap) :
    Calls Tryd.prog 24 #[.slice (some ⟨g, 0, none⟩) ms.length cap] w fun e w' => e = .returned (.slice (some ⟨g, 0, none⟩) (Go.Lib.compact ms).length cap) ∧ Rd w' w'.heap.size 1 (some ⟨g, 0, none⟩) (Go.Lib.compact ms).length ((Go.Lib.compact ms).map strV) ∧ Below B w w' := by
  have hc := AnyG.slices_Compact_string Tryd.laysC g 0 cap ms w h.2 (by omega) hc
  change Calls Tryd.prog 24 _ _ _ at hc
  refine hc.mono ?_
  rintro e w' ⟨rfl, q, rfl⟩
  have hl := cmp_len ms
  refine ⟨rfl, ?_, put_below0 w q g _ B hB (by have := h.1; omega)⟩
  have hh := holds_putRow encStr (Sort.ahead w q) g 0 ms.toArray (Go.Lib.compact ms ++ List.replicate (ms.length - (Go.Lib.compact ms).length) []).toArray (holds_ahead encStr w q g 0 _ h.2) (by simp; omega)
  have := holds_rd hh (by simp [putRow, mapBlock, Sort.ahead]; exact h.1) (Go.Lib.compact ms).length (by simp)
  rw [List.take_left] at this
  exact this
theorem compact_none (p : Option Addr) (cap : Nat) (w : World) : Calls Tryd.prog 24 #[.slice p 0 cap] w fun e w' => e = .returned (.slice p 0 cap) ∧ w' = w := by
  have hc := AnyG.slices_Compact_string_empty Tryd.laysC p cap w
  change Calls Tryd.prog 24 _ _ _ at hc
  exact hc
end Go.Proofs.YtgfjkpfjajjidaaDoor
