/- Rows of texts, sorted; slices that read as lists. -/
import Derived.Test.YtilhegdhbcmlkaaDoorBs
import Derived.Test.YtilhegdhbcmlkaaDoorShelfS
namespace Go.Proofs.YtilhegdhbcmlkaaDoor
open Go.RowKit

theorem add_block (a : Addr) (n : Nat) : (a.add n).block = a.block := by unfold Addr.add; split <;> rfl
theorem add_zero_own (g j : Nat) : (⟨g, 0, none⟩ : Addr).add j = ⟨g, j, none⟩ := by
  unfold Addr.add
  split
  · rename_i h; rw [h]
  · simp

theorem add_next (a : Addr) (m : Nat) : (⟨(a.add m).block, (a.add m).off + 1, none⟩ : Addr) = a.add (m + 1) := by
  unfold Addr.add
  by_cases h : m = 0
  · simp [h]
  · simp [h, Nat.add_assoc]

/-- The slice A of n elements, k cells each, holds the cells xs, and lies in a block below B. -/
def Rd (w : World) (B k : Nat) (A : Option Addr) (n : Nat) (xs : List Value) : Prop :=
  xs.length = n * k ∧ (n ≠ 0 → ∃ a : Addr, A = some a ∧ a.block < B ∧ ∀ j u, xs[j]? = some u → w.cell? (a.add j) = some u)

theorem Rd.block {w w' : World} {B k n : Nat} {A : Option Addr} {xs : List Value} (h : Rd w B k A n xs) (hb : ∀ j, j < B → w'.heap[j]? = w.heap[j]?) : Rd w' B k A n xs := by
  refine ⟨h.1, fun hn => ?_⟩
  obtain ⟨a, e, hl, hc⟩ := h.2 hn
  exact ⟨a, e, hl, fun j u hu => (World.cell?_of_block (hb _ (by rw [add_block]; exact hl))).trans (hc j u hu)⟩
theorem Rd.below {w w' : World} {B C k n : Nat} {A : Option Addr} {xs : List Value} (h : Rd w B k A n xs) (hb : Below C w w') (hB : B ≤ C) : Rd w' B k A n xs :=
  h.block fun j hj => hb.block j (by omega)
theorem Rd.wide {w : World} {B C k n : Nat} {A : Option Addr} {xs : List Value} (h : Rd w B k A n xs) (hB : B ≤ C) : Rd w C k A n xs := by
  refine ⟨h.1, fun hn => ?_⟩
  obtain ⟨a, e, hl, hc⟩ := h.2 hn
  exact ⟨a, e, by omega, hc⟩
theorem Rd.at {w : World} {B n i : Nat} {A : Option Addr} {xs : List Value} (h : Rd w B 1 A n xs) (hi : i < n) (u : Value) (hu : xs[i]? = some u) : ∃ a : Addr, A = some a ∧ a.block < B ∧ w.cell? (a.add i) = some u := by
  obtain ⟨a, e, hl, hc⟩ := h.2 (by omega)
  exact ⟨a, e, hl, hc i u hu⟩
theorem Rd.own {w : World} {base k n : Nat} {e : TypeId} {v : Value} {xs : List Value} (h : w.ownsRow base e k v n xs) : ∃ A c, v = .slice A n c ∧ Rd w w.heap.size k A n xs := by
  rcases h.2 with ⟨rfl, rfl⟩ | ⟨g, cap, cur, rfl, _, hh, _⟩
  · exact ⟨none, 0, rfl, h.1, fun hn => absurd rfl hn⟩
  · refine ⟨_, _, rfl, h.1, fun _ => ⟨_, rfl, (Array.getElem?_eq_some_iff.1 hh).1, fun j u hu => h.cells (g := g) rfl j u hu⟩⟩


def ltB : List UInt8 → List UInt8 → Bool
  | _, [] => false
  | [], _ :: _ => true
  | a :: l, b :: k => decide (a.toNat < b.toNat) || (decide (a.toNat = b.toNat) && ltB l k)
theorem lt_irr : ∀ l, ltB l l = false
  | [] => rfl
  | a :: l => by simp [ltB, lt_irr l]
theorem lt_trans' : ∀ {a b c : List UInt8}, ltB a b = true → ltB b c = true → ltB a c = true
  | _, [], _, h, _ => by simp [ltB] at h
  | [], _ :: _, [], _, h => by simp [ltB] at h
  | [], _ :: _, _ :: _, _, _ => rfl
  | _ :: _, _ :: _, [], _, h => by simp [ltB] at h
  | x :: a, y :: b, z :: c, h1, h2 => by
    simp only [ltB, Bool.or_eq_true, Bool.and_eq_true, decide_eq_true_eq] at h1 h2 ⊢
    rcases h1 with h1 | ⟨h1, h1'⟩
    · rcases h2 with h2 | ⟨h2, _⟩
      · exact .inl (by omega)
      · exact .inl (by omega)
    · rcases h2 with h2 | ⟨h2, h2'⟩
      · exact .inl (by omega)
      · exact .inr ⟨by omega, lt_trans' h1' h2'⟩
theorem lt_total : ∀ {a b : List UInt8}, ltB a b = false → ltB b a = false → a = b
  | [], [], _, _ => rfl
  | [], _ :: _, h, _ => by simp [ltB] at h
  | _ :: _, [], _, h => by simp [ltB] at h
  | x :: a, y :: b, h1, h2 => by
    simp only [ltB, Bool.or_eq_false_iff, Bool.and_eq_false_iff, decide_eq_false_iff_not] at h1 h2
    have e : x.toNat = y.toNat := by omega
    have e1 : x = y := UInt8.toNat_inj.1 e
    rcases h1.2 with h | h
    · exact absurd e h
    · rcases h2.2 with k | k
      · exact absurd e.symm k
      · rw [e1, lt_total h k]
theorem ltB_iff : ∀ a b : List UInt8, ltB a b = true ↔ a < b
  | a, [] => by
    have : ¬ a < [] := List.not_lt_nil a
    cases a <;> simp [ltB]
  | [], b :: bs => by simp [ltB]
  | a :: aq, b :: bs => by
    rw [List.cons_lt_cons_iff, ltB, Bool.or_eq_true, Bool.and_eq_true, decide_eq_true_eq, decide_eq_true_eq, ltB_iff aq bs, UInt8.lt_iff_toNat_lt, UInt8.toNat_inj]
theorem leB_iff (x y : List UInt8) : decide (x ≤ y) = !ltB y x := by
  rw [Bool.eq_iff_iff, decide_eq_true_iff, Bool.not_eq_true', ← Bool.not_eq_true, ltB_iff]
  exact Iff.rfl
def srt (l : List (List UInt8)) : List (List UInt8) := l.mergeSort fun x y => decide (x ≤ y)
theorem srt_mem (l : List (List UInt8)) (x : List UInt8) : x ∈ srt l ↔ x ∈ l := List.mem_mergeSort
theorem srt_len (l : List (List UInt8)) : (srt l).length = l.length := List.length_mergeSort l
theorem srt_pair (l : List (List UInt8)) : (srt l).Pairwise fun a b => ltB b a = false := by
  have h := List.pairwise_mergeSort (le := fun x y : List UInt8 => decide (x ≤ y)) (by
    intro a b c h1 h2
    rw [leB_iff, Bool.not_eq_true'] at h1 h2 ⊢
    rw [Bool.eq_false_iff]
    intro h3
    by_cases e : ltB a b = true
    · have := lt_trans' h3 e
      rw [h2] at this; cases this
    · have e2 : a = b := lt_total (by simpa using e) h1
      rw [e2] at h3
      rw [h2] at h3; cases h3) (by
    intro a b
    rw [leB_iff, leB_iff, Bool.or_eq_true, Bool.not_eq_true', Bool.not_eq_true']
    cases h : ltB b a with
    | false => exact .inl rfl
    | true =>
      right
      rw [Bool.eq_false_iff]
      intro h2
      have := lt_trans' h h2
      rw [lt_irr] at this; cases this) l
  refine h.imp fun {a b} hab => ?_
  rw [leB_iff, Bool.not_eq_true'] at hab
  exact hab


theorem own_shape {w : World} {base : Nat} {v : Value} {n : Nat} {xs : List Value} (h : w.ownsRow base 9 1 v n xs) (hn : 0 < n) : ∃ g cap, v = .slice (some ⟨g, 0, none⟩) n cap ∧ base ≤ g ∧ g < w.heap.size ∧ n ≤ cap ∧ cap ≤ maxLen := by
  rcases h.2 with ⟨_, h0⟩ | ⟨g, cap, cur, hv, hb, hh, h1, h2, _⟩
  · omega
  · exact ⟨g, cap, hv, hb, blk_lt hh, h1, h2⟩

theorem own_below {w w' : World} {B : Nat} {e : TypeId} {k n : Nat} {v : Value} {xs : List Value} (h : w.ownsRow B e k v n xs) (hb : Below w.heap.size w w') : w'.ownsRow B e k v n xs := by
  refine ⟨h.1, ?_⟩
  rcases h.2 with hn | ⟨g, cap, cur, hv, hg, hh, r⟩
  · exact .inl hn
  · exact .inr ⟨g, cap, cur, hv, hg, (hb.block g (blk_lt hh)).trans hh, r⟩
theorem bld_below {B b : Nat} {bs : List Value} {w w' : World} (h : Lib.IsBuilder 137 5 B b bs w) (hb : Below w.heap.size w w') : Lib.IsBuilder 137 5 B b bs w' := by
  rcases h with ⟨h1, v, h2, h3, h4⟩ | ⟨h1, v, h2, h3, h4⟩
  · exact .inl ⟨h1, v, (hb.block b (blk_lt h2)).trans h2, own_below h3 hb, h4⟩
  · exact .inr ⟨h1, v, (hb.block b (blk_lt h2)).trans h2, own_below h3 hb, h4⟩
end Go.Proofs.YtilhegdhbcmlkaaDoor

namespace Go.Proofs.YtilhegdhbcmlkaaDoor
open Go.RowKit Go.Shelf Go.Sort

theorem put_below (w : World) (n g : Nat) (d : Array (List UInt8)) (os : Array Obj) (B : Nat) (hB : B ≤ g) (hg : B ≤ w.heap.size) : Below B w (grow (putRow encStr (Sort.ahead w n) g 0 d) os) := by
  refine ⟨rfl, rfl, rfl, ?_, fun k hk => ?_⟩
  · simp [grow, putRow, mapBlock, Sort.ahead]
  · have h1 : (grow (putRow encStr (Sort.ahead w n) g 0 d) os).heap[k]? = (putRow encStr (Sort.ahead w n) g 0 d).heap[k]? := heap_grow_old _ os (by simp [putRow, mapBlock, Sort.ahead]; omega)
    rw [h1]
    simp only [putRow, mapBlock, Sort.ahead, Array.getElem?_modify]
    rw [if_neg (by omega)]
theorem put_below0 (w : World) (n g : Nat) (d : Array (List UInt8)) (B : Nat) (hB : B ≤ g) (hg : B ≤ w.heap.size) : Below B w (putRow encStr (Sort.ahead w n) g 0 d) := by
  have h := put_below w n g d #[] B hB hg
  have e : grow (putRow encStr (Sort.ahead w n) g 0 d) #[] = putRow encStr (Sort.ahead w n) g 0 d := by unfold grow; rw [Array.append_empty]
  rwa [e] at h

/-- A row of methods in block g. -/
def Rw (w : World) (g : Nat) (ms : List (List UInt8)) : Prop := g < w.heap.size ∧ Holds encStr w g 0 ms.toArray
theorem Rw.own {w : World} {base g n cap : Nat} {ms : List (List UInt8)} (h : w.ownsRow base 9 1 (.slice (some ⟨g, 0, none⟩) n cap) n (ms.map strV)) (hn : n = ms.length) (h0 : 0 < n) : Rw w g ms := by
  obtain ⟨_, _, e, _, hlt, _⟩ := own_shape h h0
  cases e
  refine ⟨hlt, fun j hj => ?_⟩
  have hj' : j < ms.length := by simpa using hj
  refine ⟨?_, ?_⟩
  · rw [Nat.zero_add, h.cellAt j (by omega), getElem!_pos _ j hj]
    simp [hj', strV, mkB]
  · rw [Nat.zero_add]; exact h.frozenAt j

set_option maxHeartbeats 1000000 in
theorem sort_any (g cap : Nat) (ms : List (List UInt8)) (w : World) (B : Nat) (h : Rw w g ms) (hB : B ≤ g) (hn : ms.length ≤ 1000000) :
    Calls Tryd.prog 30 #[.slice (some ⟨g, 0, none⟩) ms.length cap] w fun e w' => e = .returned (.tuple #[]) ∧ Rw w' g (srt ms) ∧ Below B w w' := by
  have hc := AnyM.slices_Sort_string Tryd.laysS g 0 cap ms w h.2 h.1 (by omega)
  change Calls Tryd.prog 30 _ _ _ at hc
  refine hc.mono ?_
  rintro e w' ⟨rfl, n, os, rfl⟩
  refine ⟨rfl, ⟨?_, ?_⟩, put_below w n g _ os B hB (by have := h.1; omega)⟩
  · have := h.1
    simp [grow, putRow, mapBlock, Sort.ahead]; omega
  · refine holds_grow encStr _ os g 0 _ (by simp [putRow, mapBlock, Sort.ahead]; exact h.1) ?_
    exact holds_putRow encStr _ g 0 ms.toArray _ (holds_ahead encStr w n g 0 _ h.2) (by simp)
theorem sort_none (p : Option Addr) (cap : Nat) (w : World) : Calls Tryd.prog 30 #[.slice p 0 cap] w fun e w' => e = .returned (.tuple #[]) ∧ w' = w := by
  have hc := AnyM.slices_Sort_string_none Tryd.laysS p cap w
  change Calls Tryd.prog 30 _ _ _ at hc
  exact hc

theorem holds_rd {w : World} {g : Nat} {ms : List (List UInt8)} (h : Holds encStr w g 0 ms.toArray) (hg : g < w.heap.size) (k : Nat) (hk : k ≤ ms.length) : Rd w w.heap.size 1 (some ⟨g, 0, none⟩) k ((ms.take k).map strV) := by
  refine ⟨by simp; omega, fun _ => ⟨_, rfl, hg, fun j u hu => ?_⟩⟩
  rw [add_zero_own]
  have hj : j < k := by have := (List.getElem?_eq_some_iff.1 hu).1; simp at this; omega
  have := (h j (by simp; omega)).1
  rw [Nat.zero_add, getElem!_pos _ j (by simp; omega)] at this
  rw [this]
  rw [List.getElem?_map, List.getElem?_take, if_pos hj, List.getElem?_eq_getElem (by omega)] at hu
  simp at hu
  rw [← hu]
  simp [strV, mkB]


end Go.Proofs.YtilhegdhbcmlkaaDoor
