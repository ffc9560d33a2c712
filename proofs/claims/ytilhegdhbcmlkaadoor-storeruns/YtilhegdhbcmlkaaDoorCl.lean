/- Calls, plainly and in memory; the contract of light. -/
import Derived.Test.YtilhegdhbcmlkaaDoorSrt
import Derived.Test.YtilhegdhbcmlkaaDoorTgTag
namespace Go.Proofs.YtilhegdhbcmlkaaDoor
open Go.RowKit

structure Cl where
  kind : Int
  owner : Int
  shard : Int
  key : Bytes
  val : Bytes
  tag : Int
def Cl.cells (x : Cl) : List Value := [.int .i64 x.kind, .int .i64 x.owner, .int .i64 x.shard, strV x.key, strV x.val, .int .i64 x.tag]
def clCells (l : List Cl) : List Value := l.flatMap Cl.cells
theorem cl_len (l : List Cl) : (clCells l).length = l.length * 6 := by
  induction l with
  | nil => rfl
  | cons a l ih =>
    have : clCells (a :: l) = a.cells ++ clCells l := rfl
    rw [this, List.length_append, ih]
    simp [Cl.cells]
    omega
theorem cl_at : ∀ (l : List Cl) (i : Nat) (hi : i < l.length) (j : Nat), j < 6 → (clCells l)[i * 6 + j]? = (l[i]).cells[j]?
  | a :: l, 0, _, j, hj => by
    have : clCells (a :: l) = a.cells ++ clCells l := rfl
    rw [this, Nat.zero_mul, Nat.zero_add, List.getElem?_append_left (by simp [Cl.cells]; omega)]
    rfl
  | a :: l, i + 1, hi, j, hj => by
    have : clCells (a :: l) = a.cells ++ clCells l := rfl
    have hl : a.cells.length = 6 := rfl
    rw [this, List.getElem?_append_right (by rw [hl]; omega), hl]
    have e : (i + 1) * 6 + j - 6 = i * 6 + j := by omega
    rw [e, cl_at l i (by simpa using hi) j hj]
    rfl
/-- Call k's cells, in the walk's own spelling. -/
theorem cl_in {w : World} {B n : Nat} {A : Option Addr} {l : List Cl} (h : Rd w B 6 A n (clCells l)) {k : Nat} (hk : k < n) {x : Cl} (hx : l[k]? = some x) :
    ∃ a, A = some a ∧ a.block < B ∧ w.cell? (a.add (k * 6)) = some (.int .i64 x.kind) ∧ w.cell? ⟨(a.add (k * 6)).block, (a.add (k * 6)).off + 1, none⟩ = some (.int .i64 x.owner) ∧ w.cell? ⟨(a.add (k * 6)).block, (a.add (k * 6)).off + 2, none⟩ = some (.int .i64 x.shard) ∧ w.cell? ⟨(a.add (k * 6)).block, (a.add (k * 6)).off + 3, none⟩ = some (strV x.key) ∧ w.cell? ⟨(a.add (k * 6)).block, (a.add (k * 6)).off + 4, none⟩ = some (strV x.val) ∧ w.cell? ⟨(a.add (k * 6)).block, (a.add (k * 6)).off + 5, none⟩ = some (.int .i64 x.tag) := by
  obtain ⟨hl, ex⟩ := List.getElem?_eq_some_iff.1 hx
  obtain ⟨a, e, hb, hc⟩ := h.2 (by omega)
  have hat : ∀ j, j < 6 → ∀ u, x.cells[j]? = some u → w.cell? (a.add (k * 6 + j)) = some u := fun j hj u hu => hc _ u (by rw [cl_at l k hl j hj, ex]; exact hu)
  have hsp : ∀ j, 0 < j → a.add (k * 6 + j) = ⟨(a.add (k * 6)).block, (a.add (k * 6)).off + j, none⟩ := fun j hj => by
    unfold Addr.add
    rw [if_neg (by omega)]
    by_cases h0 : k * 6 = 0
    · rw [if_pos h0, h0]; simp
    · rw [if_neg h0]; simp [Nat.add_assoc]
  refine ⟨a, e, hb, hat 0 (by decide) _ rfl, ?_, ?_, ?_, ?_, ?_⟩
  · rw [← hsp 1 (by decide)]; exact hat 1 (by decide) _ rfl
  · rw [← hsp 2 (by decide)]; exact hat 2 (by decide) _ rfl
  · rw [← hsp 3 (by decide)]; exact hat 3 (by decide) _ rfl
  · rw [← hsp 4 (by decide)]; exact hat 4 (by decide) _ rfl
  · rw [← hsp 5 (by decide)]; exact hat 5 (by decide) _ rfl
/-- Few and short. -/
def lightL (l : List Cl) : Bool := decide (l.length ≤ 200) && l.all fun x => decide (x.key.length + x.val.length ≤ 300)

set_option maxRecDepth 100000 in
set_option maxHeartbeats 2000000 in
theorem light_any (xs : List Cl) (A : Option Addr) (c : Nat) (w : World) (hrd : Rd w w.heap.size 6 A xs.length (clCells xs)) (hxc : xs.length ≤ c) (hcm : c ≤ maxLen) (hz : ∀ x ∈ xs, x.key.length ≤ 140737488355328 ∧ x.val.length ≤ 140737488355328) :
    Calls Tryd.prog 11 #[.slice A xs.length c] w fun e w' => e = .returned (.bool (lightL xs)) ∧ Below w.heap.size w w' := by
  unfold maxLen at hcm
  unfold lightL
  by_cases h200 : xs.length ≤ 200
  · rw [decide_eq_true h200, Bool.true_and]
    have HRD := Lib.hid (fun w1 (hb : Below w.heap.size w w1) => hrd.below hb (Nat.le_refl _))
    have HZ := Lib.hid hz
    obtain ⟨n, hn⟩ : ∃ n, xs.length = n := ⟨_, rfl⟩
    have HNX := Lib.hid hn
    rw [hn] at h200 hxc HRD ⊢
    clear hn hrd hz
    go_enter Tryd.func11, Tryd.ntmps11
    go_wp2_with fail
    go_loopw [10] (fun i wr => ∃ k : Nat, i = .int .i64 k ∧ k ≤ n ∧ Hid ((xs.take k).all (fun x => decide (x.key.length + x.val.length ≤ 300)) = true) ∧ Hid (Below w.heap.size w wr)) (fun i _ => n - (intOf i).toNat)
    case atStart => exact ⟨0, rfl, by omega, rfl, Below.refl _ _⟩
    case round =>
      obtain ⟨k, rfl, hk, hA, hB⟩ := hrel
      by_cases hkn : k < n
      · obtain ⟨x, hx⟩ : ∃ x, xs[k]? = some x := ⟨xs[k]'(by rw [HNX.out]; exact hkn), List.getElem?_eq_getElem _⟩
        obtain ⟨a, rfl, hab, c0, c1, c2, c3, c4, c5⟩ := cl_in (HRD.out wr hB.out) hkn hx
        obtain ⟨hz1, hz2⟩ := HZ.out x (List.mem_of_getElem? hx)
        unfold strV at c3 c4
        have hks : (mkB x.key).size = x.key.length := mkB_size _
        have hvs : (mkB x.val).size = x.val.length := mkB_size _
        have hmem := List.mem_of_getElem? hx
        have htk : xs.take (k + 1) = xs.take k ++ [x] := by
          obtain ⟨hl, e⟩ := List.getElem?_eq_some_iff.1 hx
          rw [List.take_succ_eq_append_getElem hl, e]
        have HBA := Lib.hid (hB.out.alloc hB.out.size (.cells #[.int .i64 x.kind, .int .i64 x.owner, .int .i64 x.shard, .string (mkB x.key), .string (mkB x.val), .int .i64 x.tag] 30))
        by_cases h3 : x.key.length + x.val.length ≤ 300
        · have HAN : Hid ((xs.take (k + 1)).all (fun x => decide (x.key.length + x.val.length ≤ 300)) = true) := by
            show _ = true
            rw [htk, List.all_append, hA.out]
            simp [h3]
          clear htk hx hmem hA
          go_wp2_with fail
          exact ⟨⟨k + 1, by simp, by omega, HAN.out, HBA.out⟩, by simp [intOf]; omega⟩
        · have HAF : Hid (xs.all (fun x => decide (x.key.length + x.val.length ≤ 300)) = false) := by
            show _ = false
            rw [List.all_eq_false]
            exact ⟨x, hmem, by simpa using h3⟩
          clear htk hx hmem hA
          go_wp2_with fail
          go_ret
          exact ⟨by rw [HAF.out]; rfl, HBA.out⟩
      · have HAT : Hid (xs.all (fun x => decide (x.key.length + x.val.length ≤ 300)) = true) := by
          have := hA.out
          rwa [List.take_of_length_le (by rw [HNX.out]; omega)] at this
        go_wp2_with fail
        go_ret
        exact ⟨by rw [HAT.out]; rfl, hB.out⟩
  · rw [decide_eq_false h200, Bool.false_and]
    go_enter Tryd.func11, Tryd.ntmps11
    go_wp2_with fail
    go_ret
    exact ⟨rfl, Below.refl _ _⟩
end Go.Proofs.YtilhegdhbcmlkaaDoor
