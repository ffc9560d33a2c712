/- The contracts of slices.Index and slices.Contains over places. -/
import Derived.Test.YtgfjkpfjajjidaaDoorTbEq
import Derived.Deep.RegionHeld3
namespace Go.Proofs.YtgfjkpfjajjidaaDoor
open Go.RowKit Pl

theorem new_cell (w : World) (cs : Array Value) (t : TypeId) (j : Nat) : (w.alloc (.cells cs t)).cell? ⟨w.heap.size, j, none⟩ = cs[j]? := by
  have h : (w.alloc (.cells cs t)).heap[w.heap.size]? = some (.cells cs t) := by show (w.heap.push _)[w.heap.size]? = _; simp
  rw [Lib.cell_of_heap h]

def plV (x : PL) : List Value := [.string (mkB x.1), .string (mkB x.2)]
def plCells (l : List PL) : List Value := l.flatMap plV
theorem pl_cons (a : PL) (l : List PL) : plCells (a :: l) = plV a ++ plCells l := rfl
theorem pl_app (a b : List PL) : plCells (a ++ b) = plCells a ++ plCells b := List.flatMap_append
theorem pl_len (l : List PL) : (plCells l).length = l.length * 2 := by
  induction l with
  | nil => rfl
  | cons a l ih => rw [pl_cons, List.length_append, ih]; simp [plV]; omega
theorem pl_at : ∀ (l : List PL) (i : Nat) (hi : i < l.length) (j : Nat), j < 2 → (plCells l)[i * 2 + j]? = (plV l[i])[j]?
  | a :: l, 0, _, j, hj => by
    rw [pl_cons, Nat.zero_mul, Nat.zero_add, List.getElem?_append_left (by simp [plV]; omega)]
    rfl
  | a :: l, i + 1, hi, j, hj => by
    have hl : (plV a).length = 2 := rfl
    rw [pl_cons, List.getElem?_append_right (by rw [hl]; omega), hl]
    have e : (i + 1) * 2 + j - 2 = i * 2 + j := by omega
    rw [e, pl_at l i (by simpa using hi) j hj]
    rfl
theorem pl_in {w : World} {B n : Nat} {A : Option Addr} {l : List PL} (h : Rd w B 2 A n (plCells l)) (hn : n = l.length) (k : Nat) (hk : k < l.length) : ∃ a : Addr, A = some a ∧ a.block < B ∧
    w.cell? (a.add (k * 2)) = some (.string (mkB l[k].1)) ∧ w.cell? ⟨(a.add (k * 2)).block, (a.add (k * 2)).off + 1, none⟩ = some (.string (mkB l[k].2)) := by
  obtain ⟨a, e, hl, hc⟩ := h.2 (by omega)
  refine ⟨a, e, hl, hc (k * 2 + 0) _ (pl_at l k hk 0 (by decide)), ?_⟩
  rw [add_off2 _ _ _ (by decide)]; exact hc (k * 2 + 1) _ (pl_at l k hk 1 (by decide))

set_option maxRecDepth 100000 in
set_option maxHeartbeats 4000000 in
theorem index_any (xs : List PL) (A : Option Addr) (c : Nat) (x : PL) (w : World) (hr : Rd w w.heap.size 2 A xs.length (plCells xs)) (hn : xs.length ≤ 1000000) :
    Calls Tryd.prog 85 #[.slice A xs.length c, .agg #[.string (mkB x.1), .string (mkB x.2)]] w fun e w' => (∃ i : Int, e = .returned (.int .i64 i) ∧ decide (0 ≤ i) = decide (x ∈ xs)) ∧ Below w.heap.size w w' := by
  have HE := Lib.hid (fun y w => eq_place x y w)
  have HR := Lib.hid hr
  have HA := Lib.hid ((Below.refl w.heap.size w).alloc (Nat.le_refl _) (.cells #[.string (mkB x.1), .string (mkB x.2)] 124))
  have hc0 := fun w' (h : Below (w.alloc (.cells #[.string (mkB x.1), .string (mkB x.2)] 124)).heap.size (w.alloc (.cells #[.string (mkB x.1), .string (mkB x.2)] 124)) w') (j : Nat) => h.cell (p := ⟨w.heap.size, j, none⟩) (by simp)
  have hd0 : ∀ w', Below (w.alloc (.cells #[.string (mkB x.1), .string (mkB x.2)] 124)).heap.size (w.alloc (.cells #[.string (mkB x.1), .string (mkB x.2)] 124)) w' → w'.cell? ⟨w.heap.size, 0, none⟩ = some (.string (mkB x.1)) ∧ w'.cell? ⟨w.heap.size, 1, none⟩ = some (.string (mkB x.2)) := fun w' h => by
    refine ⟨(hc0 w' h 0).trans ?_, (hc0 w' h 1).trans ?_⟩
    · rw [new_cell]; rfl
    · rw [new_cell]; rfl
  have HD := Lib.hid hd0
  clear hr hc0 hd0
  generalize hx1 : mkB x.1 = x1 at *
  generalize hx2 : mkB x.2 = x2 at *
  clear hx1 hx2
  go_enter Tryd.func85, Tryd.ntmps85
  go_wp2_with fail
  go_loopw [8] (fun i wr => ∃ k : Nat, k ≤ xs.length ∧ i = .int .i64 k ∧ Hid (Below (w.alloc (.cells #[.string x1, .string x2] 124)).heap.size (w.alloc (.cells #[.string x1, .string x2] 124)) wr) ∧ Hid (x ∉ xs.take k)) (fun i _ => xs.length - (intOf i).toNat)
  case atStart => exact ⟨0, by omega, rfl, Below.refl _ _, by show _ ∉ _; simp⟩
  case round =>
    obtain ⟨k, hk, rfl, HB, HN⟩ := hrel
    by_cases hlt : k < xs.length
    · obtain ⟨d0, d1⟩ := HD.out _ HB.out
      obtain ⟨a, rfl, hab, k0, k1⟩ := pl_in ((HR.out.below HA.out (Nat.le_refl _)).below HB.out (by simp)) rfl k hlt
      have hq := HE.out xs[k]
      have hst : xs.take (k + 1) = xs.take k ++ [xs[k]] := List.take_succ_eq_append_getElem hlt
      have HM := Lib.hid (List.getElem_mem hlt)
      by_cases he : x = xs[k]
      · rw [decide_eq_true he] at hq
        have HY : Hid (x ∈ xs) := by show _ ∈ _; rw [he]; exact HM.out
        clear he hst
        generalize mkB xs[k].1 = y1 at *
        generalize mkB xs[k].2 = y2 at *
        go_wp2_with fail
        go_region
        go_wp2_with fail
        go_ret
        refine ⟨⟨k, rfl, ?_⟩, HA.out.trans (HB.out.drew.mono (by simp))⟩
        rw [decide_eq_true HY.out]; simp
      · rw [decide_eq_false he] at hq
        have HY : Hid (x ∉ xs.take (k + 1)) := by
          show _ ∉ _
          rw [hst]
          simp only [List.mem_append, List.mem_singleton, not_or]
          exact ⟨HN.out, he⟩
        clear he hst
        generalize mkB xs[k].1 = y1 at *
        generalize mkB xs[k].2 = y2 at *
        go_wp2_with fail
        go_region
        go_wp2_with fail
        go_roundw
        case rel => exact ⟨k + 1, by omega, by go_num, HB.out.drew, HY⟩
        case measure => simp [intOf]; omega
    · have HY : Hid (x ∉ xs) := by
        have := HN.out
        rw [List.take_of_length_le (by omega)] at this
        exact this
      go_wp2_with fail
      go_ret
      refine ⟨⟨-1, rfl, ?_⟩, HA.out.trans (HB.out.mono (by simp))⟩
      rw [decide_eq_false HY.out]; rfl

set_option maxRecDepth 100000 in
set_option maxHeartbeats 4000000 in
theorem contains_any (xs : List PL) (A : Option Addr) (c : Nat) (x : PL) (w : World) (hr : Rd w w.heap.size 2 A xs.length (plCells xs)) (hn : xs.length ≤ 1000000) :
    Calls Tryd.prog 66 #[.slice A xs.length c, .agg #[.string (mkB x.1), .string (mkB x.2)]] w fun e w' => e = .returned (.bool (decide (x ∈ xs))) ∧ Below w.heap.size w w' := by
  have HA := Lib.hid ((Below.refl w.heap.size w).alloc (Nat.le_refl _) (.cells #[.string (mkB x.1), .string (mkB x.2)] 124))
  have HI := Lib.hid (index_any xs A c x (w.alloc (.cells #[.string (mkB x.1), .string (mkB x.2)] 124)) ((hr.below HA.out (Nat.le_refl _)).wide (by simp)) hn)
  generalize decide (x ∈ xs) = q at *
  clear hr
  go_enter Tryd.func66, Tryd.ntmps66
  go_wp2_with fail
  refine HI.out.mono ?_
  rintro e w1 ⟨⟨i, rfl, hi⟩, hb⟩
  go_wp2_with fail
  go_ret
  exact ⟨rfl, HA.out.trans (hb.mono (by simp))⟩

end Go.Proofs.YtgfjkpfjajjidaaDoor
