/- Routes in memory; the contract of table.Right. -/
import Derived.Test.YtgfjkpfjajjidaaDoorTbHand
namespace Go.Proofs.YtgfjkpfjajjidaaDoor
open Go.RowKit Pl

def rtV (r : Rt) : List Value := [.string (mkB r.m), .string (mkB r.p), .string (mkB r.h)]
def rtCells (l : List Rt) : List Value := l.flatMap rtV
theorem rt_cons (a : Rt) (l : List Rt) : rtCells (a :: l) = rtV a ++ rtCells l := rfl
theorem rt_app (a b : List Rt) : rtCells (a ++ b) = rtCells a ++ rtCells b := List.flatMap_append
theorem rt_len (l : List Rt) : (rtCells l).length = l.length * 3 := by
  induction l with
  | nil => rfl
  | cons a l ih => rw [rt_cons, List.length_append, ih]; simp [rtV]; omega
theorem rt_at : ∀ (l : List Rt) (i : Nat) (hi : i < l.length) (j : Nat), j < 3 → (rtCells l)[i * 3 + j]? = (rtV l[i])[j]?
  | a :: l, 0, _, j, hj => by
    rw [rt_cons, Nat.zero_mul, Nat.zero_add, List.getElem?_append_left (by simp [rtV]; omega)]
    rfl
  | a :: l, i + 1, hi, j, hj => by
    have hl : (rtV a).length = 3 := rfl
    rw [rt_cons, List.getElem?_append_right (by rw [hl]; omega), hl]
    have e : (i + 1) * 3 + j - 3 = i * 3 + j := by omega
    rw [e, rt_at l i (by simpa using hi) j hj]
    rfl

theorem add_off2 (a : Addr) (m j : Nat) (h : j ≠ 0) : (⟨(a.add m).block, (a.add m).off + j, none⟩ : Addr) = a.add (m + j) := by
  unfold Addr.add
  by_cases hm : m = 0
  · simp [hm, h]
  · simp [hm, Nat.add_assoc]

/-- The cells of route k, in a walk's spelling. -/
theorem rt_in {w : World} {B n : Nat} {A : Option Addr} {l : List Rt} (h : Rd w B 3 A n (rtCells l)) (hn : n = l.length) (k : Nat) (hk : k < l.length) : ∃ a : Addr, A = some a ∧ a.block < B ∧
    w.cell? (a.add (k * 3)) = some (.string (mkB l[k].m)) ∧ w.cell? ⟨(a.add (k * 3)).block, (a.add (k * 3)).off + 1, none⟩ = some (.string (mkB l[k].p)) ∧ w.cell? ⟨(a.add (k * 3)).block, (a.add (k * 3)).off + 2, none⟩ = some (.string (mkB l[k].h)) := by
  obtain ⟨a, e, hl, hc⟩ := h.2 (by omega)
  refine ⟨a, e, hl, hc (k * 3 + 0) _ (rt_at l k hk 0 (by decide)), ?_, ?_⟩
  · rw [add_off2 _ _ _ (by decide)]; exact hc (k * 3 + 1) _ (rt_at l k hk 1 (by decide))
  · rw [add_off2 _ _ _ (by decide)]; exact hc (k * 3 + 2) _ (rt_at l k hk 2 (by decide))

def rt (a b c : ByteArray) : Rt := ⟨a.data.toList, b.data.toList, c.data.toList⟩
theorem rt_mk (r : Rt) : rt (mkB r.m) (mkB r.p) (mkB r.h) = r := by rw [rt, mkB_data, mkB_data, mkB_data]

set_option maxRecDepth 100000 in
set_option maxHeartbeats 4000000 in
theorem right_any (a b c : ByteArray) (w : World) (hw : HB w) (hb : b.size ≤ 10000) : Calls Tryd.prog 40 #[.agg #[.string a, .string b, .string c]] w fun e w' => e = .returned (.bool (rightL (rt a b c))) ∧ Below w.heap.size w w' := by
  have HP := Lib.hid (fun w => pat_any b w hb)
  have HT := Lib.hid (fun w => tok_any a w)
  have HH := Lib.hid (fun w hw => hand_any c w hw)
  have HW := Lib.hid hw
  have hr : rightL (rt a b c) = ((patL b.data.toList).isSome && tokB a.data.toList && handL c.data.toList) := rfl
  have hc0 := fun w' (h : Below (w.alloc (.cells #[.string a, .string b, .string c] 31)).heap.size (w.alloc (.cells #[.string a, .string b, .string c] 31)) w') (j : Nat) => h.cell (p := ⟨w.heap.size, j, none⟩) (by simp)
  have HC0 := Lib.hid hc0
  have HA := Lib.hid ((Below.refl w.heap.size w).alloc (Nat.le_refl _) (.cells #[.string a, .string b, .string c] 31))
  rw [hr]
  clear hr hc0 hw
  cases h1 : (patL b.data.toList).isSome with
  | false =>
    rw [h1] at HP
    go_enter Tryd.func40, Tryd.ntmps40
    go_wp2_with fail
    refine (HP.out _).mono ?_
    rintro e w1 ⟨v, rfl, ho, hb1⟩
    obtain ⟨A, c, rfl, hrd⟩ := Rd.own ho
    clear ho hrd
    go_wp2_with fail
    go_ret
    exact ⟨rfl, HA.out.trans (hb1.mono (by simp))⟩
  | true =>
    rw [h1] at HP
    cases h2 : tokB a.data.toList with
    | false =>
      rw [h2] at HT
      go_enter Tryd.func40, Tryd.ntmps40
      go_wp2_with fail
      refine (HP.out _).mono ?_
      rintro e w1 ⟨v, rfl, ho, hb1⟩
      obtain ⟨A, c, rfl, hrd⟩ := Rd.own ho
      have hk0 := HC0.out w1 hb1 0
      have HB1 := Lib.hid hb1
      clear ho hrd hb1
      go_wp2_with fail
      refine (HT.out _).mono ?_
      rintro e w2 ⟨rfl, hb2⟩
      go_wp2_with fail
      go_ret
      exact ⟨rfl, HA.out.trans ((bt HB1.out hb2).mono (by simp))⟩
    | true =>
      rw [h2] at HT
      generalize handL c.data.toList = q at *
      go_enter Tryd.func40, Tryd.ntmps40
      go_wp2_with fail
      refine (HP.out _).mono ?_
      rintro e w1 ⟨v, rfl, ho, hb1⟩
      obtain ⟨A, c, rfl, hrd⟩ := Rd.own ho
      have hk0 := HC0.out w1 hb1 0
      have HB1 := Lib.hid hb1
      clear ho hrd hb1
      go_wp2_with fail
      refine (HT.out _).mono ?_
      rintro e w2 ⟨rfl, hb2⟩
      have HB2 := Lib.hid (bt HB1.out hb2)
      have hk2 := HC0.out w2 HB2.out 2
      clear hb2
      go_wp2_with fail
      refine (HH.out _ ?_).mono ?_
      · exact (HW.out.below HA.out).below HB2.out
      rintro e w3 ⟨rfl, rfl⟩
      go_wp2_with fail
      go_ret
      exact ⟨rfl, HA.out.trans (HB2.out.mono (by simp))⟩

end Go.Proofs.YtgfjkpfjajjidaaDoor
