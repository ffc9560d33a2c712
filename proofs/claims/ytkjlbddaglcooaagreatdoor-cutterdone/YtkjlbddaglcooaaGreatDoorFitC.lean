/- The contract of the laws' own helper fit. -/
import Derived.Test.YtkjlbddaglcooaaGreatDoorCtAll
namespace Go.Proofs.YtkjlbddaglcooaaGreatDoor
open Go.RowKit Pl
open Go.Lib (byteCells)

def fitT : List UInt8 := [71, 69, 84, 32, 47, 32, 72, 84, 84, 80, 47, 49, 46, 49, 13, 10, 104, 111, 115, 116, 58, 32, 97, 13, 10, 13, 10, 80, 85, 84, 32, 47, 120, 32, 72, 84, 84, 80].append [47, 49, 46, 49, 13, 10, 104, 111, 115, 116, 58, 32, 97, 13, 10, 99, 111, 110, 116, 101, 110, 116, 45, 108, 101, 110, 103, 116, 104, 58, 32, 50, 13, 10, 13, 10, 97, 98]
def fitSee (R : Cst × List Rq) : Int × List (List UInt8 × List UInt8) := (R.1.status, R.2.map fun r => (r.t.data.toList, r.body.data.toList))
theorem fit_run : fitSee (runC newC fitT) = (0, [([47], []), ([47, 120], [97, 98])]) := by kernel_rfl
theorem field_status (u0 u1 u2 u3 u4 u5 : Value) (st : Int) (W : World) : (Instr.field 51 (.agg #[u0, u1, u2, u3, u4, u5, .int .i64 st]) 2).run Tryz.prog W = .ok (.int .i64 st) W := by kernel_rfl

theorem two_of {α β : Type} (xs : List α) (f : α → β) (a b : β) (h : xs.map f = [a, b]) : ∃ x y, xs = [x, y] ∧ f x = a ∧ f y = b := by
  match xs, h with
  | [x, y], h => simp at h; exact ⟨x, y, rfl, h.1, h.2⟩

theorem row_some {w : World} {v : Value} {xs : List (Rq × Value)} (h : RQ w v xs) (hn : 0 < xs.length) : ∃ gv cap, v = .slice (some ⟨gv, 0, none⟩) xs.length cap ∧ xs.length ≤ cap ∧ gv < w.heap.size ∧ ∀ j u, (rqCells xs)[j]? = some u → w.cell? ⟨gv, j, none⟩ = some u := by
  rcases h.row.2 with ⟨_, h0⟩ | ⟨g, cap, cur, rfl, _, hh, hc, _⟩
  · omega
  · refine ⟨g, cap, rfl, hc, blk_lt hh, fun j u hu => ?_⟩
    have := h.row.cells (g := g) rfl j u hu
    rwa [add_zero_own] at this

set_option maxRecDepth 10000 in
set_option maxHeartbeats 4000000 in
theorem fit_any (w : World) (hm : MX w) : Calls Tryz.prog 9 #[] w fun e w' => e = .returned (.bool true) ∧ Below w.heap.size w w' := by
  have hrun := fit_run
  have HALL := Lib.hid (call_all ⟨fitT.toArray⟩ w hm (by decide) (runC newC fitT) (Lib.hid (by rfl)))
  generalize runC newC fitT = R at *
  obtain ⟨c, rs⟩ := R
  simp only [fitSee, Prod.mk.injEq] at hrun
  obtain ⟨hst, hrs⟩ := hrun
  obtain ⟨r0, r1, rfl, e0, e1⟩ := two_of rs _ _ _ hrs
  simp only [Prod.mk.injEq] at e0 e1
  have ht : r0.t = ⟨#[47]⟩ := bytes_ext (by rw [e0.1])
  have hb : r1.body = ⟨#[97, 98]⟩ := bytes_ext (by rw [e1.2])
  simp only [hst] at HALL
  have HPN := Lib.hid fun w => parse_none none 0 w
  have HNW := Lib.hid fun w => new_any 0 w
  have hfs := field_status
  unfold fitT at HALL
  clear hrs e0 e1 hst hm
  go_enter Tryz.func9, Tryz.ntmps9
  go_wp2_with fail
  refine HALL.out.mono ?_
  rintro e w1 ⟨v, xs, rfl, hxs, hrq, hb1⟩
  obtain ⟨p0, p1, rfl, q0, q1⟩ := two_of xs _ _ _ hxs
  obtain ⟨gv, cap, rfl, hcap, hgl, hcells⟩ := row_some hrq (by simp)
  have k1 := hcells 1 (.string ⟨#[47]⟩) (by rw [← ht, ← q0]; rfl)
  have k8 := hcells 8 (.string ⟨#[97, 98]⟩) (by rw [← hb, ← q1]; rfl)
  have HB1 := Lib.hid hb1
  simp only [List.length_cons, List.length_nil, Nat.zero_add, Nat.reduceAdd] at hcap ⊢
  clear hrq hcells hb1 hxs HALL q0 q1 ht hb
  go_wp2_with fail
  refine (HPN.out _).mono ?_
  rintro e w2 ⟨v2, rfl, _, hb2⟩
  unfold hdVal badH
  have HB2 := Lib.hid (bt HB1.out hb2)
  clear hb2
  go_wp2_with fail
  refine (HNW.out _).mono ?_
  rintro e w3 ⟨g3, rfl, ho3, hb3, hg3⟩
  clear hg3
  have HB3 := Lib.hid (bt HB2.out hb3)
  have HD := Lib.hid (done_any ho3)
  clear hb3 ho3
  go_wp2_with fail
  refine HD.out.mono ?_
  rintro e w4 ⟨rfl, rfl⟩
  go_wp2_with fail
  go_ret
  exact ⟨ret_bool (by decide), HB3.out⟩

end Go.Proofs.YtkjlbddaglcooaaGreatDoor
