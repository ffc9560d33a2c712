/- The law HolderOld holds for every input whose bulk is at most 1048576 values and letters: it returns true, and its arguments read behind the call as before. The card ties the tables that the row lists to the program's text; the proof reads one of them, that of the names of handlers. -/
import Derived.Test.YtgfjkpfjajjidaaDoorCards
import Derived.Test.YtgfjkpfjajjidaaDoorTie
import Derived.Test.YtgfjkpfjajjidaaDoorOldLow
import Derived.Test.YtgfjkpfjajjidaaDoorLiftU
import Derived.ChangeMaps5
import Derived.ProofKit
import Derived.OpenShut
import Derived.Deep.DeepHandedRow
import Derived.Lib.LaidTab
import Derived.SizedLaws
import Derived.Shelf.Vars
import Derived.LaidSub
import Derived.MakeChecks
namespace Go.Proofs.YtgfjkpfjajjidaaDoor.holderOldLaw
open Go.ChangeShapes Go.WideShapes Go.ChangeAt Go.RowKit
open Go.ChangeMaps (open_string shut_string)

theorem own : ownKnob Tryd.prog.godebug = none := by kernel_rfl
theorem rec22 : Tryd.prog.readableRec 22 = true := by kernel_rfl
theorem row22 : 22 < Tryd.prog.types.size := of_decide_eq_true (by kernel_rfl)

def isTexts (n : Nat) (x : String × DataW Unit) : Bool :=
  match x.2 with
  | .agg l => l.length == n && (match l.head? with | some (.lit (.string _)) => true | _ => false)
  | _ => false
def nameAt (k : Nat) : String := (Rows.holderOldUptoRow.laid.map fun x => x.1).getD k default
set_option maxRecDepth 100000 in
theorem onlyH : Rows.holderOldUptoRow.laid.filter (isTexts 8) = [(nameAt 1, .agg (names8.map fun s => .lit (.string s)))] := by rfl
set_option maxRecDepth 100000 in
theorem gv_of {W : World} (h : laidMetH Tryd.prog Rows.holderOldUptoRow.laid W) : HB W := by
  have h1 := h.filter (isTexts 8)
  rw [onlyH, Go.MakeChecks.laidMetH_plain _ _ _ (by rfl)] at h1
  exact fun i hi => texts_of_laid (P := Tryd.prog) (g := 0) (t := 82) (e := 9) (n := 8) (by kernel_rfl) (by kernel_rfl) (by kernel_rfl) Tryd.underlying9 (by kernel_rfl) (by kernel_rfl) h1 i hi

set_option maxRecDepth 100000 in
theorem contract (H : Type) (enc : TypeId × Value → H) (W : World) (base : Nat) (args : Array Value) (ds gs : List (DataW H)) (before : List MemPlace) (VT : List TypeId)
    (_hR : (DataW.weightsEach Tryd.prog (Tryd.f6.params.toList ++ VT) (ds ++ gs)).all (· ≤ reachBytes) = true)
    (hval : ∀ (j : Nat) t v, Tryd.f6.params[j]? = some t → args[j]? = some v → Value.okWide Tryd.prog W .any base t v)
    (hW : DataW.Whole enc Tryd.prog Tryd.f6.params.toList Rows.holderOldSpec.vars false W args.toList ds gs before) (hk : Rows.uptoSmall H (ds ++ gs) = true) (hg : HB W) :
    Calls Tryd.prog 6 args W fun e W' => ∃ v, e = .returned v ∧ Rows.holderOldSpec.post enc Tryd.prog Tryd.f6 false true false false W args v W' := by
  have hW' := hW
  obtain ⟨p, q, hA0, hV, rfl, hfz, hnd⟩ := hW
  have hA : DataW.TrodAll enc Tryd.prog W 0 (fun _ => true) true Tryd.f6.params.toList args.toList ds p := hA0
  rw [Tryd.params6] at hA hval
  have hst : ∀ W', Below W.heap.size W W' → DataW.TrodAll enc Tryd.prog W' 0 (fun b => decide (b < W.heap.size)) true [22, 22] args.toList ds p := fun W' hb =>
    args_stay Tryd.laidOutAll hb [22, 22] _ _ _ (fun t ht => by simp at ht; subst ht <;> first | exact ⟨rec22, row22⟩) hA
  obtain ⟨v0, vs0, d0, ds0, p0, q0, ha0, rfl, rfl, h0, r0⟩ := trodAll_cons hA
  obtain ⟨v1, vs1, d1, ds1, p1, q1, ha1, rfl, rfl, h1, r1⟩ := trodAll_cons r0
  obtain ⟨hz, rfl, rfl⟩ := trodAll_nil r1
  obtain rfl : args = #[v0, v1] := by cases args; simp_all
  obtain ⟨rfl, rfl⟩ := trodVars_none hV
  obtain ⟨a0, A0, c0, rfl, hr0, hl0, hm0, _, hb0⟩ := open_segsB Tryd.underlying22 Tryd.underlying9 (by kernel_rfl) (hval 0 22 v0 rfl rfl) h0
  obtain ⟨a1, A1, c1, rfl, hr1, hl1, hm1, _, hb1⟩ := open_segsB Tryd.underlying22 Tryd.underlying9 (by kernel_rfl) (hval 1 22 v1 rfl rfl) h1
  simp only [List.append_nil] at hW' hst hk
  have hz0 : ∀ x ∈ a0, x.length ≤ 1048576 := fun x hx => Nat.le_trans (hb0 x hx) (bulk_two hk).1
  have hz1 : ∀ x ∈ a1, x.length ≤ 1048576 := fun x hx => Nat.le_trans (hb1 x hx) (bulk_two hk).2
  refine (old_walk a0 A0 c0 a1 A1 c1 W hr0 hl0 hm0 hz0 hr1 hl1 hm1 hz1 hg).mono fun e W' ⟨he, hnx⟩ => ?_
  subst he
  exact ⟨_, rfl, _, _, _, [], _, [], hW', (trodAll_cons_mk (shut_bool Tryd.underlying4 _) trodAll_mk0), hst W' hnx, rfl, hnx.frame _, fun h => by cases h⟩

def nameCells : Array Value := (names8.map fun s => Value.string ⟨s.toArray⟩).toArray
def firstCells : Array Value := (Go.Pinned.utf8FirstZ.map fun (n : Nat) => Value.int .u8 (n : Int)).toArray
def rangeCells : Array Value := #[.int .u8 128, .int .u8 191, .int .u8 160, .int .u8 191, .int .u8 128, .int .u8 159, .int .u8 144, .int .u8 191, .int .u8 128, .int .u8 143, .int .u8 0, .int .u8 0, .int .u8 0, .int .u8 0, .int .u8 0, .int .u8 0, .int .u8 0, .int .u8 0, .int .u8 0, .int .u8 0, .int .u8 0, .int .u8 0, .int .u8 0, .int .u8 0, .int .u8 0, .int .u8 0, .int .u8 0, .int .u8 0, .int .u8 0, .int .u8 0, .int .u8 0, .int .u8 0]
def holds (c : Array Value) : Obj → Obj
  | .cells _ t frozen => .cells c t frozen
  | o => o
/-- A world for the witness: the settled one, the listed variables holding what their initialisers lay. -/
noncomputable def laidWorld (os : Os) : World :=
  { World.holding Tryd.prog os ⟨#[], #[], []⟩ with heap := ((((World.holding Tryd.prog os ⟨#[], #[], []⟩).heap.modify 0 (holds nameCells)).modify 2 (holds firstCells)).modify 3 (holds rangeCells)) }
theorem laid_met (os : Os) : laidMet Tryd.prog Rows.holderOldUptoRow.laid ((laidWorld os).forCall (fun _ _ => 0) ⟨#[], #[.slice none 0 0, .slice none 0 0], []⟩).memory :=
  laidMet_of_run' 8 (by kernel_rfl) (by kernel_rfl)
theorem reads (os : Os) {H : Type} (enc : TypeId × Value → H) : ∃ places, DataW.whole enc Tryd.prog ((laidWorld os).forCall (fun _ _ => 0) ⟨#[], #[.slice none 0 0, .slice none 0 0], []⟩).memory Tryd.f6.params.toList Rows.holderOldSpec.vars false #[(Value.slice none 0 0), .slice none 0 0].toList 8 = some ([.nil, .nil], [], places) :=
  ⟨[], by kernel_rfl⟩

set_option maxRecDepth 100000 in
theorem lifted (os : Os) (started : os.Started) (H : Type) (enc : TypeId × Value → H) (F : Stop.Interp) :
    ReturnsInHanded {} Tryd.checked os 6 .any ((Rows.OpenSpec.upto Rows.holderOldSpec).preRow enc Tryd.prog Tryd.f6 Rows.holderOldUptoRow.domain false Rows.holderOldUptoRow.laid) (((Rows.OpenSpec.upto Rows.holderOldSpec).at F).post enc Tryd.prog Tryd.f6 false true false false) := by
  obtain ⟨places, hx⟩ := reads os enc
  refine returnsInHanded_of_row (C := Tryd.checked) (s := Rows.OpenSpec.upto Rows.holderOldSpec) own started (by kernel_rfl) Tryd.func6
    (witness_row_at (enc := enc) (C := Tryd.checked) false (laidWorld os) #[.slice none 0 0, .slice none 0 0] rfl (by kernel_rfl) (by kernel_rfl) (by kernel_rfl)
      (OpenSpec.preRow_of_cond 8 hx (by kernel_rfl) (fun k hk => by cases hk; kernel_rfl) (by kernel_rfl) (laid_met os))) ?_
  intro W base args ds gs before hval hW _ hcond hR hL _ _
  exact contract H enc W base args ds gs before _ hR hval hW (hcond _ rfl) (gv_of hL)

set_option maxRecDepth 100000 in
theorem said : Rows.HolderOldUptoSaid :=
  OpenClaim.holds_of_cond 6 Tryd.f6 rfl rfl rfl rfl rfl rfl rfl ⟨rfl, rfl, rfl, rfl, rfl⟩ rfl rfl rfl rfl rfl (by kernel_rfl) Tryd.func6 (by kernel_rfl)
    (of_decide_eq_true (by kernel_rfl)) (by unfold Func.isWrapper; first | (rw [if_pos (by decide +kernel)]; kernel_rfl) | (rw [if_neg (by decide +kernel)]; exact ⟨rfl, rfl⟩))
    (fun os started H enc _ F => by rw [OpenClaim.pre_eq_preRow]; exact lifted os started H enc F)

set_option maxRecDepth 100000 in
theorem plain (f : FuncId) (fn : Func) (hf : Tryd.pinned.checked.prog.funcNamed Rows.holderOldUptoRow.func = some f) (hfn : Tryd.pinned.checked.prog.funcs[f]? = some fn) :
    false = Tryd.pinned.checked.prog.looks [] ∧ ∀ (j : Nat) t, fn.params[j]? = some t → Tryd.pinned.checked.prog.wantsStandIn t = false := by
  obtain rfl : f = 6 := Option.some.inj ((show Tryd.prog.funcNamed Rows.holderOldUptoRow.func = some 6 by kernel_rfl).symm.trans hf) |>.symm
  obtain rfl : fn = Tryd.f6 := (Option.some.inj (Tryd.func6.symm.trans hfn)).symm
  refine ⟨by kernel_rfl, fun j t ht => ?_⟩
  rw [Tryd.params6] at ht
  have hm := Array.mem_of_getElem? ht
  simp at hm
  subst hm
  all_goals first | exact (show Tryd.prog.wantsStandIn 22 = false by kernel_rfl)

set_option maxRecDepth 100000 in
theorem card : Rows.HolderOldUptoCardSaid :=
  Claim7.holds_tied_plain_at .later [] _ _ _ _ said (fun _ h => by cases h) (by kernel_rfl) (fun _ h => by cases h) holderOldUpto_row_tie rfl ⟨rfl, rfl⟩ (by kernel_rfl) rfl plain (by kernel_rfl)
end Go.Proofs.YtgfjkpfjajjidaaDoor.holderOldLaw
namespace Go.Proofs.YtgfjkpfjajjidaaDoor
theorem holderOldUpto_card : Rows.HolderOldUptoCardSaid := holderOldLaw.card
end Go.Proofs.YtgfjkpfjajjidaaDoor
