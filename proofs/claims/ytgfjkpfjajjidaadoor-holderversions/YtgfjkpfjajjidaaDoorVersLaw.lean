/- The law HolderVersions holds for every input: it returns true, and its arguments read behind the call as before. The card ties the tables that the row lists to the program's text; the proof reads one of them, that of the names of handlers. -/
import Derived.Test.YtgfjkpfjajjidaaDoorCards
import Derived.Test.YtgfjkpfjajjidaaDoorTie
import Derived.Test.YtgfjkpfjajjidaaDoorVersLow
import Derived.Test.YtgfjkpfjajjidaaDoorLifts
import Derived.ChangeMaps5
import Derived.ProofKit
import Derived.OpenShut
import Derived.Deep.DeepHandedRow
import Derived.Lib.LaidTab
import Derived.SizedLaws
import Derived.Shelf.Vars
import Derived.LaidSub
import Derived.MakeChecks
namespace Go.Proofs.YtgfjkpfjajjidaaDoor.holderVersionsLaw
open Go.ChangeShapes Go.WideShapes Go.ChangeAt Go.RowKit
open Go.ChangeMaps (open_string shut_string)

theorem own : ownKnob Tryd.prog.godebug = none := by kernel_rfl
theorem rec55 : Tryd.prog.readableRec 55 = true := by kernel_rfl
theorem row55 : 55 < Tryd.prog.types.size := of_decide_eq_true (by kernel_rfl)

def isTexts (n : Nat) (x : String × DataW Unit) : Bool :=
  match x.2 with
  | .agg l => l.length == n && (match l.head? with | some (.lit (.string _)) => true | _ => false)
  | _ => false
def nameAt (k : Nat) : String := (Rows.holderVersionsRow.laid.map fun x => x.1).getD k default
set_option maxRecDepth 100000 in
theorem onlyH : Rows.holderVersionsRow.laid.filter (isTexts 8) = [(nameAt 1, .agg (names8.map fun s => .lit (.string s)))] := by rfl
set_option maxRecDepth 100000 in
theorem gv_of {W : World} (h : laidMetH Tryd.prog Rows.holderVersionsRow.laid W) : HB W := by
  have h1 := h.filter (isTexts 8)
  rw [onlyH, Go.MakeChecks.laidMetH_plain _ _ _ (by rfl)] at h1
  exact fun i hi => texts_of_laid (P := Tryd.prog) (g := 0) (t := 82) (e := 9) (n := 8) (by kernel_rfl) (by kernel_rfl) (by kernel_rfl) Tryd.underlying9 (by kernel_rfl) (by kernel_rfl) h1 i hi

set_option maxRecDepth 100000 in
theorem contract (H : Type) (enc : TypeId × Value → H) (W : World) (base : Nat) (args : Array Value) (ds gs : List (DataW H)) (before : List MemPlace) (VT : List TypeId)
    (_hR : (DataW.weightsEach Tryd.prog (Tryd.f5.params.toList ++ VT) (ds ++ gs)).all (· ≤ reachBytes) = true)
    (hval : ∀ (j : Nat) t v, Tryd.f5.params[j]? = some t → args[j]? = some v → Value.okWide Tryd.prog W .any base t v)
    (hW : DataW.Whole enc Tryd.prog Tryd.f5.params.toList Rows.holderVersionsSpec.vars false W args.toList ds gs before) (hg : HB W) :
    Calls Tryd.prog 5 args W fun e W' => ∃ v, e = .returned v ∧ Rows.holderVersionsSpec.post enc Tryd.prog Tryd.f5 false true false false W args v W' := by
  have hW' := hW
  obtain ⟨p, q, hA0, hV, rfl, hfz, hnd⟩ := hW
  have hA : DataW.TrodAll enc Tryd.prog W 0 (fun _ => true) true Tryd.f5.params.toList args.toList ds p := hA0
  rw [Tryd.params5] at hA hval
  have hst : ∀ W', Below W.heap.size W W' → DataW.TrodAll enc Tryd.prog W' 0 (fun b => decide (b < W.heap.size)) true [55] args.toList ds p := fun W' hb =>
    args_stay Tryd.laidOutAll hb [55] _ _ _ (fun t ht => by simp at ht; subst ht <;> first | exact ⟨rec55, row55⟩) hA
  obtain ⟨v0, vs0, d0, ds0, p0, q0, ha0, rfl, rfl, h0, r0⟩ := trodAll_cons hA
  obtain ⟨hz, rfl, rfl⟩ := trodAll_nil r0
  obtain rfl : args = #[v0] := by cases args; simp_all
  obtain ⟨rfl, rfl⟩ := trodVars_none hV
  obtain ⟨a0, A0, c0, rfl, hr0, hl0, hm0⟩ := open_bls Tryd.underlying55 Tryd.underlying4 (by kernel_rfl) (hval 0 55 v0 rfl rfl) h0
  simp only [List.append_nil] at hW' hst
  refine (vers_walk a0 A0 c0 W hr0 hl0 hm0 hg).mono fun e W' ⟨he, hnx⟩ => ?_
  subst he
  exact ⟨_, rfl, _, _, _, [], _, [], hW', (trodAll_cons_mk (shut_bool Tryd.underlying4 _) trodAll_mk0), hst W' hnx, rfl, hnx.frame _, fun h => by cases h⟩

def nameCells : Array Value := (names8.map fun s => Value.string ⟨s.toArray⟩).toArray
def firstCells : Array Value := (Go.Pinned.utf8FirstZ.map fun (n : Nat) => Value.int .u8 (n : Int)).toArray
def rangeCells : Array Value := #[.int .u8 128, .int .u8 191, .int .u8 160, .int .u8 191, .int .u8 128, .int .u8 159, .int .u8 144, .int .u8 191, .int .u8 128, .int .u8 143, .int .u8 0, .int .u8 0, .int .u8 0, .int .u8 0, .int .u8 0, .int .u8 0, .int .u8 0, .int .u8 0, .int .u8 0, .int .u8 0, .int .u8 0, .int .u8 0, .int .u8 0, .int .u8 0, .int .u8 0, .int .u8 0, .int .u8 0, .int .u8 0, .int .u8 0, .int .u8 0, .int .u8 0, .int .u8 0]
def holds (c : Array Value) : Obj → Obj
  | .cells _ t frozen => .cells c t frozen
  | o => o
/-- A world for the witness: the settled one, the listed variables holding what their initialisers lay. -/
noncomputable def laidWorld (os : Os) : World :=
  { World.holding Tryd.prog os ⟨#[], #[], []⟩ with heap := ((((World.holding Tryd.prog os ⟨#[], #[], []⟩).heap.modify 0 (holds nameCells)).modify 2 (holds firstCells)).modify 3 (holds rangeCells)) }
theorem laid_met (os : Os) : laidMet Tryd.prog Rows.holderVersionsRow.laid ((laidWorld os).forCall (fun _ _ => 0) ⟨#[], #[.slice none 0 0], []⟩).memory :=
  laidMet_of_run' 8 (by kernel_rfl) (by kernel_rfl)
theorem reads (os : Os) {H : Type} (enc : TypeId × Value → H) : ∃ places, DataW.whole enc Tryd.prog ((laidWorld os).forCall (fun _ _ => 0) ⟨#[], #[.slice none 0 0], []⟩).memory Tryd.f5.params.toList Rows.holderVersionsSpec.vars false #[(Value.slice none 0 0)].toList 8 = some ([.nil], [], places) :=
  ⟨[], by kernel_rfl⟩

set_option maxRecDepth 100000 in
theorem lifted (os : Os) (started : os.Started) (H : Type) (enc : TypeId × Value → H) (F : Stop.Interp) :
    ReturnsInHanded {} Tryd.checked os 5 .any ((OpenSpec.ofChange Rows.holderVersionsSpec).preRow enc Tryd.prog Tryd.f5 Rows.holderVersionsRow.domain false Rows.holderVersionsRow.laid) (((OpenSpec.ofChange Rows.holderVersionsSpec).at F).post enc Tryd.prog Tryd.f5 false true false false) := by
  obtain ⟨places, hx⟩ := reads os enc
  refine returnsInHanded_of_row (C := Tryd.checked) (s := OpenSpec.ofChange Rows.holderVersionsSpec) own started (by kernel_rfl) Tryd.func5
    (witness_row_at (enc := enc) (C := Tryd.checked) false (laidWorld os) #[.slice none 0 0] rfl (by kernel_rfl) (by kernel_rfl) (by kernel_rfl)
      (OpenSpec.preRow_of_cond 8 hx (by kernel_rfl) (fun k hk => by cases hk) (by kernel_rfl) (laid_met os))) ?_
  intro W base args ds gs before hval hW _ _ hR hL _ _
  exact contract H enc W base args ds gs before _ hR hval hW (gv_of hL)

set_option maxRecDepth 100000 in
theorem said : Rows.HolderVersionsSaid :=
  OpenClaim.holds_of_cond 5 Tryd.f5 rfl rfl rfl rfl rfl rfl rfl ⟨rfl, rfl, rfl, rfl, rfl⟩ rfl rfl rfl rfl rfl (by kernel_rfl) Tryd.func5 (by kernel_rfl)
    (of_decide_eq_true (by kernel_rfl)) (by unfold Func.isWrapper; first | (rw [if_pos (by decide +kernel)]; kernel_rfl) | (rw [if_neg (by decide +kernel)]; exact ⟨rfl, rfl⟩))
    (fun os started H enc _ F => by rw [OpenClaim.pre_eq_preRow]; exact lifted os started H enc F)

set_option maxRecDepth 100000 in
theorem plain (f : FuncId) (fn : Func) (hf : Tryd.pinned.checked.prog.funcNamed Rows.holderVersionsRow.func = some f) (hfn : Tryd.pinned.checked.prog.funcs[f]? = some fn) :
    false = Tryd.pinned.checked.prog.looks [] ∧ ∀ (j : Nat) t, fn.params[j]? = some t → Tryd.pinned.checked.prog.wantsStandIn t = false := by
  obtain rfl : f = 5 := Option.some.inj ((show Tryd.prog.funcNamed Rows.holderVersionsRow.func = some 5 by kernel_rfl).symm.trans hf) |>.symm
  obtain rfl : fn = Tryd.f5 := (Option.some.inj (Tryd.func5.symm.trans hfn)).symm
  refine ⟨by kernel_rfl, fun j t ht => ?_⟩
  rw [Tryd.params5] at ht
  have hm := Array.mem_of_getElem? ht
  simp at hm
  subst hm
  all_goals first | exact (show Tryd.prog.wantsStandIn 55 = false by kernel_rfl)

set_option maxRecDepth 100000 in
theorem card : Rows.HolderVersionsCardSaid :=
  Claim7.holds_tied_plain_at .later [] _ _ _ _ said (fun _ h => by cases h) (by kernel_rfl) (fun _ h => by cases h) holderVersions_row_tie rfl ⟨rfl, rfl⟩ (by kernel_rfl) rfl plain (by kernel_rfl)
end Go.Proofs.YtgfjkpfjajjidaaDoor.holderVersionsLaw
namespace Go.Proofs.YtgfjkpfjajjidaaDoor
theorem holderVersions_card : Rows.HolderVersionsCardSaid := holderVersionsLaw.card
end Go.Proofs.YtgfjkpfjajjidaaDoor
