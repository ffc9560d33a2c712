/- The law CutterWhole holds for every input: it returns true, and its arguments read behind the call as before. The card ties the tables that the row lists to the program's text; the proof reads the law's own three tables and one cell of one of math/bits. -/
import Derived.Test.YtkjlbddaglcooaaGreatDoorCards
import Derived.Test.YtkjlbddaglcooaaGreatDoorTie
import Derived.Test.YtkjlbddaglcooaaGreatDoorWhole
import Derived.Test.YtkjlbddaglcooaaGreatDoorLiftZ
import Derived.Test.YtkjlbddaglcooaaGreatDoorLift
import Derived.ChangeMaps5
import Derived.ProofKit
import Derived.OpenShut
import Derived.Deep.DeepHandedRow
import Derived.Lib.LaidTab
import Derived.SizedLaws
import Derived.Shelf.Vars
import Derived.LaidSub
import Derived.MakeChecks
namespace Go.Proofs.YtkjlbddaglcooaaGreatDoor.cutterWholeLaw
open Go.ChangeShapes Go.WideShapes Go.ChangeAt Go.RowKit
open Go.ChangeMaps (open_string shut_string)

theorem mx_shaped {W : World} (h : W.ShapedOpen Tryz.prog) : MX W := cell_of_shapedOpen_int (g := 4) (t := 3) (zero := #[.int .i64 0]) (k := .i64) h (of_decide_eq_true (by kernel_rfl)) (by kernel_rfl) rfl (by kernel_rfl) (by kernel_rfl) Tryz.underlying3
theorem own : ownKnob Tryz.prog.godebug = none := by kernel_rfl
theorem rec3 : Tryz.prog.readableRec 3 = true := by kernel_rfl
theorem row3 : 3 < Tryz.prog.types.size := of_decide_eq_true (by kernel_rfl)
theorem rec9 : Tryz.prog.readableRec 9 = true := by kernel_rfl
theorem row9 : 9 < Tryz.prog.types.size := of_decide_eq_true (by kernel_rfl)
theorem rec25 : Tryz.prog.readableRec 25 = true := by kernel_rfl
theorem row25 : 25 < Tryz.prog.types.size := of_decide_eq_true (by kernel_rfl)

def isInts (n : Nat) (x : String × DataW Unit) : Bool :=
  match x.2 with
  | .agg l => l.length == n && (match l.head? with | some (.lit (.int .u8 _)) => true | _ => false)
  | _ => false
def isTexts (n : Nat) (x : String × DataW Unit) : Bool :=
  match x.2 with
  | .agg l => l.length == n && (match l.head? with | some (.lit (.string _)) => true | _ => false)
  | _ => false
def nameAt (k : Nat) : String := (Rows.cutterWholeRow.laid.map fun x => x.1).getD k default
set_option maxRecDepth 100000 in
theorem only64 : Rows.cutterWholeRow.laid.filter (isInts 64) = [(nameAt 1, Lib.tabData .u8 [0, 1, 56, 2, 57, 49, 28, 3, 61, 58, 42, 50, 38, 29, 17, 4, 62, 47, 59, 36, 45, 43, 51, 22, 53, 39, 33, 30, 24, 18, 12, 5, 63, 55, 48, 27, 60, 41, 37, 16, 46, 35, 44, 21, 52, 32, 23, 11, 54, 26, 40, 15, 34, 20, 31, 10, 25, 14, 19, 9, 13, 8, 7, 6])] := by rfl
def textsM : List (List UInt8) := [[71, 69, 84], [80, 85, 84], [80, 79, 83, 84], [68, 69, 76, 69, 84, 69], [71, 69, 84], [72, 69, 65, 68]]
set_option maxRecDepth 100000 in
theorem onlyM : Rows.cutterWholeRow.laid.filter (isTexts 6) = [(nameAt 4, .agg (textsM.map fun s => .lit (.string s)))] := by rfl
def textsT : List (List UInt8) := [[47, 104, 101, 97, 108, 116, 104], [47, 107, 118, 47, 97], [47, 107, 118, 47, 98], [47, 107, 118, 47, 99, 37, 50, 48, 100], [47, 108, 105, 115, 116, 47], [47, 108, 105, 115, 116, 47, 97], [47, 119, 97, 108, 107, 47, 70, 76, 70], [47, 119, 97, 108, 107, 47, 120], [47, 97, 100, 109, 105, 110, 47, 114, 111, 117, 116, 101, 115], [47, 97, 100, 109, 105, 110, 47, 115, 116, 111, 112], [47, 110, 111, 112, 101], [47, 107, 118], [47, 107, 118, 47, 97], [47, 107, 118, 47, 98, 63, 120], [47, 107, 118, 47, 37, 122, 122], [47]]
set_option maxRecDepth 100000 in
theorem onlyT : Rows.cutterWholeRow.laid.filter (isTexts 16) = [(nameAt 5, .agg (textsT.map fun s => .lit (.string s)))] := by rfl
def textsB : List (List UInt8) := [[], [111, 110, 101], [116, 119, 111], [71, 69, 84, 32, 47, 104, 101, 97, 108, 116, 104, 32, 104, 101, 97, 108, 116, 104, 10, 80, 85, 84, 32, 47, 107, 118, 47, 58, 107, 32, 112, 117, 116, 10, 71, 69, 84, 32, 47, 107, 118, 47, 58, 107, 32, 103, 101, 116, 10, 80, 79, 83, 84, 32, 47, 97, 100, 109, 105, 110, 47, 114, 111, 117, 116, 101, 115, 32, 114, 101, 108, 111, 97, 100, 10], [71, 69, 84, 32, 47, 97, 47, 58, 120, 32, 103, 101, 116, 10, 71, 69, 84, 32, 47, 97, 47, 58, 121, 32, 112, 117, 116, 10], [106, 117, 110, 107], [], [80, 79, 83, 84, 32, 47, 97, 100, 109, 105, 110, 47, 114, 111, 117, 116, 101, 115, 32, 114, 101, 108, 111, 97, 100, 10, 80, 79, 83, 84, 32, 47, 97, 100, 109, 105, 110, 47, 115, 116, 111, 112, 32, 115, 104, 117, 116, 100, 111, 119, 110, 10, 71, 69, 84, 32, 47, 107, 118, 47, 58, 107, 101, 121, 32, 103, 101, 116, 10, 71, 69, 84, 32, 47, 42, 97, 108, 108, 32, 108, 105, 115, 116, 10, 80, 85, 84, 32, 47, 107, 118, 47, 58, 107, 101, 121, 32, 112, 117, 116, 10]]
set_option maxRecDepth 100000 in
theorem onlyB : Rows.cutterWholeRow.laid.filter (isTexts 8) = [(nameAt 6, .agg (textsB.map fun s => .lit (.string s)))] := by rfl
set_option maxRecDepth 100000 in
theorem tab_of_laid {W : World} (h : laidMetH Tryz.prog Rows.cutterWholeRow.laid W) : Tab W := by
  have h1 := h.filter (isInts 64)
  rw [only64, Go.MakeChecks.laidMetH_plain _ _ _ (by rfl)] at h1
  have h2 := Lib.tabIs_of_head (P := Tryz.prog) (g := 6) (t := 135) (e := 5) (n := 64) (by kernel_rfl) (by kernel_rfl) (by kernel_rfl) Tryz.underlying5 (by kernel_rfl) (by kernel_rfl) h1
  exact h2.cell (by kernel_rfl) 15 (by decide)
set_option maxRecDepth 100000 in
theorem textM_of_laid {W : World} (h : laidMetH Tryz.prog Rows.cutterWholeRow.laid W) (i : Nat) (hi : i < 6) : W.cell? ⟨2, i, none⟩ = some (.string (mkT (methodT i))) := by
  have h1 := h.filter (isTexts 6)
  rw [onlyM, Go.MakeChecks.laidMetH_plain _ _ _ (by rfl)] at h1
  have h2 := texts_of_laid (P := Tryz.prog) (g := 2) (t := 36) (e := 9) (n := 6) (by kernel_rfl) (by kernel_rfl) (by kernel_rfl) Tryz.underlying9 (by kernel_rfl) (by kernel_rfl) h1 i hi
  have h3 : ∀ j : Fin 6, textsM[j.1]'j.2 = methodT j.1 := by decide +kernel
  rw [h2, h3 ⟨i, hi⟩]
  rfl
set_option maxRecDepth 100000 in
theorem textT_of_laid {W : World} (h : laidMetH Tryz.prog Rows.cutterWholeRow.laid W) (i : Nat) (hi : i < 16) : W.cell? ⟨1, i, none⟩ = some (.string (mkT (targetT i))) := by
  have h1 := h.filter (isTexts 16)
  rw [onlyT, Go.MakeChecks.laidMetH_plain _ _ _ (by rfl)] at h1
  have h2 := texts_of_laid (P := Tryz.prog) (g := 1) (t := 35) (e := 9) (n := 16) (by kernel_rfl) (by kernel_rfl) (by kernel_rfl) Tryz.underlying9 (by kernel_rfl) (by kernel_rfl) h1 i hi
  have h3 : ∀ j : Fin 16, textsT[j.1]'j.2 = targetT j.1 := by decide +kernel
  rw [h2, h3 ⟨i, hi⟩]
  rfl
set_option maxRecDepth 100000 in
theorem textB_of_laid {W : World} (h : laidMetH Tryz.prog Rows.cutterWholeRow.laid W) (i : Nat) (hi : i < 8) : W.cell? ⟨0, i, none⟩ = some (.string (mkT (bodyT i))) := by
  have h1 := h.filter (isTexts 8)
  rw [onlyB, Go.MakeChecks.laidMetH_plain _ _ _ (by rfl)] at h1
  have h2 := texts_of_laid (P := Tryz.prog) (g := 0) (t := 34) (e := 9) (n := 8) (by kernel_rfl) (by kernel_rfl) (by kernel_rfl) Tryz.underlying9 (by kernel_rfl) (by kernel_rfl) h1 i hi
  have h3 : ∀ j : Fin 8, textsB[j.1]'j.2 = bodyT j.1 := by decide +kernel
  rw [h2, h3 ⟨i, hi⟩]
  rfl
theorem size_of_shaped {W : World} (h : MX W) (h6 : Tab W) : 6 < W.heap.size := World.block_lt_of_cell? _ _ h6
theorem tb_of_laid {W : World} (h : laidMetH Tryz.prog Rows.cutterWholeRow.laid W) : TB W :=
  ⟨textM_of_laid h, textT_of_laid h, textB_of_laid h, tab_of_laid h, World.block_lt_of_cell? _ _ (tab_of_laid h)⟩

set_option maxRecDepth 100000 in
theorem contract (H : Type) (enc : TypeId × Value → H) (W : World) (base : Nat) (args : Array Value) (ds gs : List (DataW H)) (before : List MemPlace) (VT : List TypeId)
    (hR : (DataW.weightsEach Tryz.prog (Tryz.f4.params.toList ++ VT) (ds ++ gs)).all (· ≤ reachBytes) = true)
    (hval : ∀ (j : Nat) t v, Tryz.f4.params[j]? = some t → args[j]? = some v → Value.okWide Tryz.prog W .any base t v)
    (hW : DataW.Whole enc Tryz.prog Tryz.f4.params.toList Rows.cutterWholeSpec.vars false W args.toList ds gs before) (hm : MX W) (htb : TB W) :
    Calls Tryz.prog 4 args W fun e W' => ∃ v, e = .returned v ∧ Rows.cutterWholeSpec.post enc Tryz.prog Tryz.f4 false true false false W args v W' := by
  have hW' := hW
  obtain ⟨p, q, hA0, hV, rfl, hfz, hnd⟩ := hW
  have hA : DataW.TrodAll enc Tryz.prog W 0 (fun _ => true) true Tryz.f4.params.toList args.toList ds p := hA0
  rw [Tryz.params4] at hA hval hR
  have hst : ∀ W', Below W.heap.size W W' → DataW.TrodAll enc Tryz.prog W' 0 (fun b => decide (b < W.heap.size)) true [25, 9, 3] args.toList ds p := fun W' hb =>
    args_stay Tryz.laidOutAll hb [25, 9, 3] _ _ _ (fun t ht => by simp at ht; rcases ht with rfl | rfl | rfl <;> first | exact ⟨rec3, row3⟩ | exact ⟨rec9, row9⟩ | exact ⟨rec25, row25⟩) hA
  obtain ⟨v0, vs0, d0, ds0, p0, q0, ha0, rfl, rfl, h0, r0⟩ := trodAll_cons hA
  obtain ⟨v1, vs1, d1, ds1, p1, q1, ha1, rfl, rfl, h1, r1⟩ := trodAll_cons r0
  obtain ⟨v2, vs2, d2, ds2, p2, q2, ha2, rfl, rfl, h2, r2⟩ := trodAll_cons r1
  obtain ⟨hz, rfl, rfl⟩ := trodAll_nil r2
  obtain rfl : args = #[v0, v1, v2] := by cases args; simp_all
  obtain ⟨rfl, rfl⟩ := trodVars_none hV
  obtain ⟨x00, x01, x02, x03, x04, x05, x06, y00, y01, y02, y03, y04, y05, y06, n0, rfl, u00, u01, u02, u03, u04, u05, u06⟩ := open_seven Tryz.underlying25 (by kernel_rfl) (by kernel_rfl) (hval 0 25 v0 rfl rfl) h0
  obtain ⟨z00, e00, _⟩ := DataW.trod_int Tryz.underlying3 u00
  obtain ⟨z01, e01, _⟩ := DataW.trod_int Tryz.underlying3 u01
  obtain ⟨z02, e02, _⟩ := DataW.trod_int Tryz.underlying3 u02
  obtain ⟨z03, e03, _⟩ := DataW.trod_int Tryz.underlying3 u03
  obtain ⟨z04, e04, _⟩ := DataW.trod_int Tryz.underlying3 u04
  obtain ⟨z06, e06, _⟩ := DataW.trod_int Tryz.underlying3 u06
  obtain ⟨z05, e05, _⟩ := DataW.trod_bool Tryz.underlying4 u05
  obtain rfl := (List.cons.inj e00).1
  obtain rfl := (List.cons.inj e01).1
  obtain rfl := (List.cons.inj e02).1
  obtain rfl := (List.cons.inj e03).1
  obtain rfl := (List.cons.inj e04).1
  obtain rfl := (List.cons.inj e05).1
  obtain rfl := (List.cons.inj e06).1
  obtain ⟨a1, rfl, rfl, rfl, w1⟩ := open_string Tryz.underlying9 (hval 1 9 v1 rfl rfl) h1
  obtain ⟨a2, rfl, rfl, rfl, w2⟩ := open_int Tryz.underlying3 (hval 2 3 v2 rfl rfl) h2
  clear hR
  simp only [List.append_nil] at hW' hst
  refine (whole_walk z00 z01 z02 z03 z04 z06 a1 a2 z05 W  hm htb).mono fun e W' ⟨he, hnx⟩ => ?_
  subst he
  exact ⟨_, rfl, _, _, _, [], _, [], hW', (trodAll_cons_mk (shut_bool Tryz.underlying4 _) trodAll_mk0), hst W' hnx, rfl, hnx.frame _, fun h => by cases h⟩

def firstCells : Array Value := (Go.Pinned.utf8FirstZ.map fun (n : Nat) => Value.int .u8 (n : Int)).toArray
def rangeCells : Array Value := #[.int .u8 128, .int .u8 191, .int .u8 160, .int .u8 191, .int .u8 128, .int .u8 159, .int .u8 144, .int .u8 191, .int .u8 128, .int .u8 143, .int .u8 0, .int .u8 0, .int .u8 0, .int .u8 0, .int .u8 0, .int .u8 0, .int .u8 0, .int .u8 0, .int .u8 0, .int .u8 0, .int .u8 0, .int .u8 0, .int .u8 0, .int .u8 0, .int .u8 0, .int .u8 0, .int .u8 0, .int .u8 0, .int .u8 0, .int .u8 0, .int .u8 0, .int .u8 0]
def cells32 : Array Value := ([0, 1, 28, 2, 29, 14, 24, 3, 30, 22, 20, 15, 25, 17, 4, 8, 31, 27, 13, 23, 21, 19, 16, 7, 26, 12, 18, 6, 11, 5, 10, 9].map fun (n : Int) => Value.int .u8 n).toArray
def cells64 : Array Value := ([0, 1, 56, 2, 57, 49, 28, 3, 61, 58, 42, 50, 38, 29, 17, 4, 62, 47, 59, 36, 45, 43, 51, 22, 53, 39, 33, 30, 24, 18, 12, 5, 63, 55, 48, 27, 60, 41, 37, 16, 46, 35, 44, 21, 52, 32, 23, 11, 54, 26, 40, 15, 34, 20, 31, 10, 25, 14, 19, 9, 13, 8, 7, 6].map fun (n : Int) => Value.int .u8 n).toArray
def cells10 : Array Value := ([1, 10, 100, 1000, 10000, 100000, 1000000, 10000000, 100000000, 1000000000, 10000000000, 100000000000, 1000000000000, 10000000000000, 100000000000000, 1000000000000000, 10000000000000000, 100000000000000000, 1000000000000000000, 10000000000000000000].map fun (n : Int) => Value.int .u64 n).toArray
def textCellsM : Array Value := (textsM.map fun s => Value.string ⟨s.toArray⟩).toArray
def textCellsT : Array Value := (textsT.map fun s => Value.string ⟨s.toArray⟩).toArray
def textCellsB : Array Value := (textsB.map fun s => Value.string ⟨s.toArray⟩).toArray
def holds (c : Array Value) : Obj → Obj
  | .cells _ t frozen => .cells c t frozen
  | o => o
/-- A world for the witness: the settled one, the listed tables holding what their initialisers lay. -/
noncomputable def laidWorld (os : Os) : World :=
  { World.holding Tryz.prog os ⟨#[], #[], []⟩ with heap := (((((((((World.holding Tryz.prog os ⟨#[], #[], []⟩).heap.modify 7 (holds firstCells)).modify 8 (holds rangeCells)).modify 5 (holds cells32)).modify 6 (holds cells64)).modify 3 (holds cells10)).modify 2 (holds textCellsM)).modify 1 (holds textCellsT)).modify 0 (holds textCellsB)) }
theorem laid_met (os : Os) : laidMet Tryz.prog Rows.cutterWholeRow.laid ((laidWorld os).forCall (fun _ _ => 0) ⟨#[], #[.agg #[.int .i64 0, .int .i64 0, .int .i64 0, .int .i64 0, .int .i64 0, .bool false, .int .i64 0], .string ⟨#[]⟩, .int .i64 0], []⟩).memory :=
  laidMet_of_run' 8 (by kernel_rfl) (by kernel_rfl)
theorem reads (os : Os) {H : Type} (enc : TypeId × Value → H) : ∃ places, DataW.whole enc Tryz.prog ((laidWorld os).forCall (fun _ _ => 0) ⟨#[], #[.agg #[.int .i64 0, .int .i64 0, .int .i64 0, .int .i64 0, .int .i64 0, .bool false, .int .i64 0], .string ⟨#[]⟩, .int .i64 0], []⟩).memory Tryz.f4.params.toList Rows.cutterWholeSpec.vars false #[Value.agg #[.int .i64 0, .int .i64 0, .int .i64 0, .int .i64 0, .int .i64 0, .bool false, .int .i64 0], .string ⟨#[]⟩, .int .i64 0].toList 8 = some ([.agg [.lit (.int .i64 0), .lit (.int .i64 0), .lit (.int .i64 0), .lit (.int .i64 0), .lit (.int .i64 0), .lit (.bool false), .lit (.int .i64 0)], .lit (.string []), .lit (.int .i64 0)], [], places) :=
  ⟨[], by kernel_rfl⟩

set_option maxRecDepth 100000 in
theorem lifted (os : Os) (started : os.Started) (H : Type) (enc : TypeId × Value → H) (F : Stop.Interp) :
    ReturnsInHanded {} Tryz.checked os 4 .any ((OpenSpec.ofChange Rows.cutterWholeSpec).preRow enc Tryz.prog Tryz.f4 Rows.cutterWholeRow.domain false Rows.cutterWholeRow.laid) (((OpenSpec.ofChange Rows.cutterWholeSpec).at F).post enc Tryz.prog Tryz.f4 false true false false) := by
  obtain ⟨places, hx⟩ := reads os enc
  refine returnsInHanded_of_row (C := Tryz.checked) (s := OpenSpec.ofChange Rows.cutterWholeSpec) own started (by kernel_rfl) Tryz.func4
    (witness_row_at (enc := enc) (C := Tryz.checked) false (laidWorld os) #[.agg #[.int .i64 0, .int .i64 0, .int .i64 0, .int .i64 0, .int .i64 0, .bool false, .int .i64 0], .string ⟨#[]⟩, .int .i64 0] rfl (by kernel_rfl) (by kernel_rfl) (by kernel_rfl)
      (OpenSpec.preRow_of_cond 8 hx (by kernel_rfl) (fun k hk => by cases hk) (by kernel_rfl) (laid_met os))) ?_
  intro W base args ds gs before hval hW _ _ hR hL hSO _
  exact contract H enc W base args ds gs before _ hR hval hW (mx_shaped hSO) (tb_of_laid hL)

set_option maxRecDepth 100000 in
theorem said : Rows.CutterWholeSaid :=
  OpenClaim.holds_of_cond 4 Tryz.f4 rfl rfl rfl rfl rfl rfl rfl ⟨rfl, rfl, rfl, rfl, rfl⟩ rfl rfl rfl rfl rfl (by kernel_rfl) Tryz.func4 (by kernel_rfl)
    (of_decide_eq_true (by kernel_rfl)) (by unfold Func.isWrapper; first | (rw [if_pos (by decide +kernel)]; kernel_rfl) | (rw [if_neg (by decide +kernel)]; exact ⟨rfl, rfl⟩))
    (fun os started H enc _ F => by rw [OpenClaim.pre_eq_preRow]; exact lifted os started H enc F)

set_option maxRecDepth 100000 in
theorem plain (f : FuncId) (fn : Func) (hf : Tryz.pinned.checked.prog.funcNamed Rows.cutterWholeRow.func = some f) (hfn : Tryz.pinned.checked.prog.funcs[f]? = some fn) :
    false = Tryz.pinned.checked.prog.looks [] ∧ ∀ (j : Nat) t, fn.params[j]? = some t → Tryz.pinned.checked.prog.wantsStandIn t = false := by
  obtain rfl : f = 4 := Option.some.inj ((show Tryz.prog.funcNamed Rows.cutterWholeRow.func = some 4 by kernel_rfl).symm.trans hf) |>.symm
  obtain rfl : fn = Tryz.f4 := (Option.some.inj (Tryz.func4.symm.trans hfn)).symm
  refine ⟨by kernel_rfl, fun j t ht => ?_⟩
  rw [Tryz.params4] at ht
  have hm := Array.mem_of_getElem? ht
  simp at hm
  rcases hm with rfl | rfl | rfl
  all_goals first | exact (show Tryz.prog.wantsStandIn 3 = false by kernel_rfl) | exact (show Tryz.prog.wantsStandIn 9 = false by kernel_rfl) | exact (show Tryz.prog.wantsStandIn 25 = false by kernel_rfl)

set_option maxRecDepth 100000 in
theorem card : Rows.CutterWholeCardSaid :=
  Claim7.holds_tied_plain_at .later [] _ _ _ _ said (fun _ h => by cases h) (by kernel_rfl) (fun _ h => by cases h) cutterWhole_row_tie rfl ⟨rfl, rfl⟩ (by kernel_rfl) rfl plain (by kernel_rfl)
end Go.Proofs.YtkjlbddaglcooaaGreatDoor.cutterWholeLaw
namespace Go.Proofs.YtkjlbddaglcooaaGreatDoor
theorem cutterWhole_card : Rows.CutterWholeCardSaid := cutterWholeLaw.card
end Go.Proofs.YtkjlbddaglcooaaGreatDoor
