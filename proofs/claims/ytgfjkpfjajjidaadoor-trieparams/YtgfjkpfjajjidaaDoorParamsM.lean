/- What TrieParams makes in memory: a map of one entry, a row of one byte; a region that draws its order, whose readings are held by what stands by then. -/
import Derived.Test.YtgfjkpfjajjidaaDoorParamsP
import Derived.Carry
import Derived.MapKept
import Derived.Deep.RegionHeld
import Derived.Deep.RegionHeld3
namespace Go.Proofs.YtgfjkpfjajjidaaDoor
open Go.RowKit Pl

section
variable {P : Program} {ops : Array Oper} {Q : Exit → Act → World → Prop} {md : Region.Mode}
theorem held_mono {S S' : World → Prop} (h : ∀ w, S' w → S w) : ∀ (fuel : Nat) (listed : Array Bool) (a : Act) (w : World), wpAnyH P md ops Q S' fuel listed a w → wpAnyH P md ops Q S fuel listed a w
  | 0, _, _, _, hh => hh
  | fuel + 1, _, _, _, hh => ⟨hh.1, fun i hi => wpOp_mono (fun a' w' h' => ⟨h _ h'.1, held_mono h fuel _ a' w' h'.2⟩) (hh.2 i hi)⟩
end
theorem skipH {P : Program} {ops : Array Oper} {Q : Exit → Act → World → Prop} {md : Region.Mode} {S : World → Prop} (i k : Nat) {oi : Oper} {fuel : Nat} {listed : Array Bool} {a : Act} {w : World} (hi : ops[i]? = some oi) (hd : oi.dst = some k)
    (hs : Region.noSelect ops = true) (hf : Region.free md ops listed i = true) (hr : (Region.ready md ops listed).contains i = true)
    (hQ : ∀ c a w, Q (.panic c) (a.put (some k) undef) w → Q (.panic c) a w) (hw : Region.wanted oi (yielded ops a.tmps) = false) (hS : S w)
    (h : wpAnyH P md ops Q S fuel (listed.setIfInBounds i true) (a.put (some k) undef) w) : wpAnyH P md ops Q S (fuel + 1) listed a w :=
  wpAnyH_take hi hs hf hr (by rw [hd]; exact hQ) (Or.inr ⟨hw, rfl⟩) hS (by rw [hd]; exact h)
theorem giveH {P : Program} {ops : Array Oper} {Q : Exit → Act → World → Prop} {md : Region.Mode} {S : World → Prop} (i k : Nat) (v : Value) {oi : Oper} {fuel : Nat} {listed : Array Bool} {a : Act} {w : World} (hi : ops[i]? = some oi) (hd : oi.dst = some k)
    (hs : Region.noSelect ops = true) (hf : Region.free md ops listed i = true) (hr : (Region.ready md ops listed).contains i = true)
    (hQ : ∀ c a w, Q (.panic c) (a.put (some k) v) w → Q (.panic c) a w) (hw : Region.wanted oi (yielded ops a.tmps) = true) (hv : ∀ w, S w → (execOp a.eval oi).run P w = .ok (.value v) w) (hS : S w)
    (h : wpAnyH P md ops Q S fuel (listed.setIfInBounds i true) (a.put (some k) v) w) : wpAnyH P md ops Q S (fuel + 1) listed a w :=
  wpAnyH_take hi hs hf hr (by rw [hd]; exact hQ) (Or.inl ⟨hw, hv⟩) hS (by rw [hd]; exact h)

def pmE : Array MapEntry := #[⟨.bool true, .int .i64 1, 0⟩]
theorem sm_ins (W : World) (r : Nat) (hb : W.heap[r]? = some (.map #[] 0)) :
    ∃ W', (Instr.mapUpdate 26 (.map (some r)) (.bool true) (.int .i64 1)).run Tryd.prog W = .ok () W' ∧ W'.heap[r]? = some (.map pmE 1) ∧ W'.heap.size = W.heap.size ∧ (∀ B, B ≤ r → Below B W W') ∧ ∀ j, j ≠ r → W'.heap[j]? = W.heap[j]? := by
  refine ⟨{ W with heap := W.heap.setIfInBounds r (.map (#[].push ⟨.bool true, .int .i64 1, 0⟩) (0 + 1)) }, ?_, (MapKept.heap_set hb).1, by simp, fun B hB => ⟨rfl, rfl, rfl, by simp, fun j hj => (MapKept.heap_set hb).2 j (by omega)⟩, fun j hj => (MapKept.heap_set hb).2 j hj⟩
  have hc : (Instr.checkKey false 10000 4 (.bool true)).run Tryd.prog W = .ok () W := MapKept.run_checkKey (k := .bool true) Tryd.underlying4 (by simp [MapKept.IsKey]) false 9999
  have hf : Instr.findNow .bool (.bool true) (#[] : Array MapEntry).toList 0 = some none := rfl
  simp [Instr.mapUpdate, run_underlying Tryd.underlying26, MapKept.run_getObj_map hb, hc, MapKept.run_findKey Tryd.underlying4 hf, MapKept.run_setObj_map _ hb, Result.andThen]
theorem sm_look (W : World) (r : Nat) (b : Bool) (hb : W.heap[r]? = some (.map pmE 1)) : (Instr.lookup 26 (.map (some r)) (.bool b) false).run Tryd.prog W = .ok (.int .i64 (if b then 1 else 0)) W := by
  have hc : ∀ c, (Instr.checkKey c 10000 4 (.bool b)).run Tryd.prog W = .ok () W := fun c => MapKept.run_checkKey (k := .bool b) Tryd.underlying4 (by simp [MapKept.IsKey]) c 9999
  cases b with
  | true =>
    have hf : Instr.findNow .bool (.bool true) pmE.toList 0 = some (some (0, .int .i64 1)) := rfl
    simp [Instr.lookup, run_underlying Tryd.underlying26, MapKept.run_getObj_map hb, hc, MapKept.run_findKey Tryd.underlying4 hf, Result.andThen]
  | false =>
    have hf : Instr.findNow .bool (.bool false) pmE.toList 0 = some none := rfl
    simp [Instr.lookup, run_underlying Tryd.underlying26, MapKept.run_getObj_map hb, hc, MapKept.run_findKey Tryd.underlying4 hf, Result.andThen, Tryd.zeroValue3]
theorem sm_conv (W : World) (g : Nat) (b : UInt8) (h : W.cell? ⟨g, 0, none⟩ = some (.int .u8 (b.toNat : Int))) : (convert 27 9 (.slice (some ⟨g, 0, none⟩) 1 1)).run Tryd.prog W = .ok (.string ⟨#[b]⟩) W := by
  have := run_convert_bytes_arg (P := Tryd.prog) W 27 5 Tryd.underlying27 Tryd.underlying5 g 0 1 1 [(b.toNat : Int)] rfl (fun i hi => by
    obtain rfl : i = 0 := by omega
    simpa using h) 9 Tryd.underlying9
  rw [this]
  simp [strOfNums]
theorem idx0 (W : World) : (Instr.index 25 (.agg #[.string ⟨#[58]⟩, .string ⟨#[42]⟩]) (.int .i64 0)).run Tryd.prog W = .ok (.string ⟨#[58]⟩) W := by
  first | kernel_rfl | rfl | simp [Instr.index, run_underlying Tryd.underlying25]
theorem idx1 (W : World) : (Instr.index 25 (.agg #[.string ⟨#[58]⟩, .string ⟨#[42]⟩]) (.int .i64 1)).run Tryd.prog W = .ok (.string ⟨#[42]⟩) W := by
  first | kernel_rfl | rfl | simp [Instr.index, run_underlying Tryd.underlying25]
end Go.Proofs.YtgfjkpfjajjidaaDoor
