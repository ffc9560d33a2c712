/- A map of texts that were seen. -/
import Derived.Test.YtekjpcmobgdgpaaDoorMatchesW
import Derived.Carry
import Derived.MapKept
namespace Go.Proofs.YtekjpcmobgdgpaaDoor
open Go.RowKit Pl

/-- The map in block r holds the texts ns, each with true. -/
def SN (W : World) (r : Nat) (ns : List (List UInt8)) : Prop :=
  ∃ (es : Array MapEntry) (clock : Nat), W.heap[r]? = some (.map es clock) ∧ MapKept.Stamped es clock ∧ (∀ (i : Nat) (e : MapEntry), es[i]? = some e → ∃ x : ByteArray, e.key = .string x ∧ e.val = .bool true ∧ x.data.toList ∈ ns) ∧ ∀ x ∈ ns, ∃ (i : Nat) (e : MapEntry), es[i]? = some e ∧ e.key = .string (mkB x)

theorem SN.on {W W' : World} {r : Nat} {ns : List (List UInt8)} (h : SN W r ns) (hb : Below W.heap.size W W') : SN W' r ns := by
  obtain ⟨es, clock, h1, h2⟩ := h
  exact ⟨es, clock, (hb.block r (blk_lt h1)).trans h1, h2⟩
theorem SN.lt {W : World} {r : Nat} {ns : List (List UInt8)} (h : SN W r ns) : r < W.heap.size := by
  obtain ⟨es, clock, h1, _⟩ := h
  exact blk_lt h1
theorem sn_new (W : World) : SN (W.alloc (.map #[] 0)) W.heap.size [] :=
  ⟨#[], 0, (MapKept.heap_alloc W _).1, MapKept.stamped_empty 0, fun i e h => by simp at h, fun x h => by cases h⟩
theorem str_inj {a b : ByteArray} (h : Value.string a = .string b) : a = b := by cases h; rfl

theorem sn_keys {es : Array MapEntry} {ns : List (List UInt8)} (h : ∀ (i : Nat) (e : MapEntry), es[i]? = some e → ∃ x : ByteArray, e.key = .string x ∧ e.val = .bool true ∧ x.data.toList ∈ ns) : ∀ e ∈ es.toList, MapKept.IsKey .string e.key := by
  intro e he
  obtain ⟨i, hi, rfl⟩ := List.getElem_of_mem he
  obtain ⟨x, hx, _⟩ := h i es.toList[i] (by simp at hi ⊢)
  rw [hx]
  trivial

/-- What is found. -/
theorem sn_find {es : Array MapEntry} {ns : List (List UInt8)} (h : ∀ (i : Nat) (e : MapEntry), es[i]? = some e → ∃ x : ByteArray, e.key = .string x ∧ e.val = .bool true ∧ x.data.toList ∈ ns) (h2 : ∀ x ∈ ns, ∃ (i : Nat) (e : MapEntry), es[i]? = some e ∧ e.key = .string (mkB x)) (x : ByteArray) :
    (Instr.findNow .string (.string x) es.toList 0 = some none ∧ (∀ e ∈ es.toList, e.key ≠ .string x) ∧ x.data.toList ∉ ns) ∨ ∃ (j : Nat) (e : MapEntry), Instr.findNow .string (.string x) es.toList 0 = some (some (j, .bool true)) ∧ es[j]? = some e ∧ e.key = .string x ∧ x.data.toList ∈ ns := by
  rcases MapKept.findNow_spec (d := .string) (k := .string x) trivial es.toList 0 (sn_keys h) with ⟨h3, h4⟩ | ⟨j, e, h3, h4, h5⟩
  · refine .inl ⟨h3, h4, ?_⟩
    intro hm
    obtain ⟨i, e, he, hk⟩ := h2 _ hm
    rw [mkB_of] at hk
    exact h4 e (by rw [← Array.getElem?_toList] at he; exact List.mem_of_getElem? he) hk
  · have hj : es[j]? = some e := by simpa using h4
    obtain ⟨y, hy, hv, hm⟩ := h j e hj
    rw [h5] at hy
    have := str_inj hy
    subst this
    rw [hv, Nat.zero_add] at h3
    exact .inr ⟨j, e, h3, hj, h5, hm⟩

theorem sn_look {W : World} {r : Nat} {ns : List (List UInt8)} (h : SN W r ns) (x : ByteArray) : (Instr.lookup 44 (.map (some r)) (.string x) false).run Tryd.prog W = .ok (.bool (decide (x.data.toList ∈ ns))) W := by
  obtain ⟨es, clock, hb, hs, h1, h2⟩ := h
  have hc : ∀ b, (Instr.checkKey b 10000 9 (.string x)).run Tryd.prog W = .ok () W := fun b => MapKept.run_checkKey (k := .string x) Tryd.underlying9 trivial b 9999
  rcases sn_find h1 h2 x with ⟨h3, _, h4⟩ | ⟨j, e, h3, _, _, h4⟩
  · rw [decide_eq_false h4]
    simp [Instr.lookup, run_underlying Tryd.underlying44, MapKept.run_getObj_map hb, hc, MapKept.run_findKey Tryd.underlying9 h3, Result.andThen, Tryd.zeroValue4]
  · rw [decide_eq_true h4]
    simp [Instr.lookup, run_underlying Tryd.underlying44, MapKept.run_getObj_map hb, hc, MapKept.run_findKey Tryd.underlying9 h3, Result.andThen]

/-- One more, that was not seen. -/
theorem sn_put {W : World} {r : Nat} {ns : List (List UInt8)} (h : SN W r ns) (x : ByteArray) (hx : x.data.toList ∉ ns) :
    ∃ W', (Instr.mapUpdate 44 (.map (some r)) (.string x) (.bool true)).run Tryd.prog W = .ok () W' ∧ SN W' r (ns ++ [x.data.toList]) ∧ W'.heap.size = W.heap.size ∧ (∀ B, B ≤ r → Below B W W') ∧ ∀ j, j ≠ r → W'.heap[j]? = W.heap[j]? := by
  obtain ⟨es, clock, hb, hs, h1, h2⟩ := h
  have hc : ∀ b, (Instr.checkKey b 10000 9 (.string x)).run Tryd.prog W = .ok () W := fun b => MapKept.run_checkKey (k := .string x) Tryd.underlying9 trivial b 9999
  rcases sn_find h1 h2 x with ⟨h3, h4, h5⟩ | ⟨j, e, h3, hj, _, h5⟩
  · refine ⟨{ W with heap := W.heap.setIfInBounds r (.map (es.push ⟨.string x, .bool true, clock⟩) (clock + 1)) }, ?_, ⟨_, _, (MapKept.heap_set hb).1, MapKept.stamped_push hs h4, ?_, ?_⟩, by simp, fun B hB => ⟨rfl, rfl, rfl, by simp, fun j hj => (MapKept.heap_set hb).2 j (by omega)⟩, fun j hj => (MapKept.heap_set hb).2 j hj⟩
    · simp [Instr.mapUpdate, run_underlying Tryd.underlying44, MapKept.run_getObj_map hb, hc, MapKept.run_findKey Tryd.underlying9 h3, MapKept.run_setObj_map _ hb, Result.andThen]
    · intro i e he
      rw [Array.getElem?_push] at he
      split at he
      · cases he
        exact ⟨x, rfl, rfl, by simp⟩
      · obtain ⟨y, hy, hv, hm⟩ := h1 i e he
        exact ⟨y, hy, hv, List.mem_append_left _ hm⟩
    · intro y hy
      rw [List.mem_append] at hy
      rcases hy with hy | hy
      · obtain ⟨i, e, he, hk⟩ := h2 y hy
        refine ⟨i, e, ?_, hk⟩
        rw [Array.getElem?_push, if_neg]
        · exact he
        · have := (Array.getElem?_eq_some_iff.1 he).1; omega
      · simp at hy
        refine ⟨es.size, _, by rw [Array.getElem?_push, if_pos rfl], ?_⟩
        rw [hy, mkB_of]
  · exact absurd h5 hx

end Go.Proofs.YtekjpcmobgdgpaaDoor
