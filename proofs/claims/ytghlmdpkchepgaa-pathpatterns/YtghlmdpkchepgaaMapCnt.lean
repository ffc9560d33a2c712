/- A map that counts names. -/
import Derived.Test.YtghlmdpkchepgaaPtJoin
import Derived.Carry
import Derived.MapKept
namespace Go.Proofs.Ytghlmdpkchepgaa
open Go.RowKit Pl

/-- The map in block r counts the names ns. -/
def CM (W : World) (r : Nat) (ns : List (List UInt8)) : Prop :=
  ∃ (es : Array MapEntry) (clock : Nat), W.heap[r]? = some (.map es clock) ∧ MapKept.Stamped es clock ∧ (∀ (i : Nat) (e : MapEntry), es[i]? = some e → ∃ x : ByteArray, e.key = .string x ∧ e.val = .int .i64 ((ns.count x.data.toList : Nat) : Int)) ∧ ∀ x ∈ ns, ∃ (i : Nat) (e : MapEntry), es[i]? = some e ∧ e.key = .string (mkB x)

theorem CM.on {W W' : World} {r : Nat} {ns : List (List UInt8)} (h : CM W r ns) (hb : Below W.heap.size W W') : CM W' r ns := by
  obtain ⟨es, clock, h1, h2⟩ := h
  exact ⟨es, clock, (hb.block r (blk_lt h1)).trans h1, h2⟩
theorem CM.lt {W : World} {r : Nat} {ns : List (List UInt8)} (h : CM W r ns) : r < W.heap.size := by
  obtain ⟨es, clock, h1, _⟩ := h
  exact blk_lt h1
theorem cm_new (W : World) : CM (W.alloc (.map #[] 0)) W.heap.size [] :=
  ⟨#[], 0, (MapKept.heap_alloc W _).1, MapKept.stamped_empty 0, fun i e h => by simp at h, fun x h => by cases h⟩
theorem str_inj {a b : ByteArray} (h : Value.string a = .string b) : a = b := by cases h; rfl

theorem cm_keys {es : Array MapEntry} {ns : List (List UInt8)} (h : ∀ (i : Nat) (e : MapEntry), es[i]? = some e → ∃ x : ByteArray, e.key = .string x ∧ e.val = .int .i64 ((ns.count x.data.toList : Nat) : Int)) : ∀ e ∈ es.toList, MapKept.IsKey .string e.key := by
  intro e he
  obtain ⟨i, hi, rfl⟩ := List.getElem_of_mem he
  obtain ⟨x, hx, _⟩ := h i es.toList[i] (by simp at hi ⊢)
  rw [hx]
  trivial

/-- What is found: the count. -/
theorem cm_find {es : Array MapEntry} {ns : List (List UInt8)} (h : ∀ (i : Nat) (e : MapEntry), es[i]? = some e → ∃ x : ByteArray, e.key = .string x ∧ e.val = .int .i64 ((ns.count x.data.toList : Nat) : Int)) (h2 : ∀ x ∈ ns, ∃ (i : Nat) (e : MapEntry), es[i]? = some e ∧ e.key = .string (mkB x)) (x : ByteArray) :
    (Instr.findNow .string (.string x) es.toList 0 = some none ∧ (∀ e ∈ es.toList, e.key ≠ .string x) ∧ ns.count x.data.toList = 0) ∨ ∃ (j : Nat) (e : MapEntry), Instr.findNow .string (.string x) es.toList 0 = some (some (j, .int .i64 ((ns.count x.data.toList : Nat) : Int))) ∧ es[j]? = some e ∧ e.key = .string x := by
  rcases MapKept.findNow_spec (d := .string) (k := .string x) trivial es.toList 0 (cm_keys h) with ⟨h3, h4⟩ | ⟨j, e, h3, h4, h5⟩
  · refine .inl ⟨h3, h4, ?_⟩
    rw [List.count_eq_zero]
    intro hm
    obtain ⟨i, e, he, hk⟩ := h2 _ hm
    rw [mkB_of] at hk
    exact h4 e (by rw [← Array.getElem?_toList] at he; exact List.mem_of_getElem? he) hk
  · have hj : es[j]? = some e := by simpa using h4
    obtain ⟨y, hy, hv⟩ := h j e hj
    rw [h5] at hy
    have := str_inj hy
    subst this
    rw [hv, Nat.zero_add] at h3
    exact .inr ⟨j, e, h3, hj, h5⟩

theorem cm_look {W : World} {r : Nat} {ns : List (List UInt8)} (h : CM W r ns) (x : ByteArray) : (Instr.lookup 32 (.map (some r)) (.string x) false).run Try.prog W = .ok (.int .i64 ((ns.count x.data.toList : Nat) : Int)) W := by
  obtain ⟨es, clock, hb, hs, h1, h2⟩ := h
  have hc : ∀ b, (Instr.checkKey b 10000 9 (.string x)).run Try.prog W = .ok () W := fun b => MapKept.run_checkKey (k := .string x) Try.underlying9 trivial b 9999
  rcases cm_find h1 h2 x with ⟨h3, _, h4⟩ | ⟨j, e, h3, _⟩
  · rw [h4]
    simp [Instr.lookup, run_underlying Try.underlying32, MapKept.run_getObj_map hb, hc, MapKept.run_findKey Try.underlying9 h3, Result.andThen, Try.zeroValue3]
  · simp [Instr.lookup, run_underlying Try.underlying32, MapKept.run_getObj_map hb, hc, MapKept.run_findKey Try.underlying9 h3, Result.andThen]

theorem count_snoc (ns : List (List UInt8)) (x y : List UInt8) : (ns ++ [x]).count y = ns.count y + if x = y then 1 else 0 := by
  rw [List.count_append]
  by_cases h : x = y
  · rw [if_pos h, h]; simp
  · rw [if_neg h]; simp [h]

theorem cm_put {W : World} {r : Nat} {ns : List (List UInt8)} (h : CM W r ns) (x : ByteArray) :
    ∃ W', (Instr.mapUpdate 32 (.map (some r)) (.string x) (.int .i64 ((ns.count x.data.toList : Nat) + 1 : Int))).run Try.prog W = .ok () W' ∧ CM W' r (ns ++ [x.data.toList]) ∧ W'.heap.size = W.heap.size ∧ ∀ B, B ≤ r → Below B W W' := by
  obtain ⟨es, clock, hb, hs, h1, h2⟩ := h
  have hc : ∀ b, (Instr.checkKey b 10000 9 (.string x)).run Try.prog W = .ok () W := fun b => MapKept.run_checkKey (k := .string x) Try.underlying9 trivial b 9999
  have hstr : MapKept.IsKey .string (.string x) := trivial
  rcases cm_find h1 h2 x with ⟨h3, h4, h5⟩ | ⟨j, e, h3, hj, h5⟩
  · refine ⟨{ W with heap := W.heap.setIfInBounds r (.map (es.push ⟨.string x, .int .i64 ((ns.count x.data.toList : Nat) + 1 : Int), clock⟩) (clock + 1)) }, ?_, ⟨_, _, (MapKept.heap_set hb).1, MapKept.stamped_push hs h4, ?_, ?_⟩, by simp, fun B hB => ⟨rfl, rfl, rfl, by simp, fun j hj => (MapKept.heap_set hb).2 j (by omega)⟩⟩
    · simp [Instr.mapUpdate, run_underlying Try.underlying32, MapKept.run_getObj_map hb, hc, MapKept.run_findKey Try.underlying9 h3, MapKept.run_setObj_map _ hb, Result.andThen]
    · intro i e he
      rw [Array.getElem?_push] at he
      split at he
      · cases he
        exact ⟨x, rfl, by rw [count_snoc, if_pos rfl]; simp⟩
      · obtain ⟨y, hy, hv⟩ := h1 i e he
        refine ⟨y, hy, ?_⟩
        rw [count_snoc, if_neg, Nat.add_zero]
        · exact hv
        · intro hxy
          have : x = y := bytes_ext hxy
          subst this
          exact h4 e (by rw [← Array.getElem?_toList] at he; exact List.mem_of_getElem? he) hy
    · intro y hy
      rw [List.mem_append] at hy
      rcases hy with hy | hy
      · obtain ⟨i, e, he, hk⟩ := h2 y hy
        refine ⟨i, e, ?_, hk⟩
        rw [Array.getElem?_push, if_neg]
        · exact he
        · have := (Array.getElem?_eq_some_iff.1 he).1; omega
      · simp at hy
        refine ⟨es.size, _, by rw [Array.getElem?_push, if_pos rfl], ?_⟩
        rw [hy, mkB_of]
  · refine ⟨{ W with heap := W.heap.setIfInBounds r (.map (es.modify j fun e' => { e' with key := .string x, val := .int .i64 ((ns.count x.data.toList : Nat) + 1 : Int) }) clock) }, ?_, ⟨_, _, (MapKept.heap_set hb).1, ?_, ?_, ?_⟩, by simp, fun B hB => ⟨rfl, rfl, rfl, by simp, fun j hj => (MapKept.heap_set hb).2 j (by omega)⟩⟩
    · simp [Instr.mapUpdate, run_underlying Try.underlying32, MapKept.run_getObj_map hb, hc, MapKept.run_findKey Try.underlying9 h3, hj, h5, MapKept.run_keyThatStays (d := .string) hstr, MapKept.run_setObj_map _ hb, Result.andThen]
    · exact MapKept.stamped_modify hs _ _ (fun _ _ => rfl) (fun e' _ he' => by rw [hj] at he'; cases he'; exact h5.symm)
    · intro i e' he
      rw [Array.getElem?_modify] at he
      split at he
      · rename_i hji
        subst hji
        rw [hj] at he
        cases he
        exact ⟨x, rfl, by rw [count_snoc, if_pos rfl]; simp⟩
      · rename_i hji
        obtain ⟨y, hy, hv⟩ := h1 i e' he
        refine ⟨y, hy, ?_⟩
        rw [count_snoc, if_neg, Nat.add_zero]
        · exact hv
        · intro hxy
          have : x = y := bytes_ext hxy
          subst this
          apply hji
          have hnd := hs.2.2
          have g1 : (es.toList.map (·.key))[j]? = some (.string x) := by rw [List.getElem?_map, Array.getElem?_toList, hj]; simp [h5]
          have g2 : (es.toList.map (·.key))[i]? = some (.string x) := by rw [List.getElem?_map, Array.getElem?_toList, he]; simp [hy]
          exact (List.getElem?_inj (List.getElem?_eq_some_iff.1 g1).1 hnd).1 (g1.trans g2.symm)
    · intro y hy
      rw [List.mem_append] at hy
      have hat : ∀ (i : Nat) (e' : MapEntry), es[i]? = some e' → ∃ e2 : MapEntry, (es.modify j fun e' => { e' with key := .string x, val := .int .i64 ((ns.count x.data.toList : Nat) + 1 : Int) })[i]? = some e2 ∧ e2.key = e'.key := fun i e' he => by
        rw [Array.getElem?_modify]
        split
        · rename_i hji
          subst hji
          rw [he]
          rw [hj] at he
          cases he
          exact ⟨_, rfl, h5.symm⟩
        · exact ⟨e', he, rfl⟩
      rcases hy with hy | hy
      · obtain ⟨i, e', he, hk⟩ := h2 y hy
        obtain ⟨e2, q1, q2⟩ := hat i e' he
        exact ⟨i, e2, q1, q2.trans hk⟩
      · simp at hy
        obtain ⟨e2, q1, q2⟩ := hat j e hj
        exact ⟨j, e2, q1, by rw [q2, h5, hy, mkB_of]⟩

end Go.Proofs.Ytghlmdpkchepgaa
