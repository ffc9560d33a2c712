/- Bytes that come to those that wait: append(c.wait, s...), wherever the slice begins in its block. -/
import Derived.Test.YtkjlbddaglcooaaGreatDoorCtMem
import Derived.Test.YtkjlbddaglcooaaGreatDoorProg
namespace Go.Proofs.YtkjlbddaglcooaaGreatDoor
open Go.RowKit Pl Go.Lib

theorem wt_app_room (w : World) (i : TypeInfo) (hi : Tryz.prog.info? 5 = some i) (hs1 : i.size = 1) (ty : TypeId)
    (g o n cap : Nat) (cur : Array Value) (hg : w.heap[g]? = some (.cells cur 5 (0, 0))) (s : ByteArray) (hroom : n + s.size ≤ cap) (hfit : o + cap ≤ cur.size) :
    (Builtin.append_ #[46, 9] ty #[.slice (some ⟨g, o, none⟩) n cap, .string s]).run Tryz.prog w =
      .ok (.slice (some ⟨g, o, none⟩) (n + s.size) cap) (w.setRow g (cur.toList.take (o + n) ++ strCells s ++ cur.toList.drop (o + n + s.size)).toArray) := by
  have hf := run_firstCells_string (P := Tryz.prog) w 1 s
  have hst := run_storeCells_at Tryz.prog g (o + n) 5 (strCells s) 0 cur w hg (by rw [strCells_length]; omega) (strCells_oneCell s)
  simp only [Nat.add_zero, strCells_length] at hst
  simp [Builtin.append_, run_underlying Tryz.underlying46, run_underlying Tryz.underlying9, sizeOf, typeInfo, hi, hs1, Builtin.lenOf, hroom, hf, Addr.add_lit, hst]

theorem wt_cells {cur : Array Value} {o : Nat} {l : List UInt8} (h : ∀ (j : Nat) (b : UInt8), l[j]? = some b → cur[o + j]? = some (.int .u8 (b.toNat : Int))) (j : Nat) (u : Value) (hu : (byteCells l)[j]? = some u) : cur[o + j]? = some u := by
  simp only [byteCells, List.getElem?_map, Option.map_eq_some_iff] at hu
  obtain ⟨b, hb, rfl⟩ := hu
  exact h j b hb

theorem wt_append (w : World) (i : TypeInfo) (hi : Tryz.prog.info? 5 = some i) (hz : i.zero = some (.int .u8 0)) (hs1 : i.size = 1) (hb1 : i.bytes = 1) (ty : TypeId) (v : Value) (l : List UInt8) (s : ByteArray) (hw : Wt w v l) (hs : l.length + s.size ≤ 140737488355328) :
    ∃ v' w', (Builtin.append_ #[46, 9] ty #[v, .string s]).run Tryz.prog w = .ok v' w' ∧ Wt w' v' (l ++ s.data.toList) ∧ w.grownBy w' v.ownBlock ∧ (v'.ownBlock = v.ownBlock ∨ v'.ownBlock = some w.heap.size) := by
  have hlen : (l ++ s.data.toList).length = l.length + s.size := by simp
  have grown : ∀ (old : Nat) (xs : List Value), xs.length = l.length → (∀ (j : Nat) (b : UInt8), l[j]? = some b → xs[j]? = some (.int .u8 (b.toNat : Int))) → ∀ (row : Option Nat),
      Wt (w.drew.alloc (.cells (xs.toArray ++ (strCells s).toArray ++ Builtin.zeroCells (Value.int .u8 0).cells (grownCap w (l.length + s.size) old 5 - (l.length + s.size))) 5)) (.slice (some ⟨w.heap.size, 0, none⟩) (l.length + s.size) (grownCap w (l.length + s.size) old 5)) (l ++ s.data.toList) ∧
      w.grownBy (w.drew.alloc (.cells (xs.toArray ++ (strCells s).toArray ++ Builtin.zeroCells (Value.int .u8 0).cells (grownCap w (l.length + s.size) old 5 - (l.length + s.size))) 5)) row := by
    intro old xs hx hc row
    have hge := grownCap_ge w (l.length + s.size) old 5
    have hcm : grownCap w (l.length + s.size) old 5 ≤ maxLen := grownCap_le_maxLen w (l.length + s.size) old 5 (by unfold maxLen; omega)
    refine ⟨⟨_, _, by rw [hlen], by rw [hlen]; exact hge, hcm, .inr ⟨w.heap.size, 0, _, rfl, heap_alloc_new w.drew _, ?_, ?_⟩⟩, ⟨rfl, rfl, rfl, by simp, fun k hk _ => Below.heap_alloc w.drew _ k hk⟩⟩
    · have hz1 : (Value.int IntKind.u8 0).cells.size = 1 := rfl
      simp only [Array.size_append, List.size_toArray, size_zeroCells, hz1, hx, strCells_length]
      omega
    · intro j b hb
      rw [Nat.zero_add, Array.getElem?_append_left (by
        have : j < (l ++ s.data.toList).length := (List.getElem?_eq_some_iff.1 hb).1
        simp only [Array.size_append, List.size_toArray, hx, strCells_length]
        omega)]
      by_cases hj : j < l.length
      · rw [Array.getElem?_append_left (by simp [hx]; omega)]
        rw [List.getElem?_append_left hj] at hb
        simpa using hc j b hb
      · rw [Array.getElem?_append_right (by simp [hx]; omega)]
        rw [List.getElem?_append_right (by omega)] at hb
        simp only [List.size_toArray, hx, List.getElem?_toArray, strCells, List.getElem?_map, hb]
        rfl
  obtain ⟨A, cap, rfl, h1, h2, h3⟩ := hw
  rcases h3 with ⟨rfl, rfl⟩ | ⟨g, o, cur, rfl, h4, h5, h6⟩
  · have hl : l = [] := List.length_eq_zero_iff.1 (by omega)
    subst hl
    by_cases hm : s.size = 0
    · have hn : s.data.toList = [] := List.length_eq_zero_iff.1 (by simpa using hm)
      refine ⟨.slice none 0 0, w, ?_, by rw [hn]; exact wt_nil w, ⟨rfl, rfl, rfl, Nat.le_refl _, fun _ _ _ => rfl⟩, .inl rfl⟩
      have hf := run_firstCells_string (P := Tryz.prog) w 1 s
      rw [hm] at hf
      simp [Builtin.append_, run_underlying Tryz.underlying46, run_underlying Tryz.underlying9, sizeOf, typeInfo, hi, hs1, Builtin.lenOf, hm, hf]
    · have hr := run_append_nil_string (P := Tryz.prog) w 46 9 ty 5 i (.int .u8 0) Tryz.underlying46 Tryz.underlying9 hi hz s (by omega) (by omega) (by rw [hb1]; omega)
      obtain ⟨g1, g2⟩ := grown 0 [] rfl (fun j b hb => by simp at hb) (Value.ownBlock (.slice none 0 0))
      have e1 : (s.data.map fun b => Value.int .u8 b.toNat) = (strCells s).toArray := by
        apply Array.ext'
        simp [strCells]
      rw [e1] at hr
      simp only [List.length_nil, Nat.zero_add, Array.empty_append] at g1 g2 hr ⊢
      exact ⟨_, _, hr, g1, g2, .inr rfl⟩
  · by_cases hroom : l.length + s.size ≤ cap
    · have hr := wt_app_room w i hi hs1 ty g o l.length cap cur h4 s hroom h5
      refine ⟨_, _, hr, ⟨_, cap, by rw [hlen], by rw [hlen]; exact hroom, h2, .inr ⟨g, o, _, rfl, setRow_heap w g cur _ 5 _ h4, ?_, ?_⟩⟩, ⟨rfl, rfl, rfl, by simp [World.setRow], fun k _ hk => setRow_other w g k _ (fun e => hk (by simp [Value.ownBlock, e]))⟩, .inl rfl⟩
      · simp only [List.size_toArray, List.length_append, List.length_take, List.length_drop, Array.length_toList, strCells_length]
        omega
      · intro j b hb
        simp only [List.getElem?_toArray, List.append_assoc]
        have hjl : j < l.length + s.size := by have := (List.getElem?_eq_some_iff.1 hb).1; omega
        have ht : (cur.toList.take (o + l.length)).length = o + l.length := by simp; omega
        by_cases hj : j < l.length
        · rw [List.getElem?_append_left (by omega)]
          rw [List.getElem?_append_left hj] at hb
          rw [List.getElem?_take_of_lt (by omega)]
          simpa using h6 j b hb
        · rw [List.getElem?_append_right (by omega), ht]
          rw [List.getElem?_append_right (by omega)] at hb
          rw [List.getElem?_append_left (by rw [strCells_length]; omega)]
          have e2 : o + j - (o + l.length) = j - l.length := by omega
          rw [e2]
          simp only [strCells, List.getElem?_map, hb]
          rfl
    · have holds : ∀ j u, (byteCells l)[j]? = some u → w.cell? ((⟨g, o, none⟩ : Addr).add j) = some u := fun j u hu => by
        rw [Addr.add_lit]
        simpa [World.cell?, h4] using wt_cells h6 j u hu
      have hr := run_append_grow_string (P := Tryz.prog) w 46 9 ty 5 i (.int .u8 0) Tryz.underlying46 Tryz.underlying9 hi hz ⟨g, o, none⟩ l.length cap (byteCells l) (by rw [hs1]; simp [byteCells]) holds s (by omega) (by omega) (by rw [hb1]; exact growslice_fits (by omega) (by omega))
      obtain ⟨g1, g2⟩ := grown cap (byteCells l) (by simp [byteCells]) (fun j b hb => by simp [byteCells, hb]) (Value.ownBlock (.slice (some ⟨g, o, none⟩) l.length cap))
      exact ⟨_, _, hr, g1, g2, .inr rfl⟩

theorem wpList_append_wait {ops : Array Oper} {rest : List Oper} {o : Oper} {a : Act} {w : World} {Q : Exit → Act → World → Prop} (hgd : o.guard = none) (sl x : Operand)
    (ho : o.op = .call { callee := .builtin .append, args := #[sl, x], argTypes := #[46, 9] })
    (i : TypeInfo) (hi : Tryz.prog.info? 5 = some i) (hz : i.zero = some (.int .u8 0)) (hs1 : i.size = 1) (hb1 : i.bytes = 1)
    (v : Value) (l : List UInt8) (s : ByteArray) (hv : a.eval sl = v) (hx : a.eval x = .string s) (hw : Wt w v l) (hs : l.length + s.size ≤ 140737488355328)
    (h : ∀ v' w', Wt w' v' (l ++ s.data.toList) → w.grownBy w' v.ownBlock → (v'.ownBlock = v.ownBlock ∨ v'.ownBlock = some w.heap.size) → wpList Tryz.prog ops Q rest (a.put o.dst v') w') : wpList Tryz.prog ops Q (o :: rest) a w := by
  refine wpList_plain hgd fun K hK => ?_
  obtain ⟨v', w', hr, h2, h3, h4⟩ := wt_append w i hi hz hs1 hb1 o.type v l s hw hs
  unfold Oper.wp execOp
  simp only [ho, resolve, invoke, builtin, Sem.run_bind, Sem.run_pure, Result.andThen_ok, List.map_toArray, List.map_cons, List.map_nil, hv, hx, hr]
  exact hK _ _ (h v' w' h2 h3 h4)

end Go.Proofs.YtkjlbddaglcooaaGreatDoor
