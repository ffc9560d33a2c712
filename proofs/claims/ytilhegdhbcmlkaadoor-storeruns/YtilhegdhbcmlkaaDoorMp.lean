/- Maps by texts as lists of pairs, plainly; such a map in memory. -/
import Derived.Test.YtilhegdhbcmlkaaDoorBs
import Derived.ChangeMaps4
namespace Go.Proofs.YtilhegdhbcmlkaaDoor
open Go.RowKit

abbrev Prs := List (Bytes × Value)
section
variable {α : Type}
def mLook (m : List (Bytes × α)) (k : Bytes) : Option α := (m.find? fun p => decide (p.1 = k)).map (·.2)
def mHas (m : List (Bytes × α)) (k : Bytes) : Bool := (mLook m k).isSome
def mPut (m : List (Bytes × α)) (k : Bytes) (v : α) : List (Bytes × α) := if mHas m k then m.map (fun p => if p.1 = k then (p.1, v) else p) else m ++ [(k, v)]
def mDel (m : List (Bytes × α)) (k : Bytes) : List (Bytes × α) := m.filter fun p => !decide (p.1 = k)
def mKeys (m : List (Bytes × α)) : List Bytes := m.map (·.1)

theorem look_none {m : List (Bytes × α)} {k : Bytes} : mLook m k = none ↔ k ∉ mKeys m := by
  unfold mLook mKeys
  simp only [Option.map_eq_none_iff, List.find?_eq_none, List.mem_map, decide_eq_true_eq, not_exists, not_and]
theorem has_iff {m : List (Bytes × α)} {k : Bytes} : mHas m k = true ↔ k ∈ mKeys m := by
  unfold mHas
  cases h : mLook m k with
  | none => simp [look_none.1 h]
  | some v =>
    simp
    exact Classical.byContradiction fun hn => by rw [look_none.2 hn] at h; cases h
theorem has_false {m : List (Bytes × α)} {k : Bytes} : mHas m k = false ↔ k ∉ mKeys m := by
  rw [← has_iff]; simp
theorem look_cons (p : Bytes × α) (m : List (Bytes × α)) (k : Bytes) : mLook (p :: m) k = if p.1 = k then some p.2 else mLook m k := by
  unfold mLook
  rw [List.find?_cons]
  by_cases h : p.1 = k
  · rw [if_pos h, decide_eq_true h]; rfl
  · rw [if_neg h, decide_eq_false h]
theorem look_app (m l : List (Bytes × α)) (k : Bytes) : mLook (m ++ l) k = (mLook m k).or (mLook l k) := by
  induction m with
  | nil => rfl
  | cons p m ih =>
    rw [List.cons_append, look_cons, look_cons, ih]
    split <;> rfl
theorem look_map (m : List (Bytes × α)) (k x : Bytes) (v : α) : mLook (m.map fun p => if p.1 = k then (p.1, v) else p) x = if x = k then (mLook m x).map (fun _ => v) else mLook m x := by
  induction m with
  | nil => split <;> rfl
  | cons p m ih =>
    rw [List.map_cons, look_cons, look_cons, ih]
    by_cases h : p.1 = k
    · rw [if_pos h]
      by_cases hx : p.1 = x
      · rw [if_pos hx, if_pos hx, if_pos (hx ▸ h)]; rfl
      · rw [if_neg hx, if_neg hx]
    · rw [if_neg h]
      by_cases hx : p.1 = x
      · have : ¬ x = k := fun e => h (hx.trans e)
        rw [if_pos hx, if_pos hx, if_neg this]
      · rw [if_neg hx, if_neg hx]
theorem look_put (m : List (Bytes × α)) (k x : Bytes) (v : α) : mLook (mPut m k v) x = if x = k then some v else mLook m x := by
  unfold mPut
  cases hh : mHas m k with
  | true =>
    rw [if_pos rfl, look_map]
    by_cases hx : x = k
    · rw [if_pos hx, if_pos hx, hx]
      unfold mHas at hh
      cases hl : mLook m k with
      | none => rw [hl] at hh; cases hh
      | some u => rfl
    · rw [if_neg hx, if_neg hx]
  | false =>
    rw [if_neg (by decide), look_app]
    by_cases hx : x = k
    · rw [if_pos hx, hx, look_none.2 (has_false.1 hh), look_cons, if_pos rfl]; rfl
    · rw [if_neg hx, look_cons, if_neg (fun e => hx e.symm)]
      cases mLook m x <;> rfl
theorem look_del (m : List (Bytes × α)) (k x : Bytes) : mLook (mDel m k) x = if x = k then none else mLook m x := by
  induction m with
  | nil => unfold mDel; split <;> rfl
  | cons p m ih =>
    have e : mDel (p :: m) k = if p.1 = k then mDel m k else p :: mDel m k := by
      unfold mDel
      rw [List.filter_cons]
      by_cases h : p.1 = k <;> simp [h]
    rw [e, look_cons]
    by_cases h : p.1 = k
    · rw [if_pos h, ih]
      by_cases hx : x = k
      · rw [if_pos hx, if_pos hx]
      · rw [if_neg hx, if_neg hx, if_neg (fun e => hx (e.symm.trans h))]
    · rw [if_neg h, look_cons, ih]
      by_cases hp : p.1 = x
      · rw [if_pos hp, if_neg (fun e => h (hp.trans e)), if_pos hp]
      · rw [if_neg hp, if_neg hp]
theorem keys_put (m : List (Bytes × α)) (k : Bytes) (v : α) : mKeys (mPut m k v) = if mHas m k then mKeys m else mKeys m ++ [k] := by
  unfold mPut
  split
  · unfold mKeys
    rw [List.map_map]
    apply List.map_congr_left
    intro p _
    show (if p.1 = k then (p.1, v) else p).1 = p.1
    split <;> rfl
  · unfold mKeys; simp
theorem len_put (m : List (Bytes × α)) (k : Bytes) (v : α) : (mPut m k v).length = if mHas m k then m.length else m.length + 1 := by
  unfold mPut
  split <;> simp
theorem keys_del (m : List (Bytes × α)) (k : Bytes) : mKeys (mDel m k) = (mKeys m).filter fun x => !decide (x = k) := by
  unfold mKeys mDel
  rw [List.filter_map]
  rfl
theorem nodup_put {m : List (Bytes × α)} (h : (mKeys m).Nodup) (k : Bytes) (v : α) : (mKeys (mPut m k v)).Nodup := by
  rw [keys_put]
  split
  · exact h
  · rename_i hh
    rw [List.nodup_append]
    refine ⟨h, by simp, fun a ha b hb e => ?_⟩
    simp at hb
    subst hb; subst e
    exact hh (has_iff.2 ha)
theorem nodup_del {m : List (Bytes × α)} (h : (mKeys m).Nodup) (k : Bytes) : (mKeys (mDel m k)).Nodup := by
  rw [keys_del]; exact h.filter _
theorem del_at : ∀ {m : List (Bytes × α)} {j : Nat} {p : Bytes × α}, (mKeys m).Nodup → m[j]? = some p → mDel m p.1 = m.eraseIdx j
  | [], j, p, _, h => by simp at h
  | q :: m, 0, p, hn, h => by
    simp at h
    subst h
    have h1 : q.1 ∉ mKeys m := (List.nodup_cons.1 hn).1
    unfold mDel
    rw [List.filter_cons]
    simp
    intro a b hab e
    exact h1 (List.mem_map.2 ⟨(a, b), hab, e⟩)
  | q :: m, j + 1, p, hn, h => by
    have h1 : q.1 ∉ mKeys m := (List.nodup_cons.1 hn).1
    have h2 : m[j]? = some p := by simpa using h
    have hne : ¬ q.1 = p.1 := fun e => h1 (by rw [e]; exact List.mem_map.2 ⟨p, List.mem_of_getElem? h2, rfl⟩)
    have := del_at (List.nodup_cons.1 hn).2 h2
    unfold mDel at this ⊢
    rw [List.filter_cons, this]
    simp [hne]
theorem look_at : ∀ {m : List (Bytes × α)} {j : Nat} {p : Bytes × α}, (mKeys m).Nodup → m[j]? = some p → mLook m p.1 = some p.2
  | [], j, p, _, h => by simp at h
  | q :: m, 0, p, hn, h => by
    simp at h
    subst h
    rw [look_cons, if_pos rfl]
  | q :: m, j + 1, p, hn, h => by
    have h1 : q.1 ∉ mKeys m := (List.nodup_cons.1 hn).1
    have h2 : m[j]? = some p := by simpa using h
    have hne : ¬ q.1 = p.1 := fun e => h1 (by rw [e]; exact List.mem_map.2 ⟨p, List.mem_of_getElem? h2, rfl⟩)
    rw [look_cons, if_neg hne]
    exact look_at (List.nodup_cons.1 hn).2 h2
theorem look_mem {m : List (Bytes × α)} (hn : (mKeys m).Nodup) {p : Bytes × α} (h : p ∈ m) : mLook m p.1 = some p.2 := by
  obtain ⟨j, hj⟩ := List.mem_iff_getElem?.1 h
  exact look_at hn hj
theorem mem_of_look {m : List (Bytes × α)} {k : Bytes} {v : α} (h : mLook m k = some v) : (k, v) ∈ m := by
  unfold mLook at h
  cases hf : m.find? fun p => decide (p.1 = k) with
  | none => rw [hf] at h; cases h
  | some p =>
    rw [hf] at h
    have h1 := List.find?_some hf
    have h2 := List.mem_of_find?_eq_some hf
    simp at h1 h
    subst h1; subst h
    exact h2
theorem len_del {m : List (Bytes × α)} (hn : (mKeys m).Nodup) {k : Bytes} (h : mHas m k = true) : (mDel m k).length + 1 = m.length := by
  obtain ⟨p, hp, rfl⟩ := List.mem_map.1 (has_iff.1 h)
  obtain ⟨j, hj⟩ := List.mem_iff_getElem?.1 hp
  rw [del_at hn hj]
  have := (List.getElem?_eq_some_iff.1 hj).1
  rw [List.length_eraseIdx, if_pos this]
  omega
/-- One of those that are left, and the others. -/
theorem perm_out {m : List (Bytes × α)} (hn : (mKeys m).Nodup) {p : Bytes × α} (h : p ∈ m) : m.Perm (p :: mDel m p.1) := by
  obtain ⟨j, hj⟩ := List.mem_iff_getElem?.1 h
  rw [del_at hn hj]
  obtain ⟨hl, e⟩ := List.getElem?_eq_some_iff.1 hj
  rw [List.eraseIdx_eq_take_drop_succ]
  have h2 : m = m.take j ++ p :: m.drop (j + 1) := by
    rw [← e, List.getElem_cons_drop, List.take_append_drop]
  conv => lhs; rw [h2]
  exact List.perm_middle


def vMap {β : Type} (f : α → β) (m : List (Bytes × α)) : List (Bytes × β) := m.map fun p => (p.1, f p.2)
theorem vlook {β : Type} (f : α → β) (m : List (Bytes × α)) (k : Bytes) : mLook (vMap f m) k = (mLook m k).map f := by
  induction m with
  | nil => rfl
  | cons p m ih =>
    show mLook ((p.1, f p.2) :: vMap f m) k = _
    rw [look_cons, look_cons, ih]
    show (if p.1 = k then _ else _) = _
    split <;> rfl
theorem vhas {β : Type} (f : α → β) (m : List (Bytes × α)) (k : Bytes) : mHas (vMap f m) k = mHas m k := by
  unfold mHas
  rw [vlook]
  cases mLook m k <;> rfl
theorem vput {β : Type} (f : α → β) (m : List (Bytes × α)) (k : Bytes) (v : α) : mPut (vMap f m) k (f v) = vMap f (mPut m k v) := by
  unfold mPut
  rw [vhas]
  split
  · unfold vMap
    rw [List.map_map, List.map_map]
    apply List.map_congr_left
    intro p _
    show (if p.1 = k then (p.1, f v) else (p.1, f p.2)) = ((if p.1 = k then (p.1, v) else p).1, f (if p.1 = k then (p.1, v) else p).2)
    split <;> rfl
  · unfold vMap
    rw [List.map_append]
    rfl
theorem vdel {β : Type} (f : α → β) (m : List (Bytes × α)) (k : Bytes) : mDel (vMap f m) k = vMap f (mDel m k) := by
  unfold mDel vMap
  rw [List.filter_map]
  rfl
theorem vkeys {β : Type} (f : α → β) (m : List (Bytes × α)) : mKeys (vMap f m) = mKeys m := by
  unfold mKeys vMap
  rw [List.map_map]
  rfl
theorem vlen {β : Type} (f : α → β) (m : List (Bytes × α)) : (vMap f m).length = m.length := by unfold vMap; simp

end

/-- A map's entries are these pairs. -/
def kv (e : MapEntry) : Value × Value := (e.key, e.val)
def pv (p : Bytes × Value) : Value × Value := (strV p.1, p.2)
def MA (W : World) (r : Nat) (m : Prs) : Prop := ∃ (es : Array MapEntry) (clock : Nat), W.heap[r]? = some (.map es clock) ∧ MapKept.Stamped es clock ∧ es.toList.map kv = m.map pv
theorem MA.lt {W : World} {r : Nat} {m : Prs} (h : MA W r m) : r < W.heap.size := by
  obtain ⟨es, c, h, _⟩ := h; exact blk_lt h
theorem MA.block {W W' : World} {r : Nat} {m : Prs} (h : MA W r m) (hb : W'.heap[r]? = W.heap[r]?) : MA W' r m := by
  obtain ⟨es, c, h1, h2⟩ := h; exact ⟨es, c, hb.trans h1, h2⟩
theorem MA.on {W W' : World} {r : Nat} {m : Prs} (h : MA W r m) (hb : Below W.heap.size W W') : MA W' r m := h.block (hb.block r h.lt)
theorem ma_new (W : World) : MA (W.alloc (.map #[] 0)) W.heap.size [] := ⟨#[], 0, (MapKept.heap_alloc W _).1, MapKept.stamped_empty 0, rfl⟩
theorem ent_keys {es : Array MapEntry} {m : Prs} (h : es.toList.map kv = m.map pv) : es.toList.map (·.key) = (mKeys m).map strV := by
  have := congrArg (List.map Prod.fst) h
  rw [List.map_map, List.map_map] at this
  unfold mKeys
  rw [List.map_map]
  exact this
theorem ent_nodup {es : Array MapEntry} {clock : Nat} {m : Prs} (hs : MapKept.Stamped es clock) (h : es.toList.map kv = m.map pv) : (mKeys m).Nodup := by
  have h1 : (es.toList.map (·.key)).Nodup := by
    have := ((MapKept.stamped_iff es clock).1 hs).2.2
    rw [List.nodup_iff_pairwise_ne, List.pairwise_map]
    exact this
  rw [ent_keys h] at h1
  exact (List.pairwise_map.1 h1).imp fun hne e => hne (congrArg _ e)
theorem MA.nodup {W : World} {r : Nat} {m : Prs} (h : MA W r m) : (mKeys m).Nodup := by
  obtain ⟨es, c, _, h2, h3⟩ := h; exact ent_nodup h2 h3
theorem ent_isKey {es : Array MapEntry} {m : Prs} (h : es.toList.map kv = m.map pv) : ∀ e ∈ es.toList, MapKept.IsKey .string e.key := by
  intro e he
  have : e.key ∈ (mKeys m).map strV := by rw [← ent_keys h]; exact List.mem_map.2 ⟨e, he, rfl⟩
  obtain ⟨x, _, hx⟩ := List.mem_map.1 this
  rw [← hx]
  trivial
theorem ent_at {es : Array MapEntry} {m : Prs} (h : es.toList.map kv = m.map pv) {j : Nat} {e : MapEntry} (hj : es[j]? = some e) : ∃ p, m[j]? = some p ∧ e.key = strV p.1 ∧ e.val = p.2 := by
  have h1 : (es.toList.map kv)[j]? = some (kv e) := by rw [List.getElem?_map, Array.getElem?_toList, hj]; rfl
  rw [h, List.getElem?_map] at h1
  cases hm : m[j]? with
  | none => rw [hm] at h1; cases h1
  | some p =>
    rw [hm] at h1
    have h2 : pv p = kv e := Option.some.inj h1
    exact ⟨p, rfl, (congrArg Prod.fst h2).symm, (congrArg Prod.snd h2).symm⟩
theorem ent_find {es : Array MapEntry} {clock : Nat} {m : Prs} (hs : MapKept.Stamped es clock) (h : es.toList.map kv = m.map pv) (k : Bytes) :
    (Instr.findNow .string (strV k) es.toList 0 = some none ∧ (∀ e ∈ es.toList, e.key ≠ strV k) ∧ mLook m k = none) ∨ ∃ (j : Nat) (e : MapEntry), Instr.findNow .string (strV k) es.toList 0 = some (some (j, e.val)) ∧ es[j]? = some e ∧ e.key = strV k ∧ m[j]? = some (k, e.val) ∧ mLook m k = some e.val := by
  rcases MapKept.findNow_spec (d := .string) (k := strV k) trivial es.toList 0 (ent_isKey h) with ⟨h3, h4⟩ | ⟨j, e, h3, h4, h5⟩
  · refine .inl ⟨h3, h4, look_none.2 fun hk => ?_⟩
    have : strV k ∈ es.toList.map (·.key) := by rw [ent_keys h]; exact List.mem_map.2 ⟨k, hk, rfl⟩
    obtain ⟨e, he, hek⟩ := List.mem_map.1 this
    exact h4 e he hek
  · have hj : es[j]? = some e := by simpa using h4
    obtain ⟨p, hp, hk, hv⟩ := ent_at h hj
    have hpk : p.1 = k := strV_inj (hk.symm.trans h5)
    have hp2 : p = (k, e.val) := by rw [← hpk, hv]
    subst hp2
    rw [Nat.zero_add] at h3
    exact .inr ⟨j, e, h3, hj, h5, hp, look_at (ent_nodup hs h) hp⟩

section
variable {T E : TypeId} (hT : Tryd.prog.underlying T = some (.map 9 E))
include hT
theorem ma_look {z : Value} (hz : ∀ w : World, (zeroValue E).run Tryd.prog w = .ok z w) {W : World} {r : Nat} {m : Prs} (h : MA W r m) (k : Bytes) : (Instr.lookup T (.map (some r)) (strV k) true).run Tryd.prog W = .ok (.tuple #[(mLook m k).getD z, .bool (mHas m k)]) W := by
  obtain ⟨es, clock, hb, hs, h1⟩ := h
  have hc : ∀ b, (Instr.checkKey b 10000 9 (strV k)).run Tryd.prog W = .ok () W := fun b => MapKept.run_checkKey (k := strV k) Tryd.underlying9 trivial b 9999
  unfold mHas
  rcases ent_find hs h1 k with ⟨h3, _, h4⟩ | ⟨j, e, h3, _, _, _, h4⟩
  · rw [h4]
    simp [Instr.lookup, run_underlying hT, MapKept.run_getObj_map hb, hc, MapKept.run_findKey Tryd.underlying9 h3, Result.andThen, hz]
  · rw [h4]
    simp [Instr.lookup, run_underlying hT, MapKept.run_getObj_map hb, hc, MapKept.run_findKey Tryd.underlying9 h3, Result.andThen]
theorem ma_look1 {z : Value} (hz : ∀ w : World, (zeroValue E).run Tryd.prog w = .ok z w) {W : World} {r : Nat} {m : Prs} (h : MA W r m) (k : Bytes) : (Instr.lookup T (.map (some r)) (strV k) false).run Tryd.prog W = .ok ((mLook m k).getD z) W := by
  obtain ⟨es, clock, hb, hs, h1⟩ := h
  have hc : ∀ b, (Instr.checkKey b 10000 9 (strV k)).run Tryd.prog W = .ok () W := fun b => MapKept.run_checkKey (k := strV k) Tryd.underlying9 trivial b 9999
  rcases ent_find hs h1 k with ⟨h3, _, h4⟩ | ⟨j, e, h3, _, _, _, h4⟩
  · rw [h4]
    simp [Instr.lookup, run_underlying hT, MapKept.run_getObj_map hb, hc, MapKept.run_findKey Tryd.underlying9 h3, Result.andThen, hz]
  · rw [h4]
    simp [Instr.lookup, run_underlying hT, MapKept.run_getObj_map hb, hc, MapKept.run_findKey Tryd.underlying9 h3, Result.andThen]
theorem ma_len {W : World} {r : Nat} {m : Prs} (h : MA W r m) (ty : TypeId) : (Builtin.len_ #[T] ty #[.map (some r)]).run Tryd.prog W = .ok (.int .i64 (m.length : Nat)) W := by
  obtain ⟨es, clock, hb, hs, h1⟩ := h
  have hl : es.size = m.length := by
    have := congrArg List.length h1
    simpa using this
  simp [Builtin.len_, run_underlying hT, MapKept.run_getObj_map hb, Result.andThen, hl, goInt]
theorem ma_put {W : World} {r : Nat} {m : Prs} (h : MA W r m) (k : Bytes) (v : Value) :
    ∃ W', (Instr.mapUpdate T (.map (some r)) (strV k) v).run Tryd.prog W = .ok () W' ∧ MA W' r (mPut m k v) ∧ W'.heap.size = W.heap.size ∧ (∀ B, B ≤ r → Below B W W') ∧ ∀ j, j ≠ r → W'.heap[j]? = W.heap[j]? := by
  obtain ⟨es, clock, hb, hs, h1⟩ := h
  have hc : ∀ b, (Instr.checkKey b 10000 9 (strV k)).run Tryd.prog W = .ok () W := fun b => MapKept.run_checkKey (k := strV k) Tryd.underlying9 trivial b 9999
  have hstr : MapKept.IsKey .string (strV k) := trivial
  unfold mPut mHas
  rcases ent_find hs h1 k with ⟨h3, h4, h5⟩ | ⟨j, e, h3, hj, hk, hm, h5⟩
  · refine ⟨{ W with heap := W.heap.setIfInBounds r (.map (es.push ⟨strV k, v, clock⟩) (clock + 1)) }, ?_, ⟨_, _, (MapKept.heap_set hb).1, MapKept.stamped_push hs h4, ?_⟩, by simp, fun B hB => ⟨rfl, rfl, rfl, by simp, fun j hj => (MapKept.heap_set hb).2 j (by omega)⟩, fun j hj => (MapKept.heap_set hb).2 j hj⟩
    · simp [Instr.mapUpdate, run_underlying hT, MapKept.run_getObj_map hb, hc, MapKept.run_findKey Tryd.underlying9 h3, MapKept.run_setObj_map _ hb, Result.andThen]
    · rw [h5]
      simp [h1, kv, pv]
  · refine ⟨{ W with heap := W.heap.setIfInBounds r (.map (es.modify j fun e' => { e' with key := strV k, val := v }) clock) }, ?_, ⟨_, _, (MapKept.heap_set hb).1, ?_, ?_⟩, by simp, fun B hB => ⟨rfl, rfl, rfl, by simp, fun j hj => (MapKept.heap_set hb).2 j (by omega)⟩, fun j hj => (MapKept.heap_set hb).2 j hj⟩
    · simp [Instr.mapUpdate, run_underlying hT, MapKept.run_getObj_map hb, hc, MapKept.run_findKey Tryd.underlying9 h3, hj, hk, MapKept.run_keyThatStays (d := .string) hstr, MapKept.run_setObj_map _ hb, Result.andThen]
    · exact MapKept.stamped_modify hs _ _ (fun _ _ => rfl) (fun e' _ he' => by rw [hj] at he'; cases he'; exact hk.symm)
    · rw [h5]
      simp only [Option.isSome_some, if_true]
      apply List.ext_getElem?
      intro i
      rw [List.getElem?_map, List.getElem?_map, List.getElem?_map, Array.getElem?_toList, Array.getElem?_modify]
      have hi : Option.map kv es[i]? = Option.map pv m[i]? := by
        rw [← Array.getElem?_toList, ← List.getElem?_map, h1, List.getElem?_map]
      by_cases hji : j = i
      · subst hji
        rw [if_pos rfl, hj, hm]
        simp [kv, pv]
      · rw [if_neg hji, hi]
        cases hmi : m[i]? with
        | none => rfl
        | some p =>
          have : ¬ p.1 = k := fun he => hji (by
            have hnd := ent_nodup hs h1
            have g1 : (mKeys m)[j]? = some k := by unfold mKeys; rw [List.getElem?_map, hm]; rfl
            have g2 : (mKeys m)[i]? = some k := by unfold mKeys; rw [List.getElem?_map, hmi, ← he]; rfl
            exact (List.getElem?_inj (List.getElem?_eq_some_iff.1 g1).1 hnd).1 (g1.trans g2.symm))
          simp [this]
theorem ma_del {W : World} {r : Nat} {m : Prs} (h : MA W r m) (k : Bytes) (ty : TypeId) :
    ∃ W', (Builtin.delete_ #[T, 9] ty #[.map (some r), strV k]).run Tryd.prog W = .ok (.tuple #[]) W' ∧ MA W' r (mDel m k) ∧ W'.heap.size = W.heap.size ∧ (∀ B, B ≤ r → Below B W W') ∧ ∀ j, j ≠ r → W'.heap[j]? = W.heap[j]? := by
  obtain ⟨es, clock, hb, hs, h1⟩ := h
  have hc : ∀ b, (Instr.checkKey b 10000 9 (strV k)).run Tryd.prog W = .ok () W := fun b => MapKept.run_checkKey (k := strV k) Tryd.underlying9 trivial b 9999
  rcases ent_find hs h1 k with ⟨h3, h4, h5⟩ | ⟨j, e, h3, hj, hk, hm, h5⟩
  · refine ⟨{ W with heap := W.heap.setIfInBounds r (.map es clock) }, ?_, ⟨_, _, (MapKept.heap_set hb).1, hs, ?_⟩, by simp, fun B hB => ⟨rfl, rfl, rfl, by simp, fun j hj => (MapKept.heap_set hb).2 j (by omega)⟩, fun j hj => (MapKept.heap_set hb).2 j hj⟩
    · simp [Builtin.delete_, run_underlying hT, MapKept.run_getObj_map hb, hc, MapKept.run_findKey Tryd.underlying9 h3, MapKept.run_setObj_map _ hb, Result.andThen]
    · rw [h1]
      congr 1
      unfold mDel
      symm
      rw [List.filter_eq_self]
      intro p hp
      simp
      intro e
      exact look_none.1 h5 (List.mem_map.2 ⟨p, hp, e⟩)
  · refine ⟨{ W with heap := W.heap.setIfInBounds r (.map (es.eraseIdxIfInBounds j) clock) }, ?_, ⟨_, _, (MapKept.heap_set hb).1, MapKept.stamped_erase hs j, ?_⟩, by simp, fun B hB => ⟨rfl, rfl, rfl, by simp, fun j hj => (MapKept.heap_set hb).2 j (by omega)⟩, fun j hj => (MapKept.heap_set hb).2 j hj⟩
    · simp [Builtin.delete_, run_underlying hT, MapKept.run_getObj_map hb, hc, MapKept.run_findKey Tryd.underlying9 h3, MapKept.run_setObj_map _ hb, Result.andThen]
    · have := del_at (ent_nodup hs h1) hm
      simp only at this
      rw [this]
      have hl : j < es.size := (Array.getElem?_eq_some_iff.1 hj).1
      have ht : (es.eraseIdxIfInBounds j).toList = es.toList.eraseIdx j := by
        unfold Array.eraseIdxIfInBounds
        rw [dif_pos hl, Array.toList_eraseIdx]
      rw [ht, Go.ChangeMaps.map_eraseIdx, Go.ChangeMaps.map_eraseIdx, h1]
end

/-- A range over a map: what is left, in some order. -/
def IT (W : World) (b r : Nat) (m left : Prs) : Prop := ∃ (es : Array MapEntry) (clock since : Nat) (seen : Array Nat) (c0 : Nat), W.heap[b]? = some (.map es clock) ∧ MapKept.Stamped es clock ∧ es.toList.map kv = m.map pv ∧ W.heap[r]? = some (.mapIter (some b) since seen c0) ∧ (∀ x ∈ es.toList, x.born < since) ∧ since ≤ c0 ∧ since ≤ clock ∧ (leftOf es seen).toList.map kv = left.map pv
theorem IT.block {W W' : World} {b r : Nat} {m left : Prs} (h : IT W b r m left) (h1 : W'.heap[b]? = W.heap[b]?) (h2 : W'.heap[r]? = W.heap[r]?) : IT W' b r m left := by
  obtain ⟨es, clock, since, seen, c0, a, b, c, d, e⟩ := h
  exact ⟨es, clock, since, seen, c0, h1.trans a, b, c, h2.trans d, e⟩
theorem IT.on {W W' : World} {b r : Nat} {m left : Prs} (h : IT W b r m left) (hb : Below W.heap.size W W') : IT W' b r m left := by
  have h1 : b < W.heap.size := by obtain ⟨_, _, _, _, _, h, _⟩ := h; exact blk_lt h
  have h2 : r < W.heap.size := by obtain ⟨_, _, _, _, _, _, _, _, h, _⟩ := h; exact blk_lt h
  exact h.block (hb.block b h1) (hb.block r h2)
theorem it_new {W : World} {b : Nat} {m : Prs} (h : MA W b m) {T E : TypeId} (hT : Tryd.prog.underlying T = some (.map 9 E)) :
    ∃ W', (Instr.range T (.map (some b))).run Tryd.prog W = .ok (.pointer (some ⟨W.heap.size, 0, none⟩)) W' ∧ IT W' b W.heap.size m m ∧ W'.heap.size = W.heap.size + 1 ∧ Below W.heap.size W W' := by
  have hlt := h.lt
  obtain ⟨es, clock, hb, hs, h1⟩ := h
  refine ⟨_, run_range_map W T 9 E b es clock hT hb, ⟨es, clock, clock, #[], clock, ((MapKept.heap_alloc W _).2 b hlt).trans hb, hs, h1, (MapKept.heap_alloc W _).1, hs.1, Nat.le_refl _, Nat.le_refl _, ?_⟩, by simp, (Below.refl _ _).alloc (Nat.le_refl _) _⟩
  have : leftOf es #[] = es := by unfold leftOf; simp
  rw [this, h1]
theorem filt_par : ∀ (L : List MapEntry) (left : Prs) (k : Bytes) (P : MapEntry → Bool), L.map kv = left.map pv → (∀ x ∈ L, P x = true ↔ x.key ≠ strV k) → (L.filter P).map kv = (mDel left k).map pv
  | [], [], _, _, _, _ => rfl
  | [], _ :: _, _, _, h, _ => by simp at h
  | _ :: _, [], _, _, h, _ => by simp at h
  | e :: L, p :: left, k, P, h, hP => by
    rw [List.map_cons, List.map_cons] at h
    obtain ⟨h1, h2⟩ := List.cons.inj h
    have ih := filt_par L left k P h2 fun x hx => hP x (List.mem_cons_of_mem _ hx)
    have hk : e.key = strV p.1 := congrArg Prod.fst h1
    have hp := hP e (List.mem_cons_self ..)
    unfold mDel at ih ⊢
    rw [List.filter_cons, List.filter_cons]
    by_cases hpk : p.1 = k
    · have : P e = false := by
        rw [← Bool.not_eq_true, hp, hk, hpk]
        simp
      rw [this]
      simp [hpk]
      simpa using ih
    · have : P e = true := hp.2 (by rw [hk]; exact fun e => hpk (strV_inj e))
      rw [this]
      simp [hpk]
      exact ⟨h1, by simpa using ih⟩
theorem it_next {W : World} {b r : Nat} {m left : Prs} (h : IT W b r m left) (ty : TypeId) :
    (left = [] ∧ (Instr.next (.pointer (some ⟨r, 0, none⟩)) false ty).run Tryd.prog W = .ok (.tuple #[.bool false]) W) ∨
    ∃ p ∈ left, ∃ W', (Instr.next (.pointer (some ⟨r, 0, none⟩)) false ty).run Tryd.prog W = .ok (.tuple #[.bool true, strV p.1, p.2]) W' ∧ IT W' b r m (mDel left p.1) ∧ (Instr.entry (.pointer (some ⟨r, 0, none⟩))).run Tryd.prog W' = .ok (.tuple #[strV p.1, p.2]) W' ∧ W'.heap.size = W.heap.size ∧ (∀ B, B ≤ r → Below B W W') ∧ ∀ j, j ≠ r → W'.heap[j]? = W.heap[j]? := by
  obtain ⟨es, clock, since, seen, c0, hb, hs, h1, hr, hold, hsc, hcl, hl⟩ := h
  rcases run_next_at (P := Tryd.prog) W ty r b since c0 seen es clock hr hb hold hsc with ⟨h0, hrun⟩ | ⟨e, he, w1, hw1, hrun⟩
  · refine .inl ⟨?_, hrun⟩
    have : left.length = 0 := by
      have := congrArg List.length hl
      simp [h0] at this
      exact this.symm ▸ rfl
    exact List.eq_nil_of_length_eq_zero this
  · right
    have hmem : kv e ∈ left.map pv := by rw [← hl]; exact List.mem_map.2 ⟨e, he, rfl⟩
    obtain ⟨p, hp, hpe⟩ := List.mem_map.1 hmem
    have hk : e.key = strV p.1 := (congrArg Prod.fst hpe).symm
    have hv : e.val = p.2 := (congrArg Prod.snd hpe).symm
    have hrb : r ≠ b := fun e => by rw [e, hb] at hr; cases hr
    have hees : e ∈ es.toList := by unfold leftOf at he; simp at he ⊢; exact he.1
    have hwh : w1.heap = W.heap := by rcases hw1 with rfl | rfl <;> rfl
    have hrl : r < W.heap.size := blk_lt hr
    have hset : ∀ o : Obj, (Go.ChangeMaps.setBlock w1 r o).heap[r]? = some o := fun o => by
      unfold Go.ChangeMaps.setBlock; simp [hwh, hrl]
    have hoth : ∀ (o : Obj) j, j ≠ r → (Go.ChangeMaps.setBlock w1 r o).heap[j]? = W.heap[j]? := fun o j hj => by
      unfold Go.ChangeMaps.setBlock
      simp only [hwh]
      rw [Array.getElem?_setIfInBounds_ne (fun e => hj e.symm)]
    have hst := (MapKept.stamped_iff es clock).1 hs
    rw [hk, hv] at hrun
    refine ⟨p, hp, _, hrun, ⟨es, clock, since, seen.push e.born, clock, (hoth _ b (fun e => hrb e.symm)).trans hb, hs, h1, hset _, hold, hcl, hcl, ?_⟩, ?_, by unfold Go.ChangeMaps.setBlock; simp [hwh], fun B hB => ⟨?_, ?_, ?_, by unfold Go.ChangeMaps.setBlock; simp [hwh], fun j hj => hoth _ j (by omega)⟩, hoth _⟩
    · have e1 : (leftOf es (seen.push e.born)).toList = (leftOf es seen).toList.filter fun x => !(x.born == e.born) := by
        unfold leftOf
        simp only [Array.toList_filter, List.filter_filter]
        apply List.filter_congr
        intro x _
        rw [Array.contains_push, Bool.not_or, Bool.and_comm]
      rw [e1]
      refine filt_par _ left p.1 _ hl fun x hx => ?_
      have hx2 : x ∈ es.toList := by unfold leftOf at hx; simp at hx ⊢; exact hx.1
      simp only [Bool.not_eq_true', beq_eq_false_iff_ne, ne_eq]
      rw [← hk]
      constructor
      · intro hb hke
        apply hb
        obtain ⟨i, hi, rfl⟩ := List.getElem_of_mem hx2
        obtain ⟨j, hj, rfl⟩ := List.getElem_of_mem hees
        have g1 : (es.toList.map (·.key))[i]? = some es.toList[i].key := by rw [List.getElem?_map, List.getElem?_eq_getElem hi]; rfl
        have g2 : (es.toList.map (·.key))[j]? = some es.toList[j].key := by rw [List.getElem?_map, List.getElem?_eq_getElem hj]; rfl
        rw [hke] at g1
        have := (List.getElem?_inj (List.getElem?_eq_some_iff.1 g1).1 hs.2.2).1 (g1.trans g2.symm)
        subst this
        rfl
      · intro hke hb
        exact hke (by rw [born_inj hst.2.1 hx2 hees hb])
    · rw [← hk, ← hv]
      exact run_entry_at _ r b since seen es clock e (hset _) ((hoth _ b (fun e => hrb e.symm)).trans hb) hees hst.2.1
    · rcases hw1 with rfl | rfl <;> rfl
    · rcases hw1 with rfl | rfl <;> rfl
    · rcases hw1 with rfl | rfl <;> rfl
end Go.Proofs.YtilhegdhbcmlkaaDoor
