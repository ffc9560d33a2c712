/- Two fields, compared; an append to no slice. -/
import Derived.Test.YtmncchgifgjhgaaDoorLw
import Derived.Test.YtmncchgifgjhgaaDoorLifts
import Derived.Laws.StructEq
namespace Go.Proofs.YtmncchgifgjhgaaDoor
open Go.RowKit Go.Shelf

theorem fields_strings (t : TypeId) (n : Nat) (h : (((Tryd.prog.fieldsOf t).toList.map fun f => (f.name == "_", f.type, f.offset)) == (List.range n).map fun i => (false, 9, i)) = true) :
    (Tryd.prog.fieldsOf t).toList.map (fun f => (f.name == "_", f.type, f.offset)) = (List.range n).map fun i => (false, 9, i) := by simpa using h

theorem field_step (d : Nat) (xs ys : Array Value) (f : Field) (fs : List Field) (i : Nat) (hf : (f.name == "_", f.type, f.offset) = (false, 9, i)) (a b : ByteArray) (w : World)
    (h1 : (part 9 xs i).run Tryd.prog w = .ok (.string a) w) (h2 : (part 9 ys i).run Tryd.prog w = .ok (.string b) w) :
    (Op.eqFields (d + 1) xs ys (f :: fs)).run Tryd.prog w = if a.toList == b.toList then (Op.eqFields (d + 1) xs ys fs).run Tryd.prog w else .ok false w := by
  simp only [Prod.mk.injEq, beq_eq_false_iff_ne] at hf
  obtain ⟨h3, h4, h5⟩ := hf
  rw [Op.eqFields, if_pos h3, h4, h5]
  simp only [Sem.run_bind, h1, h2, Result.andThen_ok, run_equalIn_string w d 9 a b Tryd.underlying9]
  cases hq : (a.toList == b.toList) with
  | true => simp
  | false => simp

theorem neq42 (a b c d : ByteArray) (w : World) : (binOp .neq 42 (.agg #[.string a, .string b]) (.agg #[.string c, .string d])).run Tryd.prog w = .ok (.bool (!(a.toList == c.toList && b.toList == d.toList))) w := by
  have ht : Tryd.prog.underlying 42 = some (.struct (Tryd.prog.fieldsOf 42)) := by kernel_rfl
  have hp : Tryd.prog.stoodInHeld 42 = false := by kernel_rfl
  have hf := fields_strings 42 2 (by kernel_rfl)
  rw [run_neq_struct, run_equalIn_struct w 9999 42 _ _ ht hp]
  clear ht
  have hl := congrArg List.length hf
  rw [List.length_map, List.length_map, List.length_range] at hl
  generalize (Tryd.prog.fieldsOf 42).toList = fs at *
  match fs, hl, hf with
  | [f, g], _, hf =>
    simp only [List.map_cons, List.map_nil, List.range, List.range.loop, List.cons.injEq] at hf
    rw [field_step 9998 _ _ f [g] 0 hf.1 a c w (by kernel_rfl) (by kernel_rfl), field_step 9998 _ _ g [] 1 hf.2.1 b d w (by kernel_rfl) (by kernel_rfl)]
    cases (a.toList == c.toList) <;> cases (b.toList == d.toList) <;> simp [Op.eqFields]
theorem ne_fld (a b : ByteArray) (w : World) : (binOp .neq 42 (.agg #[.string a, .string b]) (.agg #[.string a, .string b])).run Tryd.prog w = .ok (.bool false) w := by
  rw [neq42]
  simp

section
variable {P : Program} {w : World}
theorem wp_append_nil {o : Oper} {a : Act} {K : Act → World → Prop} {Q : Exit → Act → World → Prop} (s x : Operand) (t : TypeId)
    (ho : o.op = .call { callee := .builtin .append, args := #[s, x], argTypes := #[t, t] })
    (base : Nat) (e : TypeId) (i : TypeInfo) (z : Value) (size bytes : Nat) (ht : P.underlying t = some (.slice e)) (hi : P.info? e = some i) (hz : i.zero = some z)
    (hsize : i.size = size) (hby : i.bytes = bytes) (hzs : z.cells.size = size) (hsz : 0 < size) (hs : a.eval s = .slice none 0 0)
    (A : Option Addr) (m c : Nat) (news : List Value) (hx : a.eval x = .slice A m c) (hr : Rd w w.heap.size size A m news) (h1 : ∀ u ∈ news, u.oneCell' = true)
    (h63 : m ≤ maxLen) (hbytes : m * bytes ≤ 140737488355328) (hbase : base ≤ w.heap.size)
    (h : ∀ A' cap w', Rd w' w'.heap.size size A' m news → Below base w w' → K (a.put o.dst (.slice A' m cap)) w') : o.wp P a w K Q := by
  unfold Oper.wp execOp
  simp only [ho, resolve, invoke, builtin, Sem.run_bind, Sem.run_pure, Result.andThen_ok, List.map_toArray, List.map_cons, List.map_nil, hs, hx]
  cases A with
  | none =>
    have hm : m = 0 := by
      refine Nat.eq_zero_of_not_pos fun hp => ?_
      obtain ⟨_, e, _⟩ := hr.2 (by omega)
      cases e
    subst hm
    rw [run_append_none w t o.type e i ht hi none 0 0 c (Nat.le_refl _)]
    exact h none 0 w ⟨hr.1, fun h => absurd rfl h⟩ (Below.refl _ _)
  | some ad =>
    obtain ⟨v', w', hr', h2, h3, _, _⟩ := run_append_own_at (P := P) w base t o.type e i z size bytes ht hi hz hsize hby hzs hsz (.slice none 0 0) 0 [] (World.ownsRow_nil _ _ _ _) ad m c news hr.1 (fun j u hu => by
      obtain ⟨a', e', _, hc⟩ := hr.2 (fun h0 => by
        have h9 := hr.1
        rw [h0] at h9
        have h8 : news = [] := List.eq_nil_of_length_eq_zero (by simpa using h9)
        rw [h8] at hu
        simp at hu)
      cases e'
      exact hc j u hu) h1 (by omega) (by simpa using hbytes) hbase
    rw [hr']
    rw [List.nil_append, Nat.zero_add] at h2
    obtain ⟨A', c', rfl, h4⟩ := Rd.own h2
    exact h A' c' w' h4 ((Below.refl base w).grown h3 hbase fun k hk => by simp [Value.ownBlock] at hk)
theorem wpList_append_nil {ops : Array Oper} {rest : List Oper} {o : Oper} {a : Act} {Q : Exit → Act → World → Prop} (hgd : o.guard = none) (s x : Operand) (t : TypeId)
    (ho : o.op = .call { callee := .builtin .append, args := #[s, x], argTypes := #[t, t] })
    (base : Nat) (e : TypeId) (i : TypeInfo) (z : Value) (size bytes : Nat) (ht : P.underlying t = some (.slice e)) (hi : P.info? e = some i) (hz : i.zero = some z)
    (hsize : i.size = size) (hby : i.bytes = bytes) (hzs : z.cells.size = size) (hsz : 0 < size) (hs : a.eval s = .slice none 0 0)
    (A : Option Addr) (m c : Nat) (news : List Value) (hx : a.eval x = .slice A m c) (hr : Rd w w.heap.size size A m news) (h1 : ∀ u ∈ news, u.oneCell' = true)
    (h63 : m ≤ maxLen) (hbytes : m * bytes ≤ 140737488355328) (hbase : base ≤ w.heap.size)
    (h : ∀ A' cap w', Rd w' w'.heap.size size A' m news → Below base w w' → wpList P ops Q rest (a.put o.dst (.slice A' m cap)) w') : wpList P ops Q (o :: rest) a w :=
  wpList_plain hgd fun _ hK => wp_append_nil s x t ho base e i z size bytes ht hi hz hsize hby hzs hsz hs A m c news hx hr h1 h63 hbytes hbase fun A' cap w' h2 h3 => hK _ _ (h A' cap w' h2 h3)
end
end Go.Proofs.YtmncchgifgjhgaaDoor
