/- Two places, and two routes, compared. -/
import Derived.Test.YtgfjkpfjajjidaaDoorTbRight
import Derived.Laws.StructEq
namespace Go.Proofs.YtgfjkpfjajjidaaDoor
open Go.RowKit Pl

theorem fields_strings (t : TypeId) (n : Nat) (h : (((Tryd.prog.fieldsOf t).toList.map fun f => (f.name == "_", f.type, f.offset)) == (List.range n).map fun i => (false, 9, i)) = true) :
    (Tryd.prog.fieldsOf t).toList.map (fun f => (f.name == "_", f.type, f.offset)) = (List.range n).map fun i => (false, 9, i) := by simpa using h

theorem field_step (d : Nat) (xs ys : Array Value) (f : Field) (fs : List Field) (i : Nat) (hf : (f.name == "_", f.type, f.offset) = (false, 9, i)) (a b : ByteArray) (w : World)
    (h1 : (part 9 xs i).run Tryd.prog w = .ok (.string a) w) (h2 : (part 9 ys i).run Tryd.prog w = .ok (.string b) w) :
    (Op.eqFields (d + 1) xs ys (f :: fs)).run Tryd.prog w = if a.toList == b.toList then (Op.eqFields (d + 1) xs ys fs).run Tryd.prog w else .ok false w := by
  simp only [Prod.mk.injEq, beq_eq_false_iff_ne] at hf
  obtain ⟨h3, h4, h5⟩ := hf
  rw [Op.eqFields, if_pos h3, h4, h5]
  simp only [Sem.run_bind, h1, h2, Result.andThen_ok, run_equalIn_string w d 9 a b Tryd.underlying9]
  cases hq : (a.toList == b.toList) with
  | true => simp
  | false => simp

theorem eql91 (a b c d : ByteArray) (w : World) : (binOp .eql 124 (.agg #[.string a, .string b]) (.agg #[.string c, .string d])).run Tryd.prog w = .ok (.bool (a.toList == c.toList && b.toList == d.toList)) w := by
  have ht : Tryd.prog.underlying 124 = some (.struct (Tryd.prog.fieldsOf 124)) := by kernel_rfl
  have hp : Tryd.prog.stoodInHeld 124 = false := by kernel_rfl
  have hf := fields_strings 124 2 (by kernel_rfl)
  rw [run_eql_struct, run_equalIn_struct w 9999 124 _ _ ht hp]
  clear ht
  have hl := congrArg List.length hf
  rw [List.length_map, List.length_map, List.length_range] at hl
  generalize (Tryd.prog.fieldsOf 124).toList = fs at *
  match fs, hl, hf with
  | [f, g], _, hf =>
    simp only [List.map_cons, List.map_nil, List.range, List.range.loop, List.cons.injEq] at hf
    rw [field_step 9998 _ _ f [g] 0 hf.1 a c w (by kernel_rfl) (by kernel_rfl), field_step 9998 _ _ g [] 1 hf.2.1 b d w (by kernel_rfl) (by kernel_rfl)]
    cases (a.toList == c.toList) <;> cases (b.toList == d.toList) <;> simp [Op.eqFields]

theorem neq41 (a b c x y z : ByteArray) (w : World) : (binOp .neq 31 (.agg #[.string a, .string b, .string c]) (.agg #[.string x, .string y, .string z])).run Tryd.prog w = .ok (.bool (!(a.toList == x.toList && (b.toList == y.toList && c.toList == z.toList)))) w := by
  have ht : Tryd.prog.underlying 31 = some (.struct (Tryd.prog.fieldsOf 31)) := by kernel_rfl
  have hp : Tryd.prog.stoodInHeld 31 = false := by kernel_rfl
  have hf := fields_strings 31 3 (by kernel_rfl)
  rw [run_neq_struct, run_equalIn_struct w 9999 31 _ _ ht hp]
  clear ht
  have hl := congrArg List.length hf
  rw [List.length_map, List.length_map, List.length_range] at hl
  generalize (Tryd.prog.fieldsOf 31).toList = fs at *
  match fs, hl, hf with
  | [f, g, h], _, hf =>
    simp only [List.map_cons, List.map_nil, List.range, List.range.loop, List.cons.injEq] at hf
    rw [field_step 9998 _ _ f [g, h] 0 hf.1 a x w (by kernel_rfl) (by kernel_rfl), field_step 9998 _ _ g [h] 1 hf.2.1 b y w (by kernel_rfl) (by kernel_rfl), field_step 9998 _ _ h [] 2 hf.2.2.1 c z w (by kernel_rfl) (by kernel_rfl)]
    cases (a.toList == x.toList) <;> cases (b.toList == y.toList) <;> cases (c.toList == z.toList) <;> simp [Op.eqFields]

abbrev PL := List UInt8 × List UInt8
theorem eq_place (x y : PL) (w : World) : (binOp .eql 124 (.agg #[.string (mkB x.1), .string (mkB x.2)]) (.agg #[.string (mkB y.1), .string (mkB y.2)])).run Tryd.prog w = .ok (.bool (decide (x = y))) w := by
  rw [eql91]
  congr 2
  rw [str_eq, str_eq, mkB_data, mkB_data, Bool.eq_iff_iff]
  simp [Prod.ext_iff]
theorem ne_route (x y : Rt) (w : World) : (binOp .neq 31 (.agg #[.string (mkB x.m), .string (mkB x.p), .string (mkB x.h)]) (.agg #[.string (mkB y.m), .string (mkB y.p), .string (mkB y.h)])).run Tryd.prog w = .ok (.bool (!decide (x = y))) w := by
  rw [neq41]
  congr 3
  rw [str_eq, str_eq, str_eq, mkB_data, mkB_data, mkB_data, Bool.eq_iff_iff]
  cases x; cases y
  simp

end Go.Proofs.YtgfjkpfjajjidaaDoor
