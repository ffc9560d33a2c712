/- The contracts of New, Step, Walk and Text; of the laws' own look ahead. -/
import Derived.Test.YthpklagnecoilaaDoorWm
import Derived.BigQuiet
import Derived.Laws.StructEq
namespace Go.Proofs.YthpklagnecoilaaDoor
open Go.RowKit

def wkV (a b c d : Nat) : Value := .agg #[.complex .f64 a b, .complex .f64 c d]
/-- The words stand for the walker. -/
structure Rw (a b c d : Nat) (p : Wk) : Prop where
  x : Rp a p.x
  y : Rp b p.y
  dx : Rp c p.dx
  dy : Rp d p.dy
theorem rw_no : Rw 0 0 0 0 noW := ⟨rp_zero, rp_zero, rp_zero, rp_zero⟩
theorem rw_new : Rw 0 0 4607182418800017408 0 newW := ⟨rp_zero, rp_zero, rp_one, rp_zero⟩

theorem wk_ext {p q : Wk} : (decide (p.x = q.x) && decide (p.y = q.y) && (decide (p.dx = q.dx) && decide (p.dy = q.dy))) = decide (p = q) := by
  obtain ⟨a, b, c, d⟩ := p
  obtain ⟨e, f, g, h⟩ := q
  rw [Bool.eq_iff_iff]
  simp [and_assoc]

theorem fields_complex (h : (((Tryd.prog.fieldsOf 26).toList.map fun f => (f.name == "_", f.type, f.offset)) == [(false, 24, 0), (false, 24, 1)]) = true) :
    (Tryd.prog.fieldsOf 26).toList.map (fun f => (f.name == "_", f.type, f.offset)) = [(false, 24, 0), (false, 24, 1)] := by simpa using h

theorem field_step (d : Nat) (xs ys : Array Value) (f : Field) (fs : List Field) (i : Nat) (hf : (f.name == "_", f.type, f.offset) = (false, 24, i)) (a b a' b' : Nat) (w : World)
    (h1 : (part 24 xs i).run Tryd.prog w = .ok (.complex .f64 a b) w) (h2 : (part 24 ys i).run Tryd.prog w = .ok (.complex .f64 a' b') w) :
    (Op.eqFields (d + 1) xs ys (f :: fs)).run Tryd.prog w = if (FloatKind.f64.format.order a a' == some .eq) && (FloatKind.f64.format.order b b' == some .eq) then (Op.eqFields (d + 1) xs ys fs).run Tryd.prog w else .ok false w := by
  simp only [Prod.mk.injEq, beq_eq_false_iff_ne] at hf
  obtain ⟨h3, h4, h5⟩ := hf
  rw [Op.eqFields, if_pos h3, h4, h5]
  have he : (Op.equalIn (d + 1) 24 (.complex .f64 a b) (.complex .f64 a' b')).run Tryd.prog w = .ok ((FloatKind.f64.format.order a a' == some .eq) && (FloatKind.f64.format.order b b' == some .eq)) w := by
    simp [Op.equalIn, run_underlying Tryd.underlying24, Op.floatEq]
  simp only [Sem.run_bind, h1, h2, Result.andThen_ok, he]
  cases ((FloatKind.f64.format.order a a' == some .eq) && (FloatKind.f64.format.order b b' == some .eq)) with
  | true => simp
  | false => simp

theorem eq_wk {a b c d a' b' c' d' : Nat} {p q : Wk} (h : Rw a b c d p) (k : Rw a' b' c' d' q) (wx : World) :
    (binOp .eql 26 (.agg #[.complex .f64 a b, .complex .f64 c d]) (.agg #[.complex .f64 a' b', .complex .f64 c' d'])).run Tryd.prog wx = .ok (.bool (decide (p = q))) wx := by
  have ht : Tryd.prog.underlying 26 = some (.struct (Tryd.prog.fieldsOf 26)) := by kernel_rfl
  have hp : Tryd.prog.stoodInHeld 26 = false := by kernel_rfl
  have hf := fields_complex (by kernel_rfl)
  rw [run_eql_struct, run_equalIn_struct wx 9999 26 _ _ ht hp]
  clear ht
  rw [← wk_ext, ← ord_rp h.x k.x, ← ord_rp h.y k.y, ← ord_rp h.dx k.dx, ← ord_rp h.dy k.dy]
  have hl := congrArg List.length hf
  rw [List.length_map] at hl
  generalize (Tryd.prog.fieldsOf 26).toList = fs at *
  match fs, hl, hf with
  | [f, g], _, hf =>
    simp only [List.map_cons, List.map_nil, List.cons.injEq] at hf
    rw [field_step 9998 _ _ f [g] 0 hf.1 a b a' b' wx (by kernel_rfl) (by kernel_rfl), field_step 9998 _ _ g [] 1 hf.2.1 c d c' d' wx (by kernel_rfl) (by kernel_rfl)]
    cases (FloatKind.f64.format.order a a' == some .eq) <;> cases (FloatKind.f64.format.order b b' == some .eq) <;> cases (FloatKind.f64.format.order c c' == some .eq) <;> cases (FloatKind.f64.format.order d d' == some .eq) <;> simp [Op.eqFields]

def put2 (W : World) (R : Nat) (u0 u1 : Value) : World := (W.setCell ⟨R, 0, none⟩ u0).setCell ⟨R, 1, none⟩ u1
theorem put2_blk {W : World} {R : Nat} {z0 z1 : Value} (h : W.heap[R]? = some (.cells #[z0, z1] 26 (0, 0))) (u0 u1 : Value) : (put2 W R u0 u1).heap[R]? = some (.cells #[u0, u1] 26 (0, 0)) := by
  unfold put2
  rw [set_same 1 (set_same 0 h)]
  rfl
theorem put2_below {w W : World} {B R : Nat} (h : Below B w W) (hR : B ≤ R) (u0 u1 : Value) : Below B w (put2 W R u0 u1) :=
  (h.setCell (p := ⟨R, 0, none⟩) hR _).setCell (p := ⟨R, 1, none⟩) hR _
/-- A block of two cells, known whole. -/
def Bk (w : World) (R : Nat) (u0 u1 : Value) : Prop := w.heap[R]? = some (.cells #[u0, u1] 26 (0, 0))
theorem Bk.c0 {w : World} {R : Nat} {u0 u1 : Value} (h : Bk w R u0 u1) : w.cell? ⟨R, 0, none⟩ = some u0 := by have := blk_cell h 0; simpa using this
theorem Bk.c1 {w : World} {R : Nat} {u0 u1 : Value} (h : Bk w R u0 u1) : w.cell? ⟨R, 1, none⟩ = some u1 := by have := blk_cell h 1; simpa using this
theorem Bk.f {w : World} {R : Nat} {u0 u1 : Value} (h : Bk w R u0 u1) (i : Nat) : w.frozen? ⟨R, i, none⟩ = false := blk_free h i
theorem Bk.lt {w : World} {R : Nat} {u0 u1 : Value} (h : Bk w R u0 u1) : R < w.heap.size := blk_lt h
theorem Bk.on {w w' : World} {R B : Nat} {u0 u1 : Value} (h : Bk w R u0 u1) (hb : Below B w w') (hB : R < B) : Bk w' R u0 u1 := (hb.block R hB).trans h
theorem Bk.put {w : World} {R : Nat} {u0 u1 : Value} (h : Bk w R u0 u1) (v0 v1 : Value) : Bk (put2 w R v0 v1) R v0 v1 := put2_blk h v0 v1
theorem Bk.oth {w : World} {R S : Nat} {u0 u1 : Value} (h : Bk w R u0 u1) (hS : R ≠ S) (v0 v1 : Value) : Bk (put2 w S v0 v1) R u0 u1 := by
  unfold Bk put2
  rw [set_oth _ _ _ _ hS, set_oth _ _ _ _ hS]
  exact h
theorem bk_new (w : World) (u0 u1 : Value) : Bk (w.alloc (.cells #[u0, u1] 26)) w.heap.size u0 u1 := heap_alloc_new w _

theorem ret11 {W : World} {R : Nat} {a : Act} {X : Ending → World → Prop} {u0 u1 : Value} (h : Bk W R u0 u1) (ha : a.tmps.getD 0 undef = .pointer (some ⟨R, 0, none⟩)) (hd : a.defers = [])
    (hQ : X (.returned (.agg #[u0, u1])) W) : bodyPost Tryd.prog Tryd.f11 X .ret a W := by
  have c0 := h.c0
  have c1 := h.c1
  simp at ha
  exact bodyPost_ret (v := .agg #[u0, u1]) (by simp [results, Tryd.results11, go_sem, ha, c0, c1]) hd hQ
theorem ret13 {W : World} {R : Nat} {a : Act} {X : Ending → World → Prop} {u0 u1 b : Value} (h : Bk W R u0 u1) (ha : a.tmps.getD 4 undef = .pointer (some ⟨R, 0, none⟩)) (hb : a.tmps.getD 5 undef = b) (hd : a.defers = [])
    (hQ : X (.returned (.tuple #[.agg #[u0, u1], b])) W) : bodyPost Tryd.prog Tryd.f13 X .ret a W := by
  have c0 := h.c0
  have c1 := h.c1
  simp at ha hb
  exact bodyPost_ret (v := .tuple #[.agg #[u0, u1], b]) (by simp [results, Tryd.results13, go_sem, ha, hb, c0, c1]) hd hQ
theorem ret10 {W : World} {R : Nat} {a : Act} {X : Ending → World → Prop} {u0 u1 b : Value} (h : Bk W R u0 u1) (ha : a.tmps.getD 2 undef = .pointer (some ⟨R, 0, none⟩)) (hb : a.tmps.getD 3 undef = b) (hd : a.defers = [])
    (hQ : X (.returned (.tuple #[.agg #[u0, u1], b])) W) : bodyPost Tryd.prog Tryd.f10 X .ret a W := by
  have c0 := h.c0
  have c1 := h.c1
  simp at ha hb
  exact bodyPost_ret (v := .tuple #[.agg #[u0, u1], b]) (by simp [results, Tryd.results10, go_sem, ha, hb, c0, c1]) hd hQ

theorem st_cx (wx : World) (a : Addr) (x y : Nat) (m : Mode) : (store a (.complex .f64 x y) m).run Tryd.prog wx = stored Tryd.prog wx a (.complex .f64 x y) m := run_store Tryd.prog wx a _ m rfl

theorem new_any (w : World) : Calls Tryd.prog 11 #[] w fun e w' => e = .returned (wkV 0 0 4607182418800017408 0) ∧ Below w.heap.size w w' := by
  have HB := Lib.hid ((Below.refl w.heap.size w).alloc (Nat.le_refl _) (.cells #[.complex .f64 0 0, .complex .f64 4607182418800017408 0] 26))
  have hst := st_cx
  go_enter Tryd.func11, Tryd.ntmps11
  go_wp2_with fail
  refine ret11 (bk_new _ _ _) rfl rfl ?_
  exact ⟨rfl, HB.out⟩

theorem bk_new2 (w : World) (o : Obj) (u0 u1 : Value) : Bk ((w.alloc o).alloc (.cells #[u0, u1] 26)) (w.heap.size + 1) u0 u1 := by
  have := bk_new (w.alloc o) u0 u1
  rwa [show (w.alloc o).heap.size = w.heap.size + 1 by simp] at this
theorem two_below (w : World) (o p : Obj) : Below w.heap.size w ((w.alloc o).alloc p) := ((Below.refl w.heap.size w).alloc (Nat.le_refl _) o).alloc (by simp) p

set_option maxHeartbeats 1000000 in
theorem step_F (a b c d re im : Nat) (h : cSumBits .add .f64 a b c d = some (re, im)) (w : World) : Calls Tryd.prog 13 #[.agg #[.complex .f64 a b, .complex .f64 c d], .int .u8 70] w fun e w' => e = .returned (.tuple #[.agg #[.complex .f64 re im, .complex .f64 c d], .bool true]) ∧ Below w.heap.size w w' := by
  have hst := st_cx
  have hs := fun wx => run_complex_sum (P := Tryd.prog) wx .add (.inl rfl) 24 .f64 a b c d re im h
  clear h
  go_enter Tryd.func13, Tryd.ntmps13
  go_wp2_with fail
  refine ret13 (bk_new2 _ _ _ _) rfl rfl rfl ?_
  exact ⟨rfl, two_below _ _ _⟩

set_option maxHeartbeats 1000000 in
theorem step_B (a b c d re im : Nat) (h : cSumBits .sub .f64 a b c d = some (re, im)) (w : World) : Calls Tryd.prog 13 #[.agg #[.complex .f64 a b, .complex .f64 c d], .int .u8 66] w fun e w' => e = .returned (.tuple #[.agg #[.complex .f64 re im, .complex .f64 c d], .bool true]) ∧ Below w.heap.size w w' := by
  have hst := st_cx
  have hs := fun wx => run_complex_sum (P := Tryd.prog) wx .sub (.inr rfl) 24 .f64 a b c d re im h
  clear h
  go_enter Tryd.func13, Tryd.ntmps13
  go_wp2_with fail
  refine ret13 (bk_new2 _ _ _ _) rfl rfl rfl ?_
  exact ⟨rfl, two_below _ _ _⟩

set_option maxHeartbeats 1000000 in
theorem step_L (a b c d re im : Nat) (h : cMulBits c d 0 4607182418800017408 = some (re, im)) (w : World) : Calls Tryd.prog 13 #[.agg #[.complex .f64 a b, .complex .f64 c d], .int .u8 76] w fun e w' => e = .returned (.tuple #[.agg #[.complex .f64 a b, .complex .f64 re im], .bool true]) ∧ Below w.heap.size w w' := by
  have hst := st_cx
  have hs := fun wx => run_complex_mul (P := Tryd.prog) wx 24 c d 0 4607182418800017408 re im h
  clear h
  go_enter Tryd.func13, Tryd.ntmps13
  go_wp2_with fail
  refine ret13 (bk_new2 _ _ _ _) rfl rfl rfl ?_
  exact ⟨rfl, two_below _ _ _⟩

set_option maxHeartbeats 1000000 in
theorem step_R (a b c d re im : Nat) (h : cMulBits c d 0 13830554455654793216 = some (re, im)) (w : World) : Calls Tryd.prog 13 #[.agg #[.complex .f64 a b, .complex .f64 c d], .int .u8 82] w fun e w' => e = .returned (.tuple #[.agg #[.complex .f64 a b, .complex .f64 re im], .bool true]) ∧ Below w.heap.size w w' := by
  have hst := st_cx
  have hs := fun wx => run_complex_mul (P := Tryd.prog) wx 24 c d 0 13830554455654793216 re im h
  clear h
  go_enter Tryd.func13, Tryd.ntmps13
  go_wp2_with fail
  refine ret13 (bk_new2 _ _ _ _) rfl rfl rfl ?_
  exact ⟨rfl, two_below _ _ _⟩

set_option maxHeartbeats 1000000 in
theorem step_X (a b c d : Nat) (n : Nat) (h1 : n ≠ 70) (h2 : n ≠ 66) (h3 : n ≠ 76) (h4 : n ≠ 82) (w : World) : Calls Tryd.prog 13 #[.agg #[.complex .f64 a b, .complex .f64 c d], .int .u8 (n : Int)] w fun e w' => e = .returned (.tuple #[.agg #[.complex .f64 0 0, .complex .f64 0 0], .bool false]) ∧ Below w.heap.size w w' := by
  have hst := st_cx
  have k1 : ¬ (n : Int) = 70 := by omega
  have k2 : ¬ (n : Int) = 66 := by omega
  have k3 : ¬ (n : Int) = 76 := by omega
  have k4 : ¬ (n : Int) = 82 := by omega
  clear h1 h2 h3 h4
  go_enter Tryd.func13, Tryd.ntmps13
  go_wp2_with fail
  refine ret13 (bk_new2 _ _ _ _) rfl rfl rfl ?_
  exact ⟨rfl, two_below _ _ _⟩

/-- One step: what it tells stands for the step of the plain walker. -/
theorem step_any {a b c d : Nat} {p : Wk} (h : Rw a b c d p) {n : Nat} (hi : In n p) (hn : n ≤ 44) (s : UInt8) (w : World) : Calls Tryd.prog 13 #[.agg #[.complex .f64 a b, .complex .f64 c d], .int .u8 (s.toNat : Int)] w fun e w' =>
    ∃ a' b' c' d', e = .returned (.tuple #[.agg #[.complex .f64 a' b', .complex .f64 c' d'], .bool (stepW p s).isSome]) ∧ Rw a' b' c' d' ((stepW p s).getD noW) ∧ Below w.heap.size w w' := by
  have u0 := hi.x0; have u1 := hi.x1; have u2 := hi.y0; have u3 := hi.y1
  have hw := hi.way
  unfold stepW
  by_cases k1 : s = 70
  · subst k1
    obtain ⟨re, im, h1, r1, r2⟩ := csum_rp h.x h.y h.dx h.dy (by omega) (by omega) (by omega) (by omega) hw
    exact (step_F a b c d re im h1 w).mono fun e w' ⟨he, hb⟩ => ⟨re, im, c, d, he, ⟨r1, r2, h.dx, h.dy⟩, hb⟩
  by_cases k2 : s = 66
  · subst k2
    obtain ⟨re, im, h1, r1, r2⟩ := cdif_rp h.x h.y h.dx h.dy (by omega) (by omega) (by omega) (by omega) hw
    exact (step_B a b c d re im h1 w).mono fun e w' ⟨he, hb⟩ => ⟨re, im, c, d, he, ⟨r1, r2, h.dx, h.dy⟩, hb⟩
  have hd : -44 ≤ p.dx ∧ p.dx ≤ 44 ∧ -44 ≤ p.dy ∧ p.dy ≤ 44 := by unfold Unit4 at hw; omega
  by_cases k3 : s = 76
  · subst k3
    obtain ⟨re, im, h1, r1, r2⟩ := cmul_rp h.dx h.dy rp_zero rp_one hd.1 hd.2.1 hd.2.2.1 hd.2.2.2 (.inr (.inl ⟨rfl, rfl⟩))
    rw [show p.dx * 0 - p.dy * 1 = -p.dy by omega] at r1
    rw [show p.dx * 1 + p.dy * 0 = p.dx by omega] at r2
    exact (step_L a b c d re im h1 w).mono fun e w' ⟨he, hb⟩ => ⟨a, b, re, im, he, ⟨h.x, h.y, r1, r2⟩, hb⟩
  by_cases k4 : s = 82
  · subst k4
    obtain ⟨re, im, h1, r1, r2⟩ := cmul_rp h.dx h.dy rp_zero rp_neg hd.1 hd.2.1 hd.2.2.1 hd.2.2.2 (.inr (.inr (.inr ⟨rfl, rfl⟩)))
    rw [show p.dx * 0 - p.dy * -1 = p.dy by omega] at r1
    rw [show p.dx * -1 + p.dy * 0 = -p.dx by omega] at r2
    exact (step_R a b c d re im h1 w).mono fun e w' ⟨he, hb⟩ => ⟨a, b, re, im, he, ⟨h.x, h.y, r1, r2⟩, hb⟩
  rw [if_neg k1, if_neg k2, if_neg k3, if_neg k4]
  have hne : ∀ k : UInt8, s ≠ k → s.toNat ≠ k.toNat := fun k h e => h (UInt8.toNat_inj.1 e)
  exact (step_X a b c d s.toNat (hne 70 k1) (hne 66 k2) (hne 76 k3) (hne 82 k4) w).mono fun e w' ⟨he, hb⟩ => ⟨0, 0, 0, 0, he, rw_no, hb⟩
end Go.Proofs.YthpklagnecoilaaDoor
