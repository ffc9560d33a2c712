/- Whole numbers as words of a float: what sums, differences, products, comparisons and conversions give, at the few numbers that walks reach; noughts of either sign. -/
import Derived.WalkLawsBesides
namespace Go.Proofs.YthpklagnecoilaaDoor

/-- The words that stand for a whole number: a nought has two. -/
def reps (n : Int) : List Nat := if n = 0 then [0, 9223372036854775808] else [floatOfInt .f64 n]
/-- The word stands for the number. -/
def Rp (b : Nat) (n : Int) : Prop := b ∈ reps n ∧ -45 ≤ n ∧ n ≤ 45
instance (b : Nat) (n : Int) : Decidable (Rp b n) := inferInstanceAs (Decidable (_ ∧ _))

def isRep (o : Option Nat) (n : Int) : Bool := match o with
  | some r => (reps n).contains r
  | none => false

theorem rep_out {o : Option Nat} {n : Int} (h : isRep o n = true) (h0 : -45 ≤ n) (h1 : n ≤ 45) : ∃ r, o = some r ∧ Rp r n := by
  cases o with
  | none => cases h
  | some r => exact ⟨r, rfl, by simpa [isRep] using h, h0, h1⟩

def all2 (f : Nat → Nat → Bool) (x y : Int) : Bool := (reps x).all fun a => (reps y).all fun b => f a b

theorem all2_out {f : Nat → Nat → Bool} {x y : Int} (h : all2 f x y = true) {a b : Nat} (ha : Rp a x) (hb : Rp b y) : f a b = true := by
  unfold all2 at h
  rw [List.all_eq_true] at h
  have := h a ha.1
  rw [List.all_eq_true] at this
  exact this b hb.1

/-- A table over two numbers, asked at any two of its places. -/
theorem tab2 {p : Int → Int → Bool} {m n : Nat} (h : ∀ i : Fin (2 * m + 1), ∀ j : Fin (2 * n + 1), p ((i.val : Int) - m) ((j.val : Int) - n) = true) {x y : Int} (hx0 : -(m : Int) ≤ x) (hx1 : x ≤ m) (hy0 : -(n : Int) ≤ y) (hy1 : y ≤ n) : p x y = true := by
  have := h ⟨(x + m).toNat, by omega⟩ ⟨(y + n).toNat, by omega⟩
  simp only at this
  rw [show (((x + m).toNat : Nat) : Int) - m = x by omega, show (((y + n).toNat : Nat) : Int) - n = y by omega] at this
  exact this

set_option maxRecDepth 100000 in
theorem add_tab : ∀ i : Fin (2 * 44 + 1), ∀ j : Fin (2 * 1 + 1), all2 (fun a b => isRep (floatBits .add .f64 a b) (((i.val : Int) - (44 : Nat)) + ((j.val : Int) - (1 : Nat)))) ((i.val : Int) - (44 : Nat)) ((j.val : Int) - (1 : Nat)) = true := by decide +kernel
set_option maxRecDepth 100000 in
theorem add_tab' : ∀ i : Fin (2 * 1 + 1), ∀ j : Fin (2 * 44 + 1), all2 (fun a b => isRep (floatBits .add .f64 a b) (((i.val : Int) - (1 : Nat)) + ((j.val : Int) - (44 : Nat)))) ((i.val : Int) - (1 : Nat)) ((j.val : Int) - (44 : Nat)) = true := by decide +kernel
set_option maxRecDepth 100000 in
theorem sub_tab : ∀ i : Fin (2 * 44 + 1), ∀ j : Fin (2 * 1 + 1), all2 (fun a b => isRep (floatBits .sub .f64 a b) (((i.val : Int) - (44 : Nat)) - ((j.val : Int) - (1 : Nat)))) ((i.val : Int) - (44 : Nat)) ((j.val : Int) - (1 : Nat)) = true := by decide +kernel
set_option maxRecDepth 100000 in
theorem sub_tab' : ∀ i : Fin (2 * 1 + 1), ∀ j : Fin (2 * 44 + 1), all2 (fun a b => isRep (floatBits .sub .f64 a b) (((i.val : Int) - (1 : Nat)) - ((j.val : Int) - (44 : Nat)))) ((i.val : Int) - (1 : Nat)) ((j.val : Int) - (44 : Nat)) = true := by decide +kernel
set_option maxRecDepth 100000 in
theorem mul_tab : ∀ i : Fin (2 * 44 + 1), ∀ j : Fin (2 * 1 + 1), all2 (fun a b => isRep (floatBits .mul .f64 a b) (((i.val : Int) - (44 : Nat)) * ((j.val : Int) - (1 : Nat)))) ((i.val : Int) - (44 : Nat)) ((j.val : Int) - (1 : Nat)) = true := by decide +kernel
set_option maxRecDepth 100000 in
theorem ord_tab : ∀ i : Fin (2 * 45 + 1), ∀ j : Fin (2 * 45 + 1), all2 (fun a b => (FloatKind.f64.format.order a b == some .eq) == decide (((i.val : Int) - (45 : Nat)) = ((j.val : Int) - (45 : Nat)))) ((i.val : Int) - (45 : Nat)) ((j.val : Int) - (45 : Nat)) = true := by decide +kernel
set_option maxRecDepth 100000 in
theorem int_tab : ∀ i : Fin (2 * 45 + 1), ∀ j : Fin (2 * 0 + 1), all2 (fun a _ => floatToIntVal .f64 a .i64 == some ((i.val : Int) - (45 : Nat))) ((i.val : Int) - (45 : Nat)) ((j.val : Int) - (0 : Nat)) = true := by decide +kernel

theorem rp_zero : Rp 0 0 := by decide
theorem rp_one : Rp 4607182418800017408 1 := by decide +kernel
theorem rp_neg : Rp 13830554455654793216 (-1) := by decide +kernel
theorem rp_conv (n : Int) (h0 : -45 ≤ n) (h1 : n ≤ 45) : Rp (floatOfInt .f64 n) n := by
  refine ⟨?_, h0, h1⟩
  unfold reps
  split
  · rename_i h
    subst h
    decide +kernel
  · simp

theorem add_rp {a b : Nat} {x u : Int} (ha : Rp a x) (hb : Rp b u) (h : (-44 ≤ x ∧ x ≤ 44 ∧ -1 ≤ u ∧ u ≤ 1) ∨ (-1 ≤ x ∧ x ≤ 1 ∧ -44 ≤ u ∧ u ≤ 44)) : ∃ r, floatBits .add .f64 a b = some r ∧ Rp r (x + u) := by
  rcases h with h | h
  · exact rep_out (all2_out (tab2 (p := fun x u => all2 (fun a b => isRep (floatBits .add .f64 a b) (x + u)) x u) (m := 44) (n := 1) add_tab (by omega) (by omega) (by omega) (by omega)) ha hb) (by omega) (by omega)
  · exact rep_out (all2_out (tab2 (p := fun x u => all2 (fun a b => isRep (floatBits .add .f64 a b) (x + u)) x u) (m := 1) (n := 44) add_tab' (by omega) (by omega) (by omega) (by omega)) ha hb) (by omega) (by omega)
theorem sub_rp {a b : Nat} {x u : Int} (ha : Rp a x) (hb : Rp b u) (h : (-44 ≤ x ∧ x ≤ 44 ∧ -1 ≤ u ∧ u ≤ 1) ∨ (-1 ≤ x ∧ x ≤ 1 ∧ -44 ≤ u ∧ u ≤ 44)) : ∃ r, floatBits .sub .f64 a b = some r ∧ Rp r (x - u) := by
  rcases h with h | h
  · exact rep_out (all2_out (tab2 (p := fun x u => all2 (fun a b => isRep (floatBits .sub .f64 a b) (x - u)) x u) (m := 44) (n := 1) sub_tab (by omega) (by omega) (by omega) (by omega)) ha hb) (by omega) (by omega)
  · exact rep_out (all2_out (tab2 (p := fun x u => all2 (fun a b => isRep (floatBits .sub .f64 a b) (x - u)) x u) (m := 1) (n := 44) sub_tab' (by omega) (by omega) (by omega) (by omega)) ha hb) (by omega) (by omega)
theorem mul_rp {a b : Nat} {x u : Int} (ha : Rp a x) (hb : Rp b u) (h0 : -44 ≤ x) (h1 : x ≤ 44) (h2 : u = 0 ∨ u = 1 ∨ u = -1) : ∃ r, floatBits .mul .f64 a b = some r ∧ Rp r (x * u) :=
  rep_out (all2_out (tab2 (p := fun x u => all2 (fun a b => isRep (floatBits .mul .f64 a b) (x * u)) x u) (m := 44) (n := 1) mul_tab (by omega) (by omega) (by omega) (by omega)) ha hb) (by rcases h2 with rfl | rfl | rfl <;> omega) (by rcases h2 with rfl | rfl | rfl <;> omega)
theorem ord_rp {a b : Nat} {x y : Int} (ha : Rp a x) (hb : Rp b y) : (FloatKind.f64.format.order a b == some .eq) = decide (x = y) := by
  have h := all2_out (tab2 (p := fun x y => all2 (fun a b => (FloatKind.f64.format.order a b == some .eq) == decide (x = y)) x y) (m := 45) (n := 45) ord_tab (by have := ha.2.1; omega) (by have := ha.2.2; omega) (by have := hb.2.1; omega) (by have := hb.2.2; omega)) ha hb
  simpa using h
theorem int_rp {a : Nat} {x : Int} (ha : Rp a x) : floatToIntVal .f64 a .i64 = some x := by
  have h := all2_out (tab2 (p := fun x y => all2 (fun a _ => floatToIntVal .f64 a .i64 == some x) x y) (m := 45) (n := 0) int_tab (by have := ha.2.1; omega) (by have := ha.2.2; omega) (y := 0) (by omega) (by omega)) ha (b := 0) rp_zero
  simpa using h

end Go.Proofs.YthpklagnecoilaaDoor
