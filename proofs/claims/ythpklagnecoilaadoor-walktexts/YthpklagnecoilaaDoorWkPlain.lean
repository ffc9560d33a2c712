/- Walks, reckoned plainly by whole numbers. -/
import Derived.Test.YthpklagnecoilaaDoorFl
namespace Go.Proofs.YthpklagnecoilaaDoor

/-- A place and a way: whole numbers. -/
structure Wk where
  x : Int
  y : Int
  dx : Int
  dy : Int
  deriving DecidableEq

/-- One of the four ways. -/
def Unit4 (u v : Int) : Prop := (u = 1 ∧ v = 0) ∨ (u = 0 ∧ v = 1) ∨ (u = -1 ∧ v = 0) ∨ (u = 0 ∧ v = -1)

theorem csum_rp {a b c d : Nat} {x y u v : Int} (ha : Rp a x) (hb : Rp b y) (hc : Rp c u) (hd : Rp d v) (hx0 : -44 ≤ x) (hx1 : x ≤ 44) (hy0 : -44 ≤ y) (hy1 : y ≤ 44) (hu : Unit4 u v) :
    ∃ re im, cSumBits .add .f64 a b c d = some (re, im) ∧ Rp re (x + u) ∧ Rp im (y + v) := by
  unfold Unit4 at hu
  obtain ⟨r, h1, k1⟩ := add_rp ha hc (by omega)
  obtain ⟨s, h2, k2⟩ := add_rp hb hd (by omega)
  exact ⟨r, s, by simp [cSumBits, h1, h2], k1, k2⟩
theorem cdif_rp {a b c d : Nat} {x y u v : Int} (ha : Rp a x) (hb : Rp b y) (hc : Rp c u) (hd : Rp d v) (hx0 : -44 ≤ x) (hx1 : x ≤ 44) (hy0 : -44 ≤ y) (hy1 : y ≤ 44) (hu : Unit4 u v) :
    ∃ re im, cSumBits .sub .f64 a b c d = some (re, im) ∧ Rp re (x - u) ∧ Rp im (y - v) := by
  unfold Unit4 at hu
  obtain ⟨r, h1, k1⟩ := sub_rp ha hc (by omega)
  obtain ⟨s, h2, k2⟩ := sub_rp hb hd (by omega)
  exact ⟨r, s, by simp [cSumBits, h1, h2], k1, k2⟩
theorem cmul_rp {a b c d : Nat} {x y u v : Int} (ha : Rp a x) (hb : Rp b y) (hc : Rp c u) (hd : Rp d v) (hx0 : -44 ≤ x) (hx1 : x ≤ 44) (hy0 : -44 ≤ y) (hy1 : y ≤ 44) (hu : Unit4 u v) :
    ∃ re im, cMulBits a b c d = some (re, im) ∧ Rp re (x * u - y * v) ∧ Rp im (x * v + y * u) := by
  unfold Unit4 at hu
  obtain ⟨ac, h1, k1⟩ := mul_rp ha hc hx0 hx1 (by omega)
  obtain ⟨bd, h2, k2⟩ := mul_rp hb hd hy0 hy1 (by omega)
  obtain ⟨ad, h4, k4⟩ := mul_rp ha hd hx0 hx1 (by omega)
  obtain ⟨bc, h5, k5⟩ := mul_rp hb hc hy0 hy1 (by omega)
  obtain ⟨re, h3, k3⟩ := sub_rp k1 k2 (by rcases hu with ⟨rfl, rfl⟩ | ⟨rfl, rfl⟩ | ⟨rfl, rfl⟩ | ⟨rfl, rfl⟩ <;> omega)
  obtain ⟨im, h6, k6⟩ := add_rp k4 k5 (by rcases hu with ⟨rfl, rfl⟩ | ⟨rfl, rfl⟩ | ⟨rfl, rfl⟩ | ⟨rfl, rfl⟩ <;> omega)
  exact ⟨re, im, by simp [cMulBits, h1, h2, h3, h4, h5, h6], k3, k6⟩

/-- One step; none: another sign. -/
def stepW (p : Wk) (c : UInt8) : Option Wk :=
  if c = 70 then some ⟨p.x + p.dx, p.y + p.dy, p.dx, p.dy⟩
  else if c = 66 then some ⟨p.x - p.dx, p.y - p.dy, p.dx, p.dy⟩
  else if c = 76 then some ⟨p.x, p.y, -p.dy, p.dx⟩
  else if c = 82 then some ⟨p.x, p.y, p.dy, -p.dx⟩
  else none
def goW (p : Wk) : List UInt8 → Option Wk
  | [] => some p
  | c :: l => (stepW p c).bind fun q => goW q l
def newW : Wk := ⟨0, 0, 1, 0⟩
def noW : Wk := ⟨0, 0, 0, 0⟩
def walkW (l : List UInt8) : Option Wk := if l.length > 40 then none else goW newW l

/-- What stands behind so many steps. -/
structure In (n : Nat) (p : Wk) : Prop where
  x0 : -(n : Int) ≤ p.x
  x1 : p.x ≤ n
  y0 : -(n : Int) ≤ p.y
  y1 : p.y ≤ n
  way : Unit4 p.dx p.dy

theorem in_new : In 0 newW := ⟨by decide, by decide, by decide, by decide, .inl ⟨rfl, rfl⟩⟩
theorem In.mono {m n : Nat} {p : Wk} (h : In m p) (hn : m ≤ n) : In n p := ⟨by have := h.x0; omega, by have := h.x1; omega, by have := h.y0; omega, by have := h.y1; omega, h.way⟩
theorem in_step {n : Nat} {p q : Wk} {c : UInt8} (h : In n p) (hs : stepW p c = some q) : In (n + 1) q := by
  obtain ⟨h1, h2, h3, h4, hw⟩ := h
  unfold Unit4 at hw
  unfold stepW at hs
  split at hs
  · cases hs; constructor <;> simp only [Unit4] <;> omega
  · split at hs
    · cases hs; constructor <;> simp only [Unit4] <;> omega
    · split at hs
      · cases hs; constructor <;> simp only [Unit4] <;> omega
      · split at hs
        · cases hs; constructor <;> simp only [Unit4] <;> omega
        · cases hs
theorem in_go : ∀ (l : List UInt8) {n : Nat} {p q : Wk}, In n p → goW p l = some q → In (n + l.length) q
  | [], n, p, q, h, hs => by cases hs; exact h
  | c :: l, n, p, q, h, hs => by
    simp only [goW] at hs
    cases he : stepW p c with
    | none => rw [he] at hs; cases hs
    | some r =>
      rw [he] at hs
      have := in_go l (in_step h he) hs
      rw [List.length_cons, show n + (l.length + 1) = n + 1 + l.length by omega]
      exact this
theorem in_walk {l : List UInt8} {q : Wk} (h : walkW l = some q) : In 40 q ∧ In l.length q := by
  unfold walkW at h
  split at h
  · cases h
  · have := in_go l in_new h
    rw [Nat.zero_add] at this
    exact ⟨this.mono (by omega), this⟩
theorem go_app : ∀ (l m : List UInt8) (p : Wk), goW p (l ++ m) = (goW p l).bind fun q => goW q m
  | [], m, p => rfl
  | c :: l, m, p => by
    simp only [List.cons_append, goW]
    cases stepW p c with
    | none => rfl
    | some r => exact go_app l m r
theorem go_snoc (l : List UInt8) (c : UInt8) (p : Wk) : goW p (l ++ [c]) = (goW p l).bind fun q => stepW q c := by
  rw [go_app]
  cases goW p l with
  | none => rfl
  | some q =>
    show (stepW q c).bind (fun r => some r) = stepW q c
    cases stepW q c <;> rfl
end Go.Proofs.YthpklagnecoilaaDoor
