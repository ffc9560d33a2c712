/- Digits of ten, plainly; no Go. -/
import Derived.Test.YtihdjgjceadooaaDoorFirstPlain
namespace Go.Proofs.YtihdjgjceadooaaDoor
open Pl

def digB (l : List UInt8) : Prop := ∀ c ∈ l, 48 ≤ c.toNat ∧ c.toNat ≤ 57
def dval (x : Nat) (l : List UInt8) : Nat := l.foldl (fun a c => a * 10 + (c.toNat - 48)) x

theorem dval_cons (x : Nat) (c : UInt8) (l : List UInt8) : dval x (c :: l) = dval (x * 10 + (c.toNat - 48)) l := by
  unfold dval; rw [List.foldl_cons]
theorem dval_ge (l : List UInt8) : ∀ x, x ≤ dval x l := by
  induction l with
  | nil => intro x; exact Nat.le_refl _
  | cons c l ih =>
    intro x
    rw [dval_cons]
    exact Nat.le_trans (by omega) (ih _)
theorem dval_split (l : List UInt8) : ∀ x, dval x l = x * 10 ^ l.length + dval 0 l := by
  induction l with
  | nil => intro x; simp [dval]
  | cons c l ih =>
    intro x
    rw [dval_cons, dval_cons, ih, ih (0 * 10 + _), List.length_cons, Nat.pow_succ, Nat.add_mul, Nat.zero_mul, Nat.zero_add, Nat.add_assoc]
    congr 1
    rw [Nat.mul_assoc, Nat.mul_comm 10]
theorem digR_of {c : UInt8} (h : 48 ≤ c.toNat ∧ c.toNat ≤ 57) : digR (c.toNat : Int) = ((c.toNat - 48 : Nat) : Int) := by
  unfold digR; rw [if_pos (by omega)]; omega
theorem numGo_val (l : List UInt8) : ∀ x : Nat, digB l → dval x l ≤ 1073741824 → numGo 10 (x : Int) l = some (dval x l : Int) := by
  induction l with
  | nil => intro x _ _; rfl
  | cons c l ih =>
    intro x hd hb
    have hc := hd c (by simp)
    rw [dval_cons] at hb ⊢
    have hge := dval_ge l (x * 10 + (c.toNat - 48))
    rw [numGo, digR_of hc, if_neg (by simp [badD]; omega)]
    have e : (x : Int) * 10 + ((c.toNat - 48 : Nat) : Int) = ((x * 10 + (c.toNat - 48) : Nat) : Int) := by simp
    rw [e]
    exact ih _ (fun c' hc' => hd c' (by simp [hc'])) hb
theorem numB_val (l : List UInt8) (hne : l ≠ []) (hd : digB l) (hb : dval 0 l ≤ 1073741824) : numB 10 l = some (dval 0 l : Int) := by
  rw [numB_ne 10 hne]
  exact numGo_val l 0 hd hb
theorem dval_zeros (z l : List UInt8) (hz : ∀ c ∈ z, c = 48) : dval 0 (z ++ l) = dval 0 l := by
  induction z with
  | nil => rfl
  | cons c z ih =>
    rw [List.cons_append, dval_cons, hz c (by simp)]
    exact ih (fun c' hc' => hz c' (by simp [hc']))
theorem dig_bl {l : List UInt8} (hd : digB l) : ∀ c ∈ l, bl c = false := by
  intro c hc
  have := hd c hc
  simp [bl]
  constructor <;> (intro e; subst e; revert this; decide)
theorem tr_id (l : List UInt8) (h : ∀ c ∈ l, bl c = false) : tr l = l := by
  have := tr_only [] l [] rfl rfl ⟨fun c hc => h c (List.mem_of_mem_head? hc), fun c hc => h c (List.mem_of_mem_getLast? hc)⟩
  simpa using this
theorem tr_blank (l : List UInt8) (h : ∀ c ∈ l, bl c = false) : tr (32 :: l) = l := by
  have := tr_only [32] l [] rfl rfl ⟨fun c hc => h c (List.mem_of_mem_head? hc), fun c hc => h c (List.mem_of_mem_getLast? hc)⟩
  simpa using this
theorem dig_val {l : List UInt8} (hd : digB l) : valB l = true := by
  unfold valB
  rw [List.all_eq_true]
  intro c hc
  have := hd c hc
  simp [valR]; omega

/-- A step of the loop that lays the digits. -/
def DInv (n k : Nat) (d : List UInt8) : Prop := digB d ∧ d.length ≤ 5 ∧ k ≤ 65535 / 10 ^ d.length ∧ k * 10 ^ d.length + dval 0 d = n
theorem dinv_start (n : Nat) (h : n ≤ 65535) : DInv n n [] := ⟨(fun c hc => by cases hc), by simp, by simpa using h, by simp [dval]⟩
theorem dinv_step {n k : Nat} {d : List UInt8} (h : DInv n k d) (hk : 0 < k ∨ d = []) (c : UInt8) (hc : c.toNat = 48 + k % 10) : DInv n (k / 10) (c :: d) := by
  obtain ⟨h1, h2, h3, h4⟩ := h
  have hlen : d.length ≤ 4 := by
    rcases hk with hk | hk
    · rcases Nat.lt_or_ge d.length 5 with hl | hl
      · omega
      · have : d.length = 5 := by omega
        rw [this] at h3
        simp at h3
        omega
    · subst hk; simp
  refine ⟨fun c' hc' => ?_, by simp; omega, ?_, ?_⟩
  · rw [List.mem_cons] at hc'
    rcases hc' with rfl | hc'
    · omega
    · exact h1 c' hc'
  · rw [List.length_cons, Nat.pow_succ, ← Nat.div_div_eq_div_mul]
    exact Nat.div_le_div_right h3
  · rw [dval_cons, dval_split, List.length_cons, Nat.pow_succ, hc]
    have e : k / 10 * (10 ^ d.length * 10) = k / 10 * 10 * 10 ^ d.length := by rw [Nat.mul_comm (10 ^ d.length) 10, Nat.mul_assoc]
    have e2 : (k / 10 * 10 + k % 10) * 10 ^ d.length = k * 10 ^ d.length := by rw [Nat.div_add_mod' k 10]
    rw [Nat.add_mul] at e2
    have e3 : 0 * 10 + (48 + k % 10 - 48) = k % 10 := by omega
    rw [e3]
    omega
theorem dinv_end {n : Nat} {d : List UInt8} (h : DInv n 0 d) : digB d ∧ d.length ≤ 5 ∧ dval 0 d = n := ⟨h.1, h.2.1, by have := h.2.2.2; omega⟩

end Go.Proofs.YtihdjgjceadooaaDoor
