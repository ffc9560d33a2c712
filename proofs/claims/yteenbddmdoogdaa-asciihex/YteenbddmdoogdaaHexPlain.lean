/- Numbers written out, plainly, and read again; no Go. -/
import Derived.Test.YteenbddmdoogdaaLowPlain
namespace Go.Proofs.Yteenbddmdoogdaa.Pl

theorem digR_low (c : UInt8) : digR ((lowU c).toNat : Int) = digR (c.toNat : Int) := by
  cases h : capR (c.toNat : Int) with
  | false => rw [lowU_not h]
  | true =>
    rw [lowU_cap h]
    simp [capR] at h
    unfold digR
    by_cases h70 : (c.toNat : Int) ≤ 70
    · rw [if_neg (by omega), if_pos (by omega), if_neg (by omega), if_neg (by omega), if_pos (by omega)]; omega
    · rw [if_neg (by omega), if_neg (by omega), if_neg (by omega), if_neg (by omega), if_neg (by omega), if_neg (by omega)]
theorem numGo_low (base : Int) : ∀ (l : List UInt8) (n : Int), numGo base n (lowB l) = numGo base n l
  | [], n => rfl
  | c :: l, n => by
    show numGo base n (lowU c :: lowB l) = _
    rw [numGo, numGo, digR_low, numGo_low base l]
theorem numGo_zero (base : Int) (hb : base = 10 ∨ base = 16) (l : List UInt8) : numGo base 0 (48 :: l) = numGo base 0 l := by
  have h : digR ((48 : UInt8).toNat : Int) = 0 := by decide
  rw [numGo, h]
  rcases hb with rfl | rfl <;> rfl
theorem numGo_zeros (base : Int) (hb : base = 10 ∨ base = 16) (l : List UInt8) : ∀ m : Nat, numGo base 0 (List.replicate m 48 ++ l) = numGo base 0 l
  | 0 => by simp
  | m + 1 => by rw [List.replicate_succ, List.cons_append, numGo_zero base hb, numGo_zeros base hb l m]
theorem num_zeros (base : Int) (hb : base = 10 ∨ base = 16) (l : List UInt8) (m : Nat) (n : Int) (hl : l ≠ []) (h : numGo base 0 l = some n) : numB base (List.replicate m 48 ++ l) = some n := by
  rw [numB_ne base (by simp [hl]), numGo_zeros base hb, h]
theorem num_low (l : List UInt8) (n : Int) (hl : l ≠ []) (h : numGo 16 0 l = some n) : numB 16 (lowB l) = some n := by
  rw [numB_ne 16 (by simpa [lowB] using hl), numGo_low, h]

def hexC (r : Nat) : UInt8 := UInt8.ofNat (if r < 10 then 48 + r else 55 + r)
theorem digR_hexC (r : Nat) (h : r < 16) : digR ((hexC r).toNat : Int) = (r : Int) := by
  have : ∀ r : Fin 16, digR ((hexC r.1).toNat : Int) = (r.1 : Int) := by decide
  exact this ⟨r, h⟩
def decC (r : Nat) : UInt8 := UInt8.ofNat (48 + r)
theorem decC_toNat (r : Nat) (h : r < 10) : (decC r).toNat = 48 + r := by
  have : ∀ r : Fin 10, (decC r.1).toNat = 48 + r.1 := by decide
  exact this ⟨r, h⟩
theorem digR_decC (r : Nat) (h : r < 10) : digR ((decC r).toNat : Int) = (r : Int) := by
  have : ∀ r : Fin 10, digR ((decC r.1).toNat : Int) = (r.1 : Int) := by decide
  exact this ⟨r, h⟩

theorem dec_step (k : Nat) (l : List UInt8) (n : Int) (hk : k ≤ 1073741824) (h : numGo 10 (k : Int) l = some n) : numGo 10 ((k / 10 : Nat) : Int) (decC (k % 10) :: l) = some n := by
  rw [numGo, digR_decC (k % 10) (by omega), if_neg, ← h]
  · congr 1; omega
  · simp [badD]; omega
theorem hex_step (k : Nat) (l : List UInt8) (n : Int) (hk : k ≤ 1073741824) (h : numGo 16 (k : Int) l = some n) : numGo 16 ((k / 16 : Nat) : Int) (hexC (k % 16) :: l) = some n := by
  rw [numGo, digR_hexC (k % 16) (by omega), if_neg, ← h]
  · congr 1; omega
  · simp [badD]; omega

end Go.Proofs.Yteenbddmdoogdaa.Pl
