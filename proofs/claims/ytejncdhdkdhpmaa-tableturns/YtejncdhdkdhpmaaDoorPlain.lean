/- Plain functions on bytes and numbers, by which the contracts of package ascii are told; no Go. -/
import Derived.Below
namespace Go.Proofs.YtejncdhdkdhpmaaDoor.Pl

def capR (r : Int) : Bool := decide (65 ≤ r) && decide (r ≤ 90)
def markR (r : Int) : Bool := r == 33 || r == 35 || r == 36 || r == 37 || r == 38 || r == 39 || r == 42 || r == 43 || r == 45 || r == 46 || r == 94 || r == 95 || r == 124 || r == 126 || r == 96
def nameR (r : Int) : Bool := markR r || (capR r || (decide (97 ≤ r) && decide (r ≤ 122))) || (decide (48 ≤ r) && decide (r ≤ 57))

theorem nameR_high {r : Int} (h : 128 ≤ r) : nameR r = false := by
  simp [nameR, markR, capR]; omega

/-- May each byte stand in a name? -/
def namesB (l : List UInt8) : Bool := l.all fun c => nameR (c.toNat : Int)
def tokB (l : List UInt8) : Bool := !l.isEmpty && namesB l

theorem namesB_nil : namesB [] = true := rfl
theorem namesB_append (a b : List UInt8) : namesB (a ++ b) = (namesB a && namesB b) := by simp [namesB]
theorem namesB_cons (c : UInt8) (b : List UInt8) : namesB (c :: b) = (nameR (c.toNat : Int) && namesB b) := by simp [namesB]

theorem take_snoc (s : ByteArray) (k : Nat) (h : k < s.size) : s.data.toList.take (k + 1) = s.data.toList.take k ++ [s[k]] := by
  rw [List.take_succ_eq_append_getElem (by simpa using h)]; rfl
theorem take_all (s : ByteArray) (k : Nat) (h : s.size ≤ k) : s.data.toList.take k = s.data.toList := List.take_of_length_le (by simpa using h)
theorem split_at (s : ByteArray) (k : Nat) (h : k < s.size) : s.data.toList = s.data.toList.take k ++ s[k] :: s.data.toList.drop (k + 1) := by
  have := List.take_append_drop (k + 1) s.data.toList
  rw [take_snoc s k h] at this
  simpa using this.symm

theorem names_step (s : ByteArray) (k : Nat) (h : k < s.size) (hk : namesB (s.data.toList.take k) = true) (hn : nameR ((s[k]).toNat : Int) = true) : namesB (s.data.toList.take (k + 1)) = true := by
  rw [take_snoc s k h, namesB_append, hk, namesB_cons, hn]; rfl
theorem names_stop (s : ByteArray) (k : Nat) (h : k < s.size) (hn : nameR ((s[k]).toNat : Int) = false) : tokB s.data.toList = false := by
  rw [tokB, split_at s k h, namesB_append, namesB_cons, hn]; simp
theorem names_end (s : ByteArray) (k : Nat) (h : s.size ≤ k) (hk : namesB (s.data.toList.take k) = true) : tokB s.data.toList = !s.data.toList.isEmpty := by
  rw [take_all s k h] at hk
  rw [tokB, hk, Bool.and_true]

theorem drop_at (s : ByteArray) (k : Nat) (h : k < s.size) : s.data.toList.drop k = s[k] :: s.data.toList.drop (k + 1) := by
  rw [List.drop_eq_getElem_cons (by simpa using h)]; rfl
theorem drop_all (s : ByteArray) (k : Nat) (h : s.size ≤ k) : s.data.toList.drop k = [] := List.drop_of_length_le (by simpa using h)

/-- Has it no sign that steers? -/
def valR (r : Int) : Bool := !((decide (r < 32) && r != 9) || r == 127)
def valB (l : List UInt8) : Bool := l.all fun c => valR (c.toNat : Int)
theorem valR_high {r : Int} (h : 128 ≤ r) : valR r = true := by
  simp [valR]; omega
theorem valB_cons (c : UInt8) (b : List UInt8) : valB (c :: b) = (valR (c.toNat : Int) && valB b) := by simp [valB]
theorem val_step (s : ByteArray) (k : Nat) (h : k < s.size) (hk : valB s.data.toList = valB (s.data.toList.drop k)) (hn : valR ((s[k]).toNat : Int) = true) : valB s.data.toList = valB (s.data.toList.drop (k + 1)) := by
  rw [hk, drop_at s k h, valB_cons, hn]; rfl
theorem val_stop (s : ByteArray) (k : Nat) (h : k < s.size) (hk : valB s.data.toList = valB (s.data.toList.drop k)) (hn : valR ((s[k]).toNat : Int) = false) : valB s.data.toList = false := by
  rw [hk, drop_at s k h, valB_cons, hn]; rfl
theorem val_end (s : ByteArray) (k : Nat) (h : s.size ≤ k) (hk : valB s.data.toList = valB (s.data.toList.drop k)) : valB s.data.toList = true := by
  rw [hk, drop_all s k h]; rfl

def digR (r : Int) : Int := if 48 ≤ r ∧ r ≤ 57 then r - 48 else if 97 ≤ r ∧ r ≤ 102 then r - 97 + 10 else if 65 ≤ r ∧ r ≤ 70 then r - 65 + 10 else -1
theorem digR_high {r : Int} (h : 128 ≤ r) : digR r = -1 := by
  unfold digR; rw [if_neg (by omega), if_neg (by omega), if_neg (by omega)]
theorem digR_lo (r : Int) : -1 ≤ digR r := by unfold digR; repeat' split <;> omega
theorem digR_hi (r : Int) : digR r ≤ 15 := by unfold digR; repeat' split <;> omega

def badD (base n d : Int) : Bool := decide (d < 0) || decide (base ≤ d) || decide ((1073741824 - d) / base < n)
def numGo (base : Int) : Int → List UInt8 → Option Int
  | n, [] => some n
  | n, c :: l => if badD base n (digR (c.toNat : Int)) then none else numGo base (n * base + digR (c.toNat : Int)) l
def numB (base : Int) (l : List UInt8) : Option Int := if l = [] then none else numGo base 0 l

theorem num_step (s : ByteArray) (base n : Int) (k : Nat) (h : k < s.size) (hk : numGo base 0 s.data.toList = numGo base n (s.data.toList.drop k)) (hn : badD base n (digR ((s[k]).toNat : Int)) = false) :
    numGo base 0 s.data.toList = numGo base (n * base + digR ((s[k]).toNat : Int)) (s.data.toList.drop (k + 1)) := by
  rw [hk, drop_at s k h, numGo, if_neg (by simp [hn])]
theorem num_stop (s : ByteArray) (base n : Int) (k : Nat) (h : k < s.size) (hk : numGo base 0 s.data.toList = numGo base n (s.data.toList.drop k)) (hn : badD base n (digR ((s[k]).toNat : Int)) = true) :
    numGo base 0 s.data.toList = none := by
  rw [hk, drop_at s k h, numGo, if_pos hn]
theorem num_end (s : ByteArray) (base n : Int) (k : Nat) (h : s.size ≤ k) (hk : numGo base 0 s.data.toList = numGo base n (s.data.toList.drop k)) : numGo base 0 s.data.toList = some n := by
  rw [hk, drop_all s k h, numGo]
theorem num_ok10 {n d : Int} (h : badD 10 n d = false) : 0 ≤ d ∧ d < 10 ∧ n ≤ (1073741824 - d) / 10 ∧ n * 10 + d ≤ 1073741824 := by
  simp [badD] at h; omega
theorem num_ok16 {n d : Int} (h : badD 16 n d = false) : 0 ≤ d ∧ d < 16 ∧ n ≤ (1073741824 - d) / 16 ∧ n * 16 + d ≤ 1073741824 := by
  simp [badD] at h; omega
theorem num_bad {base n d : Int} (h : badD base n d = true) : d < 0 ∨ base ≤ d ∨ (1073741824 - d) / base < n := by
  simp [badD] at h; omega
theorem numB_ne {l : List UInt8} (base : Int) (h : l ≠ []) : numB base l = numGo base 0 l := by rw [numB, if_neg h]

end Go.Proofs.YtejncdhdkdhpmaaDoor.Pl
