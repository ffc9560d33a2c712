/- Capitals made small, plainly; no Go. -/
import Derived.Test.YtkbigfjaaiobfaaDoorPlain
namespace Go.Proofs.YtkbigfjaaiobfaaDoor.Pl

def lowU (c : UInt8) : UInt8 := if 65 ≤ c.toNat ∧ c.toNat ≤ 90 then c + 32 else c
def lowB (l : List UInt8) : List UInt8 := l.map lowU
def lowTo (l : List UInt8) (k : Nat) : List UInt8 := lowB (l.take k) ++ l.drop k

theorem lowU_cap {c : UInt8} (h : capR (c.toNat : Int) = true) : ((lowU c).toNat : Int) = (c.toNat : Int) + 32 := by
  simp [capR] at h
  have h' : 65 ≤ c.toNat ∧ c.toNat ≤ 90 := by omega
  rw [lowU, if_pos h', UInt8.toNat_add]
  have : (32 : UInt8).toNat = 32 := rfl
  omega
theorem lowU_not {c : UInt8} (h : capR (c.toNat : Int) = false) : lowU c = c := by
  rw [lowU, if_neg]
  intro h'
  simp [capR] at h
  omega
theorem lowU_high {c : UInt8} (h : 128 ≤ c.toNat) : lowU c = c := by
  rw [lowU, if_neg (by omega)]
theorem lowTo_zero (l : List UInt8) : lowTo l 0 = l := by simp [lowTo, lowB]
theorem lowTo_all (l : List UInt8) (k : Nat) (h : l.length ≤ k) : lowTo l k = lowB l := by
  rw [lowTo, List.take_of_length_le h, List.drop_of_length_le h, List.append_nil]
theorem lowTo_length (l : List UInt8) (k : Nat) : (lowTo l k).length = l.length := by
  rw [lowTo, lowB, List.length_append, List.length_map, List.length_take, List.length_drop]; omega
theorem lowTo_step (s : ByteArray) (k : Nat) (h : k < s.size) : lowTo s.data.toList (k + 1) = lowB (s.data.toList.take k) ++ lowU s[k] :: s.data.toList.drop (k + 1) := by
  rw [lowTo, take_snoc s k h, lowB, List.map_append]; simp [lowB]
theorem lowTo_at (s : ByteArray) (k : Nat) (h : k < s.size) : lowTo s.data.toList k = lowB (s.data.toList.take k) ++ s[k] :: s.data.toList.drop (k + 1) := by
  rw [lowTo, drop_at s k h]
theorem lowB_take_len (s : ByteArray) (k : Nat) (h : k ≤ s.size) : (lowB (s.data.toList.take k)).length = k := by
  have : s.data.toList.length = s.size := by simp
  rw [lowB, List.length_map, List.length_take]; omega
theorem lowTo_same (s : ByteArray) (k : Nat) (h : k < s.size) (hl : lowU s[k] = s[k]) : lowTo s.data.toList (k + 1) = lowTo s.data.toList k := by
  rw [lowTo_step s k h, lowTo_at s k h, hl]
theorem lowTo_get (s : ByteArray) (k : Nat) (h : k < s.size) : (lowTo s.data.toList k)[k]? = some s[k] := by
  rw [lowTo_at s k h, List.getElem?_append_right (by rw [lowB_take_len s k (by omega)]; exact Nat.le_refl _), lowB_take_len s k (by omega)]
  simp
theorem lowTo_set (s : ByteArray) (k : Nat) (h : k < s.size) : (lowTo s.data.toList k).set k (lowU s[k]) = lowTo s.data.toList (k + 1) := by
  rw [lowTo_at s k h, lowTo_step s k h, List.set_append_right _ _ (by rw [lowB_take_len s k (by omega)]; exact Nat.le_refl _), lowB_take_len s k (by omega)]
  simp

end Go.Proofs.YtkbigfjaaiobfaaDoor.Pl
