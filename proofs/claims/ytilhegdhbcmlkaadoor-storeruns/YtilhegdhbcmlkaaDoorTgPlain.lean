/- Tags and shards, plainly; no Go. -/
import Derived.Test.YtilhegdhbcmlkaaDoorBs
import Derived.Lib.ItoaNum
namespace Go.Proofs.YtilhegdhbcmlkaaDoor
open Go.RowKit

/-- A sign of base 16. -/
def dig16 (n : Nat) : UInt8 := if n < 10 then UInt8.ofNat (48 + n) else UInt8.ofNat (87 + n)
/-- A number in base 16, ahead of what stands there. -/
def hexR (u : Nat) (acc : Bytes) : Bytes := if u < 16 then dig16 u :: acc else hexR (u / 16) (dig16 (u % 16) :: acc)
termination_by u
decreasing_by omega
theorem hexR_small {u : Nat} (h : u < 16) (acc : Bytes) : hexR u acc = dig16 u :: acc := by rw [hexR, if_pos h]
theorem hexR_big {u : Nat} (h : 16 ≤ u) (acc : Bytes) : hexR u acc = hexR (u / 16) (dig16 (u % 16) :: acc) := by rw [hexR, if_neg (by omega)]
theorem hexR_len : ∀ (n u : Nat) (acc : Bytes), u < 16 ^ (n + 1) → (hexR u acc).length ≤ n + 1 + acc.length
  | 0, u, acc, h => by
    rw [hexR_small (by simpa using h)]; simp; omega
  | n + 1, u, acc, h => by
    by_cases h16 : u < 16
    · rw [hexR_small h16]; simp; omega
    · rw [hexR_big (by omega)]
      have := hexR_len n (u / 16) (dig16 (u % 16) :: acc) (by rw [Nat.div_lt_iff_lt_mul (by decide)]; rw [Nat.pow_succ] at h; exact h)
      simp at this; omega
theorem hexR_app : ∀ (f u : Nat), u ≤ f → ∀ (acc more : Bytes), hexR u (acc ++ more) = hexR u acc ++ more
  | f, u, hf, acc, more => by
    by_cases h16 : u < 16
    · rw [hexR_small h16, hexR_small h16]; rfl
    · cases f with
      | zero => omega
      | succ f =>
        rw [hexR_big (u := u) (by omega) acc, hexR_big (u := u) (by omega) (acc ++ more)]
        exact hexR_app f (u / 16) (by omega) (dig16 (u % 16) :: acc) more
theorem hexR_pos (u : Nat) (acc : Bytes) : hexR u acc = hexR u [] ++ acc := hexR_app u u (Nat.le_refl _) [] acc
theorem dig16_ne (n : Nat) (h : n < 16) : dig16 n ≠ 45 := by
  have : ∀ n : Fin 16, dig16 n.1 ≠ 45 := by decide
  exact this ⟨n, h⟩
theorem hexR_no : ∀ (f u : Nat), u ≤ f → ∀ acc : Bytes, 45 ∉ acc → 45 ∉ hexR u acc
  | f, u, hf, acc, ha => by
    by_cases h16 : u < 16
    · rw [hexR_small h16]
      simp only [List.mem_cons, not_or]
      exact ⟨fun h => dig16_ne u h16 h.symm, ha⟩
    · cases f with
      | zero => omega
      | succ f =>
        rw [hexR_big (by omega)]
        refine hexR_no f (u / 16) (by omega) _ ?_
        simp only [List.mem_cons, not_or]
        exact ⟨fun h => dig16_ne (u % 16) (by omega) h.symm, ha⟩

/-- FNV-1a. -/
def fnvStep (h : Nat) (c : UInt8) : Nat := (h ^^^ c.toNat) * 16777619 % 4294967296
def fnvL (s : Bytes) : Nat := s.foldl fnvStep 2166136261
theorem foldl_snoc {α β : Type} (f : β → α → β) (s : List α) (c : α) (h : β) : (s ++ [c]).foldl f h = f (s.foldl f h) c := by rw [List.foldl_append]; rfl
theorem fnv_snoc (s : Bytes) (c : UInt8) : fnvL (s ++ [c]) = fnvStep (fnvL s) c := foldl_snoc fnvStep s c 2166136261
theorem fnvStep_lt (h : Nat) (c : UInt8) : fnvStep h c < 4294967296 := by unfold fnvStep; exact Nat.mod_lt _ (by omega)
theorem fnv_lt (s : Bytes) : fnvL s < 4294967296 := by
  have : ∀ (s : Bytes) (h : Nat), h < 4294967296 → s.foldl fnvStep h < 4294967296 := by
    intro s
    induction s with
    | nil => intro h hh; exact hh
    | cons c s ih => intro h _; exact ih _ (fnvStep_lt h c)
  exact this s _ (by omega)
/-- A value's tag. -/
def tagL (s : Bytes) : Bytes := hexR (fnvL s) [] ++ 45 :: Lib.decDigits s.length
def tagB (s : ByteArray) : ByteArray := mkB (tagL s.data.toList)
/-- A key's shard, but for the last step. -/
def shStep (n : Nat) (c : UInt8) : Nat := (31 * n + c.toNat) % 997
def shL (s : Bytes) : Nat := s.foldl shStep 0
theorem sh_snoc (s : Bytes) (c : UInt8) : shL (s ++ [c]) = shStep (shL s) c := foldl_snoc shStep s c 0
theorem sh_lt (s : Bytes) : shL s < 997 := by
  have : ∀ (s : Bytes) (h : Nat), h < 997 → s.foldl shStep h < 997 := by
    intro s
    induction s with
    | nil => intro h hh; exact hh
    | cons c s ih => intro h _; exact ih _ (Nat.mod_lt _ (by decide))
  exact this s _ (by decide)
def shardL (s : Bytes) : Nat := shL s % 4
theorem shard_lt (s : Bytes) : shardL s < 4 := Nat.mod_lt _ (by decide)
def rightL (s : Bytes) : Bool := decide (1 ≤ s.length) && decide (s.length ≤ 40)
theorem tag_nil : tagL [] = [56, 49, 49, 99, 57, 100, 99, 53, 45, 48] := by
  have h : fnvL [] = 2166136261 := rfl
  unfold tagL
  rw [h]
  rw [hexR_big (by decide), hexR_big (by decide), hexR_big (by decide), hexR_big (by decide), hexR_big (by decide), hexR_big (by decide), hexR_big (by decide), hexR_small (by decide)]
  rw [Lib.decDigits, dif_pos (by decide)]
  decide
theorem tag_ne_nil (s : Bytes) : tagL s ≠ [] := by unfold tagL; simp
theorem digit_ne (n : Nat) (h : n < 10) : (45 : UInt8) ∉ [UInt8.ofNat (48 + n)] := by
  have : ∀ n : Fin 10, (45 : UInt8) ∉ [UInt8.ofNat (48 + n.1)] := by decide
  exact this ⟨n, h⟩
theorem dec_no : ∀ (f n : Nat), n ≤ f → 45 ∉ Lib.decDigits n
  | f, n, hf => by
    by_cases h : n < 10
    · rw [Lib.decDigits_one h]
      exact digit_ne n h
    · cases f with
      | zero => omega
      | succ f =>
        rw [Lib.decDigits, dif_neg h, List.mem_append, not_or]
        exact ⟨dec_no f (n / 10) (by omega), digit_ne (n % 10) (by omega)⟩
end Go.Proofs.YtilhegdhbcmlkaaDoor
