/- Words of a list of bytes, plainly; no Go. -/
import Derived.Test.YtejncdhdkdhpmaaDoorPlain
namespace Go.Proofs.YtejncdhdkdhpmaaDoor.Pl

def wordsGo (b : UInt8) : List UInt8 → List UInt8 → List (List UInt8)
  | cur, [] => [cur]
  | cur, c :: l => if c = b then cur :: wordsGo b [] l else wordsGo b (cur ++ [c]) l
def wordsB (b : UInt8) (l : List UInt8) : List (List UInt8) := wordsGo b [] l

def piece (s : ByteArray) (f k : Nat) : List UInt8 := (s.data.toList.drop f).take (k - f)
def strV (l : List UInt8) : Value := .string ⟨l.toArray⟩

theorem piece_same (s : ByteArray) (k : Nat) : piece s k k = [] := by simp [piece]
theorem piece_snoc (s : ByteArray) (f k : Nat) (hf : f ≤ k) (h : k < s.size) : piece s f (k + 1) = piece s f k ++ [s[k]] := by
  have hl : k - f < (s.data.toList.drop f).length := by
    rw [List.length_drop]; have : s.data.toList.length = s.size := by simp
    omega
  unfold piece
  rw [show k + 1 - f = (k - f) + 1 from by omega, List.take_succ_eq_append_getElem hl]
  congr 2
  simp [List.getElem_drop]
  congr 1
  omega

def WInv (b : UInt8) (s : ByteArray) (ws : List (List UInt8)) (f k : Nat) : Prop :=
  wordsB b s.data.toList = ws ++ wordsGo b (piece s f k) (s.data.toList.drop k)

theorem winv_start (b : UInt8) (s : ByteArray) : WInv b s [] 0 0 := by simp [WInv, wordsB, piece]
theorem winv_skip {b : UInt8} {s : ByteArray} {ws : List (List UInt8)} {f k : Nat} (h : WInv b s ws f k) (hf : f ≤ k) (hk : k < s.size) (hn : s[k] ≠ b) : WInv b s ws f (k + 1) := by
  unfold WInv at h ⊢
  rw [h, drop_at s k hk, wordsGo, if_neg hn, piece_snoc s f k hf hk]
theorem winv_cut {b : UInt8} {s : ByteArray} {ws : List (List UInt8)} {f k : Nat} (h : WInv b s ws f k) (hk : k < s.size) (hn : s[k] = b) : WInv b s (ws ++ [piece s f k]) (k + 1) (k + 1) := by
  unfold WInv at h ⊢
  rw [h, drop_at s k hk, wordsGo, if_pos hn, piece_same]; simp
theorem winv_end {b : UInt8} {s : ByteArray} {ws : List (List UInt8)} {f k : Nat} (h : WInv b s ws f k) (hk : s.size ≤ k) : wordsB b s.data.toList = ws ++ [piece s f k] := by
  unfold WInv at h
  rw [h, drop_all s k hk, wordsGo]

end Go.Proofs.YtejncdhdkdhpmaaDoor.Pl
