/- A body of so many bytes, plainly; no Go. -/
import Derived.Test.YtphpcgcdkhmnmaaRunPlain
namespace Go.Proofs.Ytphpcgcdkhmnmaa.Pl

theorem run_plain (l d : List UInt8) (m : Nat) (hm : 0 < m) (hd : d.length + m ≤ 600) :
    runB ⟨0, m, 0, [], d⟩ l = if l.length < m then (⟨0, (m : Int) - l.length, 0, [], d ++ l⟩, l.length) else (⟨5, 0, 0, [], d ++ l.take m⟩, m) := by
  induction l generalizing m d with
  | nil => simp [runB, hm]
  | cons c l ih =>
    rw [run_step (by simp)]
    have hf : feedB ⟨0, m, 0, [], d⟩ c = ⟨if (m : Int) - 1 > 0 then 0 else 5, (m : Int) - 1, 0, [], d ++ [c]⟩ := by
      have h1 : d.length ≠ 600 := by omega
      simp [feedB, dataB, h1]
    rw [hf]
    by_cases h1 : m = 1
    · subst h1
      rw [run_done (by simp)]
      simp
    · have h2 : (m : Int) - 1 > 0 := by omega
      rw [if_pos h2, show (m : Int) - 1 = ((m - 1 : Nat) : Int) from by omega, ih (d ++ [c]) (m - 1) (by omega) (by simp; omega)]
      by_cases h3 : l.length < m - 1
      · rw [if_pos h3, if_pos (by simp; omega)]
        simp
        omega
      · rw [if_neg h3, if_neg (by simp; omega)]
        have : m = (m - 1) + 1 := by omega
        rw [this]
        simp

/-- What BodyLengths asks. -/
structure LenOk (n : Nat) (l : List UInt8) (r : Bst × Nat) : Prop where
  status : r.1.status = 0
  took : r.2 = min n l.length
  data : r.1.data = l.take r.2
  done : (r.1.st == 5) = decide (n ≤ l.length)

theorem len_ok (n : Nat) (l : List UInt8) (h : n ≤ 600) : LenOk n l (runB (newB n) l) := by
  by_cases h0 : n = 0
  · subst h0
    have : newB ((0 : Nat) : Int) = ⟨5, 0, 0, [], []⟩ := rfl
    rw [this, run_done rfl]
    constructor <;> simp
  · have : newB (n : Int) = ⟨0, n, 0, [], []⟩ := by
      unfold newB
      rw [if_neg (by omega), if_neg (by omega)]
    rw [this, run_plain l [] n (by omega) (by simpa using h)]
    by_cases h1 : l.length < n
    · rw [if_pos h1]
      refine ⟨rfl, by simp; omega, by simp, by simp; omega⟩
    · rw [if_neg h1]
      refine ⟨rfl, by simp; omega, by simp, by simp; omega⟩

end Go.Proofs.Ytphpcgcdkhmnmaa.Pl
