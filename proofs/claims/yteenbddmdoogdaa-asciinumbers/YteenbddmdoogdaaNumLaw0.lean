/- What the law AsciiNumbers carries round its loop, plainly, and the walk at both bases. -/
import Derived.Test.YteenbddmdoogdaaBytes
namespace Go.Proofs.Yteenbddmdoogdaa
open Go.RowKit Pl

def digN (c : Nat) : Int := if digR (c : Int) < 0 then 99 else digR (c : Int)
def NR (base : Int) (s : ByteArray) (k : Nat) (ok : Bool) (x : Int) : Prop :=
  0 ≤ x ∧ x ≤ 1073741824 ∧ (ok = true → s.data.toList ≠ [] ∧ numGo base 0 s.data.toList = numGo base x (s.data.toList.drop k)) ∧ (ok = false → numB base s.data.toList = none)

theorem none_of (base : Int) (s : ByteArray) (k : Nat) (h : k < s.size) (hg : numGo base 0 s.data.toList = none) : numB base s.data.toList = none := by
  have hne : s.data.toList ≠ [] := by intro e; have := drop_at s k h; rw [e] at this; simp at this
  rw [numB_ne base hne]; exact hg

theorem div_lt_iff (base x d : Int) (hb : 0 < base) : ((1073741824 - d) / base < x) ↔ 1073741824 < x * base + d := by
  rw [Int.ediv_lt_iff_lt_mul hb]; omega

theorem nr_go {base : Int} (hb : base = 10 ∨ base = 16) {s : ByteArray} {k : Nat} {ok : Bool} {x : Int} (h : NR base s k ok x) (hk : k < s.size) {d : Int} (hd : digN (s[k]'hk).toNat = d) (hx : ¬ 1073741824 < x * base + d)
    {ok' : Bool} (hok : ok' = (ok && decide (d < base))) {x' : Int} (hx' : x' = x * base + d) : NR base s (k + 1) ok' x' := by
  obtain ⟨h0, h1, h2, h3⟩ := h
  have hlo := digR_lo ((s[k]'hk).toNat : Int)
  have hhi := digR_hi ((s[k]'hk).toNat : Int)
  have hD : d = 99 ∧ digR ((s[k]'hk).toNat : Int) < 0 ∨ d = digR ((s[k]'hk).toNat : Int) ∧ 0 ≤ d := by
    subst hd; unfold digN; split
    · exact .inl ⟨rfl, by assumption⟩
    · exact .inr ⟨rfl, by omega⟩
  subst hx'
  refine ⟨?_, by omega, ?_, ?_⟩
  · rcases hb with rfl | rfl <;> omega
  · intro e
    rw [e] at hok
    have hok2 : ok = true ∧ d < base := by simpa using hok.symm
    obtain ⟨hne, hg⟩ := h2 hok2.1
    refine ⟨hne, ?_⟩
    have hdd : d = digR ((s[k]'hk).toNat : Int) := by rcases hD with h | h <;> rcases hb with rfl | rfl <;> omega
    rw [hdd]
    refine num_step s base x k hk hg ?_
    rw [← hdd]
    have hq := div_lt_iff base x d (by rcases hb with rfl | rfl <;> omega)
    simp [badD, hq]
    refine ⟨⟨?_, hok2.2⟩, by omega⟩
    rcases hD with h | h <;> rcases hb with rfl | rfl <;> omega
  · intro e
    rw [e] at hok
    cases ok with
    | false => exact h3 rfl
    | true =>
      have hd2 : ¬ d < base := by simpa using hok.symm
      obtain ⟨hne, hg⟩ := h2 rfl
      refine none_of base s k hk (num_stop s base x k hk hg ?_)
      simp [badD]
      rcases hD with h | h <;> omega

theorem nr_over {base : Int} (hb : base = 10 ∨ base = 16) {s : ByteArray} {k : Nat} {ok : Bool} {x : Int} (h : NR base s k ok x) (hk : k < s.size) {d : Int} (hd : digN (s[k]'hk).toNat = d) (hx : 1073741824 < x * base + d) : NR base s (k + 1) false 0 := by
  obtain ⟨h0, h1, h2, h3⟩ := h
  refine ⟨by omega, by omega, (fun e => by cases e), fun _ => ?_⟩
  cases ok with
  | false => exact h3 rfl
  | true =>
    obtain ⟨hne, hg⟩ := h2 rfl
    refine none_of base s k hk (num_stop s base x k hk hg ?_)
    have hD : d = 99 ∧ digR ((s[k]'hk).toNat : Int) < 0 ∨ d = digR ((s[k]'hk).toNat : Int) ∧ 0 ≤ d := by
      subst hd; unfold digN; split
      · exact .inl ⟨rfl, by assumption⟩
      · exact .inr ⟨rfl, by omega⟩
    rcases hD with h | h
    · simp [badD]; omega
    · rw [← h.1]
      have hq := div_lt_iff base x d (by rcases hb with rfl | rfl <;> omega)
      simp [badD, hq]
      omega

theorem nr_end {base : Int} {s : ByteArray} {k : Nat} {ok : Bool} {x : Int} (h : NR base s k ok x) (hk : s.size ≤ k) : numB base s.data.toList = if ok then some x else none := by
  obtain ⟨_, _, h2, h3⟩ := h
  cases ok with
  | false => exact h3 rfl
  | true =>
    obtain ⟨hne, hg⟩ := h2 rfl
    rw [numB_ne base hne, hg, drop_all s k hk, numGo]; rfl

theorem nr_start (base : Int) (s : ByteArray) : NR base s 0 (!s.toList.isEmpty) 0 := by
  refine ⟨by omega, by omega, fun e => ?_, fun e => ?_⟩
  · rw [Lib.toList_data] at e
    exact ⟨(by intro h; rw [h] at e; cases e), rfl⟩
  · rw [Lib.toList_data] at e
    have : s.data.toList = [] := by simpa using e
    rw [numB, if_pos this]

theorem digN_cases (c : Nat) : (Hid (digN c = (c : Int) - 48) ∧ 48 ≤ c ∧ c ≤ 57) ∨ (Hid (digN c = (c : Int) - 97 + 10) ∧ 97 ≤ c ∧ c ≤ 102) ∨ (Hid (digN c = (c : Int) - 65 + 10) ∧ 65 ≤ c ∧ c ≤ 70) ∨ (Hid (digN c = 99) ∧ c < 48) ∨ (Hid (digN c = 99) ∧ 57 < c ∧ c < 65) ∨ (Hid (digN c = 99) ∧ 70 < c ∧ c < 97) ∨ (Hid (digN c = 99) ∧ 102 < c) := by
  have cases : (48 ≤ c ∧ c ≤ 57) ∨ (97 ≤ c ∧ c ≤ 102) ∨ (65 ≤ c ∧ c ≤ 70) ∨ c < 48 ∨ (57 < c ∧ c < 65) ∨ (70 < c ∧ c < 97) ∨ 102 < c := by omega
  have r1 : 48 ≤ c ∧ c ≤ 57 → digR (c : Int) = (c : Int) - 48 := fun h => by unfold digR; rw [if_pos (by omega)]
  have r2 : 97 ≤ c ∧ c ≤ 102 → digR (c : Int) = (c : Int) - 97 + 10 := fun h => by unfold digR; rw [if_neg (by omega), if_pos (by omega)]
  have r3 : 65 ≤ c ∧ c ≤ 70 → digR (c : Int) = (c : Int) - 65 + 10 := fun h => by unfold digR; rw [if_neg (by omega), if_neg (by omega), if_pos (by omega)]
  have r4 : ¬ (48 ≤ c ∧ c ≤ 57) → ¬ (97 ≤ c ∧ c ≤ 102) → ¬ (65 ≤ c ∧ c ≤ 70) → digR (c : Int) = -1 := fun h1 h2 h3 => by unfold digR; rw [if_neg (by omega), if_neg (by omega), if_neg (by omega)]
  have a1 : 48 ≤ c ∧ c ≤ 57 → digN c = (c : Int) - 48 := fun h => by unfold digN; rw [r1 h, if_neg (by omega)]
  have a2 : 97 ≤ c ∧ c ≤ 102 → digN c = (c : Int) - 97 + 10 := fun h => by unfold digN; rw [r2 h, if_neg (by omega)]
  have a3 : 65 ≤ c ∧ c ≤ 70 → digN c = (c : Int) - 65 + 10 := fun h => by unfold digN; rw [r3 h, if_neg (by omega)]
  have a4 : ¬ (48 ≤ c ∧ c ≤ 57) → ¬ (97 ≤ c ∧ c ≤ 102) → ¬ (65 ≤ c ∧ c ≤ 70) → digN c = 99 := fun h1 h2 h3 => by unfold digN; rw [r4 h1 h2 h3, if_pos (by omega)]
  rcases cases with h | h | h | h | h | h | h
  · exact .inl ⟨a1 h, h⟩
  · exact .inr (.inl ⟨a2 h, h⟩)
  · exact .inr (.inr (.inl ⟨a3 h, h⟩))
  · exact .inr (.inr (.inr (.inl ⟨a4 (by omega) (by omega) (by omega), h⟩)))
  · exact .inr (.inr (.inr (.inr (.inl ⟨a4 (by omega) (by omega) (by omega), h⟩))))
  · exact .inr (.inr (.inr (.inr (.inr (.inl ⟨a4 (by omega) (by omega) (by omega), h⟩)))))
  · exact .inr (.inr (.inr (.inr (.inr (.inr ⟨a4 (by omega) (by omega) (by omega), h⟩)))))

end Go.Proofs.Yteenbddmdoogdaa
