/- Plain functions on bytes and numbers, by which the contracts of package ascii are told; no Go. Words of a list of bytes, plainly; no Go. Words put together again are the text, plainly; no Go. Targets and patterns, plainly; no Go. Tables of routes, plainly: the next word of a line, lines, texts; what may be a route; which routes may stand beside one another. Routes found by going through a list, plainly: which pattern has a path, which one is the stronger, the strongest one of a method, the methods that a path has, the names' values. -/
import Derived.Below
namespace Go.Proofs.YtgfjkpfjajjidaaDoor.Pl

def capR (r : Int) : Bool := decide (65 ≤ r) && decide (r ≤ 90)
def markR (r : Int) : Bool := r == 33 || r == 35 || r == 36 || r == 37 || r == 38 || r == 39 || r == 42 || r == 43 || r == 45 || r == 46 || r == 94 || r == 95 || r == 124 || r == 126 || r == 96
def nameR (r : Int) : Bool := markR r || (capR r || (decide (97 ≤ r) && decide (r ≤ 122))) || (decide (48 ≤ r) && decide (r ≤ 57))

theorem nameR_high {r : Int} (h : 128 ≤ r) : nameR r = false := by
  simp [nameR, markR, capR]; omega

/-- May each byte stand in a name? -/
def namesB (l : List UInt8) : Bool := l.all fun c => nameR (c.toNat : Int)
def tokB (l : List UInt8) : Bool := !l.isEmpty && namesB l

theorem namesB_nil : namesB [] = true := rfl
theorem namesB_append (a b : List UInt8) : namesB (a ++ b) = (namesB a && namesB b) := by simp [namesB]
theorem namesB_cons (c : UInt8) (b : List UInt8) : namesB (c :: b) = (nameR (c.toNat : Int) && namesB b) := by simp [namesB]

theorem take_snoc (s : ByteArray) (k : Nat) (h : k < s.size) : s.data.toList.take (k + 1) = s.data.toList.take k ++ [s[k]] := by
  rw [List.take_succ_eq_append_getElem (by simpa using h)]; rfl
theorem take_all (s : ByteArray) (k : Nat) (h : s.size ≤ k) : s.data.toList.take k = s.data.toList := List.take_of_length_le (by simpa using h)
theorem split_at (s : ByteArray) (k : Nat) (h : k < s.size) : s.data.toList = s.data.toList.take k ++ s[k] :: s.data.toList.drop (k + 1) := by
  have := List.take_append_drop (k + 1) s.data.toList
  rw [take_snoc s k h] at this
  simpa using this.symm

theorem names_step (s : ByteArray) (k : Nat) (h : k < s.size) (hk : namesB (s.data.toList.take k) = true) (hn : nameR ((s[k]).toNat : Int) = true) : namesB (s.data.toList.take (k + 1)) = true := by
  rw [take_snoc s k h, namesB_append, hk, namesB_cons, hn]; rfl
theorem names_stop (s : ByteArray) (k : Nat) (h : k < s.size) (hn : nameR ((s[k]).toNat : Int) = false) : tokB s.data.toList = false := by
  rw [tokB, split_at s k h, namesB_append, namesB_cons, hn]; simp
theorem names_end (s : ByteArray) (k : Nat) (h : s.size ≤ k) (hk : namesB (s.data.toList.take k) = true) : tokB s.data.toList = !s.data.toList.isEmpty := by
  rw [take_all s k h] at hk
  rw [tokB, hk, Bool.and_true]

theorem drop_at (s : ByteArray) (k : Nat) (h : k < s.size) : s.data.toList.drop k = s[k] :: s.data.toList.drop (k + 1) := by
  rw [List.drop_eq_getElem_cons (by simpa using h)]; rfl
theorem drop_all (s : ByteArray) (k : Nat) (h : s.size ≤ k) : s.data.toList.drop k = [] := List.drop_of_length_le (by simpa using h)

/-- Has it no sign that steers? -/
def valR (r : Int) : Bool := !((decide (r < 32) && r != 9) || r == 127)
def valB (l : List UInt8) : Bool := l.all fun c => valR (c.toNat : Int)
theorem valR_high {r : Int} (h : 128 ≤ r) : valR r = true := by
  simp [valR]; omega
theorem valB_cons (c : UInt8) (b : List UInt8) : valB (c :: b) = (valR (c.toNat : Int) && valB b) := by simp [valB]
theorem val_step (s : ByteArray) (k : Nat) (h : k < s.size) (hk : valB s.data.toList = valB (s.data.toList.drop k)) (hn : valR ((s[k]).toNat : Int) = true) : valB s.data.toList = valB (s.data.toList.drop (k + 1)) := by
  rw [hk, drop_at s k h, valB_cons, hn]; rfl
theorem val_stop (s : ByteArray) (k : Nat) (h : k < s.size) (hk : valB s.data.toList = valB (s.data.toList.drop k)) (hn : valR ((s[k]).toNat : Int) = false) : valB s.data.toList = false := by
  rw [hk, drop_at s k h, valB_cons, hn]; rfl
theorem val_end (s : ByteArray) (k : Nat) (h : s.size ≤ k) (hk : valB s.data.toList = valB (s.data.toList.drop k)) : valB s.data.toList = true := by
  rw [hk, drop_all s k h]; rfl

def digR (r : Int) : Int := if 48 ≤ r ∧ r ≤ 57 then r - 48 else if 97 ≤ r ∧ r ≤ 102 then r - 97 + 10 else if 65 ≤ r ∧ r ≤ 70 then r - 65 + 10 else -1
theorem digR_high {r : Int} (h : 128 ≤ r) : digR r = -1 := by
  unfold digR; rw [if_neg (by omega), if_neg (by omega), if_neg (by omega)]
theorem digR_lo (r : Int) : -1 ≤ digR r := by unfold digR; repeat' split <;> omega
theorem digR_hi (r : Int) : digR r ≤ 15 := by unfold digR; repeat' split <;> omega

def badD (base n d : Int) : Bool := decide (d < 0) || decide (base ≤ d) || decide ((1073741824 - d) / base < n)
def numGo (base : Int) : Int → List UInt8 → Option Int
  | n, [] => some n
  | n, c :: l => if badD base n (digR (c.toNat : Int)) then none else numGo base (n * base + digR (c.toNat : Int)) l
def numB (base : Int) (l : List UInt8) : Option Int := if l = [] then none else numGo base 0 l

theorem num_step (s : ByteArray) (base n : Int) (k : Nat) (h : k < s.size) (hk : numGo base 0 s.data.toList = numGo base n (s.data.toList.drop k)) (hn : badD base n (digR ((s[k]).toNat : Int)) = false) :
    numGo base 0 s.data.toList = numGo base (n * base + digR ((s[k]).toNat : Int)) (s.data.toList.drop (k + 1)) := by
  rw [hk, drop_at s k h, numGo, if_neg (by simp [hn])]
theorem num_stop (s : ByteArray) (base n : Int) (k : Nat) (h : k < s.size) (hk : numGo base 0 s.data.toList = numGo base n (s.data.toList.drop k)) (hn : badD base n (digR ((s[k]).toNat : Int)) = true) :
    numGo base 0 s.data.toList = none := by
  rw [hk, drop_at s k h, numGo, if_pos hn]
theorem num_end (s : ByteArray) (base n : Int) (k : Nat) (h : s.size ≤ k) (hk : numGo base 0 s.data.toList = numGo base n (s.data.toList.drop k)) : numGo base 0 s.data.toList = some n := by
  rw [hk, drop_all s k h, numGo]
theorem num_ok10 {n d : Int} (h : badD 10 n d = false) : 0 ≤ d ∧ d < 10 ∧ n ≤ (1073741824 - d) / 10 ∧ n * 10 + d ≤ 1073741824 := by
  simp [badD] at h; omega
theorem num_ok16 {n d : Int} (h : badD 16 n d = false) : 0 ≤ d ∧ d < 16 ∧ n ≤ (1073741824 - d) / 16 ∧ n * 16 + d ≤ 1073741824 := by
  simp [badD] at h; omega
theorem num_bad {base n d : Int} (h : badD base n d = true) : d < 0 ∨ base ≤ d ∨ (1073741824 - d) / base < n := by
  simp [badD] at h; omega
theorem numB_ne {l : List UInt8} (base : Int) (h : l ≠ []) : numB base l = numGo base 0 l := by rw [numB, if_neg h]

end Go.Proofs.YtgfjkpfjajjidaaDoor.Pl

namespace Go.Proofs.YtgfjkpfjajjidaaDoor.Pl

def wordsGo (b : UInt8) : List UInt8 → List UInt8 → List (List UInt8)
  | cur, [] => [cur]
  | cur, c :: l => if c = b then cur :: wordsGo b [] l else wordsGo b (cur ++ [c]) l
def wordsB (b : UInt8) (l : List UInt8) : List (List UInt8) := wordsGo b [] l

def piece (s : ByteArray) (f k : Nat) : List UInt8 := (s.data.toList.drop f).take (k - f)
def strV (l : List UInt8) : Value := .string ⟨l.toArray⟩

theorem piece_same (s : ByteArray) (k : Nat) : piece s k k = [] := by simp [piece]
theorem piece_snoc (s : ByteArray) (f k : Nat) (hf : f ≤ k) (h : k < s.size) : piece s f (k + 1) = piece s f k ++ [s[k]] := by
  have hl : k - f < (s.data.toList.drop f).length := by
    rw [List.length_drop]; have : s.data.toList.length = s.size := by simp
    omega
  unfold piece
  rw [show k + 1 - f = (k - f) + 1 from by omega, List.take_succ_eq_append_getElem hl]
  congr 2
  simp [List.getElem_drop]
  congr 1
  omega

def WInv (b : UInt8) (s : ByteArray) (ws : List (List UInt8)) (f k : Nat) : Prop :=
  wordsB b s.data.toList = ws ++ wordsGo b (piece s f k) (s.data.toList.drop k)

theorem winv_start (b : UInt8) (s : ByteArray) : WInv b s [] 0 0 := by simp [WInv, wordsB, piece]
theorem winv_skip {b : UInt8} {s : ByteArray} {ws : List (List UInt8)} {f k : Nat} (h : WInv b s ws f k) (hf : f ≤ k) (hk : k < s.size) (hn : s[k] ≠ b) : WInv b s ws f (k + 1) := by
  unfold WInv at h ⊢
  rw [h, drop_at s k hk, wordsGo, if_neg hn, piece_snoc s f k hf hk]
theorem winv_cut {b : UInt8} {s : ByteArray} {ws : List (List UInt8)} {f k : Nat} (h : WInv b s ws f k) (hk : k < s.size) (hn : s[k] = b) : WInv b s (ws ++ [piece s f k]) (k + 1) (k + 1) := by
  unfold WInv at h ⊢
  rw [h, drop_at s k hk, wordsGo, if_pos hn, piece_same]; simp
theorem winv_end {b : UInt8} {s : ByteArray} {ws : List (List UInt8)} {f k : Nat} (h : WInv b s ws f k) (hk : s.size ≤ k) : wordsB b s.data.toList = ws ++ [piece s f k] := by
  unfold WInv at h
  rw [h, drop_all s k hk, wordsGo]

end Go.Proofs.YtgfjkpfjajjidaaDoor.Pl

namespace Go.Proofs.YtgfjkpfjajjidaaDoor.Pl

def joinW (b : UInt8) (ws : List (List UInt8)) : List UInt8 := ((ws.map (b :: ·)).flatten).drop 1
def joinTo (b : UInt8) (ws : List (List UInt8)) (j : Nat) : List UInt8 := joinW b (ws.take j)

theorem flat_wordsGo (b : UInt8) : ∀ (l cur : List UInt8), ((wordsGo b cur l).map (b :: ·)).flatten = b :: cur ++ l
  | [], cur => by simp [wordsGo]
  | c :: l, cur => by
    rw [wordsGo]
    split
    · rename_i h
      rw [List.map_cons, List.flatten_cons, flat_wordsGo b l, h]; simp
    · rw [flat_wordsGo b l]; simp
theorem join_words (b : UInt8) (l : List UInt8) : joinW b (wordsB b l) = l := by
  rw [joinW, wordsB, flat_wordsGo]; simp
theorem wordsGo_free (b : UInt8) : ∀ (l cur : List UInt8), b ∉ cur → ∀ x ∈ wordsGo b cur l, b ∉ x
  | [], cur => by simp [wordsGo]
  | c :: l, cur => by
    intro hc x hx
    rw [wordsGo] at hx
    split at hx
    · rw [List.mem_cons] at hx
      rcases hx with rfl | hx
      · exact hc
      · exact wordsGo_free b l [] (by simp) x hx
    · rename_i h
      exact wordsGo_free b l (cur ++ [c]) (by simp [hc]; exact fun e => h e.symm) x hx
theorem words_free (b : UInt8) (l : List UInt8) (j : Nat) (h : j < (wordsB b l).length) : b ∉ (wordsB b l)[j] := wordsGo_free b l [] (by simp) _ (List.getElem_mem h)
theorem words_pos (b : UInt8) (l : List UInt8) : 0 < (wordsB b l).length := by
  have : ∀ (l cur : List UInt8), 0 < (wordsGo b cur l).length := by
    intro l
    induction l with
    | nil => intro cur; simp [wordsGo]
    | cons c l ih =>
      intro cur
      rw [wordsGo]
      split
      · simp
      · exact ih _
  exact this l []
theorem joinTo_zero (b : UInt8) (ws : List (List UInt8)) : joinTo b ws 0 = [] := rfl
theorem joinTo_first (b : UInt8) (ws : List (List UInt8)) (h : 0 < ws.length) : joinTo b ws 1 = ws[0] := by
  rw [joinTo, joinW, List.take_succ_eq_append_getElem h]; simp
theorem joinTo_step (b : UInt8) (ws : List (List UInt8)) (j : Nat) (h : j < ws.length) (hj : 0 < j) : joinTo b ws (j + 1) = joinTo b ws j ++ [b] ++ ws[j] := by
  have hne : 1 ≤ ((ws.take j).map (b :: ·)).flatten.length := by
    cases ws with
    | nil => simp at h
    | cons a ws =>
      cases j with
      | zero => omega
      | succ j => simp
  rw [joinTo, joinW, List.take_succ_eq_append_getElem h, List.map_append, List.flatten_append, List.drop_append_of_le_length hne]
  simp [joinTo, joinW]
theorem joinTo_all (b : UInt8) (ws : List (List UInt8)) : joinTo b ws ws.length = joinW b ws := by rw [joinTo, List.take_length]
theorem joinTo_len (b : UInt8) (ws : List (List UInt8)) (j : Nat) : (joinTo b ws j).length ≤ (joinW b ws).length := by
  have h : ((ws.map (b :: ·)).flatten).length = (((ws.take j).map (b :: ·)).flatten).length + (((ws.drop j).map (b :: ·)).flatten).length := by
    rw [← List.length_append, ← List.flatten_append, ← List.map_append, List.take_append_drop]
  rw [joinTo, joinW, joinW, List.length_drop, List.length_drop]
  omega

end Go.Proofs.YtgfjkpfjajjidaaDoor.Pl

namespace Go.Proofs.YtgfjkpfjajjidaaDoor.Pl

theorem wordsGo_cur (b : UInt8) : ∀ l : List UInt8, ∃ h t, ∀ cur, wordsGo b cur l = (cur ++ h) :: t
  | [] => ⟨[], [], fun cur => by simp [wordsGo]⟩
  | c :: l => by
    by_cases hc : c = b
    · exact ⟨[], wordsGo b [] l, fun cur => by rw [wordsGo, if_pos hc]; simp⟩
    · obtain ⟨h, t, e⟩ := wordsGo_cur b l
      exact ⟨c :: h, t, fun cur => by rw [wordsGo, if_neg hc, e]; simp⟩
theorem words_cons (b : UInt8) (l : List UInt8) : ∃ h t, wordsB b l = h :: t := by
  obtain ⟨h, t, e⟩ := wordsGo_cur b l
  exact ⟨h, t, by rw [wordsB, e]; rfl⟩
theorem words_nil (b : UInt8) : wordsB b [] = [[]] := rfl
theorem words_self (b : UInt8) (l : List UInt8) : wordsB b (b :: l) = [] :: wordsB b l := by simp [wordsB, wordsGo]
theorem words_other {b c : UInt8} {l h : List UInt8} {t : List (List UInt8)} (hc : c ≠ b) (e : wordsB b l = h :: t) : wordsB b (c :: l) = (c :: h) :: t := by
  obtain ⟨h', t', e'⟩ := wordsGo_cur b l
  have e1 : wordsB b l = h' :: t' := by rw [wordsB, e']; rfl
  rw [e1] at e
  injection e with e2 e3
  rw [wordsB, wordsGo, if_neg hc, e', e2, e3]; rfl
theorem words_app (b : UInt8) : ∀ (a r : List UInt8), b ∉ a → wordsB b (a ++ b :: r) = a :: wordsB b r
  | [], r, _ => words_self b r
  | c :: a, r, h => by
    rw [List.cons_append, words_other (fun e => h (by simp [e])) (words_app b a r (fun k => h (List.mem_cons_of_mem _ k)))]
theorem words_one (b : UInt8) : ∀ a : List UInt8, b ∉ a → wordsB b a = [a]
  | [], _ => rfl
  | c :: a, h => by rw [words_other (fun e => h (by simp [e])) (words_one b a (fun k => h (List.mem_cons_of_mem _ k)))]
theorem words_split (b : UInt8) (l : List UInt8) : b ∉ l ∨ ∃ a r, b ∉ a ∧ l = a ++ b :: r := by
  induction l with
  | nil => left; simp
  | cons c l ih =>
    by_cases hc : c = b
    · exact .inr ⟨[], l, by simp, by simp [hc]⟩
    · rcases ih with h | ⟨a, r, h, e⟩
      · left; simp; exact ⟨fun k => hc k.symm, h⟩
      · exact .inr ⟨c :: a, r, by simp; exact ⟨fun k => hc k.symm, h⟩, by rw [e]; rfl⟩

/-- What stands ahead of the first question mark. -/
def aheadL (s : List UInt8) : List UInt8 := s.takeWhile (· != 63)
theorem ahead_app (a q : List UInt8) (h : 63 ∉ a) : aheadL (a ++ 63 :: q) = a := by
  unfold aheadL
  induction a with
  | nil => simp
  | cons c a ih =>
    simp at h
    rw [List.cons_append, List.takeWhile_cons_of_pos (by simp; exact fun e => h.1 e.symm), ih h.2]
theorem ahead_free (a : List UInt8) (h : 63 ∉ a) : aheadL a = a := by
  unfold aheadL
  induction a with
  | nil => rfl
  | cons c a ih =>
    simp at h
    rw [List.takeWhile_cons_of_pos (by simp; exact fun e => h.1 e.symm), ih h.2]
theorem ahead_query (s q : List UInt8) : aheadL (s ++ 63 :: q) = aheadL s := by
  rcases words_split 63 s with h | ⟨a, r, h, rfl⟩
  · rw [ahead_app s q h, ahead_free s h]
  · rw [ahead_app a r h, List.append_assoc, List.cons_append, ahead_app a _ h]
theorem ahead_word (s : List UInt8) : ∃ t, wordsB 63 s = aheadL s :: t := by
  rcases words_split 63 s with h | ⟨a, r, h, rfl⟩
  · exact ⟨[], by rw [words_one 63 s h, ahead_free s h]⟩
  · exact ⟨_, by rw [words_app 63 a r h, ahead_app a r h]⟩
theorem ahead_len (s : List UInt8) : (aheadL s).length ≤ s.length := (List.takeWhile_sublist _).length_le

/-- What stands between the slashes of a text that begins with one. -/
def segsL : List UInt8 → Option (List (List UInt8))
  | [] => none
  | c :: r => if c = 47 then (if r = [] then some [] else if (wordsB 47 r).length ≤ 8 then some (wordsB 47 r) else none) else none

def unL : List (List UInt8) → Option (List UInt8)
  | [] => some []
  | p :: ps => if p.length < 2 then none else match numB 16 (p.take 2) with
    | none => none
    | some n => (unL ps).map fun r => UInt8.ofNat n.toNat :: (p.drop 2 ++ r)
def turnL (s : List UInt8) : Option (List UInt8) := match wordsB 37 s with
  | [] => none
  | a :: ps => (unL ps).map (a ++ ·)
def turnsL : List (List UInt8) → Option (List (List UInt8))
  | [] => some []
  | s :: l => match turnL s with
    | none => none
    | some t => (turnsL l).map (t :: ·)
def splitL (s : List UInt8) : Option (List (List UInt8)) := match segsL (aheadL s) with
  | none => none
  | some l => turnsL l

theorem num_two (a b : UInt8) : numB 16 [a, b] = if digR (a.toNat : Int) < 0 ∨ digR (b.toNat : Int) < 0 then none else some (digR (a.toNat : Int) * 16 + digR (b.toNat : Int)) := by
  have h1 := digR_lo (a.toNat : Int); have h2 := digR_hi (a.toNat : Int)
  have h3 := digR_lo (b.toNat : Int); have h4 := digR_hi (b.toNat : Int)
  rw [numB_ne 16 (by simp)]
  unfold numGo
  by_cases ha : digR (a.toNat : Int) < 0
  · rw [if_pos (by simp [badD, ha]), if_pos (.inl ha)]
  · have e1 : badD 16 0 (digR (a.toNat : Int)) = false := by simp [badD]; omega
    rw [e1]
    simp only [Bool.false_eq_true, if_false]
    unfold numGo
    by_cases hb : digR (b.toNat : Int) < 0
    · rw [if_pos (by simp [badD, hb]), if_pos (.inr hb)]
    · have e2 : badD 16 (0 * 16 + digR (a.toNat : Int)) (digR (b.toNat : Int)) = false := by simp [badD]; omega
      have e3 : ¬ (digR (a.toNat : Int) < 0 ∨ digR (b.toNat : Int) < 0) := by rintro (h | h) <;> contradiction
      rw [e2, if_neg e3]
      simp [numGo]
theorem num_two_lt {a b : UInt8} {n : Int} (h : numB 16 [a, b] = some n) : 0 ≤ n ∧ n < 256 := by
  have h2 := digR_hi (a.toNat : Int); have h4 := digR_hi (b.toNat : Int)
  rw [num_two] at h
  split at h
  · cases h
  · injection h with h; omega
theorem num_pct1 (b : UInt8) : numB 16 [37, b] = none := by rw [num_two, if_pos (.inl (by decide))]
theorem num_pct2 (a : UInt8) : numB 16 [a, 37] = none := by rw [num_two, if_pos (.inr (by decide))]
theorem num_sl1 (b : UInt8) : numB 16 [47, b] = none := by rw [num_two, if_pos (.inl (by decide))]
theorem num_sl2 (a : UInt8) : numB 16 [a, 47] = none := by rw [num_two, if_pos (.inr (by decide))]

theorem turn_nil : turnL [] = some [] := rfl
theorem turn_other {c : UInt8} (l : List UInt8) (hc : c ≠ 37) : turnL (c :: l) = (turnL l).map (c :: ·) := by
  obtain ⟨h, t, e⟩ := words_cons 37 l
  unfold turnL
  rw [e, words_other hc e]
  show (unL t).map ((c :: h) ++ ·) = ((unL t).map (h ++ ·)).map (c :: ·)
  cases unL t <;> rfl
theorem turn_pct1 : turnL [37] = none := rfl
theorem turn_pct2 (a : UInt8) : turnL [37, a] = none := by
  unfold turnL
  rw [words_self]
  by_cases ha : a = 37
  · subst ha; rfl
  · rw [words_one 37 [a] (by simp; exact fun e => ha e.symm)]; rfl
theorem turn_pct (a b : UInt8) (r : List UInt8) : turnL (37 :: a :: b :: r) = match numB 16 [a, b] with
    | none => none
    | some n => (turnL r).map (UInt8.ofNat n.toNat :: ·) := by
  unfold turnL
  rw [words_self]
  by_cases ha : a = 37
  · subst ha; rw [words_self, num_pct1]; rfl
  · by_cases hb : b = 37
    · subst hb; rw [words_other ha (words_self 37 r), num_pct2]; rfl
    · obtain ⟨h, t, e⟩ := words_cons 37 r
      rw [words_other ha (words_other hb e), e]
      simp only [unL]
      rw [if_neg (by simp)]
      simp only [List.take_succ_cons, List.take_zero, List.drop_succ_cons, List.drop_zero]
      cases numB 16 [a, b] with
      | none => rfl
      | some n => cases unL t <;> rfl

/-- Are there two digits behind a per cent sign that stands first? -/
def okHead : List UInt8 → Bool
  | [] => true
  | c :: l => if c = 37 then (match l with | a :: b :: _ => (numB 16 [a, b]).isSome | _ => false) else true
def pctL : List UInt8 → Bool
  | [] => true
  | c :: l => okHead (c :: l) && pctL l
theorem pct_other {c : UInt8} (l : List UInt8) (hc : c ≠ 37) : pctL (c :: l) = pctL l := by simp [pctL, okHead, hc]
theorem pct_drop (l : List UInt8) (k : Nat) : pctL (l.drop k) = (okHead (l.drop k) && pctL (l.drop (k + 1))) := by
  rcases Nat.lt_or_ge k l.length with h | h
  · rw [List.drop_eq_getElem_cons h, pctL]
  · rw [List.drop_of_length_le h, List.drop_of_length_le (by omega)]; rfl
theorem dig_ne {a b : UInt8} {n : Int} (h : numB 16 [a, b] = some n) : a ≠ 37 ∧ b ≠ 37 ∧ a ≠ 47 ∧ b ≠ 47 := by
  refine ⟨?_, ?_, ?_, ?_⟩ <;> intro e <;> subst e
  · rw [num_pct1] at h; cases h
  · rw [num_pct2] at h; cases h
  · rw [num_sl1] at h; cases h
  · rw [num_sl2] at h; cases h
theorem turn_some (l : List UInt8) : (turnL l).isSome = pctL l := by
  induction hn : l.length using Nat.strongRecOn generalizing l with
  | _ n ih =>
    match l, hn with
    | [], _ => rfl
    | c :: l, hn =>
      by_cases hc : c = 37
      · subst hc
        match l, hn with
        | [], _ => rfl
        | [a], _ => rw [turn_pct2]; simp [pctL, okHead]
        | a :: b :: r, hn =>
          rw [turn_pct]
          cases e : numB 16 [a, b] with
          | none => simp [pctL, okHead, e]
          | some m =>
            obtain ⟨h1, h2, _, _⟩ := dig_ne e
            have := ih r.length (by simp at hn; omega) r rfl
            rw [pctL, pct_other _ h1, pct_other _ h2]
            simp [okHead, e, this]
      · rw [turn_other l hc, pct_other l hc, Option.isSome_map]
        exact ih l.length (by simp at hn; omega) l rfl
theorem pct_app (a r : List UInt8) : pctL (a ++ 47 :: r) = (pctL a && pctL r) := by
  induction a with
  | nil => simp [pctL, okHead]
  | cons c a ih =>
    rw [List.cons_append, pctL, pctL, ih]
    by_cases hc : c = 37
    · subst hc
      match a with
      | [] => match r with
        | [] => rfl
        | b :: r => simp [okHead, num_sl1]
      | [x] => simp [okHead, num_sl2]
      | x :: y :: a => simp [okHead, Bool.and_assoc]
    · simp [okHead, hc]
theorem pct_words (r : List UInt8) : pctL r = (wordsB 47 r).all pctL := by
  induction hn : r.length using Nat.strongRecOn generalizing r with
  | _ n ih =>
    rcases words_split 47 r with h | ⟨a, q, h, rfl⟩
    · rw [words_one 47 r h]; simp
    · rw [words_app 47 a q h, pct_app, ih q.length (by simp at hn; omega) q rfl]; simp
theorem turns_some (l : List (List UInt8)) : (turnsL l).isSome = l.all pctL := by
  induction l with
  | nil => rfl
  | cons s l ih =>
    rw [turnsL, List.all_cons, ← turn_some, ← ih]
    cases turnL s with
    | none => rfl
    | some t => cases turnsL l <;> rfl
theorem turns_len {l l' : List (List UInt8)} (h : turnsL l = some l') : l'.length = l.length := by
  induction l generalizing l' with
  | nil => cases h; rfl
  | cons s l ih =>
    rw [turnsL] at h
    cases hs : turnL s with
    | none => rw [hs] at h; cases h
    | some t =>
      rw [hs] at h
      cases ht : turnsL l with
      | none => rw [ht] at h; cases h
      | some r => rw [ht] at h; cases h; simp [ih ht]
theorem turns_at (l : List (List UInt8)) (k : Nat) (h : k < l.length) (ds : List (List UInt8)) : (turnsL (l.drop k)).map (ds ++ ·) = match turnL l[k] with
    | none => none
    | some t => (turnsL (l.drop (k + 1))).map ((ds ++ [t]) ++ ·) := by
  rw [List.drop_eq_getElem_cons h, turnsL]
  cases turnL l[k] with
  | none => rfl
  | some t => cases turnsL (l.drop (k + 1)) <;> simp

/-- Is it so, but for how many there are? -/
def rightL (t : List UInt8) : Bool := decide (t.head? = some 47) && pctL t
def manyL (t : List UInt8) : Nat := if rightL t = true ∧ t ≠ [47] then (wordsB 47 t.tail).length else 0
theorem wrong_plain (s : List UInt8) : (splitL s).isSome = (rightL (aheadL s) && decide (manyL (aheadL s) ≤ 8)) ∧ ∀ l, splitL s = some l → l.length = manyL (aheadL s) := by
  unfold splitL
  generalize aheadL s = t
  match t with
  | [] => exact ⟨rfl, fun l h => by cases h⟩
  | c :: r =>
    by_cases hc : c = 47
    · subst hc
      by_cases hr : r = []
      · subst hr; exact ⟨rfl, fun l h => by cases h; rfl⟩
      · have e : rightL (47 :: r) = (wordsB 47 r).all pctL := by rw [rightL, pct_other r (by decide), pct_words]; rfl
        rw [segsL, if_pos rfl, if_neg hr, manyL, e]
        by_cases hl : (wordsB 47 r).length ≤ 8
        · rw [if_pos hl]
          simp only
          rw [turns_some]
          refine ⟨?_, fun l h => ?_⟩
          · cases he : (wordsB 47 r).all pctL
            · rfl
            · rw [if_pos ⟨rfl, by simp [hr]⟩]; simp [hl]
          · have : (wordsB 47 r).all pctL = true := by rw [← turns_some, h]; rfl
            rw [if_pos ⟨this, by simp [hr]⟩, turns_len h]; rfl
        · rw [if_neg hl]
          refine ⟨?_, fun l h => by cases h⟩
          cases he : (wordsB 47 r).all pctL
          · rfl
          · rw [if_pos ⟨rfl, by simp [hr]⟩]; simp [hl]
    · rw [segsL, if_neg hc]
      exact ⟨by simp [rightL, hc], fun l h => by cases h⟩

def hexD (n : Nat) : UInt8 := if n < 10 then UInt8.ofNat (48 + n) else UInt8.ofNat (87 + n)
def hexL (c : UInt8) : List UInt8 := [37, hexD (c.toNat / 16), hexD (c.toNat % 16)]
theorem hex_fin : ∀ n : Fin 256, numB 16 [hexD (n.val / 16), hexD (n.val % 16)] = some (n.val : Int) ∧ 47 ≠ hexD (n.val / 16) ∧ 47 ≠ hexD (n.val % 16) ∧ 63 ≠ hexD (n.val / 16) ∧ 63 ≠ hexD (n.val % 16) := by decide +kernel
theorem hex_num (c : UInt8) : numB 16 [hexD (c.toNat / 16), hexD (c.toNat % 16)] = some (c.toNat : Int) := (hex_fin ⟨c.toNat, c.toNat_lt⟩).1
def encC (all : Bool) (c : UInt8) : List UInt8 := if all = true ∨ c = 47 ∨ c = 63 ∨ c = 37 then hexL c else [c]
def encS (all : Bool) (s : List UInt8) : List UInt8 := s.flatMap (encC all)
def tgtL (all : Bool) (l : List (List UInt8)) : List UInt8 := l.flatMap fun s => 47 :: encS all s
theorem encC_free (all : Bool) (c : UInt8) : 47 ∉ encC all c ∧ 63 ∉ encC all c := by
  unfold encC
  split
  · obtain ⟨_, h1, h2, h3, h4⟩ := hex_fin ⟨c.toNat, c.toNat_lt⟩
    simp only at h1 h2 h3 h4
    constructor
    · simp [hexL, h1, h2]
    · simp [hexL, h3, h4]
  · rename_i h
    simp
    exact ⟨fun e => h (.inr (.inl e.symm)), fun e => h (.inr (.inr (.inl e.symm)))⟩
theorem enc_free (all : Bool) (s : List UInt8) : 47 ∉ encS all s ∧ 63 ∉ encS all s := by
  unfold encS
  constructor
  · intro h; obtain ⟨c, _, hc⟩ := List.mem_flatMap.1 h; exact (encC_free all c).1 hc
  · intro h; obtain ⟨c, _, hc⟩ := List.mem_flatMap.1 h; exact (encC_free all c).2 hc
theorem turn_enc (all : Bool) (s : List UInt8) : turnL (encS all s) = some s := by
  induction s with
  | nil => rfl
  | cons c s ih =>
    unfold encS at ih ⊢
    rw [List.flatMap_cons, encC]
    split
    · rw [hexL, List.cons_append, List.cons_append, List.cons_append, List.nil_append, turn_pct, hex_num, ih]
      simp
    · rename_i h
      rw [List.cons_append, List.nil_append, turn_other _ (fun e => h (.inr (.inr (.inr e)))), ih]; rfl
theorem tgt_free (all : Bool) (l : List (List UInt8)) : 63 ∉ tgtL all l := by
  intro h
  obtain ⟨s, _, hs⟩ := List.mem_flatMap.1 h
  rcases List.mem_cons.1 hs with h | h
  · cases h
  · exact (enc_free all s).2 h
theorem words_tgt (all : Bool) (x : List UInt8) (hx : 47 ∉ x) (l : List (List UInt8)) : wordsB 47 (x ++ tgtL all l) = x :: l.map (encS all) := by
  induction l generalizing x with
  | nil => rw [tgtL, List.flatMap_nil, List.append_nil, words_one 47 x hx]; rfl
  | cons s l ih =>
    have := ih (encS all s) (enc_free all s).1
    unfold tgtL at this ⊢
    rw [List.flatMap_cons, List.cons_append, words_app 47 x _ hx, this]; rfl
theorem turns_enc (all : Bool) (l : List (List UInt8)) : turnsL (l.map (encS all)) = some l := by
  induction l with
  | nil => rfl
  | cons s l ih => rw [List.map_cons, turnsL, turn_enc, ih]; rfl
theorem segs_tgt (all : Bool) (l : List (List UInt8)) (h0 : l ≠ []) (h1 : tgtL all l ≠ [47]) : segsL (tgtL all l) = if l.length ≤ 8 then some (l.map (encS all)) else none := by
  match l, h0 with
  | s :: l, _ =>
    have e : tgtL all (s :: l) = 47 :: (encS all s ++ tgtL all l) := by simp [tgtL]
    rw [e] at h1 ⊢
    rw [segsL, if_pos rfl, if_neg (by simpa using h1), words_tgt all _ (enc_free all s).1 l]
    simp
theorem back_plain (all : Bool) (l : List (List UInt8)) (q : List UInt8) (h0 : l ≠ []) (h1 : tgtL all l ≠ [47]) : splitL (tgtL all l ++ 63 :: q) = if l.length ≤ 8 then some l else none := by
  rw [splitL, ahead_app _ _ (tgt_free all l), segs_tgt all l h0 h1]
  by_cases h : l.length ≤ 8
  · rw [if_pos h, if_pos h]; exact turns_enc all l
  · rw [if_neg h, if_neg h]
theorem split_tgt (all : Bool) (l : List (List UInt8)) (h0 : l ≠ []) (h1 : tgtL all l ≠ [47]) : splitL (tgtL all l) = if l.length ≤ 8 then some l else none := by
  rw [splitL, ahead_free _ (tgt_free all l), segs_tgt all l h0 h1]
  by_cases h : l.length ≤ 8
  · rw [if_pos h, if_pos h]; exact turns_enc all l
  · rw [if_neg h, if_neg h]
theorem enc_plain (s : List UInt8) (h : ∀ c ∈ s, c ≠ 47 ∧ c ≠ 37 ∧ c ≠ 63) : encS false s = s := by
  induction s with
  | nil => rfl
  | cons c s ih =>
    have hc := h c (by simp)
    unfold encS at ih ⊢
    rw [List.flatMap_cons, ih (fun d hd => h d (List.mem_cons_of_mem _ hd)), encC, if_neg (by simp [hc])]
    rfl

def kindL : List UInt8 → Int
  | [] => 0
  | c :: _ => if c = 58 then 1 else if c = 42 then 2 else 0
def namedL (l : List (List UInt8)) (n : List UInt8) : Bool := l.any fun s => decide (kindL s ≠ 0) && decide (s.drop 1 = n)
def fitL (l : List (List UInt8)) (i : Nat) (s : List UInt8) : Bool :=
  if kindL s = 2 then decide (i + 1 = l.length) && (tokB (s.drop 1) && !namedL (l.take i) (s.drop 1))
  else if kindL s = 1 then tokB (s.drop 1) && !namedL (l.take i) (s.drop 1)
  else tokB s && !s.contains 37
def fitsFrom (l : List (List UInt8)) : Nat → List (List UInt8) → Bool
  | _, [] => true
  | i, s :: r => fitL l i s && fitsFrom l (i + 1) r
def patL (s : List UInt8) : Option (List (List UInt8)) := match segsL s with
  | none => none
  | some l => if fitsFrom l 0 l then some l else none
theorem fits_at (l : List (List UInt8)) (k : Nat) (h : k < l.length) : fitsFrom l k (l.drop k) = (fitL l k l[k] && fitsFrom l (k + 1) (l.drop (k + 1))) := by
  rw [List.drop_eq_getElem_cons h, fitsFrom]
theorem fits_end (l : List (List UInt8)) (k : Nat) (h : l.length ≤ k) : fitsFrom l k (l.drop k) = true := by
  rw [List.drop_of_length_le h]; rfl
theorem fits_all (l : List (List UInt8)) (h : fitsFrom l 0 l = true) : ∀ k (hk : k < l.length), fitL l k l[k] = true := by
  have : ∀ k, fitsFrom l k (l.drop k) = true := by
    intro k
    induction k with
    | zero => simpa using h
    | succ k ih =>
      rcases Nat.lt_or_ge k l.length with hk | hk
      · rw [fits_at l k hk] at ih; simp at ih; exact ih.2
      · exact fits_end l _ (by omega)
  intro k hk
  have h2 := this k
  rw [fits_at l k hk] at h2; simp at h2; exact h2.1
theorem fit_ne (l : List (List UInt8)) (i : Nat) (s : List UInt8) (h : fitL l i s = true) : s ≠ [] := by
  intro e; subst e; simp [fitL, kindL, tokB] at h
def shapeC (s : List UInt8) : List UInt8 := 47 :: (if kindL s ≠ 0 then s.take 1 else s)
def shapeL (l : List (List UInt8)) : List UInt8 := l.flatMap shapeC
theorem pat_segs {s : List UInt8} {l : List (List UInt8)} (h : patL s = some l) : segsL s = some l ∧ fitsFrom l 0 l = true := by
  unfold patL at h
  cases hs : segsL s with
  | none => rw [hs] at h; cases h
  | some l' =>
    rw [hs] at h
    simp only at h
    split at h
    · rename_i hf; cases h; exact ⟨rfl, hf⟩
    · cases h
theorem segs_len {s : List UInt8} {l : List (List UInt8)} (h : segsL s = some l) : l.length ≤ 8 := by
  match s with
  | [] => cases h
  | c :: r =>
    rw [segsL] at h
    split at h
    · split at h
      · cases h; simp
      · split at h
        · cases h; assumption
        · cases h
    · cases h
theorem wordsGo_small (b : UInt8) : ∀ (l cur : List UInt8), ∀ x ∈ wordsGo b cur l, x.length ≤ cur.length + l.length
  | [], cur => by simp [wordsGo]
  | c :: l, cur => by
    intro x hx
    rw [wordsGo] at hx
    split at hx
    · rw [List.mem_cons] at hx
      rcases hx with rfl | hx
      · simp
      · have := wordsGo_small b l [] x hx; simp at this ⊢; omega
    · have := wordsGo_small b l (cur ++ [c]) x hx; simp at this ⊢; omega
theorem words_small (b : UInt8) (l : List UInt8) : ∀ x ∈ wordsB b l, x.length ≤ l.length := fun x hx => by
  have := wordsGo_small b l [] x hx; simpa using this
theorem wordsGo_many (b : UInt8) : ∀ (l cur : List UInt8), (wordsGo b cur l).length ≤ l.length + 1
  | [], cur => by simp [wordsGo]
  | c :: l, cur => by
    rw [wordsGo]
    split
    · have := wordsGo_many b l []; simp; omega
    · have := wordsGo_many b l (cur ++ [c]); simp; omega
theorem words_many (b : UInt8) (l : List UInt8) : (wordsB b l).length ≤ l.length + 1 := wordsGo_many b l []
theorem segs_small {s : List UInt8} {l : List (List UInt8)} (h : segsL s = some l) : ∀ x ∈ l, x.length ≤ s.length := by
  match s with
  | [] => cases h
  | c :: r =>
    rw [segsL] at h
    split at h
    · split at h
      · cases h; simp
      · split at h
        · cases h; intro x hx; have := words_small 47 r x hx; simp; omega
        · cases h
    · cases h
theorem un_small : ∀ (ps : List (List UInt8)) (r : List UInt8), unL ps = some r → r.length ≤ (ps.map (·.length)).sum
  | [], r, h => by cases h; simp
  | p :: ps, r, h => by
    rw [unL] at h
    split at h
    · cases h
    · split at h
      · cases h
      · cases hu : unL ps with
        | none => rw [hu] at h; cases h
        | some q =>
          rw [hu] at h; cases h
          have := un_small ps q hu
          simp; omega

end Go.Proofs.YtgfjkpfjajjidaaDoor.Pl

namespace Go.Proofs.YtgfjkpfjajjidaaDoor
open Pl

/-- A route, as bytes. -/
structure Rt where
  m : List UInt8
  p : List UInt8
  h : List UInt8
deriving DecidableEq

def skipL (l : List UInt8) : List UInt8 := l.dropWhile (fun c => decide (c = 32))
def wordL (l : List UInt8) : List UInt8 := (skipL l).takeWhile (fun c => decide (c ≠ 32))
def restL (l : List UInt8) : List UInt8 := ((skipL l).dropWhile (fun c => decide (c ≠ 32))).drop 1

/-- A line: none: ErrForm; some none: no word in it. -/
def lineL (l : List UInt8) : Option (Option Rt) :=
  if wordL l = [] then some none
  else if wordL (restL l) = [] then none
  else if wordL (restL (restL l)) = [] then none
  else if wordL (restL (restL (restL l))) = [] then some (some ⟨wordL l, wordL (restL l), wordL (restL (restL l))⟩) else none

def linesL : List (List UInt8) → Option (List Rt)
  | [] => some []
  | x :: xs => match lineL x with
    | none => none
    | some none => linesL xs
    | some (some r) => (linesL xs).map (r :: ·)

def names8 : List (List UInt8) := [[103, 101, 116], [112, 117, 116], [100, 101, 108, 101, 116, 101], [108, 105, 115, 116], [119, 97, 108, 107], [104, 101, 97, 108, 116, 104], [114, 101, 108, 111, 97, 100], [115, 104, 117, 116, 100, 111, 119, 110]]
def handL (h : List UInt8) : Bool := decide (h ∈ names8)
def rightL (r : Rt) : Bool := (patL r.p).isSome && tokB r.m && handL r.h
def placeL (r : Rt) : List UInt8 × List UInt8 := (r.m, shapeL ((patL r.p).getD []))
def clashFrom (tk : List (List UInt8 × List UInt8)) : List Rt → Bool
  | [] => false
  | r :: l => if placeL r ∈ tk then true else clashFrom (tk ++ [placeL r]) l
def clashL (l : List Rt) : Bool := clashFrom [] l
def checkL (l : List Rt) : Int := if l.all rightL then (if 24 < l.length then 2 else if clashL l then 3 else 0) else 1
def parseL (s : List UInt8) : List Rt × Int :=
  match linesL (wordsB 10 s) with
  | none => ([], 1)
  | some l => if checkL l = 0 then (l, 0) else ([], checkL l)
def lineOf (r : Rt) : List UInt8 := r.m ++ 32 :: (r.p ++ 32 :: (r.h ++ [10]))
def printL (l : List Rt) : List UInt8 := l.flatMap lineOf

theorem lines_at (ws : List (List UInt8)) (k : Nat) (h : k < ws.length) (acc : List Rt) : (linesL (ws.drop k)).map (acc ++ ·) = match lineL ws[k] with
    | none => none
    | some none => (linesL (ws.drop (k + 1))).map (acc ++ ·)
    | some (some r) => (linesL (ws.drop (k + 1))).map ((acc ++ [r]) ++ ·) := by
  rw [List.drop_eq_getElem_cons h, linesL]
  cases lineL ws[k] with
  | none => rfl
  | some o =>
    cases o with
    | none => rfl
    | some r =>
      simp only [Option.map_map]
      congr 1
      funext x
      simp

theorem clash_at (l : List Rt) (k : Nat) (h : k < l.length) (tk : List (List UInt8 × List UInt8)) : clashFrom tk (l.drop k) = if placeL l[k] ∈ tk then true else clashFrom (tk ++ [placeL l[k]]) (l.drop (k + 1)) := by
  rw [List.drop_eq_getElem_cons h, clashFrom]

theorem clash_from : ∀ (l : List Rt) (tk : List (List UInt8 × List UInt8)), tk.Nodup → clashFrom tk l = !decide ((tk ++ l.map placeL).Nodup)
  | [], tk, h => by simp [clashFrom, h]
  | r :: l, tk, h => by
    rw [clashFrom]
    by_cases hm : placeL r ∈ tk
    · rw [if_pos hm]
      symm
      simp only [Bool.not_eq_true', decide_eq_false_iff_not]
      intro hn
      rw [List.nodup_append] at hn
      exact hn.2.2 _ hm _ (by simp) rfl
    · rw [if_neg hm, clash_from l (tk ++ [placeL r])]
      · simp
      · rw [List.nodup_append]
        refine ⟨h, by simp, ?_⟩
        intro a ha b hb e
        simp at hb
        subst hb; subst e
        exact hm ha
theorem clash_nodup (l : List Rt) : clashL l = !decide ((l.map placeL).Nodup) := by
  have := clash_from l [] (by simp)
  simpa [clashL] using this

theorem check_zero {l : List Rt} (h : checkL l = 0) : l.all rightL = true ∧ l.length ≤ 24 ∧ (l.map placeL).Nodup := by
  unfold checkL at h
  by_cases h1 : l.all rightL = true
  · rw [if_pos h1] at h
    by_cases h2 : 24 < l.length
    · rw [if_pos h2] at h; cases h
    · rw [if_neg h2, clash_nodup] at h
      by_cases h3 : (l.map placeL).Nodup
      · exact ⟨h1, by omega, h3⟩
      · simp [h3] at h
  · rw [if_neg h1] at h; cases h
theorem check_cases (l : List Rt) : checkL l = 0 ∨ checkL l = 1 ∨ checkL l = 2 ∨ checkL l = 3 := by
  unfold checkL
  split
  · split
    · simp
    · split <;> simp
  · simp
/-- The order plays no part. -/
theorem check_perm {l m : List Rt} (h : l.Perm m) : checkL l = checkL m := by
  have h1 : l.all rightL = m.all rightL := by
    rw [Bool.eq_iff_iff, List.all_eq_true, List.all_eq_true]
    exact ⟨fun k x hx => k x (h.mem_iff.2 hx), fun k x hx => k x (h.mem_iff.1 hx)⟩
  have h2 : clashL l = clashL m := by
    rw [clash_nodup, clash_nodup, Bool.eq_iff_iff]
    simp only [Bool.not_eq_true', decide_eq_false_iff_not]
    exact not_congr (h.map placeL).nodup_iff
  unfold checkL
  rw [h1, h2, h.length_eq]

end Go.Proofs.YtgfjkpfjajjidaaDoor

namespace Go.Proofs.YtgfjkpfjajjidaaDoor
open Pl
abbrev Seg := List UInt8

/-- 1: any one, 2: all that follow, 0: a word. -/
def kd : Seg → Nat
  | [] => 0
  | c :: _ => if c = 58 then 1 else if c = 42 then 2 else 0

def hasL : List Seg → List Seg → Bool
  | [], [] => true
  | [], _ :: _ => false
  | _ :: _, [] => false
  | p :: ps, x :: xs => if kd p = 2 then true else if kd p = 1 then decide (x ≠ []) && hasL ps xs else decide (p = x) && hasL ps xs

def strL : List Seg → List Seg → Bool
  | p :: ps, q :: qs => if kd p = kd q then strL ps qs else decide (kd p < kd q)
  | _, _ => false

/-- A pattern that may be: * at the end alone, words, names and rests not empty. -/
def okP : List Seg → Bool
  | [] => true
  | p :: ps => decide (p ≠ []) && (decide (kd p ≠ 2) || decide (ps = [])) && okP ps

/-- The names left out. -/
def shp (p : Seg) : Seg := if kd p = 1 then [58] else if kd p = 2 then [42] else p
def shps (p : List Seg) : List Seg := p.map shp

theorem kd_cases (p : Seg) : kd p = 0 ∨ kd p = 1 ∨ kd p = 2 := by
  cases p with
  | nil => exact .inl rfl
  | cons c r =>
    simp only [kd]
    split
    · exact .inr (.inl rfl)
    · split
      · exact .inr (.inr rfl)
      · exact .inl rfl

theorem str_irr : ∀ p, strL p p = false
  | [] => rfl
  | p :: ps => by simp [strL, str_irr ps]
theorem str_trans : ∀ {p q r : List Seg}, strL p q = true → strL q r = true → strL p r = true
  | [], q, r, h, _ => by cases q <;> simp [strL] at h
  | p :: ps, [], r, h, _ => by simp [strL] at h
  | p :: ps, q :: qs, [], _, h => by simp [strL] at h
  | p :: ps, q :: qs, r :: rs, h1, h2 => by
    unfold strL at h1 h2 ⊢
    by_cases e1 : kd p = kd q
    · rw [if_pos e1] at h1
      by_cases e2 : kd q = kd r
      · rw [if_pos e2] at h2
        rw [if_pos (e1.trans e2)]
        exact str_trans h1 h2
      · rw [if_neg e2] at h2
        rw [if_neg (by rw [e1]; exact e2), e1]
        exact h2
    · rw [if_neg e1, decide_eq_true_eq] at h1
      by_cases e2 : kd q = kd r
      · rw [← e2, if_neg e1, decide_eq_true_eq]; exact h1
      · rw [if_neg e2, decide_eq_true_eq] at h2
        rw [if_neg (by omega), decide_eq_true_eq]; omega
theorem str_asym {p q : List Seg} (h : strL p q = true) : strL q p = false := by
  cases h2 : strL q p with
  | false => rfl
  | true =>
    have := str_trans h h2
    rw [str_irr] at this
    cases this

/-- Two patterns that have one path, none stronger than the other, have one shape. -/
theorem str_total : ∀ {p q x : List Seg}, okP p = true → okP q = true → hasL p x = true → hasL q x = true → strL p q = false → strL q p = false → shps p = shps q
  | [], [], _, _, _, _, _, _, _ => rfl
  | [], q :: qs, [], _, _, _, h, _, _ => by simp [hasL] at h
  | [], q :: qs, x :: xs, _, _, h, _, _, _ => by simp [hasL] at h
  | p :: ps, [], [], _, _, h, _, _, _ => by simp [hasL] at h
  | p :: ps, [], x :: xs, _, _, _, h, _, _ => by simp [hasL] at h
  | p :: ps, q :: qs, [], _, _, h, _, _, _ => by simp [hasL] at h
  | p :: ps, q :: qs, x :: xs, o1, o2, h1, h2, s1, s2 => by
    have ek : kd p = kd q := by
      apply Classical.byContradiction
      intro hne
      unfold strL at s1 s2
      rw [if_neg hne, decide_eq_false_iff_not] at s1
      rw [if_neg (fun e => hne e.symm), decide_eq_false_iff_not] at s2
      omega
    unfold strL at s1 s2
    rw [if_pos ek] at s1
    rw [if_pos ek.symm] at s2
    simp only [okP, Bool.and_eq_true, Bool.or_eq_true, decide_eq_true_eq] at o1 o2
    simp only [hasL] at h1 h2
    rcases kd_cases p with k | k | k
    · have k2 : kd q = 0 := by omega
      rw [k] at h1; rw [k2] at h2
      simp at h1 h2
      have := str_total o1.2 o2.2 h1.2 h2.2 s1 s2
      have e : p = q := h1.1.trans h2.1.symm
      simp only [shps, List.map_cons] at this ⊢
      rw [this, e]
    · have k2 : kd q = 1 := by omega
      rw [k] at h1; rw [k2] at h2
      simp at h1 h2
      have := str_total o1.2 o2.2 h1.2 h2.2 s1 s2
      simp only [shps, List.map_cons] at this ⊢
      rw [this]
      simp [shp, k, k2]
    · have k2 : kd q = 2 := by omega
      have e1 : ps = [] := by rcases o1.1.2 with h | h; exact absurd k h; exact h
      have e2 : qs = [] := by rcases o2.1.2 with h | h; exact absurd k2 h; exact h
      simp [shps, shp, k, k2, e1, e2]

variable (cut : List UInt8 → List Seg)

def fitR (m : List UInt8) (x : List Seg) (r : Rt) : Bool := hasL (cut r.p) x && decide (r.m = m)
def stepR (m : List UInt8) (x : List Seg) (b : Option Rt) (r : Rt) : Option Rt :=
  if fitR cut m x r then match b with
    | none => some r
    | some s => if strL (cut r.p) (cut s.p) then some r else some s
  else b
def bestL (m : List UInt8) (x : List Seg) (l : List Rt) : Option Rt := l.foldl (stepR cut m x) none

/-- What a table asks of its routes: no two of one method and shape. -/
def Apart (l : List Rt) : Prop := l.Pairwise fun r s => ¬ (r.m = s.m ∧ shps (cut r.p) = shps (cut s.p))
def Good (l : List Rt) : Prop := ∀ r ∈ l, okP (cut r.p) = true

/-- The strongest one. -/
def IsBest (m : List UInt8) (x : List Seg) (l : List Rt) (b : Option Rt) : Prop :=
  match b with
  | none => ∀ r ∈ l, fitR cut m x r = false
  | some r => r ∈ l ∧ fitR cut m x r = true ∧ ∀ s ∈ l, fitR cut m x s = true → s = r ∨ strL (cut r.p) (cut s.p) = true

theorem best_step (m : List UInt8) (x : List Seg) (l : List Rt) (r : Rt) (b : Option Rt) (hg : Good cut (l ++ [r])) (ha : Apart cut (l ++ [r])) (h : IsBest cut m x l b) : IsBest cut m x (l ++ [r]) (stepR cut m x b r) := by
  unfold stepR
  cases hf : fitR cut m x r with
  | false =>
    simp only [Bool.false_eq_true, if_false]
    cases b with
    | none =>
      intro s hs
      rcases List.mem_append.1 hs with hs | hs
      · exact h s hs
      · simp at hs; subst hs; exact hf
    | some t =>
      refine ⟨List.mem_append_left _ h.1, h.2.1, fun s hs hfs => ?_⟩
      rcases List.mem_append.1 hs with hs | hs
      · exact h.2.2 s hs hfs
      · simp at hs; subst hs; rw [hf] at hfs; cases hfs
  | true =>
    simp only [if_true]
    cases b with
    | none =>
      refine ⟨by simp, hf, fun s hs hfs => ?_⟩
      rcases List.mem_append.1 hs with hs | hs
      · rw [h s hs] at hfs; cases hfs
      · simp at hs; exact .inl hs
    | some t =>
      simp only
      split
      · rename_i hst
        refine ⟨by simp, hf, fun s hs hfs => ?_⟩
        rcases List.mem_append.1 hs with hs | hs
        · rcases h.2.2 s hs hfs with e | e
          · subst e; exact .inr hst
          · exact .inr (str_trans hst e)
        · simp at hs; exact .inl hs
      · rename_i hst
        refine ⟨List.mem_append_left _ h.1, h.2.1, fun s hs hfs => ?_⟩
        rcases List.mem_append.1 hs with hs | hs
        · exact h.2.2 s hs hfs
        · simp at hs
          subst hs
          right
          have h1 := h.2.1
          simp only [fitR, Bool.and_eq_true, decide_eq_true_eq] at h1 hf
          cases hst2 : strL (cut t.p) (cut s.p) with
          | true => rfl
          | false =>
            exfalso
            have e := str_total (hg s (by simp)) (hg t (List.mem_append_left _ h.1)) hf.1 h1.1 (by simpa using hst) hst2
            have := (List.pairwise_append.1 ha).2.2 t h.1 s (by simp)
            exact this ⟨h1.2.trans hf.2.symm, e.symm⟩

theorem best_all (m : List UInt8) (x : List Seg) : ∀ (l a : List Rt) (b : Option Rt), Good cut (a ++ l) → Apart cut (a ++ l) → IsBest cut m x a b → IsBest cut m x (a ++ l) (l.foldl (stepR cut m x) b)
  | [], a, b, _, _, h => by simpa using h
  | r :: l, a, b, hg, ha, h => by
    have e : a ++ r :: l = (a ++ [r]) ++ l := by simp
    rw [e] at hg ha ⊢
    exact best_all m x l (a ++ [r]) _ hg ha (best_step cut m x a r b (fun s hs => hg s (List.mem_append_left _ hs)) ((List.pairwise_append.1 ha).1) h)
theorem best_is (m : List UInt8) (x : List Seg) (l : List Rt) (hg : Good cut l) (ha : Apart cut l) : IsBest cut m x l (bestL cut m x l) := by
  have := best_all cut m x l [] none (by simpa using hg) (by simpa using ha) (fun r hr => by cases hr)
  simpa [bestL] using this
/-- There is one strongest one. -/
theorem best_one {m : List UInt8} {x : List Seg} {l : List Rt} {b c : Option Rt} (h1 : IsBest cut m x l b) (h2 : IsBest cut m x l c) : b = c := by
  cases b with
  | none =>
    cases c with
    | none => rfl
    | some r => have := h1 r h2.1; rw [h2.2.1] at this; cases this
  | some r =>
    cases c with
    | none => have := h2 r h1.1; rw [h1.2.1] at this; cases this
    | some s =>
      rcases h1.2.2 s h2.1 h2.2.1 with e | e
      · rw [e]
      · rcases h2.2.2 r h1.1 h1.2.1 with e2 | e2
        · rw [e2]
        · rw [str_asym e] at e2; cases e2
theorem best_perm {m : List UInt8} {x : List Seg} {l k : List Rt} (h : l.Perm k) {b : Option Rt} (hb : IsBest cut m x l b) : IsBest cut m x k b := by
  cases b with
  | none => exact fun r hr => hb r (h.mem_iff.2 hr)
  | some r => exact ⟨h.mem_iff.1 hb.1, hb.2.1, fun s hs => hb.2.2 s (h.mem_iff.2 hs)⟩

/-- Bytes' order. -/
def ltB : List UInt8 → List UInt8 → Bool
  | _, [] => false
  | [], _ :: _ => true
  | a :: l, b :: k => decide (a.toNat < b.toNat) || (decide (a.toNat = b.toNat) && ltB l k)
theorem lt_irr : ∀ l, ltB l l = false
  | [] => rfl
  | a :: l => by simp [ltB, lt_irr l]
theorem lt_trans' : ∀ {a b c : List UInt8}, ltB a b = true → ltB b c = true → ltB a c = true
  | _, [], _, h, _ => by simp [ltB] at h
  | [], _ :: _, [], _, h => by simp [ltB] at h
  | [], _ :: _, _ :: _, _, _ => rfl
  | _ :: _, _ :: _, [], _, h => by simp [ltB] at h
  | x :: a, y :: b, z :: c, h1, h2 => by
    simp only [ltB, Bool.or_eq_true, Bool.and_eq_true, decide_eq_true_eq] at h1 h2 ⊢
    rcases h1 with h1 | ⟨h1, h1'⟩
    · rcases h2 with h2 | ⟨h2, _⟩
      · exact .inl (by omega)
      · exact .inl (by omega)
    · rcases h2 with h2 | ⟨h2, h2'⟩
      · exact .inl (by omega)
      · exact .inr ⟨by omega, lt_trans' h1' h2'⟩
theorem lt_total : ∀ {a b : List UInt8}, ltB a b = false → ltB b a = false → a = b
  | [], [], _, _ => rfl
  | [], _ :: _, h, _ => by simp [ltB] at h
  | _ :: _, [], _, h => by simp [ltB] at h
  | x :: a, y :: b, h1, h2 => by
    simp only [ltB, Bool.or_eq_false_iff, Bool.and_eq_false_iff, decide_eq_false_iff_not] at h1 h2
    have e : x.toNat = y.toNat := by omega
    have e1 : x = y := UInt8.toNat_inj.1 e
    rcases h1.2 with h | h
    · exact absurd e h
    · rcases h2.2 with k | k
      · exact absurd e.symm k
      · rw [e1, lt_total h k]

/-- Put in, each once, rising. -/
def insU (m : List UInt8) : List (List UInt8) → List (List UInt8)
  | [] => [m]
  | a :: l => if ltB a m then a :: insU m l else if a = m then a :: l else m :: a :: l
def Rises (l : List (List UInt8)) : Prop := l.Pairwise fun a b => ltB a b = true
theorem ins_mem (m x : List UInt8) : ∀ l, x ∈ insU m l ↔ x = m ∨ x ∈ l
  | [] => by simp [insU]
  | a :: l => by
    unfold insU
    split
    · rw [List.mem_cons, ins_mem m x l, List.mem_cons]
      constructor
      · rintro (h | h | h)
        · exact .inr (.inl h)
        · exact .inl h
        · exact .inr (.inr h)
      · rintro (h | h | h)
        · exact .inr (.inl h)
        · exact .inl h
        · exact .inr (.inr h)
    · split
      · rename_i e
        rw [List.mem_cons]
        constructor
        · exact .inr
        · rintro (h | h)
          · exact .inl (h.trans e.symm)
          · exact h
      · rw [List.mem_cons]
theorem ins_rises (m : List UInt8) : ∀ l, Rises l → Rises (insU m l)
  | [], _ => by simp [insU, Rises]
  | a :: l, h => by
    unfold Rises at h
    rw [List.pairwise_cons] at h
    unfold insU
    split
    · rename_i hlt
      unfold Rises
      rw [List.pairwise_cons]
      refine ⟨fun x hx => ?_, ins_rises m l h.2⟩
      rcases (ins_mem m x l).1 hx with e | hx
      · subst e; exact hlt
      · exact h.1 x hx
    · rename_i hlt
      split
      · exact List.pairwise_cons.2 h
      · rename_i hne
        have hma : ltB m a = true := by
          cases hx : ltB m a with
          | true => rfl
          | false => exact absurd (lt_total (by simpa using hlt) hx) hne
        unfold Rises
        rw [List.pairwise_cons]
        refine ⟨fun x hx => ?_, List.pairwise_cons.2 h⟩
        rcases List.mem_cons.1 hx with e | hx
        · subst e; exact hma
        · exact lt_trans' hma (h.1 x hx)
theorem rises_one : ∀ {a b : List (List UInt8)}, Rises a → Rises b → (∀ x, x ∈ a ↔ x ∈ b) → a = b
  | [], [], _, _, _ => rfl
  | [], y :: b, _, _, h => by have := (h y).2 (by simp); cases this
  | x :: a, [], _, _, h => by have := (h x).1 (by simp); cases this
  | x :: a, y :: b, h1, h2, h => by
    unfold Rises at h1 h2
    rw [List.pairwise_cons] at h1 h2
    have e : x = y := by
      rcases List.mem_cons.1 ((h x).1 (by simp)) with e | hx
      · exact e
      · rcases List.mem_cons.1 ((h y).2 (by simp)) with e | hy
        · exact e.symm
        · have := lt_trans' (h1.1 y hy) (h2.1 x hx)
          rw [lt_irr] at this; cases this
    subst e
    have : a = b := rises_one h1.2 h2.2 fun z => by
      constructor
      · intro hz
        rcases List.mem_cons.1 ((h z).1 (List.mem_cons_of_mem _ hz)) with e | hb
        · subst e; have := h1.1 z hz; rw [lt_irr] at this; cases this
        · exact hb
      · intro hz
        rcases List.mem_cons.1 ((h z).2 (List.mem_cons_of_mem _ hz)) with e | hb
        · subst e; have := h2.1 z hz; rw [lt_irr] at this; cases this
        · exact hb
    rw [this]

def stepA (x : List Seg) (a : List (List UInt8)) (r : Rt) : List (List UInt8) := if hasL (cut r.p) x then insU r.m a else a
def allowL (x : List Seg) (l : List Rt) : List (List UInt8) := l.foldl (stepA cut x) []
/-- The methods that a path has, each once, rising. -/
def IsAllow (x : List Seg) (l : List Rt) (a : List (List UInt8)) : Prop := Rises a ∧ ∀ m, m ∈ a ↔ ∃ r ∈ l, hasL (cut r.p) x = true ∧ r.m = m
theorem allow_step (x : List Seg) (l : List Rt) (a : List (List UInt8)) (r : Rt) (h : IsAllow cut x l a) : IsAllow cut x (l ++ [r]) (stepA cut x a r) := by
  unfold stepA
  cases hh : hasL (cut r.p) x with
  | true =>
    rw [if_pos rfl]
    refine ⟨ins_rises _ _ h.1, fun m => ?_⟩
    rw [ins_mem, h.2]
    constructor
    · rintro (e | ⟨s, hs, h1, h2⟩)
      · exact ⟨r, by simp, hh, e.symm⟩
      · exact ⟨s, List.mem_append_left _ hs, h1, h2⟩
    · rintro ⟨s, hs, h1, h2⟩
      rcases List.mem_append.1 hs with hs | hs
      · exact .inr ⟨s, hs, h1, h2⟩
      · simp at hs; subst hs; exact .inl h2.symm
  | false =>
    rw [if_neg (by simp)]
    refine ⟨h.1, fun m => ?_⟩
    rw [h.2]
    constructor
    · rintro ⟨s, hs, h1, h2⟩; exact ⟨s, List.mem_append_left _ hs, h1, h2⟩
    · rintro ⟨s, hs, h1, h2⟩
      rcases List.mem_append.1 hs with hs | hs
      · exact ⟨s, hs, h1, h2⟩
      · simp at hs; subst hs; rw [hh] at h1; cases h1
theorem allow_all (x : List Seg) : ∀ (l b : List Rt) (a : List (List UInt8)), IsAllow cut x b a → IsAllow cut x (b ++ l) (l.foldl (stepA cut x) a)
  | [], b, a, h => by simpa using h
  | r :: l, b, a, h => by
    have e : b ++ r :: l = (b ++ [r]) ++ l := by simp
    rw [e]
    exact allow_all x l (b ++ [r]) _ (allow_step cut x b a r h)
theorem allow_is (x : List Seg) (l : List Rt) : IsAllow cut x l (allowL cut x l) := by
  have := allow_all cut x l [] [] ⟨List.Pairwise.nil, fun m => by simp⟩
  simpa [allowL] using this
theorem allow_one {x : List Seg} {l : List Rt} {a b : List (List UInt8)} (h1 : IsAllow cut x l a) (h2 : IsAllow cut x l b) : a = b := rises_one h1.1 h2.1 fun m => (h1.2 m).trans (h2.2 m).symm
theorem allow_perm {x : List Seg} {l k : List Rt} (h : l.Perm k) {a : List (List UInt8)} (ha : IsAllow cut x l a) : IsAllow cut x k a :=
  ⟨ha.1, fun m => (ha.2 m).trans ⟨fun ⟨r, hr, h1⟩ => ⟨r, h.mem_iff.1 hr, h1⟩, fun ⟨r, hr, h1⟩ => ⟨r, h.mem_iff.2 hr, h1⟩⟩⟩

/-- The rest of a path, with / between. -/
def joinS : List Seg → Seg
  | [] => []
  | [x] => x
  | x :: y :: l => x ++ 47 :: joinS (y :: l)
def paramsL : List Seg → List Seg → List (List UInt8 × List UInt8)
  | p :: ps, x :: xs => if kd p = 2 then [(p.drop 1, joinS (x :: xs))] else if kd p = 1 then (p.drop 1, x) :: paramsL ps xs else paramsL ps xs
  | _, _ => []
end Go.Proofs.YtgfjkpfjajjidaaDoor
