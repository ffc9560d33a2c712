/- Targets and patterns, plainly; no Go. -/
import Derived.Test.YtejncdhdkdhpmaaDoorWordsPlain
namespace Go.Proofs.YtejncdhdkdhpmaaDoor.Pl

theorem wordsGo_cur (b : UInt8) : ∀ l : List UInt8, ∃ h t, ∀ cur, wordsGo b cur l = (cur ++ h) :: t
  | [] => ⟨[], [], fun cur => by simp [wordsGo]⟩
  | c :: l => by
    by_cases hc : c = b
    · exact ⟨[], wordsGo b [] l, fun cur => by rw [wordsGo, if_pos hc]; simp⟩
    · obtain ⟨h, t, e⟩ := wordsGo_cur b l
      exact ⟨c :: h, t, fun cur => by rw [wordsGo, if_neg hc, e]; simp⟩
theorem words_cons (b : UInt8) (l : List UInt8) : ∃ h t, wordsB b l = h :: t := by
  obtain ⟨h, t, e⟩ := wordsGo_cur b l
  exact ⟨h, t, by rw [wordsB, e]; rfl⟩
theorem words_nil (b : UInt8) : wordsB b [] = [[]] := rfl
theorem words_self (b : UInt8) (l : List UInt8) : wordsB b (b :: l) = [] :: wordsB b l := by simp [wordsB, wordsGo]
theorem words_other {b c : UInt8} {l h : List UInt8} {t : List (List UInt8)} (hc : c ≠ b) (e : wordsB b l = h :: t) : wordsB b (c :: l) = (c :: h) :: t := by
  obtain ⟨h', t', e'⟩ := wordsGo_cur b l
  have e1 : wordsB b l = h' :: t' := by rw [wordsB, e']; rfl
  rw [e1] at e
  injection e with e2 e3
  rw [wordsB, wordsGo, if_neg hc, e', e2, e3]; rfl
theorem words_app (b : UInt8) : ∀ (a r : List UInt8), b ∉ a → wordsB b (a ++ b :: r) = a :: wordsB b r
  | [], r, _ => words_self b r
  | c :: a, r, h => by
    rw [List.cons_append, words_other (fun e => h (by simp [e])) (words_app b a r (fun k => h (List.mem_cons_of_mem _ k)))]
theorem words_one (b : UInt8) : ∀ a : List UInt8, b ∉ a → wordsB b a = [a]
  | [], _ => rfl
  | c :: a, h => by rw [words_other (fun e => h (by simp [e])) (words_one b a (fun k => h (List.mem_cons_of_mem _ k)))]
theorem words_split (b : UInt8) (l : List UInt8) : b ∉ l ∨ ∃ a r, b ∉ a ∧ l = a ++ b :: r := by
  induction l with
  | nil => left; simp
  | cons c l ih =>
    by_cases hc : c = b
    · exact .inr ⟨[], l, by simp, by simp [hc]⟩
    · rcases ih with h | ⟨a, r, h, e⟩
      · left; simp; exact ⟨fun k => hc k.symm, h⟩
      · exact .inr ⟨c :: a, r, by simp; exact ⟨fun k => hc k.symm, h⟩, by rw [e]; rfl⟩

/-- What stands ahead of the first question mark. -/
def aheadL (s : List UInt8) : List UInt8 := s.takeWhile (· != 63)
theorem ahead_app (a q : List UInt8) (h : 63 ∉ a) : aheadL (a ++ 63 :: q) = a := by
  unfold aheadL
  induction a with
  | nil => simp
  | cons c a ih =>
    simp at h
    rw [List.cons_append, List.takeWhile_cons_of_pos (by simp; exact fun e => h.1 e.symm), ih h.2]
theorem ahead_free (a : List UInt8) (h : 63 ∉ a) : aheadL a = a := by
  unfold aheadL
  induction a with
  | nil => rfl
  | cons c a ih =>
    simp at h
    rw [List.takeWhile_cons_of_pos (by simp; exact fun e => h.1 e.symm), ih h.2]
theorem ahead_query (s q : List UInt8) : aheadL (s ++ 63 :: q) = aheadL s := by
  rcases words_split 63 s with h | ⟨a, r, h, rfl⟩
  · rw [ahead_app s q h, ahead_free s h]
  · rw [ahead_app a r h, List.append_assoc, List.cons_append, ahead_app a _ h]
theorem ahead_word (s : List UInt8) : ∃ t, wordsB 63 s = aheadL s :: t := by
  rcases words_split 63 s with h | ⟨a, r, h, rfl⟩
  · exact ⟨[], by rw [words_one 63 s h, ahead_free s h]⟩
  · exact ⟨_, by rw [words_app 63 a r h, ahead_app a r h]⟩
theorem ahead_len (s : List UInt8) : (aheadL s).length ≤ s.length := (List.takeWhile_sublist _).length_le

/-- What stands between the slashes of a text that begins with one. -/
def segsL : List UInt8 → Option (List (List UInt8))
  | [] => none
  | c :: r => if c = 47 then (if r = [] then some [] else if (wordsB 47 r).length ≤ 8 then some (wordsB 47 r) else none) else none

def unL : List (List UInt8) → Option (List UInt8)
  | [] => some []
  | p :: ps => if p.length < 2 then none else match numB 16 (p.take 2) with
    | none => none
    | some n => (unL ps).map fun r => UInt8.ofNat n.toNat :: (p.drop 2 ++ r)
def turnL (s : List UInt8) : Option (List UInt8) := match wordsB 37 s with
  | [] => none
  | a :: ps => (unL ps).map (a ++ ·)
def turnsL : List (List UInt8) → Option (List (List UInt8))
  | [] => some []
  | s :: l => match turnL s with
    | none => none
    | some t => (turnsL l).map (t :: ·)
def splitL (s : List UInt8) : Option (List (List UInt8)) := match segsL (aheadL s) with
  | none => none
  | some l => turnsL l

theorem num_two (a b : UInt8) : numB 16 [a, b] = if digR (a.toNat : Int) < 0 ∨ digR (b.toNat : Int) < 0 then none else some (digR (a.toNat : Int) * 16 + digR (b.toNat : Int)) := by
  have h1 := digR_lo (a.toNat : Int); have h2 := digR_hi (a.toNat : Int)
  have h3 := digR_lo (b.toNat : Int); have h4 := digR_hi (b.toNat : Int)
  rw [numB_ne 16 (by simp)]
  unfold numGo
  by_cases ha : digR (a.toNat : Int) < 0
  · rw [if_pos (by simp [badD, ha]), if_pos (.inl ha)]
  · have e1 : badD 16 0 (digR (a.toNat : Int)) = false := by simp [badD]; omega
    rw [e1]
    simp only [Bool.false_eq_true, if_false]
    unfold numGo
    by_cases hb : digR (b.toNat : Int) < 0
    · rw [if_pos (by simp [badD, hb]), if_pos (.inr hb)]
    · have e2 : badD 16 (0 * 16 + digR (a.toNat : Int)) (digR (b.toNat : Int)) = false := by simp [badD]; omega
      have e3 : ¬ (digR (a.toNat : Int) < 0 ∨ digR (b.toNat : Int) < 0) := by rintro (h | h) <;> contradiction
      rw [e2, if_neg e3]
      simp [numGo]
theorem num_two_lt {a b : UInt8} {n : Int} (h : numB 16 [a, b] = some n) : 0 ≤ n ∧ n < 256 := by
  have h2 := digR_hi (a.toNat : Int); have h4 := digR_hi (b.toNat : Int)
  rw [num_two] at h
  split at h
  · cases h
  · injection h with h; omega
theorem num_pct1 (b : UInt8) : numB 16 [37, b] = none := by rw [num_two, if_pos (.inl (by decide))]
theorem num_pct2 (a : UInt8) : numB 16 [a, 37] = none := by rw [num_two, if_pos (.inr (by decide))]
theorem num_sl1 (b : UInt8) : numB 16 [47, b] = none := by rw [num_two, if_pos (.inl (by decide))]
theorem num_sl2 (a : UInt8) : numB 16 [a, 47] = none := by rw [num_two, if_pos (.inr (by decide))]

theorem turn_nil : turnL [] = some [] := rfl
theorem turn_other {c : UInt8} (l : List UInt8) (hc : c ≠ 37) : turnL (c :: l) = (turnL l).map (c :: ·) := by
  obtain ⟨h, t, e⟩ := words_cons 37 l
  unfold turnL
  rw [e, words_other hc e]
  show (unL t).map ((c :: h) ++ ·) = ((unL t).map (h ++ ·)).map (c :: ·)
  cases unL t <;> rfl
theorem turn_pct1 : turnL [37] = none := rfl
theorem turn_pct2 (a : UInt8) : turnL [37, a] = none := by
  unfold turnL
  rw [words_self]
  by_cases ha : a = 37
  · subst ha; rfl
  · rw [words_one 37 [a] (by simp; exact fun e => ha e.symm)]; rfl
theorem turn_pct (a b : UInt8) (r : List UInt8) : turnL (37 :: a :: b :: r) = match numB 16 [a, b] with
    | none => none
    | some n => (turnL r).map (UInt8.ofNat n.toNat :: ·) := by
  unfold turnL
  rw [words_self]
  by_cases ha : a = 37
  · subst ha; rw [words_self, num_pct1]; rfl
  · by_cases hb : b = 37
    · subst hb; rw [words_other ha (words_self 37 r), num_pct2]; rfl
    · obtain ⟨h, t, e⟩ := words_cons 37 r
      rw [words_other ha (words_other hb e), e]
      simp only [unL]
      rw [if_neg (by simp)]
      simp only [List.take_succ_cons, List.take_zero, List.drop_succ_cons, List.drop_zero]
      cases numB 16 [a, b] with
      | none => rfl
      | some n => cases unL t <;> rfl

/-- Are there two digits behind a per cent sign that stands first? -/
def okHead : List UInt8 → Bool
  | [] => true
  | c :: l => if c = 37 then (match l with | a :: b :: _ => (numB 16 [a, b]).isSome | _ => false) else true
def pctL : List UInt8 → Bool
  | [] => true
  | c :: l => okHead (c :: l) && pctL l
theorem pct_other {c : UInt8} (l : List UInt8) (hc : c ≠ 37) : pctL (c :: l) = pctL l := by simp [pctL, okHead, hc]
theorem pct_drop (l : List UInt8) (k : Nat) : pctL (l.drop k) = (okHead (l.drop k) && pctL (l.drop (k + 1))) := by
  rcases Nat.lt_or_ge k l.length with h | h
  · rw [List.drop_eq_getElem_cons h, pctL]
  · rw [List.drop_of_length_le h, List.drop_of_length_le (by omega)]; rfl
theorem dig_ne {a b : UInt8} {n : Int} (h : numB 16 [a, b] = some n) : a ≠ 37 ∧ b ≠ 37 ∧ a ≠ 47 ∧ b ≠ 47 := by
  refine ⟨?_, ?_, ?_, ?_⟩ <;> intro e <;> subst e
  · rw [num_pct1] at h; cases h
  · rw [num_pct2] at h; cases h
  · rw [num_sl1] at h; cases h
  · rw [num_sl2] at h; cases h
theorem turn_some (l : List UInt8) : (turnL l).isSome = pctL l := by
  induction hn : l.length using Nat.strongRecOn generalizing l with
  | _ n ih =>
    match l, hn with
    | [], _ => rfl
    | c :: l, hn =>
      by_cases hc : c = 37
      · subst hc
        match l, hn with
        | [], _ => rfl
        | [a], _ => rw [turn_pct2]; simp [pctL, okHead]
        | a :: b :: r, hn =>
          rw [turn_pct]
          cases e : numB 16 [a, b] with
          | none => simp [pctL, okHead, e]
          | some m =>
            obtain ⟨h1, h2, _, _⟩ := dig_ne e
            have := ih r.length (by simp at hn; omega) r rfl
            rw [pctL, pct_other _ h1, pct_other _ h2]
            simp [okHead, e, this]
      · rw [turn_other l hc, pct_other l hc, Option.isSome_map]
        exact ih l.length (by simp at hn; omega) l rfl
theorem pct_app (a r : List UInt8) : pctL (a ++ 47 :: r) = (pctL a && pctL r) := by
  induction a with
  | nil => simp [pctL, okHead]
  | cons c a ih =>
    rw [List.cons_append, pctL, pctL, ih]
    by_cases hc : c = 37
    · subst hc
      match a with
      | [] => match r with
        | [] => rfl
        | b :: r => simp [okHead, num_sl1]
      | [x] => simp [okHead, num_sl2]
      | x :: y :: a => simp [okHead, Bool.and_assoc]
    · simp [okHead, hc]
theorem pct_words (r : List UInt8) : pctL r = (wordsB 47 r).all pctL := by
  induction hn : r.length using Nat.strongRecOn generalizing r with
  | _ n ih =>
    rcases words_split 47 r with h | ⟨a, q, h, rfl⟩
    · rw [words_one 47 r h]; simp
    · rw [words_app 47 a q h, pct_app, ih q.length (by simp at hn; omega) q rfl]; simp
theorem turns_some (l : List (List UInt8)) : (turnsL l).isSome = l.all pctL := by
  induction l with
  | nil => rfl
  | cons s l ih =>
    rw [turnsL, List.all_cons, ← turn_some, ← ih]
    cases turnL s with
    | none => rfl
    | some t => cases turnsL l <;> rfl
theorem turns_len {l l' : List (List UInt8)} (h : turnsL l = some l') : l'.length = l.length := by
  induction l generalizing l' with
  | nil => cases h; rfl
  | cons s l ih =>
    rw [turnsL] at h
    cases hs : turnL s with
    | none => rw [hs] at h; cases h
    | some t =>
      rw [hs] at h
      cases ht : turnsL l with
      | none => rw [ht] at h; cases h
      | some r => rw [ht] at h; cases h; simp [ih ht]
theorem turns_at (l : List (List UInt8)) (k : Nat) (h : k < l.length) (ds : List (List UInt8)) : (turnsL (l.drop k)).map (ds ++ ·) = match turnL l[k] with
    | none => none
    | some t => (turnsL (l.drop (k + 1))).map ((ds ++ [t]) ++ ·) := by
  rw [List.drop_eq_getElem_cons h, turnsL]
  cases turnL l[k] with
  | none => rfl
  | some t => cases turnsL (l.drop (k + 1)) <;> simp

/-- Is it so, but for how many there are? -/
def rightL (t : List UInt8) : Bool := decide (t.head? = some 47) && pctL t
def manyL (t : List UInt8) : Nat := if rightL t = true ∧ t ≠ [47] then (wordsB 47 t.tail).length else 0
theorem wrong_plain (s : List UInt8) : (splitL s).isSome = (rightL (aheadL s) && decide (manyL (aheadL s) ≤ 8)) ∧ ∀ l, splitL s = some l → l.length = manyL (aheadL s) := by
  unfold splitL
  generalize aheadL s = t
  match t with
  | [] => exact ⟨rfl, fun l h => by cases h⟩
  | c :: r =>
    by_cases hc : c = 47
    · subst hc
      by_cases hr : r = []
      · subst hr; exact ⟨rfl, fun l h => by cases h; rfl⟩
      · have e : rightL (47 :: r) = (wordsB 47 r).all pctL := by rw [rightL, pct_other r (by decide), pct_words]; rfl
        rw [segsL, if_pos rfl, if_neg hr, manyL, e]
        by_cases hl : (wordsB 47 r).length ≤ 8
        · rw [if_pos hl]
          simp only
          rw [turns_some]
          refine ⟨?_, fun l h => ?_⟩
          · cases he : (wordsB 47 r).all pctL
            · rfl
            · rw [if_pos ⟨rfl, by simp [hr]⟩]; simp [hl]
          · have : (wordsB 47 r).all pctL = true := by rw [← turns_some, h]; rfl
            rw [if_pos ⟨this, by simp [hr]⟩, turns_len h]; rfl
        · rw [if_neg hl]
          refine ⟨?_, fun l h => by cases h⟩
          cases he : (wordsB 47 r).all pctL
          · rfl
          · rw [if_pos ⟨rfl, by simp [hr]⟩]; simp [hl]
    · rw [segsL, if_neg hc]
      exact ⟨by simp [rightL, hc], fun l h => by cases h⟩

def hexD (n : Nat) : UInt8 := if n < 10 then UInt8.ofNat (48 + n) else UInt8.ofNat (87 + n)
def hexL (c : UInt8) : List UInt8 := [37, hexD (c.toNat / 16), hexD (c.toNat % 16)]
theorem hex_fin : ∀ n : Fin 256, numB 16 [hexD (n.val / 16), hexD (n.val % 16)] = some (n.val : Int) ∧ 47 ≠ hexD (n.val / 16) ∧ 47 ≠ hexD (n.val % 16) ∧ 63 ≠ hexD (n.val / 16) ∧ 63 ≠ hexD (n.val % 16) := by decide +kernel
theorem hex_num (c : UInt8) : numB 16 [hexD (c.toNat / 16), hexD (c.toNat % 16)] = some (c.toNat : Int) := (hex_fin ⟨c.toNat, c.toNat_lt⟩).1
def encC (all : Bool) (c : UInt8) : List UInt8 := if all = true ∨ c = 47 ∨ c = 63 ∨ c = 37 then hexL c else [c]
def encS (all : Bool) (s : List UInt8) : List UInt8 := s.flatMap (encC all)
def tgtL (all : Bool) (l : List (List UInt8)) : List UInt8 := l.flatMap fun s => 47 :: encS all s
theorem encC_free (all : Bool) (c : UInt8) : 47 ∉ encC all c ∧ 63 ∉ encC all c := by
  unfold encC
  split
  · obtain ⟨_, h1, h2, h3, h4⟩ := hex_fin ⟨c.toNat, c.toNat_lt⟩
    simp only at h1 h2 h3 h4
    constructor
    · simp [hexL, h1, h2]
    · simp [hexL, h3, h4]
  · rename_i h
    simp
    exact ⟨fun e => h (.inr (.inl e.symm)), fun e => h (.inr (.inr (.inl e.symm)))⟩
theorem enc_free (all : Bool) (s : List UInt8) : 47 ∉ encS all s ∧ 63 ∉ encS all s := by
  unfold encS
  constructor
  · intro h; obtain ⟨c, _, hc⟩ := List.mem_flatMap.1 h; exact (encC_free all c).1 hc
  · intro h; obtain ⟨c, _, hc⟩ := List.mem_flatMap.1 h; exact (encC_free all c).2 hc
theorem turn_enc (all : Bool) (s : List UInt8) : turnL (encS all s) = some s := by
  induction s with
  | nil => rfl
  | cons c s ih =>
    unfold encS at ih ⊢
    rw [List.flatMap_cons, encC]
    split
    · rw [hexL, List.cons_append, List.cons_append, List.cons_append, List.nil_append, turn_pct, hex_num, ih]
      simp
    · rename_i h
      rw [List.cons_append, List.nil_append, turn_other _ (fun e => h (.inr (.inr (.inr e)))), ih]; rfl
theorem tgt_free (all : Bool) (l : List (List UInt8)) : 63 ∉ tgtL all l := by
  intro h
  obtain ⟨s, _, hs⟩ := List.mem_flatMap.1 h
  rcases List.mem_cons.1 hs with h | h
  · cases h
  · exact (enc_free all s).2 h
theorem words_tgt (all : Bool) (x : List UInt8) (hx : 47 ∉ x) (l : List (List UInt8)) : wordsB 47 (x ++ tgtL all l) = x :: l.map (encS all) := by
  induction l generalizing x with
  | nil => rw [tgtL, List.flatMap_nil, List.append_nil, words_one 47 x hx]; rfl
  | cons s l ih =>
    have := ih (encS all s) (enc_free all s).1
    unfold tgtL at this ⊢
    rw [List.flatMap_cons, List.cons_append, words_app 47 x _ hx, this]; rfl
theorem turns_enc (all : Bool) (l : List (List UInt8)) : turnsL (l.map (encS all)) = some l := by
  induction l with
  | nil => rfl
  | cons s l ih => rw [List.map_cons, turnsL, turn_enc, ih]; rfl
theorem segs_tgt (all : Bool) (l : List (List UInt8)) (h0 : l ≠ []) (h1 : tgtL all l ≠ [47]) : segsL (tgtL all l) = if l.length ≤ 8 then some (l.map (encS all)) else none := by
  match l, h0 with
  | s :: l, _ =>
    have e : tgtL all (s :: l) = 47 :: (encS all s ++ tgtL all l) := by simp [tgtL]
    rw [e] at h1 ⊢
    rw [segsL, if_pos rfl, if_neg (by simpa using h1), words_tgt all _ (enc_free all s).1 l]
    simp
theorem back_plain (all : Bool) (l : List (List UInt8)) (q : List UInt8) (h0 : l ≠ []) (h1 : tgtL all l ≠ [47]) : splitL (tgtL all l ++ 63 :: q) = if l.length ≤ 8 then some l else none := by
  rw [splitL, ahead_app _ _ (tgt_free all l), segs_tgt all l h0 h1]
  by_cases h : l.length ≤ 8
  · rw [if_pos h, if_pos h]; exact turns_enc all l
  · rw [if_neg h, if_neg h]
theorem split_tgt (all : Bool) (l : List (List UInt8)) (h0 : l ≠ []) (h1 : tgtL all l ≠ [47]) : splitL (tgtL all l) = if l.length ≤ 8 then some l else none := by
  rw [splitL, ahead_free _ (tgt_free all l), segs_tgt all l h0 h1]
  by_cases h : l.length ≤ 8
  · rw [if_pos h, if_pos h]; exact turns_enc all l
  · rw [if_neg h, if_neg h]
theorem enc_plain (s : List UInt8) (h : ∀ c ∈ s, c ≠ 47 ∧ c ≠ 37 ∧ c ≠ 63) : encS false s = s := by
  induction s with
  | nil => rfl
  | cons c s ih =>
    have hc := h c (by simp)
    unfold encS at ih ⊢
    rw [List.flatMap_cons, ih (fun d hd => h d (List.mem_cons_of_mem _ hd)), encC, if_neg (by simp [hc])]
    rfl

def kindL : List UInt8 → Int
  | [] => 0
  | c :: _ => if c = 58 then 1 else if c = 42 then 2 else 0
def namedL (l : List (List UInt8)) (n : List UInt8) : Bool := l.any fun s => decide (kindL s ≠ 0) && decide (s.drop 1 = n)
def fitL (l : List (List UInt8)) (i : Nat) (s : List UInt8) : Bool :=
  if kindL s = 2 then decide (i + 1 = l.length) && (tokB (s.drop 1) && !namedL (l.take i) (s.drop 1))
  else if kindL s = 1 then tokB (s.drop 1) && !namedL (l.take i) (s.drop 1)
  else tokB s && !s.contains 37
def fitsFrom (l : List (List UInt8)) : Nat → List (List UInt8) → Bool
  | _, [] => true
  | i, s :: r => fitL l i s && fitsFrom l (i + 1) r
def patL (s : List UInt8) : Option (List (List UInt8)) := match segsL s with
  | none => none
  | some l => if fitsFrom l 0 l then some l else none
theorem fits_at (l : List (List UInt8)) (k : Nat) (h : k < l.length) : fitsFrom l k (l.drop k) = (fitL l k l[k] && fitsFrom l (k + 1) (l.drop (k + 1))) := by
  rw [List.drop_eq_getElem_cons h, fitsFrom]
theorem fits_end (l : List (List UInt8)) (k : Nat) (h : l.length ≤ k) : fitsFrom l k (l.drop k) = true := by
  rw [List.drop_of_length_le h]; rfl
theorem fits_all (l : List (List UInt8)) (h : fitsFrom l 0 l = true) : ∀ k (hk : k < l.length), fitL l k l[k] = true := by
  have : ∀ k, fitsFrom l k (l.drop k) = true := by
    intro k
    induction k with
    | zero => simpa using h
    | succ k ih =>
      rcases Nat.lt_or_ge k l.length with hk | hk
      · rw [fits_at l k hk] at ih; simp at ih; exact ih.2
      · exact fits_end l _ (by omega)
  intro k hk
  have h2 := this k
  rw [fits_at l k hk] at h2; simp at h2; exact h2.1
theorem fit_ne (l : List (List UInt8)) (i : Nat) (s : List UInt8) (h : fitL l i s = true) : s ≠ [] := by
  intro e; subst e; simp [fitL, kindL, tokB] at h
def shapeC (s : List UInt8) : List UInt8 := 47 :: (if kindL s ≠ 0 then s.take 1 else s)
def shapeL (l : List (List UInt8)) : List UInt8 := l.flatMap shapeC
theorem pat_segs {s : List UInt8} {l : List (List UInt8)} (h : patL s = some l) : segsL s = some l ∧ fitsFrom l 0 l = true := by
  unfold patL at h
  cases hs : segsL s with
  | none => rw [hs] at h; cases h
  | some l' =>
    rw [hs] at h
    simp only at h
    split at h
    · rename_i hf; cases h; exact ⟨rfl, hf⟩
    · cases h
theorem segs_len {s : List UInt8} {l : List (List UInt8)} (h : segsL s = some l) : l.length ≤ 8 := by
  match s with
  | [] => cases h
  | c :: r =>
    rw [segsL] at h
    split at h
    · split at h
      · cases h; simp
      · split at h
        · cases h; assumption
        · cases h
    · cases h
theorem wordsGo_small (b : UInt8) : ∀ (l cur : List UInt8), ∀ x ∈ wordsGo b cur l, x.length ≤ cur.length + l.length
  | [], cur => by simp [wordsGo]
  | c :: l, cur => by
    intro x hx
    rw [wordsGo] at hx
    split at hx
    · rw [List.mem_cons] at hx
      rcases hx with rfl | hx
      · simp
      · have := wordsGo_small b l [] x hx; simp at this ⊢; omega
    · have := wordsGo_small b l (cur ++ [c]) x hx; simp at this ⊢; omega
theorem words_small (b : UInt8) (l : List UInt8) : ∀ x ∈ wordsB b l, x.length ≤ l.length := fun x hx => by
  have := wordsGo_small b l [] x hx; simpa using this
theorem wordsGo_many (b : UInt8) : ∀ (l cur : List UInt8), (wordsGo b cur l).length ≤ l.length + 1
  | [], cur => by simp [wordsGo]
  | c :: l, cur => by
    rw [wordsGo]
    split
    · have := wordsGo_many b l []; simp; omega
    · have := wordsGo_many b l (cur ++ [c]); simp; omega
theorem words_many (b : UInt8) (l : List UInt8) : (wordsB b l).length ≤ l.length + 1 := wordsGo_many b l []
theorem segs_small {s : List UInt8} {l : List (List UInt8)} (h : segsL s = some l) : ∀ x ∈ l, x.length ≤ s.length := by
  match s with
  | [] => cases h
  | c :: r =>
    rw [segsL] at h
    split at h
    · split at h
      · cases h; simp
      · split at h
        · cases h; intro x hx; have := words_small 47 r x hx; simp; omega
        · cases h
    · cases h
theorem un_small : ∀ (ps : List (List UInt8)) (r : List UInt8), unL ps = some r → r.length ≤ (ps.map (·.length)).sum
  | [], r, h => by cases h; simp
  | p :: ps, r, h => by
    rw [unL] at h
    split at h
    · cases h
    · split at h
      · cases h
      · cases hu : unL ps with
        | none => rw [hu] at h; cases h
        | some q =>
          rw [hu] at h; cases h
          have := un_small ps q hu
          simp; omega

end Go.Proofs.YtejncdhdkdhpmaaDoor.Pl
