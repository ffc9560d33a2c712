/- Lines of routes, read back: plainly. -/
import Derived.Test.YtejncdhdkdhpmaaDoorTbPlain
namespace Go.Proofs.YtejncdhdkdhpmaaDoor
open Pl

/-- A word: one byte or more, no blank, no end of a line. -/
def Wd (x : List UInt8) : Prop := x ≠ [] ∧ ∀ c ∈ x, c ≠ 32 ∧ c ≠ 10

theorem names_clean {m : List UInt8} (h : namesB m = true) : ∀ c ∈ m, c ≠ 32 ∧ c ≠ 10 := by
  intro c hc
  have := (List.all_eq_true.1 h) c hc
  refine ⟨fun e => ?_, fun e => ?_⟩
  · subst e; revert this; decide
  · subst e; revert this; decide
theorem tok_clean {m : List UInt8} (h : tokB m = true) : Wd m := by
  simp only [tokB, Bool.and_eq_true, Bool.not_eq_true', List.isEmpty_eq_false_iff] at h
  exact ⟨h.1, names_clean h.2⟩
theorem hand_clean {m : List UInt8} (h : handL m = true) : Wd m := by
  have h1 : m ∈ names8 := by simpa [handL] using h
  have h2 : ∀ x ∈ names8, x ≠ [] ∧ ∀ c ∈ x, c ≠ 32 ∧ c ≠ 10 := by decide +kernel
  exact h2 m h1
theorem mem_words (b : UInt8) : ∀ (l : List UInt8) (n : Nat), l.length ≤ n → ∀ c ∈ l, c = b ∨ ∃ x ∈ wordsB b l, c ∈ x
  | l, 0, hn, c, hc => by
    have : l = [] := List.length_eq_zero_iff.1 (by omega)
    subst this; cases hc
  | l, n + 1, hn, c, hc => by
    rcases words_split b l with h | ⟨a, r, ha, rfl⟩
    · exact .inr ⟨l, by rw [words_one b l h]; simp, hc⟩
    · rw [words_app b a r ha]
      rcases List.mem_append.1 hc with h1 | h1
      · exact .inr ⟨a, by simp, h1⟩
      · rcases List.mem_cons.1 h1 with h2 | h2
        · exact .inl h2
        · rcases mem_words b r n (by simp at hn; omega) c h2 with h3 | ⟨x, hx, h3⟩
          · exact .inl h3
          · exact .inr ⟨x, by simp [hx], h3⟩
theorem fit_clean (l : List (List UInt8)) (i : Nat) (s : List UInt8) (h : fitL l i s = true) : ∀ c ∈ s, c ≠ 32 ∧ c ≠ 10 := by
  match s with
  | [] => intro c hc; cases hc
  | d :: s =>
    have hd : tokB s = true ∧ (d = 58 ∨ d = 42) ∨ tokB (d :: s) = true := by
      unfold fitL at h
      by_cases h1 : d = 58
      · subst h1; simp [kindL] at h; exact .inl ⟨h.1, .inl rfl⟩
      · by_cases h2 : d = 42
        · subst h2; simp [kindL] at h; exact .inl ⟨h.2.1, .inr rfl⟩
        · simp [kindL, h1, h2] at h; exact .inr h.1
    rcases hd with ⟨ht, hd⟩ | ht
    · intro c hc
      rcases List.mem_cons.1 hc with e | hc
      · subst e
        rcases hd with e | e <;> subst e <;> decide
      · exact (tok_clean ht).2 c hc
    · exact (tok_clean ht).2
theorem pat_clean {p : List UInt8} (h : (patL p).isSome = true) : Wd p := by
  obtain ⟨l, hl⟩ := Option.isSome_iff_exists.1 h
  obtain ⟨h1, h2⟩ := pat_segs hl
  match p, h1 with
  | c :: r, h1 =>
    refine ⟨by simp, ?_⟩
    rw [segsL] at h1
    split at h1
    · rename_i hc
      subst hc
      split at h1
      · rename_i hr
        subst hr
        intro d hd
        simp at hd
        subst hd; decide
      · split at h1
        · cases h1
          intro d hd
          rcases List.mem_cons.1 hd with e | hd
          · subst e; decide
          · rcases mem_words 47 r _ (Nat.le_refl _) d hd with e | ⟨x, hx, hdx⟩
            · subst e; decide
            · obtain ⟨k, hk, rfl⟩ := List.getElem_of_mem hx
              exact fit_clean _ k _ (fits_all _ h2 k hk) d hdx
        · cases h1
    · cases h1
theorem right_clean {r : Rt} (h : rightL r = true) : Wd r.m ∧ Wd r.p ∧ Wd r.h := by
  simp only [rightL, Bool.and_eq_true] at h
  exact ⟨tok_clean h.1.2, pat_clean h.1.1, hand_clean h.2⟩

def bl (n : Nat) : List UInt8 := List.replicate n 32
theorem skip_bl (n : Nat) (x : List UInt8) : skipL (bl n ++ x) = skipL x := by
  induction n with
  | zero => rfl
  | succ n ih => rw [bl, List.replicate_succ]; exact ih
theorem skip_wd {x : List UInt8} (h : Wd x) (t : List UInt8) : skipL (x ++ t) = x ++ t := by
  match x, h with
  | c :: x, h =>
    have := (h.2 c (by simp)).1
    rw [skipL, List.cons_append, List.dropWhile_cons, if_neg (by simpa using this)]
  | [], h => exact absurd rfl h.1
theorem take_wd : ∀ {x : List UInt8} (_ : ∀ c ∈ x, c ≠ 32 ∧ c ≠ 10) (t : List UInt8), (x ++ 32 :: t).takeWhile (fun c => decide (c ≠ 32)) = x ∧ (x ++ 32 :: t).dropWhile (fun c => decide (c ≠ 32)) = 32 :: t
  | [], _, t => by simp
  | c :: x, h, t => by
    have hc : decide (c ≠ 32) = true := by simpa using (h c (by simp)).1
    obtain ⟨i1, i2⟩ := take_wd (x := x) (fun d hd => h d (by simp [hd])) t
    rw [List.cons_append, List.takeWhile_cons, List.dropWhile_cons, if_pos hc, if_pos hc, i1, i2]
    exact ⟨rfl, rfl⟩
theorem take_wd0 : ∀ {x : List UInt8} (_ : ∀ c ∈ x, c ≠ 32 ∧ c ≠ 10), x.takeWhile (fun c => decide (c ≠ 32)) = x ∧ x.dropWhile (fun c => decide (c ≠ 32)) = []
  | [], _ => by simp
  | c :: x, h => by
    have hc : decide (c ≠ 32) = true := by simpa using (h c (by simp)).1
    obtain ⟨i1, i2⟩ := take_wd0 (x := x) (fun d hd => h d (by simp [hd]))
    rw [List.takeWhile_cons, List.dropWhile_cons, if_pos hc, if_pos hc, i1, i2]
    exact ⟨rfl, rfl⟩
theorem word_bl {x : List UInt8} (h : Wd x) (n : Nat) (t : List UInt8) : wordL (bl n ++ (x ++ 32 :: t)) = x ∧ restL (bl n ++ (x ++ 32 :: t)) = t := by
  rw [wordL, restL, skip_bl, skip_wd h, (take_wd h.2 t).1, (take_wd h.2 t).2]
  exact ⟨rfl, rfl⟩
theorem word_last {x : List UInt8} (h : Wd x) (n k : Nat) : wordL (bl n ++ (x ++ bl k)) = x ∧ wordL (restL (bl n ++ (x ++ bl k))) = [] := by
  cases k with
  | zero =>
    have e0 : bl 0 = [] := rfl
    rw [e0, wordL, restL, skip_bl, skip_wd h, List.append_nil, (take_wd0 h.2).1, (take_wd0 h.2).2]
    exact ⟨rfl, rfl⟩
  | succ k =>
    have e : bl (k + 1) = 32 :: bl k := rfl
    rw [e, (word_bl h n (bl k)).1, (word_bl h n (bl k)).2]
    have : skipL (bl k) = [] := by have := skip_bl k []; rw [List.append_nil] at this; rw [this]; rfl
    exact ⟨rfl, by rw [wordL, this]; rfl⟩

/-- A line with blanks: so many ahead, so many more between, so many behind. -/
def lineB (a b c d : Nat) (r : Rt) : List UInt8 := bl a ++ (r.m ++ 32 :: (bl b ++ (r.p ++ 32 :: (bl c ++ (r.h ++ bl d)))))
theorem line_bl (a b c d : Nat) (r : Rt) (hm : Wd r.m) (hp : Wd r.p) (hh : Wd r.h) : lineL (lineB a b c d r) = some (some r) := by
  have e1 := word_bl hm a (bl b ++ (r.p ++ 32 :: (bl c ++ (r.h ++ bl d))))
  have e2 := word_bl hp b (bl c ++ (r.h ++ bl d))
  have e3 := word_last hh c d
  unfold lineL lineB
  rw [e1.1, if_neg hm.1, e1.2, e2.1, if_neg hp.1, e2.2, e3.1, if_neg hh.1, e3.2, if_pos rfl]
theorem line_none (n : Nat) : lineL (bl n) = some none := by
  have : skipL (bl n) = [] := by have := skip_bl n []; rw [List.append_nil] at this; rw [this]; rfl
  unfold lineL
  rw [if_pos (by rw [wordL, this]; rfl)]
theorem bl_free (n : Nat) : (10 : UInt8) ∉ bl n := by
  intro h
  have := List.eq_of_mem_replicate h
  revert this; decide
theorem line_free (a b c d : Nat) (r : Rt) (hm : Wd r.m) (hp : Wd r.p) (hh : Wd r.h) : (10 : UInt8) ∉ lineB a b c d r := by
  unfold lineB
  simp only [List.mem_append, List.mem_cons, not_or]
  exact ⟨bl_free a, fun h => (hm.2 _ h).2 rfl, by decide, bl_free b, fun h => (hp.2 _ h).2 rfl, by decide, bl_free c, fun h => (hh.2 _ h).2 rfl, bl_free d⟩

theorem words_lines : ∀ (ls : List (List UInt8)), (∀ x ∈ ls, (10 : UInt8) ∉ x) → wordsB 10 (ls.flatMap (· ++ [10])) = ls ++ [[]]
  | [], _ => rfl
  | x :: ls, h => by
    have e : (x :: ls).flatMap (· ++ [10]) = x ++ 10 :: ls.flatMap (· ++ [10]) := by simp
    rw [e, words_app 10 x _ (h x (by simp)), words_lines ls (fun y hy => h y (by simp [hy]))]
    rfl
theorem lines_app : ∀ (a b : List (List UInt8)) (x y : List Rt), linesL a = some x → linesL b = some y → linesL (a ++ b) = some (x ++ y)
  | [], b, x, y, ha, hb => by cases ha; exact hb
  | u :: a, b, x, y, ha, hb => by
    rw [linesL] at ha
    rw [List.cons_append, linesL]
    cases hu : lineL u with
    | none => rw [hu] at ha; cases ha
    | some o =>
      rw [hu] at ha
      cases o with
      | none => exact lines_app a b x y ha hb
      | some q =>
        obtain ⟨x', h', rfl⟩ := Option.map_eq_some_iff.1 ha
        show (linesL (a ++ b)).map _ = _
        rw [lines_app a b x' y h' hb]
        rfl

theorem parse_of {s : List UInt8} {l : List Rt} (h : linesL (wordsB 10 s) = some l) (hc : checkL l = 0) : parseL s = (l, 0) := by
  rw [parseL, h]
  simp only
  rw [if_pos hc]

theorem lines_map : ∀ (l : List Rt), (∀ r ∈ l, Wd r.m ∧ Wd r.p ∧ Wd r.h) → linesL (l.map (lineB 0 0 0 0)) = some l
  | [], _ => rfl
  | r :: l, h => by
    have h1 := h r (by simp)
    rw [List.map_cons, linesL, line_bl 0 0 0 0 r h1.1 h1.2.1 h1.2.2, lines_map l (fun x hx => h x (by simp [hx]))]
    rfl
theorem print_eq (l : List Rt) : printL l = (l.map (lineB 0 0 0 0)).flatMap (· ++ [10]) := by
  unfold printL
  rw [List.flatMap_map]
  congr 1
  funext r
  simp [lineOf, lineB, bl]
theorem check_clean {l : List Rt} (h : checkL l = 0) : ∀ r ∈ l, Wd r.m ∧ Wd r.p ∧ Wd r.h := fun r hr => right_clean (List.all_eq_true.1 (check_zero h).1 r hr)
/-- What was printed is read again. -/
theorem parse_print {l : List Rt} (h : checkL l = 0) : parseL (printL l) = (l, 0) := by
  have hw := check_clean h
  refine parse_of ?_ h
  rw [print_eq, words_lines _ (fun x hx => by obtain ⟨r, hr, rfl⟩ := List.mem_map.1 hx; exact line_free 0 0 0 0 r (hw r hr).1 (hw r hr).2.1 (hw r hr).2.2)]
  have := lines_app _ [[]] l [] (lines_map l hw) rfl
  rwa [List.append_nil] at this
theorem parse_check (s : List UInt8) : (parseL s).2 = 0 ∧ checkL (parseL s).1 = 0 ∨ (parseL s).1 = [] ∧ ((parseL s).2 = 1 ∨ (parseL s).2 = 2 ∨ (parseL s).2 = 3) := by
  unfold parseL
  cases linesL (wordsB 10 s) with
  | none => exact .inr ⟨rfl, .inl rfl⟩
  | some l =>
    simp only
    by_cases h : checkL l = 0
    · rw [if_pos h]; exact .inl ⟨rfl, h⟩
    · rw [if_neg h]
      refine .inr ⟨rfl, ?_⟩
      rcases check_cases l with e | e
      · exact absurd e h
      · exact e

end Go.Proofs.YtejncdhdkdhpmaaDoor
