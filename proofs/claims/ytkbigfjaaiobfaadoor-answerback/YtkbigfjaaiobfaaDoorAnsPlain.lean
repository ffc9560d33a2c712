/- Responses as bytes, plainly; no Go. -/
import Derived.Test.YtkbigfjaaiobfaaDoorHeadPlain
import Derived.Lib.IndexMore
import Derived.Lib.IndexAny
import Derived.Lib.ItoaNum
import Derived.Lib.AtoiAll
import Derived.Lib.Strings
namespace Go.Proofs.YtkbigfjaaiobfaaDoor
open Pl

def crlf : List UInt8 := [13, 10]
def colon : List UInt8 := [58, 32]
def connL : List UInt8 := [99, 111, 110, 110, 101, 99, 116, 105, 111, 110]
def lenL : List UInt8 := [99, 111, 110, 116, 101, 110, 116, 45, 108, 101, 110, 103, 116, 104]
def closingL : List UInt8 := [99, 111, 110, 110, 101, 99, 116, 105, 111, 110, 58, 32, 99, 108, 111, 115, 101, 13, 10]
def lengthIs : List UInt8 := [99, 111, 110, 116, 101, 110, 116, 45, 108, 101, 110, 103, 116, 104, 58, 32]
def httpL : List UInt8 := [72, 84, 84, 80, 47, 49, 46, 49]
def wordL (n : Int) : List UInt8 := if n = 200 then [79, 75] else if n = 201 then [67, 114, 101, 97, 116, 101, 100] else if n = 400 then [66, 97, 100, 32, 82, 101, 113, 117, 101, 115, 116] else if n = 401 then [85, 110, 97, 117, 116, 104, 111, 114, 105, 122, 101, 100] else if n = 404 then [78, 111, 116, 32, 70, 111, 117, 110, 100] else if n = 405 then [77, 101, 116, 104, 111, 100, 32, 78, 111, 116, 32, 65, 108, 108, 111, 119, 101, 100] else if n = 409 then [67, 111, 110, 102, 108, 105, 99, 116] else if n = 412 then [80, 114, 101, 99, 111, 110, 100, 105, 116, 105, 111, 110, 32, 70, 97, 105, 108, 101, 100] else if n = 413 then [67, 111, 110, 116, 101, 110, 116, 32, 84, 111, 111, 32, 76, 97, 114, 103, 101] else if n = 431 then [82, 101, 113, 117, 101, 115, 116, 32, 72, 101, 97, 100, 101, 114, 32, 70, 105, 101, 108, 100, 115, 32, 84, 111, 111, 32, 76, 97, 114, 103, 101] else if n = 500 then [73, 110, 116, 101, 114, 110, 97, 108, 32, 83, 101, 114, 118, 101, 114, 32, 69, 114, 114, 111, 114] else if n = 501 then [78, 111, 116, 32, 73, 109, 112, 108, 101, 109, 101, 110, 116, 101, 100] else if n = 503 then [83, 101, 114, 118, 105, 99, 101, 32, 85, 110, 97, 118, 97, 105, 108, 97, 98, 108, 101] else if n = 507 then [73, 110, 115, 117, 102, 102, 105, 99, 105, 101, 110, 116, 32, 83, 116, 111, 114, 97, 103, 101] else [85, 110, 107, 110, 111, 119, 110]
def firstL (n : Int) : List UInt8 := httpL ++ 32 :: (Lib.itoa n ++ 32 :: wordL n)
theorem word_cases (n : Int) : n = 200 ∨ n = 201 ∨ n = 400 ∨ n = 401 ∨ n = 404 ∨ n = 405 ∨ n = 409 ∨ n = 412 ∨ n = 413 ∨ n = 431 ∨ n = 500 ∨ n = 501 ∨ n = 503 ∨ n = 507 ∨ (n ≠ 200 ∧ n ≠ 201 ∧ n ≠ 400 ∧ n ≠ 401 ∧ n ≠ 404 ∧ n ≠ 405 ∧ n ≠ 409 ∧ n ≠ 412 ∧ n ≠ 413 ∧ n ≠ 431 ∧ n ≠ 500 ∧ n ≠ 501 ∧ n ≠ 503 ∧ n ≠ 507) := by omega
theorem word_else {n : Int} (h : n ≠ 200 ∧ n ≠ 201 ∧ n ≠ 400 ∧ n ≠ 401 ∧ n ≠ 404 ∧ n ≠ 405 ∧ n ≠ 409 ∧ n ≠ 412 ∧ n ≠ 413 ∧ n ≠ 431 ∧ n ≠ 500 ∧ n ≠ 501 ∧ n ≠ 503 ∧ n ≠ 507) : wordL n = [85, 110, 107, 110, 111, 119, 110] := by
  obtain ⟨h200, h201, h400, h401, h404, h405, h409, h412, h413, h431, h500, h501, h503, h507⟩ := h
  unfold wordL
  rw [if_neg h200, if_neg h201, if_neg h400, if_neg h401, if_neg h404, if_neg h405, if_neg h409, if_neg h412, if_neg h413, if_neg h431, if_neg h500, if_neg h501, if_neg h503, if_neg h507]
theorem word_no (n : Int) : 13 ∉ wordL n := by
  rcases word_cases n with rfl | rfl | rfl | rfl | rfl | rfl | rfl | rfl | rfl | rfl | rfl | rfl | rfl | rfl | h
  · decide
  · decide
  · decide
  · decide
  · decide
  · decide
  · decide
  · decide
  · decide
  · decide
  · decide
  · decide
  · decide
  · decide
  · rw [word_else h]; decide
theorem word_len (n : Int) : (wordL n).length ≤ 31 := by
  rcases word_cases n with rfl | rfl | rfl | rfl | rfl | rfl | rfl | rfl | rfl | rfl | rfl | rfl | rfl | rfl | h
  · decide
  · decide
  · decide
  · decide
  · decide
  · decide
  · decide
  · decide
  · decide
  · decide
  · decide
  · decide
  · decide
  · decide
  · rw [word_else h]; decide
def fldB (f : Fld) : List UInt8 := f.1.data.toList ++ (colon ++ (f.2.data.toList ++ crlf))
structure Rsp where
  st : Int
  fs : List Fld
  body : ByteArray
  cl : Bool
def tailL (r : Rsp) : List UInt8 := (if r.cl then closingL else []) ++ (lengthIs ++ (Lib.itoa r.body.size ++ (crlf ++ (crlf ++ r.body.data.toList))))
def encL (r : Rsp) : List UInt8 := firstL r.st ++ (crlf ++ (r.fs.flatMap fldB ++ tailL r))
def nameOk (l : List UInt8) : Bool := tokB l && (decide (lowB l = l) && (decide (l ≠ connL) && decide (l ≠ lenL)))
def valOk (l : List UInt8) : Bool := decide (tr l = l) && !Lib.containsAny l crlf
def fldL (line : List UInt8) : Option Fld :=
  let c := Lib.cut line colon
  if c.2.2 && (nameOk c.1 && valOk c.2.1) then some (mkB c.1, mkB c.2.1) else none
def numL (l : List UInt8) : Option Int := match Lib.atoiAll l with
  | .ok v => if 0 ≤ v ∧ Lib.itoa v = l then some v else none
  | _ => none
def statusL (line : List UInt8) : Option Int := match wordsB 32 line with
  | _ :: x :: _ => (match numL x with
    | some n => if 100 ≤ n ∧ n ≤ 999 ∧ line = firstL n then some n else none
    | none => none)
  | _ => none
def bodyC (c : List UInt8 × List UInt8 × Bool) : Option (List UInt8 × List UInt8) :=
  match numL c.1 with
  | some n => if c.2.2 = true ∧ n ≤ c.2.1.length then some (c.2.1.take n.toNat, c.2.1.drop n.toNat) else none
  | none => none
def bodyL (s : List UInt8) : Option (List UInt8 × List UInt8) :=
  if Lib.hasPrefix s lengthIs then bodyC (Lib.cut (Lib.trimPrefix s lengthIs) (crlf ++ crlf)) else none
inductive FsOf : List UInt8 → List Fld → List UInt8 → Prop
  | stop {s : List UInt8} : fldL (Lib.cut s crlf).1 = none → FsOf s [] s
  | next {s r : List UInt8} {f : Fld} {fs : List Fld} : fldL (Lib.cut s crlf).1 = some f → FsOf (Lib.cut s crlf).2.1 fs r → FsOf s (f :: fs) r
def DecOf (s : List UInt8) (o : Option (Rsp × List UInt8)) : Prop :=
  match statusL (Lib.cut s crlf).1 with
  | none => o = none
  | some st => ∃ fs r, FsOf (Lib.cut s crlf).2.1 fs r ∧ o = (bodyL (Lib.trimPrefix r closingL)).map fun p => (⟨st, fs, mkB p.1, Lib.hasPrefix r closingL⟩, p.2)

theorem FsOf.same {s : List UInt8} {fs : List Fld} {r : List UInt8} (h : FsOf s fs r) : ∀ {fs' r'}, FsOf s fs' r' → fs = fs' ∧ r = r' := by
  induction h with
  | stop h => intro fs' r' h'; cases h' with
    | stop _ => exact ⟨rfl, rfl⟩
    | next k _ => rw [h] at k; cases k
  | next h _ ih => intro fs' r' h'; cases h' with
    | stop k => rw [h] at k; cases k
    | next k k2 =>
      rw [h] at k; cases k
      obtain ⟨rfl, rfl⟩ := ih k2
      exact ⟨rfl, rfl⟩

/-- Cut at the first place. -/
theorem cut_at (a : List UInt8) (c : UInt8) (t b : List UInt8) (h : c ∉ a) : Lib.cut (a ++ (c :: t ++ b)) (c :: t) = (a, b, true) := by
  have hi : Lib.index (a ++ (c :: t ++ b)) (c :: t) = (a.length : Nat) := by
    refine Lib.index_first (by simp) ?_ fun j hj => ?_
    · unfold Lib.occAt; rw [List.drop_left]; exact List.isPrefixOf_iff_prefix.2 ⟨b, rfl⟩
    · cases ho : Lib.occAt (a ++ (c :: t ++ b)) (c :: t) j with
      | false => rfl
      | true =>
        have := Lib.occAt_head rfl ho
        rw [List.getElem?_append_left hj] at this
        exact absurd (List.mem_of_getElem? this) h
  unfold Lib.cut
  rw [hi, if_pos (by omega)]
  simp

theorem cut_line (a b : List UInt8) (h : 13 ∉ a) : Lib.cut (a ++ (13 :: [10] ++ b)) crlf = (a, b, true) := cut_at a 13 [10] b h
theorem cut_head (a b : List UInt8) (h : 13 ∉ a) : Lib.cut (a ++ (13 :: [10, 13, 10] ++ b)) (crlf ++ crlf) = (a, b, true) := cut_at a 13 [10, 13, 10] b h

theorem cut_cases (s sep : List UInt8) : (∃ a b, Lib.cut s sep = (a, b, true) ∧ s = a ++ (sep ++ b)) ∨ Lib.cut s sep = (s, [], false) := by
  unfold Lib.cut
  rcases Lib.index_spec s sep with ⟨h1, _⟩ | ⟨i, h1, h2, h3, _⟩
  · right; rw [h1]; rfl
  · left
    rw [h1, if_pos (by omega)]
    refine ⟨_, _, rfl, ?_⟩
    obtain ⟨b, hb⟩ := List.isPrefixOf_iff_prefix.1 h3
    have e : s.drop (i + sep.length) = b := by rw [← List.drop_drop, ← hb]; simp
    simp only [Int.toNat_natCast]
    rw [e, hb, List.take_append_drop]

theorem digits_mem (u : Nat) : ∀ c ∈ Lib.decDigits u, 48 ≤ c.toNat ∧ c.toNat ≤ 57 := by
  induction u using Nat.strongRecOn with
  | _ u ih =>
    intro c hc
    rw [Lib.decDigits] at hc
    have key : ∀ k, k < 10 → 48 ≤ (UInt8.ofNat (48 + k)).toNat ∧ (UInt8.ofNat (48 + k)).toNat ≤ 57 := by
      intro k hk
      have : (UInt8.ofNat (48 + k)).toNat = 48 + k := by simp; omega
      omega
    split at hc
    · rw [List.mem_singleton] at hc; subst hc; exact key _ (by omega)
    · rw [List.mem_append, List.mem_singleton] at hc
      rcases hc with hc | rfl
      · exact ih (u / 10) (by omega) c hc
      · exact key _ (by omega)

theorem digits_ne (u : Nat) : Lib.decDigits u ≠ [] := by
  rw [Lib.decDigits]; split <;> simp

theorem itoa_nat (n : Nat) : Lib.itoa (n : Int) = Lib.decDigits n := by
  unfold Lib.itoa; rw [if_neg (by omega)]; rfl

theorem not_digit (u : Nat) (c : UInt8) (h : c.toNat < 48) : c ∉ Lib.decDigits u := fun hc => by
  have := (digits_mem u c hc).1; omega

theorem parse_app (l r : List UInt8) : ∀ acc v, Lib.parseUint10 acc l = .ok v → Lib.parseUint10 acc (l ++ r) = Lib.parseUint10 v r := by
  induction l with
  | nil => intro acc v h; simp only [Lib.parseUint10] at h; injection h with h; subst h; rfl
  | cons c l ih =>
    intro acc v h
    simp only [List.cons_append, Lib.parseUint10] at h ⊢
    split at h
    · rename_i h1
      rw [if_pos h1]
      split at h
      · cases h
      · rename_i h2
        rw [if_neg h2]
        split at h
        · cases h
        · rename_i h3
          rw [if_neg h3]
          exact ih _ v h
    · cases h

theorem parse_digits (u : Nat) (h : u < 9223372036854775808) : Lib.parseUint10 0 (Lib.decDigits u) = .ok u := by
  induction u using Nat.strongRecOn with
  | _ u ih =>
    rw [Lib.decDigits]
    have key : ∀ k, k < 10 → (UInt8.ofNat (48 + k)).toNat = 48 + k := by intro k hk; simp; omega
    split
    · rename_i h10
      simp only [Lib.parseUint10, key _ h10]
      rw [if_pos (by omega), if_neg (by omega), if_neg (by omega)]
      congr 1; omega
    · rw [parse_app _ _ _ _ (ih (u / 10) (by omega) (by omega))]
      simp only [Lib.parseUint10, key _ (Nat.mod_lt u (by decide : 0 < 10))]
      rw [if_pos (by omega), if_neg (by omega), if_neg (by omega)]
      congr 1; omega

theorem atoi_digits (u : Nat) (h : u < 9223372036854775808) : Lib.atoiAll (Lib.decDigits u) = .ok (u : Int) := by
  have hp := parse_digits u h
  have hm := digits_mem u
  cases hd : Lib.decDigits u with
  | nil => exact absurd hd (digits_ne u)
  | cons c r =>
    rw [hd] at hp hm
    have := hm c (by simp)
    unfold Lib.atoiAll
    simp only
    rw [if_neg (by omega)]
    unfold Lib.parseMag
    rw [if_neg (by simp), hp]
    simp only
    rw [if_neg (by omega), if_neg (by omega), if_neg (by omega)]

theorem num_digits (u : Nat) (h : u < 9223372036854775808) : numL (Lib.decDigits u) = some (u : Int) := by
  unfold numL
  rw [atoi_digits u h]
  simp only
  rw [if_pos ⟨by omega, itoa_nat u⟩]

theorem num_some {l : List UInt8} {n : Int} (h : numL l = some n) : 0 ≤ n ∧ Lib.itoa n = l ∧ Lib.atoiAll l = .ok n := by
  unfold numL at h
  split at h
  · rename_i v hv
    split at h
    · rename_i hc
      cases h
      exact ⟨hc.1, hc.2, hv⟩
    · cases h
  · cases h

theorem words_at (b : UInt8) (x rest : List UInt8) (h : b ∉ x) : ∀ cur, wordsGo b cur (x ++ b :: rest) = (cur ++ x) :: wordsGo b [] rest := by
  induction x with
  | nil => intro cur; simp [wordsGo]
  | cons c x ih =>
    intro cur
    rw [List.mem_cons, not_or] at h
    rw [List.cons_append, wordsGo, if_neg (fun e => h.1 e.symm), ih h.2]
    simp

theorem status_first (n : Nat) (h1 : 100 ≤ n) (h2 : n ≤ 999) : statusL (firstL (n : Int)) = some (n : Int) := by
  have hw : wordsB 32 (firstL (n : Int)) = httpL :: Lib.decDigits n :: wordsB 32 (wordL n) := by
    unfold firstL wordsB
    rw [words_at 32 httpL _ (by decide), itoa_nat, words_at 32 _ _ (not_digit n 32 (by decide))]
    simp
  unfold statusL
  rw [hw]
  simp only
  rw [num_digits n (by omega)]
  simp only
  rw [if_pos (by refine ⟨by omega, by omega, ?_⟩; first | rfl | trivial)]

theorem status_some {l : List UInt8} {n : Int} (h : statusL l = some n) : 100 ≤ n ∧ n ≤ 999 ∧ l = firstL n := by
  unfold statusL at h
  split at h
  · split at h
    · split at h
      · rename_i hc
        cases h
        exact hc
      · cases h
    · cases h
  · cases h

theorem any_false {s cs : List UInt8} : Lib.containsAny s cs = false ↔ ∀ c ∈ s, c ∉ cs := by
  unfold Lib.containsAny
  induction s with
  | nil => simp [Lib.indexAny]
  | cons b s ih =>
    have hge := Lib.indexAny_ge cs s
    by_cases hb : b ∈ cs
    · simp [Lib.indexAny, hb]
    · rw [Lib.indexAny, if_neg (by simpa using hb)]
      simp only [List.mem_cons, forall_eq_or_imp, hb, not_false_eq_true, true_and]
      rw [← ih]
      by_cases h1 : Lib.indexAny s cs = -1
      · simp [h1]
      · have : (Lib.indexAny s cs == -1) = false := by simpa using h1
        rw [this]
        simp
        omega

theorem name_no {l : List UInt8} (h : nameOk l = true) : 58 ∉ l ∧ 13 ∉ l := by
  unfold nameOk tokB namesB at h
  simp only [Bool.and_eq_true, List.all_eq_true] at h
  refine ⟨fun hm => ?_, fun hm => ?_⟩
  · have := h.1.2 _ hm; revert this; decide
  · have := h.1.2 _ hm; revert this; decide
theorem val_no {l : List UInt8} (h : valOk l = true) : 13 ∉ l ∧ 10 ∉ l := by
  unfold valOk at h
  simp only [Bool.and_eq_true, Bool.not_eq_true'] at h
  have := any_false.1 h.2
  exact ⟨fun hm => this _ hm (by decide), fun hm => this _ hm (by decide)⟩

def okF (f : Fld) : Prop := nameOk f.1.data.toList = true ∧ valOk f.2.data.toList = true
def okR (r : Rsp) : Prop := 100 ≤ r.st ∧ r.st ≤ 999 ∧ (∀ f ∈ r.fs, okF f) ∧ r.body.size < 9223372036854775808

theorem fld_of (f : Fld) (h : okF f) : fldL (f.1.data.toList ++ (colon ++ f.2.data.toList)) = some f := by
  have hc : Lib.cut (f.1.data.toList ++ (colon ++ f.2.data.toList)) colon = (f.1.data.toList, f.2.data.toList, true) := cut_at _ 58 [32] _ (name_no h.1).1
  unfold fldL
  simp only [hc, h.1, h.2, Bool.and_self, if_true, mkB_of]

theorem fld_some {line : List UInt8} {f : Fld} (h : fldL line = some f) : okF f ∧ line = f.1.data.toList ++ (colon ++ f.2.data.toList) := by
  unfold fldL at h
  simp only at h
  split at h
  · rename_i hc
    rcases cut_cases line colon with ⟨a, b, h1, h2⟩ | h1
    · rw [h1] at h hc
      simp only [Bool.and_eq_true, Bool.true_and] at hc
      cases h
      exact ⟨⟨by simpa [mkB_data] using hc.1, by simpa [mkB_data] using hc.2⟩, by simpa [mkB_data] using h2⟩
    · rw [h1] at hc; simp at hc
  · cases h

theorem line_cut (f : Fld) (h : okF f) (rest : List UInt8) : Lib.cut (fldB f ++ rest) crlf = (f.1.data.toList ++ (colon ++ f.2.data.toList), rest, true) := by
  have e : fldB f ++ rest = (f.1.data.toList ++ (colon ++ f.2.data.toList)) ++ (13 :: [10] ++ rest) := by simp [fldB, crlf]
  rw [e]
  refine cut_at _ 13 [10] _ ?_
  simp only [List.mem_append, not_or]
  exact ⟨(name_no h.1).2, by decide, (val_no h.2).1⟩

theorem fs_of (fs : List Fld) (h : ∀ f ∈ fs, okF f) (Y : List UInt8) (hY : fldL (Lib.cut Y crlf).1 = none) : FsOf (fs.flatMap fldB ++ Y) fs Y := by
  induction fs with
  | nil => exact .stop hY
  | cons f fs ih =>
    have hc := line_cut f (h f (by simp)) (fs.flatMap fldB ++ Y)
    have e : (f :: fs).flatMap fldB ++ Y = fldB f ++ (fs.flatMap fldB ++ Y) := by simp
    rw [e]
    refine .next (f := f) ?_ ?_
    · rw [hc]; exact fld_of f (h f (by simp))
    · rw [hc]; exact ih fun g hg => h g (by simp [hg])

theorem num_tail (n : Nat) (rest : List UInt8) : lengthIs ++ (Lib.itoa n ++ (crlf ++ rest)) = (lenL ++ (colon ++ Lib.decDigits n)) ++ (13 :: [10] ++ rest) := by
  rw [itoa_nat]; simp [lengthIs, lenL, colon, crlf]

theorem tail_none (r : Rsp) (more : List UInt8) : fldL (Lib.cut (tailL r ++ more) crlf).1 = none := by
  have bad : ∀ (a b : List UInt8), 58 ∉ a → nameOk a = false → fldL (a ++ (colon ++ b)) = none := by
    intro a b ha hn
    have hc : Lib.cut (a ++ (colon ++ b)) colon = (a, b, true) := cut_at _ 58 [32] _ ha
    unfold fldL
    simp [hc, hn]
  unfold tailL
  cases r.cl with
  | true =>
    have e : (if true = true then closingL else []) ++ (lengthIs ++ (Lib.itoa r.body.size ++ (crlf ++ (crlf ++ r.body.data.toList)))) ++ more = (connL ++ (colon ++ [99, 108, 111, 115, 101])) ++ (13 :: [10] ++ (lengthIs ++ (Lib.itoa r.body.size ++ (crlf ++ (crlf ++ r.body.data.toList))) ++ more)) := by
      simp [closingL, connL, colon]
    rw [e, cut_line _ _ (by decide)]
    exact bad _ _ (by decide) (by decide)
  | false =>
    have e : (if false = true then closingL else []) ++ (lengthIs ++ (Lib.itoa r.body.size ++ (crlf ++ (crlf ++ r.body.data.toList)))) ++ more = lengthIs ++ (Lib.itoa r.body.size ++ (crlf ++ ((crlf ++ r.body.data.toList) ++ more))) := by simp
    rw [e, num_tail, cut_line _ _ (by
      simp only [List.mem_append, not_or]
      exact ⟨by decide, by decide, not_digit _ _ (by decide)⟩)]
    exact bad _ _ (by decide) (by decide)

theorem pre_app (p x : List UInt8) : Lib.hasPrefix (p ++ x) p = true := List.isPrefixOf_iff_prefix.2 ⟨x, rfl⟩
theorem trim_app (p x : List UInt8) : Lib.trimPrefix (p ++ x) p = x := by unfold Lib.trimPrefix; rw [if_pos (pre_app p x)]; simp
theorem body_of (b : ByteArray) (hb : b.size < 9223372036854775808) (more : List UInt8) : bodyL (lengthIs ++ (Lib.itoa b.size ++ (crlf ++ (crlf ++ b.data.toList))) ++ more) = some (b.data.toList, more) := by
  have e : lengthIs ++ (Lib.itoa b.size ++ (crlf ++ (crlf ++ b.data.toList))) ++ more = lengthIs ++ (Lib.decDigits b.size ++ (13 :: [10, 13, 10] ++ (b.data.toList ++ more))) := by rw [itoa_nat]; simp [crlf]
  rw [e]
  unfold bodyL
  rw [if_pos (pre_app _ _), trim_app, cut_head _ _ (not_digit _ _ (by decide))]
  unfold bodyC
  simp only
  rw [num_digits _ hb]
  simp only [Int.toNat_natCast]
  rw [if_pos (by refine ⟨by first | rfl | trivial, ?_⟩; rw [List.length_append, data_len]; omega), ← data_len]
  simp

theorem dec_enc {r : Rsp} (h : okR r) {more : List UInt8} {o : Option (Rsp × List UInt8)} (hd : DecOf (encL r ++ more) o) : o = some (r, more) := by
  obtain ⟨h1, h2, h3, h4⟩ := h
  obtain ⟨st, fs, body, cl⟩ := r
  simp only at h1 h2 h3 h4
  obtain ⟨n, rfl⟩ : ∃ n : Nat, st = n := ⟨st.toNat, by omega⟩
  have hw := word_no
  have hc : Lib.cut (encL ⟨(n : Int), fs, body, cl⟩ ++ more) crlf = (firstL (n : Int), fs.flatMap fldB ++ (tailL ⟨(n : Int), fs, body, cl⟩ ++ more), true) := by
    have e : encL ⟨(n : Int), fs, body, cl⟩ ++ more = firstL (n : Int) ++ (13 :: [10] ++ (fs.flatMap fldB ++ (tailL ⟨(n : Int), fs, body, cl⟩ ++ more))) := by simp [encL, crlf]
    rw [e]
    refine cut_at _ 13 [10] _ ?_
    unfold firstL
    rw [itoa_nat]
    simp only [List.mem_append, List.mem_cons, not_or]
    exact ⟨by decide, by decide, not_digit _ _ (by decide), by decide, hw _⟩
  unfold DecOf at hd
  rw [hc] at hd
  simp only at hd
  rw [status_first n (by omega) (by omega)] at hd
  simp only at hd
  obtain ⟨fs', r', hf, rfl⟩ := hd
  obtain ⟨rfl, rfl⟩ := (fs_of fs h3 _ (tail_none ⟨(n : Int), fs, body, cl⟩ more)).same hf
  cases cl with
  | true =>
    have e : tailL ⟨(n : Int), fs, body, true⟩ ++ more = closingL ++ (lengthIs ++ (Lib.itoa body.size ++ (crlf ++ (crlf ++ body.data.toList))) ++ more) := by simp [tailL]
    simp only [e, pre_app, trim_app, body_of body h4, Option.map_some, mkB_of]
  | false =>
    have e : tailL ⟨(n : Int), fs, body, false⟩ ++ more = lengthIs ++ (Lib.itoa body.size ++ (crlf ++ (crlf ++ body.data.toList))) ++ more := by simp [tailL]
    have hn : ∀ x, Lib.hasPrefix (lengthIs ++ x) closingL = false := fun x => by rfl
    have hn2 : Lib.hasPrefix (lengthIs ++ (Lib.itoa body.size ++ (crlf ++ (crlf ++ body.data.toList))) ++ more) closingL = false := by rw [List.append_assoc]; exact hn _
    have ht : Lib.trimPrefix (lengthIs ++ (Lib.itoa body.size ++ (crlf ++ (crlf ++ body.data.toList))) ++ more) closingL = lengthIs ++ (Lib.itoa body.size ++ (crlf ++ (crlf ++ body.data.toList))) ++ more := by
      unfold Lib.trimPrefix; rw [hn2]; rfl
    simp only [e, hn2, ht, body_of body h4, Option.map_some, mkB_of]

theorem pre_some {s p : List UInt8} (h : Lib.hasPrefix s p = true) : s = p ++ Lib.trimPrefix s p := by
  obtain ⟨b, rfl⟩ := List.isPrefixOf_iff_prefix.1 h
  rw [trim_app]

theorem body_some {s b rest : List UInt8} (h : bodyL s = some (b, rest)) : s = lengthIs ++ (Lib.itoa b.length ++ (crlf ++ (crlf ++ (b ++ rest)))) := by
  unfold bodyL at h
  split at h
  · rename_i hp
    unfold bodyC at h
    split at h
    · rename_i n hn
      split at h
      · rename_i hc
        rcases cut_cases (Lib.trimPrefix s lengthIs) (crlf ++ crlf) with ⟨x, y, e1, e2⟩ | e1
        · rw [e1] at h hn hc
          simp only at h hn hc
          injection h with h
          obtain ⟨h5, h6⟩ := Prod.mk.inj h
          obtain ⟨n0, n1, _⟩ := num_some hn
          have hl : b.length = n.toNat := by rw [← h5, List.length_take]; omega
          have hb : b ++ rest = y := by rw [← h5, ← h6]; exact List.take_append_drop _ _
          rw [hl, hb, Int.toNat_of_nonneg n0, n1, pre_some hp, e2]
          simp
        · rw [e1] at hc; simp at hc
      · cases h
    · cases h
  · cases h

theorem FsOf.sound {s : List UInt8} {fs : List Fld} {r : List UInt8} (h : FsOf s fs r) : (∀ f ∈ fs, okF f) ∧ (r = [] ∨ s = fs.flatMap fldB ++ r) := by
  induction h with
  | stop _ => exact ⟨fun f hf => (by cases hf), .inr (by simp)⟩
  | @next s r f fs h k ih =>
    obtain ⟨i1, i2⟩ := ih
    obtain ⟨k1, k2⟩ := fld_some h
    refine ⟨fun g hg => ?_, ?_⟩
    · rcases List.mem_cons.1 hg with rfl | hg
      · exact k1
      · exact i1 g hg
    · rcases cut_cases s crlf with ⟨a, b, e1, e2⟩ | e1
      · rw [e1] at k2 i2
        simp only at k2 i2
        rcases i2 with i2 | i2
        · exact .inl i2
        · right
          rw [e2, k2, i2]
          simp [fldB]
      · left
        rw [e1] at k
        simp only at k
        cases k with
        | stop _ => rfl
        | next k3 _ =>
          exfalso
          obtain ⟨_, k4⟩ := fld_some k3
          have : Lib.cut ([] : List UInt8) crlf = ([], [], false) := rfl
          rw [this] at k4
          simp [colon] at k4

theorem dec_sound {s rest : List UInt8} {r : Rsp} (hs : s.length < 9223372036854775808) (h : DecOf s (some (r, rest))) : okR r ∧ s = encL r ++ rest := by
  unfold DecOf at h
  split at h
  · cases h
  · rename_i st hst
    obtain ⟨fs, q, hf, ho⟩ := h
    obtain ⟨s1, s2, s3⟩ := status_some hst
    cases hb : bodyL (Lib.trimPrefix q closingL) with
    | none => rw [hb] at ho; cases ho
    | some p =>
      rw [hb] at ho
      obtain ⟨b, rest'⟩ := p
      simp only [Option.map_some, Option.some.injEq, Prod.mk.injEq] at ho
      obtain ⟨rfl, rfl⟩ := ho
      have hbs := body_some hb
      obtain ⟨f1, f2⟩ := hf.sound
      have hq : q ≠ [] := by
        rintro rfl
        have : Lib.trimPrefix ([] : List UInt8) closingL = [] := rfl
        rw [this] at hbs
        simp [lengthIs] at hbs
      have f3 := f2.resolve_left hq
      rcases cut_cases s crlf with ⟨a, c, e1, e2⟩ | e1
      · rw [e1] at s3 f3
        simp only at s3 f3
        have hq2 : q = (if Lib.hasPrefix q closingL then closingL else []) ++ Lib.trimPrefix q closingL := by
          cases hp : Lib.hasPrefix q closingL with
          | true => exact pre_some hp
          | false => unfold Lib.trimPrefix; rw [hp]; rfl
        have hse : s = encL ⟨st, fs, mkB b, Lib.hasPrefix q closingL⟩ ++ rest := by
          rw [e2, s3, f3]
          unfold encL tailL
          simp only [mkB_size, mkB_data]
          conv => lhs; rw [hq2, hbs]
          simp
        refine ⟨⟨s1, s2, f1, ?_⟩, hse⟩
        have hl : s.length = (encL ⟨st, fs, mkB b, Lib.hasPrefix q closingL⟩ ++ rest).length := by rw [← hse]
        simp only [mkB_size]
        simp [encL, tailL, mkB_size, mkB_data] at hl
        omega
      · rw [e1] at f3
        exfalso
        apply hq
        have := f3
        simp only at this
        have h0 := congrArg List.length this
        simp at h0
        exact List.length_eq_zero_iff.1 (by omega)

theorem dec_cut {r : Rsp} (h : okR r) (n : Nat) (hn : n < (encL r).length) (hl : (encL r).length < 9223372036854775808) {o : Option (Rsp × List UInt8)} (hd : DecOf ((encL r).take n) o) (ht : ∃ o, DecOf (encL r) o) : o = none := by
  cases o with
  | none => rfl
  | some p =>
    exfalso
    obtain ⟨r', rest⟩ := p
    obtain ⟨k1, k2⟩ := dec_sound (by rw [List.length_take]; omega) hd
    have e : encL r = encL r' ++ (rest ++ (encL r).drop n) := by rw [← List.append_assoc, ← k2, List.take_append_drop]
    obtain ⟨o, ho⟩ := ht
    have h1 : o = some (r, []) := dec_enc h (by rw [List.append_nil]; exact ho)
    rw [e] at ho
    have h2 := dec_enc k1 ho
    rw [h1] at h2
    simp only [Option.some.injEq, Prod.mk.injEq] at h2
    have h3 := congrArg List.length h2.2
    simp at h3
    omega

theorem dec_total (s : List UInt8) : ∃ o, DecOf s o := by
  have fsT : ∀ k (s : List UInt8), s.length ≤ k → ∃ fs r, FsOf s fs r := by
    intro k
    induction k with
    | zero =>
      intro s hs
      obtain rfl : s = [] := List.length_eq_zero_iff.1 (by omega)
      exact ⟨[], [], .stop rfl⟩
    | succ k ih =>
      intro s hs
      cases hf : fldL (Lib.cut s crlf).1 with
      | none => exact ⟨[], s, .stop hf⟩
      | some f =>
        have hlt : (Lib.cut s crlf).2.1.length ≤ k := by
          rcases cut_cases s crlf with ⟨a, b, e1, e2⟩ | e1
          · rw [e1]; rw [e2] at hs; simp [crlf] at hs ⊢; omega
          · rw [e1]; simp
        obtain ⟨fs, r, hh⟩ := ih _ hlt
        exact ⟨f :: fs, r, .next hf hh⟩
  unfold DecOf
  split
  · exact ⟨none, rfl⟩
  · obtain ⟨fs, r, h⟩ := fsT _ _ (Nat.le_refl (Lib.cut s crlf).2.1.length)
    exact ⟨_, fs, r, h, rfl⟩

end Go.Proofs.YtkbigfjaaiobfaaDoor
