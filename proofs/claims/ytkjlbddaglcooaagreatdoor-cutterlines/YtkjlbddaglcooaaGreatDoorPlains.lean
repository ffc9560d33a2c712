/- Plain functions on bytes and numbers, by which the contracts of package ascii are told; no Go. Blanks and tabs taken off both ends, plainly; no Go. Words of a list of bytes, plainly; no Go. Capitals made small, plainly; no Go. A line parted at its first colon, plainly; no Go. What a head is, plainly; no Go. First lines, lengths, what closes: a whole head, plainly; no Go. A body that comes byte by byte, plainly; no Go. Bytes fed to a body one behind the other, plainly; no Go. A cutter that comes byte by byte, plainly; no Go. -/
import Derived.Below
import Derived.Lib.SlTrimSet
import Derived.Lib.Bytealg
import Derived.Lib.Strings
import Derived.Lib.Split
namespace Go.Proofs.YtkjlbddaglcooaaGreatDoor.Pl

def capR (r : Int) : Bool := decide (65 ≤ r) && decide (r ≤ 90)
def markR (r : Int) : Bool := r == 33 || r == 35 || r == 36 || r == 37 || r == 38 || r == 39 || r == 42 || r == 43 || r == 45 || r == 46 || r == 94 || r == 95 || r == 124 || r == 126 || r == 96
def nameR (r : Int) : Bool := markR r || (capR r || (decide (97 ≤ r) && decide (r ≤ 122))) || (decide (48 ≤ r) && decide (r ≤ 57))

theorem nameR_high {r : Int} (h : 128 ≤ r) : nameR r = false := by
  simp [nameR, markR, capR]; omega

/-- May each byte stand in a name? -/
def namesB (l : List UInt8) : Bool := l.all fun c => nameR (c.toNat : Int)
def tokB (l : List UInt8) : Bool := !l.isEmpty && namesB l

theorem namesB_nil : namesB [] = true := rfl
theorem namesB_append (a b : List UInt8) : namesB (a ++ b) = (namesB a && namesB b) := by simp [namesB]
theorem namesB_cons (c : UInt8) (b : List UInt8) : namesB (c :: b) = (nameR (c.toNat : Int) && namesB b) := by simp [namesB]

theorem take_snoc (s : ByteArray) (k : Nat) (h : k < s.size) : s.data.toList.take (k + 1) = s.data.toList.take k ++ [s[k]] := by
  rw [List.take_succ_eq_append_getElem (by simpa using h)]; rfl
theorem take_all (s : ByteArray) (k : Nat) (h : s.size ≤ k) : s.data.toList.take k = s.data.toList := List.take_of_length_le (by simpa using h)
theorem split_at (s : ByteArray) (k : Nat) (h : k < s.size) : s.data.toList = s.data.toList.take k ++ s[k] :: s.data.toList.drop (k + 1) := by
  have := List.take_append_drop (k + 1) s.data.toList
  rw [take_snoc s k h] at this
  simpa using this.symm

theorem names_step (s : ByteArray) (k : Nat) (h : k < s.size) (hk : namesB (s.data.toList.take k) = true) (hn : nameR ((s[k]).toNat : Int) = true) : namesB (s.data.toList.take (k + 1)) = true := by
  rw [take_snoc s k h, namesB_append, hk, namesB_cons, hn]; rfl
theorem names_stop (s : ByteArray) (k : Nat) (h : k < s.size) (hn : nameR ((s[k]).toNat : Int) = false) : tokB s.data.toList = false := by
  rw [tokB, split_at s k h, namesB_append, namesB_cons, hn]; simp
theorem names_end (s : ByteArray) (k : Nat) (h : s.size ≤ k) (hk : namesB (s.data.toList.take k) = true) : tokB s.data.toList = !s.data.toList.isEmpty := by
  rw [take_all s k h] at hk
  rw [tokB, hk, Bool.and_true]

theorem drop_at (s : ByteArray) (k : Nat) (h : k < s.size) : s.data.toList.drop k = s[k] :: s.data.toList.drop (k + 1) := by
  rw [List.drop_eq_getElem_cons (by simpa using h)]; rfl
theorem drop_all (s : ByteArray) (k : Nat) (h : s.size ≤ k) : s.data.toList.drop k = [] := List.drop_of_length_le (by simpa using h)

/-- Has it no sign that steers? -/
def valR (r : Int) : Bool := !((decide (r < 32) && r != 9) || r == 127)
def valB (l : List UInt8) : Bool := l.all fun c => valR (c.toNat : Int)
theorem valR_high {r : Int} (h : 128 ≤ r) : valR r = true := by
  simp [valR]; omega
theorem valB_cons (c : UInt8) (b : List UInt8) : valB (c :: b) = (valR (c.toNat : Int) && valB b) := by simp [valB]
theorem val_step (s : ByteArray) (k : Nat) (h : k < s.size) (hk : valB s.data.toList = valB (s.data.toList.drop k)) (hn : valR ((s[k]).toNat : Int) = true) : valB s.data.toList = valB (s.data.toList.drop (k + 1)) := by
  rw [hk, drop_at s k h, valB_cons, hn]; rfl
theorem val_stop (s : ByteArray) (k : Nat) (h : k < s.size) (hk : valB s.data.toList = valB (s.data.toList.drop k)) (hn : valR ((s[k]).toNat : Int) = false) : valB s.data.toList = false := by
  rw [hk, drop_at s k h, valB_cons, hn]; rfl
theorem val_end (s : ByteArray) (k : Nat) (h : s.size ≤ k) (hk : valB s.data.toList = valB (s.data.toList.drop k)) : valB s.data.toList = true := by
  rw [hk, drop_all s k h]; rfl

def digR (r : Int) : Int := if 48 ≤ r ∧ r ≤ 57 then r - 48 else if 97 ≤ r ∧ r ≤ 102 then r - 97 + 10 else if 65 ≤ r ∧ r ≤ 70 then r - 65 + 10 else -1
theorem digR_high {r : Int} (h : 128 ≤ r) : digR r = -1 := by
  unfold digR; rw [if_neg (by omega), if_neg (by omega), if_neg (by omega)]
theorem digR_lo (r : Int) : -1 ≤ digR r := by unfold digR; repeat' split <;> omega
theorem digR_hi (r : Int) : digR r ≤ 15 := by unfold digR; repeat' split <;> omega

def badD (base n d : Int) : Bool := decide (d < 0) || decide (base ≤ d) || decide ((1073741824 - d) / base < n)
def numGo (base : Int) : Int → List UInt8 → Option Int
  | n, [] => some n
  | n, c :: l => if badD base n (digR (c.toNat : Int)) then none else numGo base (n * base + digR (c.toNat : Int)) l
def numB (base : Int) (l : List UInt8) : Option Int := if l = [] then none else numGo base 0 l

theorem num_step (s : ByteArray) (base n : Int) (k : Nat) (h : k < s.size) (hk : numGo base 0 s.data.toList = numGo base n (s.data.toList.drop k)) (hn : badD base n (digR ((s[k]).toNat : Int)) = false) :
    numGo base 0 s.data.toList = numGo base (n * base + digR ((s[k]).toNat : Int)) (s.data.toList.drop (k + 1)) := by
  rw [hk, drop_at s k h, numGo, if_neg (by simp [hn])]
theorem num_stop (s : ByteArray) (base n : Int) (k : Nat) (h : k < s.size) (hk : numGo base 0 s.data.toList = numGo base n (s.data.toList.drop k)) (hn : badD base n (digR ((s[k]).toNat : Int)) = true) :
    numGo base 0 s.data.toList = none := by
  rw [hk, drop_at s k h, numGo, if_pos hn]
theorem num_end (s : ByteArray) (base n : Int) (k : Nat) (h : s.size ≤ k) (hk : numGo base 0 s.data.toList = numGo base n (s.data.toList.drop k)) : numGo base 0 s.data.toList = some n := by
  rw [hk, drop_all s k h, numGo]
theorem num_ok10 {n d : Int} (h : badD 10 n d = false) : 0 ≤ d ∧ d < 10 ∧ n ≤ (1073741824 - d) / 10 ∧ n * 10 + d ≤ 1073741824 := by
  simp [badD] at h; omega
theorem num_ok16 {n d : Int} (h : badD 16 n d = false) : 0 ≤ d ∧ d < 16 ∧ n ≤ (1073741824 - d) / 16 ∧ n * 16 + d ≤ 1073741824 := by
  simp [badD] at h; omega
theorem num_bad {base n d : Int} (h : badD base n d = true) : d < 0 ∨ base ≤ d ∨ (1073741824 - d) / base < n := by
  simp [badD] at h; omega
theorem numB_ne {l : List UInt8} (base : Int) (h : l ≠ []) : numB base l = numGo base 0 l := by rw [numB, if_neg h]

end Go.Proofs.YtkjlbddaglcooaaGreatDoor.Pl

namespace Go.Proofs.YtkjlbddaglcooaaGreatDoor.Pl

def bl (c : UInt8) : Bool := c == 32 || c == 9
def tr (l : List UInt8) : List UInt8 := ((l.reverse.dropWhile bl).reverse).dropWhile bl

theorem trimS_eq (l : List UInt8) : Lib.trimS l [32, 9] = tr l := by
  have h : (fun c : UInt8 => ([32, 9] : List UInt8).contains c) = bl := by
    funext c; simp [bl, List.contains, List.elem]
    cases h1 : (c == 32) <;> cases h2 : (c == 9) <;> simp
  unfold Lib.trimS Lib.trimLeftS Lib.trimRightS tr
  rw [h]

theorem drop_blank (p m : List UInt8) (h : p.all bl = true) : (p ++ m).dropWhile bl = m.dropWhile bl := by
  induction p with
  | nil => rfl
  | cons c p ih =>
    simp at h
    rw [List.cons_append, List.dropWhile_cons_of_pos h.1]
    exact ih (by simpa using h.2)
theorem drop_first (m : List UInt8) (h : ∀ c, m.head? = some c → bl c = false) : m.dropWhile bl = m := by
  cases m with
  | nil => rfl
  | cons c m => rw [List.dropWhile_cons_of_neg]; simp [h c rfl]

def Ends (m : List UInt8) : Prop := (∀ c, m.head? = some c → bl c = false) ∧ (∀ c, m.getLast? = some c → bl c = false)

theorem tr_only (p m q : List UInt8) (hp : p.all bl = true) (hq : q.all bl = true) (hm : Ends m) : tr (p ++ m ++ q) = m := by
  unfold tr
  rw [List.reverse_append, drop_blank _ _ (by rw [List.all_reverse]; exact hq), List.reverse_append]
  cases hml : m.reverse with
  | nil =>
    have : m = [] := by simpa using hml
    subst this
    rw [List.nil_append]
    have h0 : (p.reverse ++ []).dropWhile bl = ([] : List UInt8).dropWhile bl := drop_blank p.reverse [] (by rw [List.all_reverse]; exact hp)
    rw [List.append_nil] at h0
    rw [h0]; rfl
  | cons c r =>
    have hc : bl c = false := hm.2 c (by rw [List.getLast?_eq_head?_reverse, hml]; rfl)
    rw [List.cons_append, List.dropWhile_cons_of_neg (by simp [hc]), ← List.cons_append, ← hml, List.reverse_append, List.reverse_reverse, List.reverse_reverse, drop_blank p m hp]
    exact drop_first m hm.1

theorem take_blank (l : List UInt8) : (l.takeWhile bl).all bl = true := by
  induction l with
  | nil => rfl
  | cons c l ih =>
    rw [List.takeWhile_cons]
    split
    · simp_all
    · rfl
theorem first_not (l : List UInt8) : ∀ c, (l.dropWhile bl).head? = some c → bl c = false := by
  induction l with
  | nil => intro c h; cases h
  | cons d l ih =>
    intro c h
    rw [List.dropWhile_cons] at h
    split at h
    · exact ih c h
    · simp at h; subst h; simpa using ‹¬ bl d = true›

theorem tr_parts (l : List UInt8) : ∃ p q, p.all bl = true ∧ q.all bl = true ∧ l = p ++ tr l ++ q := by
  refine ⟨((l.reverse.dropWhile bl).reverse).takeWhile bl, (l.reverse.takeWhile bl).reverse, take_blank _, by rw [List.all_reverse]; exact take_blank _, ?_⟩
  unfold tr
  rw [List.takeWhile_append_dropWhile, ← List.reverse_append, List.takeWhile_append_dropWhile, List.reverse_reverse]
theorem last_of_suffix (l : List UInt8) : ∀ c, (l.dropWhile bl).getLast? = some c → l.getLast? = some c := by
  intro c h
  have e : l.takeWhile bl ++ l.dropWhile bl = l := List.takeWhile_append_dropWhile
  rw [← e, List.getLast?_append, h]; rfl
theorem tr_ends (l : List UInt8) : Ends (tr l) := by
  refine ⟨first_not _, fun c h => ?_⟩
  have h2 := last_of_suffix _ c h
  rw [List.getLast?_reverse] at h2
  exact first_not _ c h2
theorem tr_tr (l : List UInt8) : tr (tr l) = tr l := by
  have := tr_only [] (tr l) [] rfl rfl (tr_ends l)
  simpa using this
theorem tr_pad (a l b : List UInt8) (ha : a.all bl = true) (hb : b.all bl = true) : tr (a ++ l ++ b) = tr l := by
  obtain ⟨p, q, hp, hq, e⟩ := tr_parts l
  have e2 : a ++ l ++ b = (a ++ p) ++ tr l ++ (q ++ b) := by
    conv => lhs; rw [e]
    simp
  rw [e2]
  exact tr_only _ _ _ (by rw [List.all_append, ha, hp]; rfl) (by rw [List.all_append, hq, hb]; rfl) (tr_ends l)
theorem tr_len (l : List UInt8) : (tr l).length ≤ l.length := by
  obtain ⟨p, q, _, _, e⟩ := tr_parts l
  have : l.length = (p ++ tr l ++ q).length := by rw [← e]
  simp at this; omega
theorem tr_empty (l : List UInt8) : (tr l).isEmpty = l.all bl := by
  obtain ⟨p, q, hp, hq, e⟩ := tr_parts l
  cases h : (tr l).isEmpty with
  | true =>
    have h0 : tr l = [] := by simpa using h
    rw [h0] at e
    rw [e, List.append_nil, List.all_append, hp, hq]; rfl
  | false =>
    symm
    cases hm : tr l with
    | nil => rw [hm] at h; cases h
    | cons c r =>
      have hc := (tr_ends l).1 c (by rw [hm]; rfl)
      rw [e, hm, List.all_append, List.all_append]
      simp [hc]

def blTo (s : ByteArray) (k : Nat) : Bool := (s.data.toList.take k).all bl
theorem blTo_step (s : ByteArray) (k : Nat) (h : k < s.size) : blTo s (k + 1) = (blTo s k && bl s[k]) := by
  rw [blTo, blTo, take_snoc s k h, List.all_append]; simp

end Go.Proofs.YtkjlbddaglcooaaGreatDoor.Pl

namespace Go.Proofs.YtkjlbddaglcooaaGreatDoor.Pl

def wordsGo (b : UInt8) : List UInt8 → List UInt8 → List (List UInt8)
  | cur, [] => [cur]
  | cur, c :: l => if c = b then cur :: wordsGo b [] l else wordsGo b (cur ++ [c]) l
def wordsB (b : UInt8) (l : List UInt8) : List (List UInt8) := wordsGo b [] l

def piece (s : ByteArray) (f k : Nat) : List UInt8 := (s.data.toList.drop f).take (k - f)
def strV (l : List UInt8) : Value := .string ⟨l.toArray⟩

theorem piece_same (s : ByteArray) (k : Nat) : piece s k k = [] := by simp [piece]
theorem piece_snoc (s : ByteArray) (f k : Nat) (hf : f ≤ k) (h : k < s.size) : piece s f (k + 1) = piece s f k ++ [s[k]] := by
  have hl : k - f < (s.data.toList.drop f).length := by
    rw [List.length_drop]; have : s.data.toList.length = s.size := by simp
    omega
  unfold piece
  rw [show k + 1 - f = (k - f) + 1 from by omega, List.take_succ_eq_append_getElem hl]
  congr 2
  simp [List.getElem_drop]
  congr 1
  omega

def WInv (b : UInt8) (s : ByteArray) (ws : List (List UInt8)) (f k : Nat) : Prop :=
  wordsB b s.data.toList = ws ++ wordsGo b (piece s f k) (s.data.toList.drop k)

theorem winv_start (b : UInt8) (s : ByteArray) : WInv b s [] 0 0 := by simp [WInv, wordsB, piece]
theorem winv_skip {b : UInt8} {s : ByteArray} {ws : List (List UInt8)} {f k : Nat} (h : WInv b s ws f k) (hf : f ≤ k) (hk : k < s.size) (hn : s[k] ≠ b) : WInv b s ws f (k + 1) := by
  unfold WInv at h ⊢
  rw [h, drop_at s k hk, wordsGo, if_neg hn, piece_snoc s f k hf hk]
theorem winv_cut {b : UInt8} {s : ByteArray} {ws : List (List UInt8)} {f k : Nat} (h : WInv b s ws f k) (hk : k < s.size) (hn : s[k] = b) : WInv b s (ws ++ [piece s f k]) (k + 1) (k + 1) := by
  unfold WInv at h ⊢
  rw [h, drop_at s k hk, wordsGo, if_pos hn, piece_same]; simp
theorem winv_end {b : UInt8} {s : ByteArray} {ws : List (List UInt8)} {f k : Nat} (h : WInv b s ws f k) (hk : s.size ≤ k) : wordsB b s.data.toList = ws ++ [piece s f k] := by
  unfold WInv at h
  rw [h, drop_all s k hk, wordsGo]

end Go.Proofs.YtkjlbddaglcooaaGreatDoor.Pl

namespace Go.Proofs.YtkjlbddaglcooaaGreatDoor.Pl

def lowU (c : UInt8) : UInt8 := if 65 ≤ c.toNat ∧ c.toNat ≤ 90 then c + 32 else c
def lowB (l : List UInt8) : List UInt8 := l.map lowU
def lowTo (l : List UInt8) (k : Nat) : List UInt8 := lowB (l.take k) ++ l.drop k

theorem lowU_cap {c : UInt8} (h : capR (c.toNat : Int) = true) : ((lowU c).toNat : Int) = (c.toNat : Int) + 32 := by
  simp [capR] at h
  have h' : 65 ≤ c.toNat ∧ c.toNat ≤ 90 := by omega
  rw [lowU, if_pos h', UInt8.toNat_add]
  have : (32 : UInt8).toNat = 32 := rfl
  omega
theorem lowU_not {c : UInt8} (h : capR (c.toNat : Int) = false) : lowU c = c := by
  rw [lowU, if_neg]
  intro h'
  simp [capR] at h
  omega
theorem lowU_high {c : UInt8} (h : 128 ≤ c.toNat) : lowU c = c := by
  rw [lowU, if_neg (by omega)]
theorem lowTo_zero (l : List UInt8) : lowTo l 0 = l := by simp [lowTo, lowB]
theorem lowTo_all (l : List UInt8) (k : Nat) (h : l.length ≤ k) : lowTo l k = lowB l := by
  rw [lowTo, List.take_of_length_le h, List.drop_of_length_le h, List.append_nil]
theorem lowTo_length (l : List UInt8) (k : Nat) : (lowTo l k).length = l.length := by
  rw [lowTo, lowB, List.length_append, List.length_map, List.length_take, List.length_drop]; omega
theorem lowTo_step (s : ByteArray) (k : Nat) (h : k < s.size) : lowTo s.data.toList (k + 1) = lowB (s.data.toList.take k) ++ lowU s[k] :: s.data.toList.drop (k + 1) := by
  rw [lowTo, take_snoc s k h, lowB, List.map_append]; simp [lowB]
theorem lowTo_at (s : ByteArray) (k : Nat) (h : k < s.size) : lowTo s.data.toList k = lowB (s.data.toList.take k) ++ s[k] :: s.data.toList.drop (k + 1) := by
  rw [lowTo, drop_at s k h]
theorem lowB_take_len (s : ByteArray) (k : Nat) (h : k ≤ s.size) : (lowB (s.data.toList.take k)).length = k := by
  have : s.data.toList.length = s.size := by simp
  rw [lowB, List.length_map, List.length_take]; omega
theorem lowTo_same (s : ByteArray) (k : Nat) (h : k < s.size) (hl : lowU s[k] = s[k]) : lowTo s.data.toList (k + 1) = lowTo s.data.toList k := by
  rw [lowTo_step s k h, lowTo_at s k h, hl]
theorem lowTo_get (s : ByteArray) (k : Nat) (h : k < s.size) : (lowTo s.data.toList k)[k]? = some s[k] := by
  rw [lowTo_at s k h, List.getElem?_append_right (by rw [lowB_take_len s k (by omega)]; exact Nat.le_refl _), lowB_take_len s k (by omega)]
  simp
theorem lowTo_set (s : ByteArray) (k : Nat) (h : k < s.size) : (lowTo s.data.toList k).set k (lowU s[k]) = lowTo s.data.toList (k + 1) := by
  rw [lowTo_at s k h, lowTo_step s k h, List.set_append_right _ _ (by rw [lowB_take_len s k (by omega)]; exact Nat.le_refl _), lowB_take_len s k (by omega)]
  simp

end Go.Proofs.YtkjlbddaglcooaaGreatDoor.Pl

namespace Go.Proofs.YtkjlbddaglcooaaGreatDoor.Pl

def cutL : List UInt8 → Option (List UInt8 × List UInt8)
  | [] => none
  | b :: l => if b = 58 then some ([], l) else (cutL l).map fun p => (b :: p.1, p.2)

theorem cutL_cases (l : List UInt8) : (Lib.indexByte l 58 = -1 ∧ cutL l = none) ∨ ∃ i : Nat, Lib.indexByte l 58 = i ∧ i < l.length ∧ cutL l = some (l.take i, l.drop (i + 1)) := by
  induction l with
  | nil => exact .inl ⟨rfl, rfl⟩
  | cons b l ih =>
    rw [Lib.indexByte, cutL]
    by_cases hb : b = 58
    · subst hb
      exact .inr ⟨0, by simp, by simp, by simp⟩
    · have hb2 : (b == 58) = false := by simpa using hb
      rw [hb2, if_neg hb]
      rcases ih with ⟨h1, h2⟩ | ⟨i, h1, h2, h3⟩
      · exact .inl ⟨by rw [h1]; rfl, by rw [h2]; rfl⟩
      · refine .inr ⟨i + 1, ?_, by simp; omega, by rw [h3]; rfl⟩
        have h4 : (Lib.indexByte l 58 == -1) = false := by rw [beq_eq_false_iff_ne, h1]; omega
        rw [h4, h1]; simp

theorem cutL_app (a b : List UInt8) (h : 58 ∉ a) : cutL (a ++ 58 :: b) = some (a, b) := by
  induction a with
  | nil => simp [cutL]
  | cons c a ih =>
    simp at h
    rw [List.cons_append, cutL, if_neg (fun e => h.1 e.symm), ih h.2]
    rfl

end Go.Proofs.YtkjlbddaglcooaaGreatDoor.Pl

namespace Go.Proofs.YtkjlbddaglcooaaGreatDoor
open Pl

abbrev Fld := ByteArray × ByteArray
def fldCells (fs : List Fld) : List Value := fs.flatMap fun f => [.string f.1, .string f.2]
def valsOf (name : ByteArray) (fs : List Fld) : List ByteArray := fs.filterMap fun f => if f.1 = name then some f.2 else none
def mkB (l : List UInt8) : ByteArray := ⟨l.toArray⟩
theorem mkB_data (l : List UInt8) : (mkB l).data.toList = l := by simp [mkB]
theorem mkB_of (s : ByteArray) : mkB s.data.toList = s := by simp [mkB]
theorem data_len (s : ByteArray) : s.data.toList.length = s.size := by simp
theorem mkB_size (l : List UInt8) : (mkB l).size = l.length := by rw [← data_len, mkB_data]
theorem bytes_ext {a b : ByteArray} (h : a.data.toList = b.data.toList) : a = b := by
  cases a; cases b; simp at h; rw [h]
def lowS (s : ByteArray) : ByteArray := mkB (lowB s.data.toList)
def trS (s : ByteArray) : ByteArray := mkB (tr s.data.toList)
theorem trS_data (s : ByteArray) : (trS s).data.toList = tr s.data.toList := mkB_data _
theorem lowS_data (s : ByteArray) : (lowS s).data.toList = lowB s.data.toList := mkB_data _

/-- A line's field: its name small, its value without blanks around. -/
def fldOf (s : ByteArray) : Option Fld :=
  match cutL s.data.toList with
  | none => none
  | some (a, b) => if tokB a && valB b then some (mkB (lowB a), mkB (tr b)) else none
def takeF : List ByteArray → Option (List Fld)
  | [] => some []
  | l :: ls => match fldOf l with
    | none => none
    | some f => (takeF ls).map (f :: ·)

theorem fldCells_length (fs : List Fld) : (fldCells fs).length = fs.length * 2 := by
  induction fs with
  | nil => rfl
  | cons f fs ih => simp [fldCells] at ih ⊢; omega
theorem fldCells_at (fs : List Fld) (k : Nat) (h : k < fs.length) : (fldCells fs)[k * 2]? = some (.string (fs[k]).1) ∧ (fldCells fs)[k * 2 + 1]? = some (.string (fs[k]).2) := by
  induction fs generalizing k with
  | nil => simp at h
  | cons f fs ih =>
    cases k with
    | zero => exact ⟨rfl, rfl⟩
    | succ k =>
      have := ih k (by simpa using h)
      have e : fldCells (f :: fs) = .string f.1 :: .string f.2 :: fldCells fs := rfl
      rw [e, show (k + 1) * 2 = k * 2 + 1 + 1 from by omega]
      simpa using this
theorem fldCells_snoc (fs : List Fld) (a b : ByteArray) : fldCells (fs ++ [(a, b)]) = fldCells fs ++ [.string a, .string b] := by
  simp [fldCells]
theorem valsOf_snoc (name : ByteArray) (fs : List Fld) (k : Nat) (h : k < fs.length) : valsOf name (fs.take (k + 1)) = valsOf name (fs.take k) ++ (if (fs[k]).1 = name then [(fs[k]).2] else []) := by
  rw [List.take_succ_eq_append_getElem h, valsOf, List.filterMap_append]
  congr 1
  by_cases e : (fs[k]).1 = name <;> simp [e]
theorem valsOf_len (name : ByteArray) (fs : List Fld) : (valsOf name fs).length ≤ fs.length := List.length_filterMap_le _ _
theorem eq_test (a b : ByteArray) : (a.toList == b.toList) = decide (a = b) := by
  rw [Lib.toList_data, Lib.toList_data, Bool.eq_iff_iff]
  simp only [beq_iff_eq, decide_eq_true_eq]
  exact ⟨bytes_ext, fun h => by rw [h]⟩

theorem eq_list (a : ByteArray) (l : List UInt8) : (a.toList == l) = decide (a.data.toList = l) := by
  rw [Lib.toList_data, Bool.eq_iff_iff]
  simp only [beq_iff_eq, decide_eq_true_eq]

theorem takeF_append (a b : List ByteArray) : takeF (a ++ b) = match takeF a with | none => none | some fa => (takeF b).map (fa ++ ·) := by
  induction a with
  | nil => simp [takeF]
  | cons l a ih =>
    rw [List.cons_append, takeF, takeF]
    cases fldOf l with
    | none => rfl
    | some f =>
      rw [ih]
      cases takeF a with
      | none => rfl
      | some fa => cases takeF b <;> rfl
theorem takeF_snoc (ls : List ByteArray) (k : Nat) (h : k < ls.length) (fs : List Fld) (f : Fld) (h1 : takeF (ls.take k) = some fs) (h2 : fldOf ls[k] = some f) : takeF (ls.take (k + 1)) = some (fs ++ [f]) := by
  rw [List.take_succ_eq_append_getElem h, takeF_append, h1]
  simp [takeF, h2]
theorem takeF_stop (ls : List ByteArray) (k : Nat) (h : k < ls.length) (h2 : fldOf ls[k] = none) : takeF ls = none := by
  have e : ls = ls.take k ++ ls[k] :: ls.drop (k + 1) := by
    rw [← List.drop_eq_getElem_cons h, List.take_append_drop]
  rw [e, takeF_append]
  cases takeF (ls.take k) with
  | none => rfl
  | some fa => simp [takeF, h2]
theorem takeF_len (ls : List ByteArray) : ∀ fs, takeF ls = some fs → fs.length = ls.length := by
  induction ls with
  | nil => intro fs h; simp [takeF] at h; simp [← h]
  | cons l ls ih =>
    intro fs h
    rw [takeF] at h
    cases hf : fldOf l with
    | none => rw [hf] at h; cases h
    | some f =>
      rw [hf] at h
      cases ht : takeF ls with
      | none => rw [ht] at h; cases h
      | some fa => rw [ht] at h; simp at h; subst h; simp [ih fa ht]

end Go.Proofs.YtkjlbddaglcooaaGreatDoor

namespace Go.Proofs.YtkjlbddaglcooaaGreatDoor
open Pl

def httpB : List UInt8 := [72, 84, 84, 80, 47, 49, 46, 49]
def slashB (l : List UInt8) : Bool := Lib.hasPrefix l [47]
/-- The method and the target of a first line. -/
def firstOf (s : ByteArray) : Option (ByteArray × ByteArray) :=
  match wordsB 32 s.data.toList with
  | [m, t, v] => if v = httpB ∧ tokB m = true ∧ slashB t = true ∧ valB t = true then some (mkB m, mkB t) else none
  | _ => none

theorem first_three (s x y z : ByteArray) (h : wordsB 32 s.data.toList = [x.data.toList, y.data.toList, z.data.toList]) :
    firstOf s = if z.data.toList = httpB ∧ tokB x.data.toList = true ∧ slashB y.data.toList = true ∧ valB y.data.toList = true then some (x, y) else none := by
  unfold firstOf; rw [h]; simp only [mkB_of]
theorem first_not (s : ByteArray) (h : (wordsB 32 s.data.toList).length ≠ 3) : firstOf s = none := by
  unfold firstOf
  split
  · rename_i e; rw [e] at h; exact absurd rfl h
  · rfl
theorem three_of (s : ByteArray) (h : (wordsB 32 s.data.toList).length = 3) : ∃ x y z : ByteArray, wordsB 32 s.data.toList = [x.data.toList, y.data.toList, z.data.toList] := by
  match hl : wordsB 32 s.data.toList, h with
  | [x, y, z], _ => exact ⟨mkB x, mkB y, mkB z, by rw [mkB_data, mkB_data, mkB_data]⟩

def nameOf (l : List UInt8) : ByteArray := mkB l
def hostN : ByteArray := ⟨#[104, 111, 115, 116]⟩
def lengthN : ByteArray := ⟨#[99, 111, 110, 116, 101, 110, 116, 45, 108, 101, 110, 103, 116, 104]⟩
def codingN : ByteArray := ⟨#[116, 114, 97, 110, 115, 102, 101, 114, 45, 101, 110, 99, 111, 100, 105, 110, 103]⟩
def connN : ByteArray := ⟨#[99, 111, 110, 110, 101, 99, 116, 105, 111, 110]⟩
def chunkedN : ByteArray := ⟨#[99, 104, 117, 110, 107, 101, 100]⟩
def closeN : ByteArray := ⟨#[99, 108, 111, 115, 101]⟩

/-- By a content-length: the status, the length. -/
def byLen (s : ByteArray) : Int × Int :=
  match numB 10 s.data.toList with
  | none => (400, 0)
  | some n => if 600 < n then (413, 0) else (0, n)
/-- By the lengths and the codings: the status, the length. -/
def measureF (L C : List ByteArray) : Int × Int :=
  match L, C with
  | _ :: _ :: _, _ => (400, 0)
  | [_], _ :: _ => (400, 0)
  | [], _ :: _ :: _ => (501, 0)
  | [], [c] => if lowS c = chunkedN then (0, -1) else (501, 0)
  | [s], [] => byLen s
  | [], [] => (0, 0)

def closeW (x : List UInt8) : Bool := decide (lowS (trS (mkB x)) = closeN)
def closesV (v : ByteArray) : Bool := (wordsB 44 v.data.toList).any closeW
def closesF (vs : List ByteArray) : Bool := vs.any closesV

structure Hd where
  m : ByteArray
  t : ByteArray
  fs : List Fld
  close : Bool
  len : Int
  status : Int
def badH (st : Int) : Hd := ⟨⟨#[]⟩, ⟨#[]⟩, [], false, 0, st⟩
def parseF (ls : List ByteArray) : Hd :=
  match ls with
  | [] => badH 400
  | first :: rest =>
    if 200 < first.size ∨ 16 < rest.length then badH 431 else
    match firstOf first with
    | none => badH 400
    | some (m, t) =>
      match takeF rest with
      | none => badH 400
      | some fs =>
        if (valsOf hostN fs).length ≠ 1 then badH 400 else
        if (measureF (valsOf lengthN fs) (valsOf codingN fs)).1 ≠ 0 then badH (measureF (valsOf lengthN fs) (valsOf codingN fs)).1 else
        ⟨m, t, fs, closesF (valsOf connN fs), (measureF (valsOf lengthN fs) (valsOf codingN fs)).2, 0⟩

theorem parse_long (first : ByteArray) (rest : List ByteArray) (h : 200 < first.size ∨ 16 < rest.length) : parseF (first :: rest) = badH 431 := by
  unfold parseF; simp only; rw [if_pos h]
theorem parse_f (first : ByteArray) (rest : List ByteArray) (h : first.size ≤ 200 ∧ rest.length ≤ 16) (hF : firstOf first = none) : parseF (first :: rest) = badH 400 := by
  unfold parseF; simp only; rw [if_neg (by omega), hF]
theorem parse_t (first : ByteArray) (rest : List ByteArray) (h : first.size ≤ 200 ∧ rest.length ≤ 16) {m t : ByteArray} (hF : firstOf first = some (m, t)) (hT : takeF rest = none) : parseF (first :: rest) = badH 400 := by
  unfold parseF; simp only; rw [if_neg (by omega), hF]; simp only; rw [hT]
theorem parse_h (first : ByteArray) (rest : List ByteArray) (h : first.size ≤ 200 ∧ rest.length ≤ 16) {m t : ByteArray} {fs : List Fld} (hF : firstOf first = some (m, t)) (hT : takeF rest = some fs) (hh : (valsOf hostN fs).length ≠ 1) : parseF (first :: rest) = badH 400 := by
  unfold parseF; simp only; rw [if_neg (by omega), hF]; simp only; rw [hT]; simp only; rw [if_pos hh]
theorem parse_m (first : ByteArray) (rest : List ByteArray) (h : first.size ≤ 200 ∧ rest.length ≤ 16) {m t : ByteArray} {fs : List Fld} (hF : firstOf first = some (m, t)) (hT : takeF rest = some fs) (hh : (valsOf hostN fs).length = 1)
    (hm : (measureF (valsOf lengthN fs) (valsOf codingN fs)).1 ≠ 0) : parseF (first :: rest) = badH (measureF (valsOf lengthN fs) (valsOf codingN fs)).1 := by
  unfold parseF; simp only; rw [if_neg (by omega), hF]; simp only; rw [hT]; simp only; rw [if_neg (by omega), if_pos hm]
theorem parse_ok (first : ByteArray) (rest : List ByteArray) (h : first.size ≤ 200 ∧ rest.length ≤ 16) {m t : ByteArray} {fs : List Fld} (hF : firstOf first = some (m, t)) (hT : takeF rest = some fs) (hh : (valsOf hostN fs).length = 1)
    (hm : (measureF (valsOf lengthN fs) (valsOf codingN fs)).1 = 0) : parseF (first :: rest) = ⟨m, t, fs, closesF (valsOf connN fs), (measureF (valsOf lengthN fs) (valsOf codingN fs)).2, 0⟩ := by
  unfold parseF; simp only; rw [if_neg (by omega), hF]; simp only; rw [hT]; simp only; rw [if_neg (by omega), if_neg (by omega)]

end Go.Proofs.YtkjlbddaglcooaaGreatDoor

namespace Go.Proofs.YtkjlbddaglcooaaGreatDoor.Pl

/-- What a body is: its state, the bytes that are still to come, its status, the line so far, the data so far. -/
structure Bst where
  st : Int
  left : Int
  status : Int
  line : List UInt8
  data : List UInt8

def newB (n : Int) : Bst := if n < 0 then ⟨1, 0, 0, [], []⟩ else if n = 0 then ⟨5, 0, 0, [], []⟩ else ⟨0, n, 0, [], []⟩
def stopB (b : Bst) (s : Int) : Bst := ⟨5, b.left, s, [], b.data⟩
def dataB (b : Bst) (c : UInt8) : Bst :=
  if b.data.length = 600 then stopB b 413
  else ⟨if b.left - 1 > 0 then b.st else if b.st = 0 then 5 else 3, b.left - 1, b.status, b.line, b.data ++ [c]⟩
def cutS : List UInt8 → List UInt8
  | [] => []
  | b :: l => if b = 59 then [] else b :: cutS l
def readB (st : Int) (t : List UInt8) : Option Int :=
  if st = 1 then numB 16 (cutS t) else if st = 3 then (if t = [] then some 0 else none) else some 0
def passB (b : Bst) (n : Int) (empty : Bool) : Bst :=
  if b.st = 3 then ⟨1, b.left, b.status, b.line, b.data⟩
  else if n > 0 then ⟨2, n, b.status, b.line, b.data⟩
  else if b.st = 1 then ⟨4, b.left, b.status, b.line, b.data⟩
  else if empty then ⟨5, b.left, b.status, [], b.data⟩ else b
def endB (b : Bst) (t : List UInt8) (long : Bool) : Bst :=
  match readB b.st t with
  | none => stopB b 400
  | some n => if long then stopB b 431 else if n > 600 then stopB b 413 else passB b n t.isEmpty
def clearB (b : Bst) : Bst := ⟨b.st, b.left, b.status, [], b.data⟩
def crB (l : List UInt8) : Bool := decide (l.getLast? = some 13)
def lineB (b : Bst) (c : UInt8) : Bst :=
  if crB b.line != decide (c = 10) then stopB b 400
  else if c = 10 then endB (clearB b) b.line.dropLast (decide (b.line.length + 1 > 200))
  else if b.line.length + 1 > 200 then stopB b 431
  else ⟨b.st, b.left, b.status, b.line ++ [c], b.data⟩
def feedB (b : Bst) (c : UInt8) : Bst :=
  if b.st = 0 ∨ b.st = 2 then dataB b c else if b.st = 1 ∨ b.st = 3 ∨ b.st = 4 then lineB b c else b

/-- What holds of each body: bounds of what it has. -/
structure Okb (b : Bst) : Prop where
  left0 : 0 ≤ b.left
  left1 : b.left ≤ 9223372036854775807
  more : b.st = 0 ∨ b.st = 2 → 0 < b.left
  line : b.line.length ≤ 200
  data : b.data.length ≤ 600
  stat : b.status = 0 ∨ b.status = 400 ∨ b.status = 413 ∨ b.status = 431
  done : b.status ≠ 0 → b.st = 5
  range : 0 ≤ b.st ∧ b.st ≤ 5

theorem okb_new (n : Int) (hn : n ≤ 9223372036854775807) : Okb (newB n) := by
  unfold newB
  split
  · constructor <;> simp
  · split
    · constructor <;> simp
    · constructor <;> simp <;> omega
theorem okb_stop {b : Bst} (h : Okb b) (s : Int) (hs : s = 400 ∨ s = 413 ∨ s = 431) : Okb (stopB b s) := by
  constructor <;> simp [stopB]
  · exact h.left0
  · exact h.left1
  · exact h.data
  · omega
theorem okb_data {b : Bst} (h : Okb b) (c : UInt8) (hst : b.st = 0 ∨ b.st = 2) : Okb (dataB b c) := by
  unfold dataB
  split
  · exact okb_stop h _ (by simp)
  · rename_i hl
    have h1 := h.left1; have h2 := h.more hst; have h3 := h.data; have h5 := h.done
    refine ⟨by simp; omega, by simp; omega, ?_, h.line, by simp; omega, h.stat, fun hs => ?_, ?_⟩
    · simp only
      split
      · omega
      · split <;> omega
    · have := h5 hs; omega
    · simp only
      split
      · exact h.range
      · split <;> omega
theorem numGo_nonneg {n : Int} (l : List UInt8) (hn : 0 ≤ n) {r : Int} (h : numGo 16 n l = some r) : 0 ≤ r := by
  induction l generalizing n with
  | nil => simp [numGo] at h; omega
  | cons c l ih =>
    rw [numGo] at h
    split at h
    · cases h
    · rename_i hb
      have := num_ok16 (by simpa using hb)
      exact ih (by omega) h
theorem okb_pass {b : Bst} (h : Okb b) (n : Int) (hn : n ≤ 600) (e : Bool) (hst : b.st = 1 ∨ b.st = 3 ∨ b.st = 4) : Okb (passB b n e) := by
  have h1 := h.left0; have h2 := h.left1; have h3 := h.line; have h4 := h.data; have h5 := h.stat; have h6 := h.done
  have hs0 : b.status = 0 := by
    by_cases hc : b.status = 0
    · exact hc
    · have := h6 hc; omega
  unfold passB
  split
  · constructor <;> simp_all
  · split
    · constructor <;> simp_all <;> omega
    · split
      · constructor <;> simp_all
      · split
        · constructor <;> simp_all
        · exact h
theorem okb_clear {b : Bst} (h : Okb b) : Okb (clearB b) := ⟨h.left0, h.left1, h.more, by simp [clearB], h.data, h.stat, h.done, h.range⟩
theorem okb_end {b : Bst} (h : Okb b) (t : List UInt8) (lg : Bool) (hst : b.st = 1 ∨ b.st = 3 ∨ b.st = 4) : Okb (endB b t lg) := by
  unfold endB
  split
  · exact okb_stop h _ (by simp)
  · split
    · exact okb_stop h _ (by simp)
    · split
      · exact okb_stop h _ (by simp)
      · exact okb_pass h _ (by omega) _ hst
theorem okb_line {b : Bst} (h : Okb b) (c : UInt8) (hst : b.st = 1 ∨ b.st = 3 ∨ b.st = 4) : Okb (lineB b c) := by
  unfold lineB
  split
  · exact okb_stop h _ (by simp)
  · split
    · exact okb_end (okb_clear h) _ _ hst
    · split
      · exact okb_stop h _ (by simp)
      · exact ⟨h.left0, h.left1, h.more, by simp; omega, h.data, h.stat, h.done, h.range⟩
theorem okb_feed {b : Bst} (h : Okb b) (c : UInt8) : Okb (feedB b c) := by
  unfold feedB
  split
  · rename_i hs; exact okb_data h c hs
  · split
    · rename_i hs; exact okb_line h c hs
    · exact h

end Go.Proofs.YtkjlbddaglcooaaGreatDoor.Pl

namespace Go.Proofs.YtkjlbddaglcooaaGreatDoor.Pl

/-- All bytes, whether it is done or not. -/
def feeds (b : Bst) (l : List UInt8) : Bst := l.foldl feedB b
/-- Bytes till it is done; how many were taken. -/
def runB : Bst → List UInt8 → Bst × Nat
  | b, [] => (b, 0)
  | b, c :: l => if b.st = 5 then (b, 0) else ((runB (feedB b c) l).1, (runB (feedB b c) l).2 + 1)

theorem feeds_snoc (b : Bst) (l : List UInt8) (c : UInt8) : feeds b (l ++ [c]) = feedB (feeds b l) c := by simp [feeds]
theorem feeds_cons (b : Bst) (l : List UInt8) (c : UInt8) : feeds b (c :: l) = feeds (feedB b c) l := rfl
theorem feeds_app (b : Bst) (l m : List UInt8) : feeds b (l ++ m) = feeds (feeds b l) m := by simp [feeds]
theorem okb_feeds {b : Bst} (h : Okb b) (l : List UInt8) : Okb (feeds b l) := by
  induction l generalizing b with
  | nil => exact h
  | cons c l ih => exact ih (okb_feed h c)
theorem okb_run {b : Bst} (h : Okb b) (l : List UInt8) : Okb (runB b l).1 := by
  induction l generalizing b with
  | nil => exact h
  | cons c l ih =>
    rw [runB]
    split
    · exact h
    · exact ih (okb_feed h c)
theorem feed_done {b : Bst} (h : b.st = 5) (c : UInt8) : feedB b c = b := by
  unfold feedB
  rw [if_neg (by omega), if_neg (by omega)]
theorem feeds_done {b : Bst} (h : b.st = 5) (l : List UInt8) : feeds b l = b := by
  induction l with
  | nil => rfl
  | cons c l ih => rw [feeds_cons, feed_done h, ih]
theorem run_done {b : Bst} (h : b.st = 5) (l : List UInt8) : runB b l = (b, 0) := by
  cases l with
  | nil => rfl
  | cons c l => rw [runB, if_pos h]
theorem run_step {b : Bst} (h : b.st ≠ 5) (c : UInt8) (l : List UInt8) : runB b (c :: l) = ((runB (feedB b c) l).1, (runB (feedB b c) l).2 + 1) := by
  rw [runB, if_neg h]
theorem run_fst (b : Bst) (l : List UInt8) : (runB b l).1 = feeds b l := by
  induction l generalizing b with
  | nil => rfl
  | cons c l ih =>
    by_cases h : b.st = 5
    · rw [run_done h, feeds_done h]
    · rw [run_step h, feeds_cons]; exact ih _
theorem run_app (b : Bst) (l m : List UInt8) : runB b (l ++ m) = ((runB (feeds b l) m).1, (runB b l).2 + (runB (feeds b l) m).2) := by
  induction l generalizing b with
  | nil => simp [feeds, runB]
  | cons c l ih =>
    by_cases h : b.st = 5
    · rw [run_done h, run_done h, feeds_done h, run_done h]; rfl
    · rw [List.cons_append, run_step h, run_step h, ih, feeds_cons]
      simp [Nat.add_assoc, Nat.add_comm]
theorem run_le (b : Bst) (l : List UInt8) : (runB b l).2 ≤ l.length := by
  induction l generalizing b with
  | nil => exact Nat.le_refl _
  | cons c l ih =>
    rw [runB]
    split
    · exact Nat.zero_le _
    · have := ih (feedB b c); simp; omega
theorem run_loop_step (b0 b : Bst) (l : List UInt8) (c : UInt8) (k : Nat) (r : Bst × Nat) (h : b.st ≠ 5) (e : r = ((runB b (c :: l)).1, (runB b (c :: l)).2 + k)) : r = ((runB (feedB b c) l).1, (runB (feedB b c) l).2 + (k + 1)) := by
  rw [e, run_step h]
  simp
  omega

end Go.Proofs.YtkjlbddaglcooaaGreatDoor.Pl

namespace Go.Proofs.YtkjlbddaglcooaaGreatDoor
open Pl

structure Rq where
  m : ByteArray
  t : ByteArray
  fs : List Fld
  body : ByteArray
  close : Bool
def emptyB : ByteArray := ⟨#[]⟩
def nilRq : Rq := ⟨emptyB, emptyB, [], emptyB, false⟩

/-- What a cutter is, but for the bytes that wait. -/
structure Cst where
  lines : List UInt8
  rq : Rq
  bd : Option Bst
  done : Bool
  status : Int
def newC : Cst := ⟨[], nilRq, none, false, 0⟩
def stopC (s : Int) : Cst := ⟨[], nilRq, none, true, s⟩
def endsB (l : List UInt8) : Bool := Lib.hasSuffix l [13, 10, 13, 10]
/-- The lines of a head's text. -/
def linesOf (l : List UInt8) : List ByteArray := Lib.splitB ⟨#[13, 10]⟩ 0 (Lib.countB (mkB l) ⟨#[13, 10]⟩) (mkB l)
def bareRq (h : Hd) : Rq := ⟨h.m, h.t, h.fs, emptyB, h.close⟩
def byHead (h : Hd) : Cst := if h.status = 0 then ⟨[], bareRq h, some (newB h.len), false, 0⟩ else stopC h.status
def endHeadC (l : List UInt8) : Cst := byHead (parseF (linesOf (l.take (l.length - 4))))
def lookHeadC (c : Cst) (b : UInt8) : Cst :=
  if crB c.lines != decide (b = 10) then stopC 400
  else if c.lines ++ [b] = [13, 10] then ⟨[], c.rq, none, false, 0⟩
  else if 1000 < c.lines.length + 1 then stopC 431
  else if endsB (c.lines ++ [b]) then endHeadC (c.lines ++ [b])
  else ⟨c.lines ++ [b], c.rq, none, false, 0⟩
def lookBodyC (c : Cst) (d : Bst) : Cst := if d.status = 0 then ⟨c.lines, c.rq, some d, false, 0⟩ else stopC d.status
def lookC (c : Cst) (b : UInt8) : Cst :=
  match c.bd with
  | none => lookHeadC c b
  | some d => lookBodyC c (feedB d b)
def wholeRq (c : Cst) (d : Bst) : Rq := ⟨c.rq.m, c.rq.t, c.rq.fs, mkB d.data, c.rq.close⟩
def wholeC (c : Cst) : Cst := if c.rq.close then stopC 0 else ⟨c.lines, nilRq, none, false, 0⟩
/-- What is whole behind a byte. -/
def emitC (c : Cst) : Cst × Option Rq :=
  match c.bd with
  | none => (c, none)
  | some d => if d.st = 5 then (wholeC c, some (wholeRq c d)) else (c, none)
def stepC (c : Cst) (b : UInt8) : Cst × Option Rq := if c.done then (c, none) else emitC (lookC c b)
/-- All requests of a text. -/
def runC : Cst → List UInt8 → Cst × List Rq
  | c, [] => (c, [])
  | c, b :: l => ((runC (stepC c b).1 l).1, (stepC c b).2.toList ++ (runC (stepC c b).1 l).2)
/-- The next request of a text, and what waits behind it. -/
def nextC : Cst → List UInt8 → Option Rq × Cst × List UInt8
  | c, [] => (none, c, [])
  | c, b :: l =>
    match stepC c b with
    | (c1, some r) => (some r, c1, if c1.done then [] else l)
    | (c1, none) => if c1.done then (none, c1, []) else nextC c1 l

/-- What holds of each cutter. -/
structure Okc (c : Cst) : Prop where
  len : c.lines.length ≤ 1000
  over : c.done = true → ∃ s, c = stopC s
  stat : c.done = false → c.status = 0
  amid : ∀ d, c.bd = some d → c.lines = [] ∧ Okb d ∧ d.status = 0 ∧ d.st ≠ 5
  fresh : c.bd = none → c.rq = nilRq
theorem okc_new : Okc newC := ⟨by decide, fun h => (by cases h), fun _ => rfl, fun d h => (by cases h), fun _ => rfl⟩
theorem okc_stop (s : Int) : Okc (stopC s) := ⟨Nat.zero_le _, fun _ => ⟨s, rfl⟩, fun h => (by simp [stopC] at h), fun d h => (by simp [stopC] at h), fun _ => rfl⟩

theorem byLen_le (s : ByteArray) : (byLen s).2 ≤ 600 := by
  unfold byLen
  split
  · decide
  · split
    · decide
    · simp; omega
theorem measure_le (L C : List ByteArray) : (measureF L C).2 ≤ 600 := by
  unfold measureF
  split <;> first | decide | exact byLen_le _ | (split <;> decide)
theorem parse_len (ls : List ByteArray) : (parseF ls).len ≤ 600 := by
  unfold parseF
  split
  · decide
  · split
    · decide
    · split
      · decide
      · split
        · decide
        · split
          · decide
          · split
            · exact (by decide : (0 : Int) ≤ 600)
            · exact measure_le _ _

/-- What a head leaves behind, before it is asked whether its body is done. -/
structure Oka (c : Cst) : Prop where
  len : c.lines.length ≤ 1000
  over : c.done = true → ∃ s, c = stopC s
  stat : c.done = false → c.status = 0
  amid : ∀ d, c.bd = some d → c.lines = [] ∧ Okb d ∧ d.status = 0 ∧ c.done = false
  fresh : c.bd = none → c.rq = nilRq
theorem oka_stop (s : Int) : Oka (stopC s) := ⟨Nat.zero_le _, fun _ => ⟨s, rfl⟩, fun h => (by simp [stopC] at h), fun d h => (by simp [stopC] at h), fun _ => rfl⟩
theorem newB_status (n : Int) : (newB n).status = 0 := by
  unfold newB
  split
  · rfl
  · split <;> rfl
theorem oka_byHead (h : Hd) (hl : h.len ≤ 600) : Oka (byHead h) := by
  unfold byHead
  split
  · refine ⟨Nat.zero_le _, fun h => (by cases h), fun _ => rfl, fun d hd => ?_, fun h => (by cases h)⟩
    injection hd with hd
    subst hd
    exact ⟨rfl, okb_new _ (by omega), newB_status _, rfl⟩
  · exact oka_stop _
theorem oka_lookHead {c : Cst} (h : Okc c) (hb : c.bd = none) (b : UInt8) : Oka (lookHeadC c b) := by
  unfold lookHeadC
  split
  · exact oka_stop _
  · split
    · exact ⟨Nat.zero_le _, fun h => (by cases h), fun _ => rfl, fun d hd => (by cases hd), fun _ => h.fresh hb⟩
    · split
      · exact oka_stop _
      · split
        · exact oka_byHead _ (parse_len _)
        · exact ⟨by simp; omega, fun h => (by cases h), fun _ => rfl, fun d hd => (by cases hd), fun _ => h.fresh hb⟩
theorem oka_look {c : Cst} (h : Okc c) (b : UInt8) : Oka (lookC c b) := by
  unfold lookC
  split
  · rename_i hb; exact oka_lookHead h hb b
  · rename_i d hb
    unfold lookBodyC
    split
    · rename_i hs
      obtain ⟨h1, h2, h3, h4⟩ := h.amid d hb
      refine ⟨h.len, fun h => (by cases h), fun _ => rfl, fun e he => ?_, fun h => (by cases h)⟩
      injection he with he
      subst he
      exact ⟨h1, okb_feed h2 b, hs, rfl⟩
    · exact oka_stop _
theorem okc_emit {c : Cst} (h : Oka c) : Okc (emitC c).1 := by
  unfold emitC
  split
  · rename_i hb
    exact ⟨h.len, h.over, h.stat, fun d hd => (by rw [hb] at hd; cases hd), h.fresh⟩
  · rename_i d hb
    obtain ⟨h1, h2, h3, h4⟩ := h.amid d hb
    split
    · show Okc (wholeC c)
      unfold wholeC
      split
      · exact okc_stop _
      · exact ⟨h.len, fun h => (by cases h), fun _ => rfl, fun d hd => (by cases hd), fun _ => rfl⟩
    · rename_i h5
      refine ⟨h.len, h.over, h.stat, fun e he => ?_, h.fresh⟩
      have he2 : some d = some e := hb.symm.trans he
      injection he2 with he2
      subst he2
      exact ⟨h1, h2, h3, h5⟩
theorem okc_step {c : Cst} (h : Okc c) (b : UInt8) : Okc (stepC c b).1 := by
  unfold stepC
  split
  · exact h
  · exact okc_emit (oka_look h b)

theorem step_done {c : Cst} (h : c.done = true) (b : UInt8) : stepC c b = (c, none) := by unfold stepC; rw [if_pos h]
theorem run_over {c : Cst} (h : c.done = true) (l : List UInt8) : runC c l = (c, []) := by
  induction l with
  | nil => rfl
  | cons b l ih => rw [runC, step_done h, ih]; rfl
theorem runC_cons (c : Cst) (b : UInt8) (l : List UInt8) : runC c (b :: l) = ((runC (stepC c b).1 l).1, (stepC c b).2.toList ++ (runC (stepC c b).1 l).2) := rfl
theorem runC_app (c : Cst) (l m : List UInt8) : runC c (l ++ m) = ((runC (runC c l).1 m).1, (runC c l).2 ++ (runC (runC c l).1 m).2) := by
  induction l generalizing c with
  | nil => rfl
  | cons b l ih => rw [List.cons_append, runC_cons, runC_cons, ih]; simp
theorem okc_run {c : Cst} (h : Okc c) (l : List UInt8) : Okc (runC c l).1 := by
  induction l generalizing c with
  | nil => exact h
  | cons b l ih => exact ih (okc_step h b)
theorem okc_next {c : Cst} (h : Okc c) (l : List UInt8) : Okc (nextC c l).2.1 := by
  induction l generalizing c with
  | nil => exact h
  | cons b l ih =>
    have hk := okc_step h b
    unfold nextC
    split
    · rename_i c1 r e; rw [e] at hk; exact hk
    · rename_i c1 e
      rw [e] at hk
      split
      · exact hk
      · exact ih hk
theorem next_some {c : Cst} (l : List UInt8) (r : Rq) (c1 : Cst) (rest : List UInt8) (h : nextC c l = (some r, c1, rest)) : runC c l = ((runC c1 rest).1, r :: (runC c1 rest).2) ∧ rest.length < l.length ∧ (c1.done = true → rest = []) := by
  induction l generalizing c with
  | nil => simp [nextC] at h
  | cons b l ih =>
    rw [nextC] at h
    rw [runC_cons]
    split at h
    · rename_i c2 r2 e
      rw [e]
      injection h with h1 h2
      injection h1 with h1
      injection h2 with h2 h3
      subst h1; subst h2
      by_cases hd : c2.done = true
      · rw [if_pos hd] at h3
        subst h3
        rw [run_over hd, run_over hd]
        exact ⟨rfl, by simp, fun _ => rfl⟩
      · rw [if_neg hd] at h3
        subst h3
        exact ⟨rfl, by simp, fun h => absurd h hd⟩
    · rename_i c2 e
      rw [e]
      by_cases hd : c2.done = true
      · rw [if_pos hd] at h; injection h with h1; cases h1
      · rw [if_neg hd] at h
        obtain ⟨h1, h2, h3⟩ := ih h
        simp only [Option.toList, List.nil_append]
        exact ⟨h1, by simp; omega, h3⟩
theorem next_none {c : Cst} (l : List UInt8) (c1 : Cst) (rest : List UInt8) (h : nextC c l = (none, c1, rest)) : runC c l = (c1, []) ∧ rest = [] := by
  induction l generalizing c with
  | nil => simp [nextC] at h; obtain ⟨rfl, rfl⟩ := h; exact ⟨rfl, rfl⟩
  | cons b l ih =>
    rw [nextC] at h
    rw [runC_cons]
    split at h
    · injection h with h1; cases h1
    · rename_i c2 e
      rw [e]
      by_cases hd : c2.done = true
      · rw [if_pos hd] at h
        injection h with h1 h2
        injection h2 with h2 h3
        subst h2; subst h3
        rw [run_over hd]
        exact ⟨rfl, rfl⟩
      · rw [if_neg hd] at h
        obtain ⟨h1, h2⟩ := ih h
        simp only [Option.toList, List.nil_append]
        exact ⟨h1, h2⟩

end Go.Proofs.YtkjlbddaglcooaaGreatDoor
