/- First lines, lengths, what closes: a whole head, plainly; no Go. -/
import Derived.Test.YtkjlbddaglcooaaDoorHeadPlain
namespace Go.Proofs.YtkjlbddaglcooaaDoor
open Pl

def httpB : List UInt8 := [72, 84, 84, 80, 47, 49, 46, 49]
def slashB (l : List UInt8) : Bool := Lib.hasPrefix l [47]
/-- The method and the target of a first line. -/
def firstOf (s : ByteArray) : Option (ByteArray × ByteArray) :=
  match wordsB 32 s.data.toList with
  | [m, t, v] => if v = httpB ∧ tokB m = true ∧ slashB t = true ∧ valB t = true then some (mkB m, mkB t) else none
  | _ => none

theorem first_three (s x y z : ByteArray) (h : wordsB 32 s.data.toList = [x.data.toList, y.data.toList, z.data.toList]) :
    firstOf s = if z.data.toList = httpB ∧ tokB x.data.toList = true ∧ slashB y.data.toList = true ∧ valB y.data.toList = true then some (x, y) else none := by
  unfold firstOf; rw [h]; simp only [mkB_of]
theorem first_not (s : ByteArray) (h : (wordsB 32 s.data.toList).length ≠ 3) : firstOf s = none := by
  unfold firstOf
  split
  · rename_i e; rw [e] at h; exact absurd rfl h
  · rfl
theorem three_of (s : ByteArray) (h : (wordsB 32 s.data.toList).length = 3) : ∃ x y z : ByteArray, wordsB 32 s.data.toList = [x.data.toList, y.data.toList, z.data.toList] := by
  match hl : wordsB 32 s.data.toList, h with
  | [x, y, z], _ => exact ⟨mkB x, mkB y, mkB z, by rw [mkB_data, mkB_data, mkB_data]⟩

def nameOf (l : List UInt8) : ByteArray := mkB l
def hostN : ByteArray := ⟨#[104, 111, 115, 116]⟩
def lengthN : ByteArray := ⟨#[99, 111, 110, 116, 101, 110, 116, 45, 108, 101, 110, 103, 116, 104]⟩
def codingN : ByteArray := ⟨#[116, 114, 97, 110, 115, 102, 101, 114, 45, 101, 110, 99, 111, 100, 105, 110, 103]⟩
def connN : ByteArray := ⟨#[99, 111, 110, 110, 101, 99, 116, 105, 111, 110]⟩
def chunkedN : ByteArray := ⟨#[99, 104, 117, 110, 107, 101, 100]⟩
def closeN : ByteArray := ⟨#[99, 108, 111, 115, 101]⟩

/-- By a content-length: the status, the length. -/
def byLen (s : ByteArray) : Int × Int :=
  match numB 10 s.data.toList with
  | none => (400, 0)
  | some n => if 600 < n then (413, 0) else (0, n)
/-- By the lengths and the codings: the status, the length. -/
def measureF (L C : List ByteArray) : Int × Int :=
  match L, C with
  | _ :: _ :: _, _ => (400, 0)
  | [_], _ :: _ => (400, 0)
  | [], _ :: _ :: _ => (501, 0)
  | [], [c] => if lowS c = chunkedN then (0, -1) else (501, 0)
  | [s], [] => byLen s
  | [], [] => (0, 0)

def closeW (x : List UInt8) : Bool := decide (lowS (trS (mkB x)) = closeN)
def closesV (v : ByteArray) : Bool := (wordsB 44 v.data.toList).any closeW
def closesF (vs : List ByteArray) : Bool := vs.any closesV

structure Hd where
  m : ByteArray
  t : ByteArray
  fs : List Fld
  close : Bool
  len : Int
  status : Int
def badH (st : Int) : Hd := ⟨⟨#[]⟩, ⟨#[]⟩, [], false, 0, st⟩
def parseF (ls : List ByteArray) : Hd :=
  match ls with
  | [] => badH 400
  | first :: rest =>
    if 200 < first.size ∨ 16 < rest.length then badH 431 else
    match firstOf first with
    | none => badH 400
    | some (m, t) =>
      match takeF rest with
      | none => badH 400
      | some fs =>
        if (valsOf hostN fs).length ≠ 1 then badH 400 else
        if (measureF (valsOf lengthN fs) (valsOf codingN fs)).1 ≠ 0 then badH (measureF (valsOf lengthN fs) (valsOf codingN fs)).1 else
        ⟨m, t, fs, closesF (valsOf connN fs), (measureF (valsOf lengthN fs) (valsOf codingN fs)).2, 0⟩

theorem parse_long (first : ByteArray) (rest : List ByteArray) (h : 200 < first.size ∨ 16 < rest.length) : parseF (first :: rest) = badH 431 := by
  unfold parseF; simp only; rw [if_pos h]
theorem parse_f (first : ByteArray) (rest : List ByteArray) (h : first.size ≤ 200 ∧ rest.length ≤ 16) (hF : firstOf first = none) : parseF (first :: rest) = badH 400 := by
  unfold parseF; simp only; rw [if_neg (by omega), hF]
theorem parse_t (first : ByteArray) (rest : List ByteArray) (h : first.size ≤ 200 ∧ rest.length ≤ 16) {m t : ByteArray} (hF : firstOf first = some (m, t)) (hT : takeF rest = none) : parseF (first :: rest) = badH 400 := by
  unfold parseF; simp only; rw [if_neg (by omega), hF]; simp only; rw [hT]
theorem parse_h (first : ByteArray) (rest : List ByteArray) (h : first.size ≤ 200 ∧ rest.length ≤ 16) {m t : ByteArray} {fs : List Fld} (hF : firstOf first = some (m, t)) (hT : takeF rest = some fs) (hh : (valsOf hostN fs).length ≠ 1) : parseF (first :: rest) = badH 400 := by
  unfold parseF; simp only; rw [if_neg (by omega), hF]; simp only; rw [hT]; simp only; rw [if_pos hh]
theorem parse_m (first : ByteArray) (rest : List ByteArray) (h : first.size ≤ 200 ∧ rest.length ≤ 16) {m t : ByteArray} {fs : List Fld} (hF : firstOf first = some (m, t)) (hT : takeF rest = some fs) (hh : (valsOf hostN fs).length = 1)
    (hm : (measureF (valsOf lengthN fs) (valsOf codingN fs)).1 ≠ 0) : parseF (first :: rest) = badH (measureF (valsOf lengthN fs) (valsOf codingN fs)).1 := by
  unfold parseF; simp only; rw [if_neg (by omega), hF]; simp only; rw [hT]; simp only; rw [if_neg (by omega), if_pos hm]
theorem parse_ok (first : ByteArray) (rest : List ByteArray) (h : first.size ≤ 200 ∧ rest.length ≤ 16) {m t : ByteArray} {fs : List Fld} (hF : firstOf first = some (m, t)) (hT : takeF rest = some fs) (hh : (valsOf hostN fs).length = 1)
    (hm : (measureF (valsOf lengthN fs) (valsOf codingN fs)).1 = 0) : parseF (first :: rest) = ⟨m, t, fs, closesF (valsOf connN fs), (measureF (valsOf lengthN fs) (valsOf codingN fs)).2, 0⟩ := by
  unfold parseF; simp only; rw [if_neg (by omega), hF]; simp only; rw [hT]; simp only; rw [if_neg (by omega), if_neg (by omega)]

end Go.Proofs.YtkjlbddaglcooaaDoor
