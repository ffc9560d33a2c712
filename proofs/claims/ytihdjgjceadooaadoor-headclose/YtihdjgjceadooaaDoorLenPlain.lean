/- Heads with a length, plainly; no Go. -/
import Derived.Test.YtihdjgjceadooaaDoorDigPlain
namespace Go.Proofs.YtihdjgjceadooaaDoor
open Pl

def putL : ByteArray := ⟨#[80, 85, 84, 32, 47, 32, 72, 84, 84, 80, 47, 49, 46, 49]⟩
def hostL : ByteArray := ⟨#[104, 111, 115, 116, 58, 32, 97]⟩
def lenP : ByteArray := ⟨#[99, 111, 110, 116, 101, 110, 116, 45, 108, 101, 110, 103, 116, 104, 58, 32]⟩
def chunkL : ByteArray := ⟨#[116, 114, 97, 110, 115, 102, 101, 114, 45, 101, 110, 99, 111, 100, 105, 110, 103, 58, 32, 99, 104, 117, 110, 107, 101, 100]⟩
def aS : ByteArray := ⟨#[97]⟩
theorem first_put : firstOf putL = some (⟨#[80, 85, 84]⟩, ⟨#[47]⟩) := by rfl
theorem fld_host : fldOf hostL = some (hostN, aS) := by rfl
theorem fld_chunk : fldOf chunkL = some (codingN, chunkedN) := by rfl
theorem fld_len (L : ByteArray) (q : List UInt8) (hq : digB q) (hL : L.data.toList = lenP.data.toList ++ q) : fldOf L = some (lengthN, mkB q) := by
  have hc : cutL L.data.toList = some (lengthN.data.toList, 32 :: q) := by
    rw [hL]
    exact cutL_app lengthN.data.toList (32 :: q) (by decide)
  have hc2 : cutL L.data.toList = some (lengthN.data.toList, (mkB (32 :: q)).data.toList) := by rw [hc, mkB_data]
  unfold fldOf
  rw [hc]
  have h1 : tokB lengthN.data.toList = true := by decide
  have h2 : valB (32 :: q) = true := by rw [valB_cons, dig_val hq]; rfl
  have h3 : mkB (lowB lengthN.data.toList) = lengthN := by rfl
  simp only [h1, h2, Bool.and_self, if_true, h3, tr_blank q (dig_bl hq)]
theorem byLen_of (q : List UInt8) (n : Nat) (h : numB 10 q = some (n : Int)) : byLen (mkB q) = if 600 < n then (413, 0) else (0, (n : Int)) := by
  unfold byLen
  rw [mkB_data, h]
  by_cases hn : 600 < n
  · have : (600 : Int) < (n : Int) := by omega
    simp [hn, this]
  · have : ¬ (600 : Int) < (n : Int) := by omega
    simp [hn, this]
theorem take_len (L : ByteArray) (q : List UInt8) (hq : digB q) (hL : L.data.toList = lenP.data.toList ++ q) : takeF [hostL, L] = some [(hostN, aS), (lengthN, mkB q)] := by
  simp [takeF, fld_host, fld_len L q hq hL]
theorem take_lens (L : ByteArray) (q : List UInt8) (hq : digB q) (hL : L.data.toList = lenP.data.toList ++ q) : takeF [hostL, L, chunkL] = some [(hostN, aS), (lengthN, mkB q), (codingN, chunkedN)] := by
  simp [takeF, fld_host, fld_len L q hq hL, fld_chunk]
theorem vals_len (x : ByteArray) : valsOf hostN [(hostN, aS), (lengthN, x)] = [aS] ∧ valsOf lengthN [(hostN, aS), (lengthN, x)] = [x] ∧ valsOf codingN [(hostN, aS), (lengthN, x)] = [] ∧ valsOf connN [(hostN, aS), (lengthN, x)] = [] := ⟨rfl, rfl, rfl, rfl⟩
theorem vals_lens (x : ByteArray) : valsOf hostN [(hostN, aS), (lengthN, x), (codingN, chunkedN)] = [aS] ∧ valsOf lengthN [(hostN, aS), (lengthN, x), (codingN, chunkedN)] = [x] ∧ valsOf codingN [(hostN, aS), (lengthN, x), (codingN, chunkedN)] = [chunkedN] := ⟨rfl, rfl, rfl⟩

theorem parse_lens (L : ByteArray) (q : List UInt8) (hq : digB q) (hL : L.data.toList = lenP.data.toList ++ q) : parseF [putL, hostL, L, chunkL] = badH 400 := by
  obtain ⟨v1, v2, v3⟩ := vals_lens (mkB q)
  rw [parse_m putL _ ⟨by decide, by simp⟩ first_put (take_lens L q hq hL) (by rw [v1]; rfl) (by rw [v2, v3]; show (400 : Int) ≠ 0; decide), v2, v3]
  rfl
theorem parse_len_big (L : ByteArray) (q : List UInt8) (hq : digB q) (hL : L.data.toList = lenP.data.toList ++ q) (n : Nat) (hn : numB 10 q = some (n : Int)) (hb : 600 < n) : parseF [putL, hostL, L] = badH 413 := by
  obtain ⟨v1, v2, v3, v4⟩ := vals_len (mkB q)
  have hm : measureF [mkB q] [] = (413, 0) := by show byLen (mkB q) = _; rw [byLen_of q n hn, if_pos hb]
  rw [parse_m putL _ ⟨by decide, by simp⟩ first_put (take_len L q hq hL) (by rw [v1]; rfl) (by rw [v2, v3, hm]; decide), v2, v3, hm]
theorem parse_len_ok (L : ByteArray) (q : List UInt8) (hq : digB q) (hL : L.data.toList = lenP.data.toList ++ q) (n : Nat) (hn : numB 10 q = some (n : Int)) (hb : ¬ 600 < n) : parseF [putL, hostL, L] = ⟨⟨#[80, 85, 84]⟩, ⟨#[47]⟩, [(hostN, aS), (lengthN, mkB q)], false, n, 0⟩ := by
  obtain ⟨v1, v2, v3, v4⟩ := vals_len (mkB q)
  have hm : measureF [mkB q] [] = (0, (n : Int)) := by show byLen (mkB q) = _; rw [byLen_of q n hn, if_neg hb]
  rw [parse_ok putL _ ⟨by decide, by simp⟩ first_put (take_len L q hq hL) (by rw [v1]; rfl) (by rw [v2, v3, hm]), v2, v3, v4, hm]
  rfl

end Go.Proofs.YtihdjgjceadooaaDoor
