/- Heads of many fields and long first lines, plainly; no Go. -/
import Derived.Test.YtihdjgjceadooaaDoorFstPlain
namespace Go.Proofs.YtihdjgjceadooaaDoor
open Pl

def fvL : ByteArray := ⟨#[102, 58, 32, 118]⟩
def fS : ByteArray := ⟨#[102]⟩
def vS : ByteArray := ⟨#[118]⟩
theorem fld_fv : fldOf fvL = some (fS, vS) := by rfl
theorem take_rep (n : Nat) : takeF (List.replicate n fvL) = some (List.replicate n (fS, vS)) := by
  induction n with
  | zero => rfl
  | succ n ih => rw [List.replicate_succ, takeF, fld_fv, List.replicate_succ]; simp only [ih]; rfl
theorem take_many (n : Nat) : takeF (hostL :: List.replicate n fvL) = some ((hostN, aS) :: List.replicate n (fS, vS)) := by
  rw [takeF, fld_host]; simp only [take_rep]; rfl
theorem vals_rep (name : ByteArray) (n : Nat) (h : fS ≠ name) : valsOf name (List.replicate n (fS, vS)) = [] := by
  unfold valsOf
  rw [List.filterMap_replicate]
  simp [h]
theorem vals_many (name : ByteArray) (n : Nat) (h : fS ≠ name) : valsOf name ((hostN, aS) :: List.replicate n (fS, vS)) = if hostN = name then [aS] else [] := by
  have := vals_rep name n h
  unfold valsOf at this ⊢
  rw [List.filterMap_cons]
  by_cases e : hostN = name
  · simp only [e, if_true, this]
  · simp only [e, if_false, this]

/-- 'GET /xx.. HTTP/1.1'. -/
def manyL (m : Nat) : List UInt8 := [71, 69, 84, 32, 47] ++ List.replicate m 120 ++ [32, 72, 84, 84, 80, 47, 49, 46, 49]
theorem many_first (L : ByteArray) (m : Nat) (hL : L.data.toList = manyL m) : ∃ t, firstOf L = some (⟨#[71, 69, 84]⟩, t) := by
  have h32 : (32 : UInt8) ∉ (47 : UInt8) :: List.replicate m 120 := by
    intro h
    rw [List.mem_cons] at h
    rcases h with h | h
    · revert h; decide
    · have := List.eq_of_mem_replicate h
      revert this; decide
  have hw : wordsB 32 L.data.toList = [[71, 69, 84], 47 :: List.replicate m 120, httpB] := by
    have := words_three 32 [71, 69, 84] (47 :: List.replicate m 120) httpB (by decide) h32 (by decide)
    rw [hL, ← this]
    simp [manyL, httpB]
  have hF := first_three L (mkB [71, 69, 84]) (mkB (47 :: List.replicate m 120)) (mkB httpB) (by rw [hw, mkB_data, mkB_data, mkB_data])
  rw [mkB_data, mkB_data, mkB_data] at hF
  have hv : valB (47 :: List.replicate m 120) = true := by
    unfold valB
    rw [List.all_eq_true]
    intro c hc
    rw [List.mem_cons] at hc
    rcases hc with rfl | hc
    · decide
    · rw [List.eq_of_mem_replicate hc]; decide
  rw [if_pos ⟨rfl, by decide, by rw [slash_cons]; rfl, hv⟩] at hF
  exact ⟨_, hF⟩
theorem many_size (L : ByteArray) (m : Nat) (hL : L.data.toList = manyL m) : L.size = m + 14 := by
  rw [← data_len, hL]; simp [manyL]
theorem parse_many_long (L : ByteArray) (n m : Nat) (hL : L.data.toList = manyL m) (h : 16 < n + 1 ∨ 200 < m + 14) : parseF (L :: hostL :: List.replicate n fvL) = badH 431 := by
  have := many_size L m hL
  exact parse_long L _ (by simp only [List.length_cons, List.length_replicate]; omega)
theorem parse_many_ok (L : ByteArray) (n m : Nat) (hL : L.data.toList = manyL m) (h1 : n + 1 ≤ 16) (h2 : m + 14 ≤ 200) : ∃ t, parseF (L :: hostL :: List.replicate n fvL) = ⟨⟨#[71, 69, 84]⟩, t, (hostN, aS) :: List.replicate n (fS, vS), false, 0, 0⟩ := by
  have hs := many_size L m hL
  obtain ⟨t, hF⟩ := many_first L m hL
  have v1 : valsOf hostN ((hostN, aS) :: List.replicate n (fS, vS)) = [aS] := by rw [vals_many hostN n (by decide), if_pos rfl]
  have v2 : valsOf lengthN ((hostN, aS) :: List.replicate n (fS, vS)) = [] := by rw [vals_many lengthN n (by decide), if_neg (by decide)]
  have v3 : valsOf codingN ((hostN, aS) :: List.replicate n (fS, vS)) = [] := by rw [vals_many codingN n (by decide), if_neg (by decide)]
  have v4 : valsOf connN ((hostN, aS) :: List.replicate n (fS, vS)) = [] := by rw [vals_many connN n (by decide), if_neg (by decide)]
  refine ⟨t, ?_⟩
  rw [parse_ok L _ ⟨by omega, by simp; omega⟩ hF (take_many n) (by rw [v1]; rfl) (by rw [v2, v3]; rfl), v2, v3, v4]
  rfl

end Go.Proofs.YtihdjgjceadooaaDoor
