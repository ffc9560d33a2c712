/- The law AnswerParts, plainly: digits. -/
import Derived.Test.YtkbigfjaaiobfaaDoorAnsRk
import Derived.Laws.Runes
namespace Go.Proofs.YtkbigfjaaiobfaaDoor
open Go.RowKit Pl Go.Shelf

def digU (k : Nat) : UInt8 := UInt8.ofNat (48 + k)
theorem digU_nat (k : Nat) (h : k < 10) : (digU k).toNat = 48 + k := by unfold digU; simp; omega
theorem digU_int (k : Nat) (h : k < 10) : ((digU k).toNat : Int) = 48 + (k : Int) := by rw [digU_nat k h]; omega

theorem three (n : Nat) (h0 : 100 ≤ n) (h1 : n ≤ 999) : ∃ a b c : Nat, a < 10 ∧ b < 10 ∧ c < 10 ∧ n / 100 = a ∧ n / 10 = 10 * a + b ∧ (10 * a + b) % 10 = b ∧ n % 10 = c ∧ Lib.itoa (n : Int) = [digU a, digU b, digU c] := by
  refine ⟨n / 100, n / 10 % 10, n % 10, by omega, by omega, by omega, rfl, by omega, by omega, rfl, ?_⟩
  rw [itoa_nat, Lib.decDigits, dif_neg (by omega), Lib.decDigits, dif_neg (by omega), Lib.decDigits, dif_pos (by omega)]
  have : n / 10 / 10 = n / 100 := by omega
  rw [this]
  rfl

/-- The three digits of a status, under letters. -/
theorem three_int (st : Int) (h0 : 100 ≤ st) (h1 : st ≤ 999) : ∃ (X Y10 Y Z X8 Y8 Z8 : Int) (dx dy dz : UInt8), st.tdiv 100 = X ∧ st.tdiv 10 = Y10 ∧ Y10.tmod 10 = Y ∧ st.tmod 10 = Z ∧ IntKind.i64.wrap X = X ∧ IntKind.i64.wrap Y10 = Y10 ∧ IntKind.i64.wrap (48 + X) = X8 ∧ IntKind.i64.wrap (48 + Y) = Y8 ∧ IntKind.i64.wrap (48 + Z) = Z8 ∧ IntKind.u8.wrap X8 = X8 ∧ IntKind.u8.wrap Y8 = Y8 ∧ IntKind.u8.wrap Z8 = Z8 ∧ (dx.toNat : Int) = X8 ∧ (dy.toNat : Int) = Y8 ∧ (dz.toNat : Int) = Z8 ∧ Lib.itoa st = [dx, dy, dz] := by
  obtain ⟨n, rfl⟩ : ∃ n : Nat, st = (n : Int) := ⟨st.toNat, by omega⟩
  obtain ⟨x, y, z, hx, hy, hz, q1, q2, q3, q4, q5⟩ := three n (by omega) (by omega)
  have wu : ∀ k : Nat, k < 10 → IntKind.u8.wrap (48 + (k : Int)) = 48 + (k : Int) := by
    intro k hk
    have : ∀ k : Fin 10, IntKind.u8.wrap (48 + (k.1 : Int)) = 48 + (k.1 : Int) := by decide
    exact this ⟨k, hk⟩
  refine ⟨x, ((10 * x + y : Nat) : Int), y, z, 48 + (x : Int), 48 + (y : Int), 48 + (z : Int), digU x, digU y, digU z, ?_, ?_, ?_, ?_, wrap_small _ (by omega) (by omega), wrap_small _ (by omega) (by omega), wrap_small _ (by omega) (by omega), wrap_small _ (by omega) (by omega), wrap_small _ (by omega) (by omega), wu x hx, wu y hy, wu z hz, digU_int x hx, digU_int y hy, digU_int z hz, q5⟩
  · rw [Int.tdiv_eq_ediv_of_nonneg (by omega)]; omega
  · rw [Int.tdiv_eq_ediv_of_nonneg (by omega)]; omega
  · rw [Int.tmod_eq_emod_of_nonneg (by omega)]; omega
  · rw [Int.tmod_eq_emod_of_nonneg (by omega)]; omega

/-- One digit of a length, under letters. -/
theorem dig_int (m : Nat) (h : m ≤ 2000) : ∃ (Q Q8 M2 : Int) (dq : UInt8), (m : Int).tmod 10 = Q ∧ IntKind.i64.wrap (48 + Q) = Q8 ∧ IntKind.u8.wrap Q8 = Q8 ∧ (m : Int).tdiv 10 = M2 ∧ IntKind.i64.wrap M2 = M2 ∧ (dq.toNat : Int) = Q8 ∧ dq = digU (m % 10) ∧ M2 = ((m / 10 : Nat) : Int) := by
  have wu : ∀ k : Nat, k < 10 → IntKind.u8.wrap (48 + (k : Int)) = 48 + (k : Int) := by
    intro k hk
    have : ∀ k : Fin 10, IntKind.u8.wrap (48 + (k.1 : Int)) = 48 + (k.1 : Int) := by decide
    exact this ⟨k, hk⟩
  have hk : m % 10 < 10 := Nat.mod_lt _ (by decide)
  refine ⟨((m % 10 : Nat) : Int), 48 + ((m % 10 : Nat) : Int), ((m / 10 : Nat) : Int), digU (m % 10), ?_, wrap_small _ (by omega) (by omega), wu _ hk, ?_, wrap_small _ (by omega) (by omega), digU_int _ hk, rfl, rfl⟩
  · rw [Int.tmod_eq_emod_of_nonneg (by omega)]; omega
  · rw [Int.tdiv_eq_ediv_of_nonneg (by omega)]; omega

/-- Where the law's digits stand: n is still to be written ahead of d. -/
def DS (N n : Nat) (d : ByteArray) (ok : Bool) : Prop := (ok = true ∧ Lib.decDigits N = Lib.decDigits n ++ d.data.toList) ∨ (ok = false ∧ Lib.decDigits N = d.data.toList)
theorem ds_start (N : Nat) : DS N N ⟨#[]⟩ true := .inl ⟨rfl, by simp⟩
theorem ds_more {N n : Nat} {d d' : ByteArray} (h : DS N n d true) (hd : d'.data.toList = digU (n % 10) :: d.data.toList) : DS N (n / 10) d' (decide (0 < n / 10)) := by
  rcases h with ⟨_, h⟩ | ⟨h, _⟩
  · by_cases h10 : n < 10
    · right
      have e : n / 10 = 0 := by omega
      have e2 : n % 10 = n := by omega
      refine ⟨by rw [e]; rfl, ?_⟩
      rw [h, hd, Lib.decDigits_one h10, e2]
      rfl
    · left
      refine ⟨decide_eq_true (by omega), ?_⟩
      rw [h, hd, Lib.decDigits, dif_neg h10]
      simp [digU]
  · cases h

theorem convs (W : World) (B off : Nat) (l : List UInt8) (cap : Nat) (hc : ∀ i (hi : i < l.length), W.cell? ⟨B, off + i, none⟩ = some (.int .u8 (l[i].toNat : Int))) : (convert 32 9 (.slice (some ⟨B, off, none⟩) l.length cap)).run Tryd.prog W = .ok (.string ⟨l.toArray⟩) W := by
  have := run_convert_bytes_arg (P := Tryd.prog) W 32 5 Tryd.underlying32 Tryd.underlying5 B off l.length cap (l.map fun b => (b.toNat : Int)) (by simp) (fun i hi => by rw [hc i hi]; simp [hi]) 9 Tryd.underlying9
  rw [this]
  simp [strOfNums, Function.comp_def]
theorem conv1 (W : World) (x : Int) (d : UInt8) (h : (d.toNat : Int) = x) : (convert 32 9 (.slice (some ⟨W.heap.size, 0, none⟩) 1 1)).run Tryd.prog (W.alloc (.cells #[.int .u8 x] 5)) = .ok (.string ⟨#[d]⟩) (W.alloc (.cells #[.int .u8 x] 5)) := by
  subst h
  exact convs _ W.heap.size 0 [d] 1 (fun i hi => by
    obtain rfl : i = 0 := by simpa using hi
    exact blk_cell (heap_alloc_new W _) 0)
theorem conv3 (W : World) (x y z : Int) (d e f : UInt8) (h : (d.toNat : Int) = x) (k : (e.toNat : Int) = y) (l : (f.toNat : Int) = z) : (convert 32 9 (.slice (some ⟨W.heap.size, 0, none⟩) 3 3)).run Tryd.prog (W.alloc (.cells #[.int .u8 x, .int .u8 y, .int .u8 z] 5)) = .ok (.string ⟨#[d, e, f]⟩) (W.alloc (.cells #[.int .u8 x, .int .u8 y, .int .u8 z] 5)) := by
  subst h k l
  exact convs _ W.heap.size 0 [d, e, f] 3 (fun i hi => by
    have : i = 0 ∨ i = 1 ∨ i = 2 := by simp at hi; omega
    rcases this with rfl | rfl | rfl
    · exact blk_cell (heap_alloc_new W _) 0
    · exact blk_cell (heap_alloc_new W _) 1
    · exact blk_cell (heap_alloc_new W _) 2)

end Go.Proofs.YtkbigfjaaiobfaaDoor
