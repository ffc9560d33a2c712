/- What the laws use of Encode and Decode. -/
import Derived.Test.YtkbigfjaaiobfaaDoorAnsSame
namespace Go.Proofs.YtkbigfjaaiobfaaDoor
open Go.RowKit Pl Go.Shelf

theorem i64_and65535 (n : Int) : bits .and .i64 n 65535 = n % 65536 := by
  have h : (BitVec.ofInt 64 65535).toNat = 2 ^ 16 - 1 := by decide
  have key : (BitVec.ofInt 64 n &&& BitVec.ofInt 64 65535).toNat = (n % ((2 ^ 64 : Nat) : Int)).toNat % 2 ^ 16 := by
    rw [BitVec.toNat_and, BitVec.toNat_ofInt, h, Nat.and_two_pow_sub_one_eq_mod]
  show IntKind.i64.wrap ((BitVec.ofInt 64 n &&& BitVec.ofInt 64 65535).toNat : Nat) = n % 65536
  rw [key, IntKind.wrap_i64]
  omega

/-- A response reads as these cells, its fields elsewhere. -/
structure RB (w : World) (g : Nat) (r : Rsp) (A : Option Addr) (c : Nat) : Prop where
  blk : w.heap[g]? = some (.cells #[.int .i64 r.st, .slice A r.fs.length c, .string r.body, .bool r.cl] 24 (0, 0))
  fl : Rd w w.heap.size 2 A r.fs.length (fldCells r.fs)
theorem RB.on {w w' : World} {g : Nat} {r : Rsp} {A : Option Addr} {c : Nat} (h : RB w g r A c) (hb : Below w.heap.size w w') : RB w' g r A c :=
  ⟨(hb.block g (blk_lt h.blk)).trans h.blk, (h.fl.below hb (Nat.le_refl _)).wide hb.size⟩
theorem RB.drew {w : World} {g : Nat} {r : Rsp} {A : Option Addr} {c : Nat} (h : RB w g r A c) : RB w.drew g r A c := h.on ((Below.refl _ _).drew)
theorem RB.c0 {w : World} {g : Nat} {r : Rsp} {A : Option Addr} {c : Nat} (h : RB w g r A c) : w.cell? ⟨g, 0, none⟩ = some (.int .i64 r.st) := blk_cell h.blk 0
theorem RB.c1 {w : World} {g : Nat} {r : Rsp} {A : Option Addr} {c : Nat} (h : RB w g r A c) : w.cell? ⟨g, 1, none⟩ = some (.slice A r.fs.length c) := blk_cell h.blk 1
theorem RB.c2 {w : World} {g : Nat} {r : Rsp} {A : Option Addr} {c : Nat} (h : RB w g r A c) : w.cell? ⟨g, 2, none⟩ = some (.string r.body) := blk_cell h.blk 2
theorem RB.c3 {w : World} {g : Nat} {r : Rsp} {A : Option Addr} {c : Nat} (h : RB w g r A c) : w.cell? ⟨g, 3, none⟩ = some (.bool r.cl) := blk_cell h.blk 3
theorem RB.new {w : World} {r : Rsp} {A : Option Addr} (c : Nat) (h : Rd w w.heap.size 2 A r.fs.length (fldCells r.fs)) : RB (w.alloc (.cells #[.int .i64 r.st, .slice A r.fs.length c, .string r.body, .bool r.cl] 24)) w.heap.size r A c :=
  ⟨heap_alloc_new w _, (h.below ((Below.refl _ w).alloc (Nat.le_refl _) _) (Nat.le_refl _)).wide (by simp)⟩

theorem dec_back (r : Rsp) (h : okR r) (more : List UInt8) (s : ByteArray) (hs : s.data.toList = encL r ++ more) (hl : s.size ≤ 1000000000) (w : World) (hg : GV w) :
    Calls Tryd.prog 12 #[.string s] w fun e w' => ∃ A c, e = .returned (.tuple #[.agg #[.int .i64 r.st, .slice A r.fs.length c, .string r.body, .bool r.cl], .string (mkB more), .bool true]) ∧ Rd w' w'.heap.size 2 A r.fs.length (fldCells r.fs) ∧ Below w.heap.size w w' :=
  (dec_any s hl w hg).mono fun e w' ⟨o, fv, hd, he, ho, hb⟩ => by
    rw [hs] at hd
    obtain rfl := dec_enc h hd
    obtain ⟨A, c, hv, hr⟩ := Rd.own (show w'.ownsRow w.heap.size 35 2 fv r.fs.length (fldCells r.fs) from ho)
    subst hv
    exact ⟨A, c, he, hr, hb⟩

theorem dec_less (r : Rsp) (h : okR r) (n : Nat) (hn : n < (encL r).length) (s : ByteArray) (hs : s.data.toList = (encL r).take n) (hl : (encL r).length ≤ 1000000000) (w : World) (hg : GV w) :
    Calls Tryd.prog 12 #[.string s] w fun e w' => e = .returned (.tuple #[.agg #[.int .i64 0, .slice none 0 0, .string ⟨#[]⟩, .bool false], .string ⟨#[]⟩, .bool false]) ∧ Below w.heap.size w w' :=
  (dec_any s (by rw [← data_len, hs, List.length_take]; omega) w hg).mono fun e w' ⟨o, fv, hd, he, _, hb⟩ => by
    rw [hs] at hd
    obtain rfl := dec_cut h n hn (by omega) hd (dec_total _)
    exact ⟨he, hb⟩

theorem itoa_pos (n : Nat) : 1 ≤ (Lib.itoa (n : Int)).length := by
  rw [itoa_nat]
  cases h : Lib.decDigits n with
  | nil => exact absurd h (digits_ne n)
  | cons _ _ => simp
theorem enc_pos (r : Rsp) : 1 ≤ (encL r).length := by
  have := encL_ge r; omega

/-- Plain responses may be. -/
theorem plain_ok (n : Int) (cl : Bool) (h0 : 100 ≤ n) (h1 : n ≤ 999) : okR (plainR n cl) := by
  refine ⟨h0, h1, fun f hf => (by cases hf), ?_⟩
  have : (mkB (wordL n ++ [10])).size ≤ 32 := by rw [mkB_size, List.length_append]; have := word_len n; simp; omega
  show (mkB (wordL n ++ [10])).size < _
  omega
theorem plain_len (n : Int) (cl : Bool) (h0 : 100 ≤ n) (h1 : n ≤ 999) : (encL (plainR n cl)).length ≤ 1000 := by
  have h2 := word_len n
  have h3 := Lib.itoa_length_le n (by omega) (by omega)
  have h4 : (mkB (wordL n ++ [10])).size ≤ 32 := by rw [mkB_size, List.length_append]; simp; omega
  have h5 := Lib.itoa_length_le ((mkB (wordL n ++ [10])).size : Int) (by omega) (by omega)
  have a1 : httpL.length = 8 := rfl
  have a2 : crlf.length = 2 := rfl
  have a3 : lengthIs.length = 16 := rfl
  have a4 : closingL.length = 19 := rfl
  cases cl
  · simp only [encL, plainR, firstL, tailL, List.length_append, List.length_cons, List.flatMap_nil, List.length_nil, data_len, Bool.false_eq_true, if_false]
    omega
  · simp only [encL, plainR, firstL, tailL, List.length_append, List.length_cons, List.flatMap_nil, List.length_nil, data_len, if_true]
    omega

end Go.Proofs.YtkbigfjaaiobfaaDoor
