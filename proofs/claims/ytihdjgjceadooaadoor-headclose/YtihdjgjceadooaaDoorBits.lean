/- Masks, one byte as a text, rows of the laws' own. -/
import Derived.Test.YtihdjgjceadooaaDoorFit
import Derived.Laws.BytesArg
namespace Go.Proofs.YtihdjgjceadooaaDoor
open Go.RowKit Pl

theorem i64_and3 (n : Int) : bits .and .i64 n 3 = n % 4 := by
  have h : (BitVec.ofInt 64 3).toNat = 2 ^ 2 - 1 := by decide
  have key : (BitVec.ofInt 64 n &&& BitVec.ofInt 64 3).toNat = (n % ((2 ^ 64 : Nat) : Int)).toNat % 2 ^ 2 := by
    rw [BitVec.toNat_and, BitVec.toNat_ofInt, h, Nat.and_two_pow_sub_one_eq_mod]
  show IntKind.i64.wrap ((BitVec.ofInt 64 n &&& BitVec.ofInt 64 3).toNat : Nat) = n % 4
  rw [key, IntKind.wrap_i64]
  omega
theorem i64_and31 (n : Int) : bits .and .i64 n 31 = n % 32 := by
  have h : (BitVec.ofInt 64 31).toNat = 2 ^ 5 - 1 := by decide
  have key : (BitVec.ofInt 64 n &&& BitVec.ofInt 64 31).toNat = (n % ((2 ^ 64 : Nat) : Int)).toNat % 2 ^ 5 := by
    rw [BitVec.toNat_and, BitVec.toNat_ofInt, h, Nat.and_two_pow_sub_one_eq_mod]
  show IntKind.i64.wrap ((BitVec.ofInt 64 n &&& BitVec.ofInt 64 31).toNat : Nat) = n % 32
  rw [key, IntKind.wrap_i64]
  omega
theorem i64_and511 (n : Int) : bits .and .i64 n 511 = n % 512 := by
  have h : (BitVec.ofInt 64 511).toNat = 2 ^ 9 - 1 := by decide
  have key : (BitVec.ofInt 64 n &&& BitVec.ofInt 64 511).toNat = (n % ((2 ^ 64 : Nat) : Int)).toNat % 2 ^ 9 := by
    rw [BitVec.toNat_and, BitVec.toNat_ofInt, h, Nat.and_two_pow_sub_one_eq_mod]
  show IntKind.i64.wrap ((BitVec.ofInt 64 n &&& BitVec.ofInt 64 511).toNat : Nat) = n % 512
  rw [key, IntKind.wrap_i64]
  omega
theorem i64_and65535 (n : Int) : bits .and .i64 n 65535 = n % 65536 := by
  have h : (BitVec.ofInt 64 65535).toNat = 2 ^ 16 - 1 := by decide
  have key : (BitVec.ofInt 64 n &&& BitVec.ofInt 64 65535).toNat = (n % ((2 ^ 64 : Nat) : Int)).toNat % 2 ^ 16 := by
    rw [BitVec.toNat_and, BitVec.toNat_ofInt, h, Nat.and_two_pow_sub_one_eq_mod]
  show IntKind.i64.wrap ((BitVec.ofInt 64 n &&& BitVec.ofInt 64 65535).toNat : Nat) = n % 65536
  rw [key, IntKind.wrap_i64]
  omega

theorem app_data (a b : ByteArray) : (a ++ b).data.toList = a.data.toList ++ b.data.toList := by
  simp
theorem app_size (a b : ByteArray) : (a ++ b).size = a.size + b.size := by
  simp
theorem one_byte (b : UInt8) (W : World) : (convert 40 9 (.slice (some ⟨W.heap.size, 0, none⟩) 1 1)).run Tryd.prog (W.alloc (.cells #[.int .u8 (b.toNat : Int)] 5)) = .ok (.string ⟨#[b]⟩) (W.alloc (.cells #[.int .u8 (b.toNat : Int)] 5)) := by
  have := run_convert_bytes_arg (P := Tryd.prog) (W.alloc (.cells #[.int .u8 (b.toNat : Int)] 5)) 40 5 Tryd.underlying40 Tryd.underlying5 W.heap.size 0 1 1 [(b.toNat : Int)] rfl (fun i hi => by
    obtain rfl : i = 0 := by omega
    simp) 9 Tryd.underlying9
  rw [this]
  simp [strOfNums]
theorem one_byte_at (v : Int) (b : UInt8) (h : v = (b.toNat : Int)) (W : World) : (convert 40 9 (.slice (some ⟨W.heap.size, 0, none⟩) 1 1)).run Tryd.prog (W.alloc (.cells #[.int .u8 v] 5)) = .ok (.string ⟨#[b]⟩) (W.alloc (.cells #[.int .u8 v] 5)) := by
  subst h; exact one_byte b W

theorem field_status (u0 u1 u2 u3 u4 u5 : Value) (st : Int) (W : World) : (Instr.field 32 (.agg #[u0, u1, u2, u3, u4, u5, .int .i64 st]) 2).run Tryd.prog W = .ok (.int .i64 st) W := by kernel_rfl
theorem field_request (u0 u1 u2 u3 u4 u5 u6 : Value) (W : World) : (Instr.field 32 (.agg #[u0, u1, u2, u3, u4, u5, u6]) 0).run Tryd.prog W = .ok (.agg #[u0, u1, u2, u3, u4]) W := by kernel_rfl
theorem field_fields (u0 u1 u3 u4 : Value) (A : Option Addr) (n c : Nat) (W : World) : (Instr.field 30 (.agg #[u0, u1, .slice A n c, u3, u4]) 2).run Tryd.prog W = .ok (.slice A n c) W := by kernel_rfl

def strNone : Value → Nat
  | .string s => if s.size = 0 then 1 else 0
  | _ => 0
theorem strNone_more (s : ByteArray) (h : 0 < s.size) : strNone (.string s) = 0 := by show (if s.size = 0 then 1 else 0) = 0; rw [if_neg (by omega)]
theorem strNone_empty (s : ByteArray) (h : s.size = 0) : strNone (.string s) = 1 := by show (if s.size = 0 then 1 else 0) = 1; rw [if_pos h]

/-- A row of one's own reads as its cells. -/
theorem own_rd {w : World} {base k n : Nat} {e : TypeId} {v : Value} {xs : List Value} (h : w.ownsRow base e k v n xs) (hn : 0 < n) : ∃ g c, v = .slice (some ⟨g, 0, none⟩) n c ∧ Rd w w.heap.size k (some ⟨g, 0, none⟩) n xs ∧ n ≤ c ∧ c ≤ maxLen ∧ base ≤ g ∧ g < w.heap.size := by
  rcases h.2 with ⟨_, h0⟩ | ⟨g, cap, cur, rfl, hb, hh, hc, hm, _⟩
  · omega
  · exact ⟨g, cap, rfl, ⟨h.1, fun _ => ⟨_, rfl, blk_lt hh, fun j u hu => h.cells (g := g) rfl j u hu⟩⟩, hc, hm, hb, blk_lt hh⟩

end Go.Proofs.YtihdjgjceadooaaDoor
