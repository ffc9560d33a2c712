/- The walk of the law AsciiHex. -/
import Derived.Test.YteenbddmdoogdaaHexPlain
import Derived.Test.YteenbddmdoogdaaWordsWalk
import Derived.Test.YteenbddmdoogdaaLower
namespace Go.Proofs.Yteenbddmdoogdaa
open Go.RowKit Pl

def strNone : Value → Nat | .string s => (if s.size = 0 then 1 else 0) | _ => 0
theorem strNone_empty (s : ByteArray) (h : s.size = 0) : strNone (.string s) = 1 := by simp [strNone, h]
theorem strNone_more (s : ByteArray) (h : 0 < s.size) : strNone (.string s) = 0 := by rw [strNone, if_neg (by omega)]

theorem i64_and7 (n : Int) : bits .and .i64 n 7 = n % 8 := by
  have h : (BitVec.ofInt 64 7).toNat = 2 ^ 3 - 1 := by decide
  have key : (BitVec.ofInt 64 n &&& BitVec.ofInt 64 7).toNat = (n % ((2 ^ 64 : Nat) : Int)).toNat % 2 ^ 3 := by
    rw [BitVec.toNat_and, BitVec.toNat_ofInt, h, Nat.and_two_pow_sub_one_eq_mod]
  show IntKind.i64.wrap ((BitVec.ofInt 64 n &&& BitVec.ofInt 64 7).toNat : Nat) = n % 8
  rw [key, IntKind.wrap_i64]
  omega
theorem i64_and30 (n : Int) : bits .and .i64 n 1073741823 = n % 1073741824 := by
  have h : (BitVec.ofInt 64 1073741823).toNat = 2 ^ 30 - 1 := by decide
  have key : (BitVec.ofInt 64 n &&& BitVec.ofInt 64 1073741823).toNat = (n % ((2 ^ 64 : Nat) : Int)).toNat % 2 ^ 30 := by
    rw [BitVec.toNat_and, BitVec.toNat_ofInt, h, Nat.and_two_pow_sub_one_eq_mod]
  show IntKind.i64.wrap ((BitVec.ofInt 64 n &&& BitVec.ofInt 64 1073741823).toNat : Nat) = n % 1073741824
  rw [key, IntKind.wrap_i64]
  omega

theorem one_byte_at (v : Int) (b : UInt8) (h : v = (b.toNat : Int)) (W : World) : (convert 24 9 (.slice (some ⟨W.heap.size, 0, none⟩) 1 1)).run Try.prog (W.alloc (.cells #[.int .u8 v] 5)) = .ok (.string ⟨#[b]⟩) (W.alloc (.cells #[.int .u8 v] 5)) := by
  subst h; exact one_byte b W

def hexS : ByteArray := ⟨#[48, 49, 50, 51, 52, 53, 54, 55, 56, 57, 65, 66, 67, 68, 69, 70]⟩
theorem hexS_at (r : Nat) (h : r < 16) : hexS.extract r (r + 1) = ⟨#[hexC r]⟩ := by
  have : ∀ r : Fin 16, hexS.extract r.1 (r.1 + 1) = ⟨#[hexC r.1]⟩ := by decide
  exact this ⟨r, h⟩
def zeroS : ByteArray := ⟨#[48, 48, 48, 48, 48, 48, 48]⟩
theorem zeroS_to (m : Nat) (h : m < 8) : (zeroS.extract 0 m).data.toList = List.replicate m 48 := by
  have : ∀ m : Fin 8, (zeroS.extract 0 m.1).data.toList = List.replicate m.1 48 := by decide
  exact this ⟨m, h⟩
theorem hex_read10 (D : ByteArray) (m n : Nat) (hm : m < 8) (hne : D.data.toList ≠ []) (h : numGo 10 0 D.data.toList = some (n : Int)) (w : World) : Calls Try.prog 13 #[.string (zeroS.extract 0 m ++ D), .int .i64 10] w fun e w' => e = .returned (.tuple #[.int .i64 n, .bool true]) ∧ Below w.heap.size w w' := by
  have := num10_any (zeroS.extract 0 m ++ D) w
  rw [app_data, zeroS_to m hm, num_zeros 10 (.inl rfl) _ m n hne h] at this
  exact this
theorem hex_read16 (D : ByteArray) (m n : Nat) (hm : m < 8) (hne : D.data.toList ≠ []) (h : numGo 16 0 D.data.toList = some (n : Int)) (w : World) : Calls Try.prog 13 #[.string (zeroS.extract 0 m ++ D), .int .i64 16] w fun e w' => e = .returned (.tuple #[.int .i64 n, .bool true]) ∧ Below w.heap.size w w' := by
  have := num16_any (zeroS.extract 0 m ++ D) w
  rw [app_data, zeroS_to m hm, num_zeros 16 (.inr rfl) _ m n hne h] at this
  exact this
theorem hex_lower (E : ByteArray) (h : E.size ≤ 1000000000000) (w : World) : Calls Try.prog 15 #[.string E] w fun e w' => e = .returned (.string ⟨(lowB E.data.toList).toArray⟩) ∧ Below w.heap.size w w' := lower_any E w h
theorem hex_readlow (E : ByteArray) (n : Nat) (hne : E.data.toList ≠ []) (h : numGo 16 0 E.data.toList = some (n : Int)) (w : World) : Calls Try.prog 13 #[.string ⟨(lowB E.data.toList).toArray⟩, .int .i64 16] w fun e w' => e = .returned (.tuple #[.int .i64 n, .bool true]) ∧ Below w.heap.size w w' := by
  have := num16_any ⟨(lowB E.data.toList).toArray⟩ w
  rw [show (⟨(lowB E.data.toList).toArray⟩ : ByteArray).data.toList = lowB E.data.toList from by simp, num_low _ n hne h] at this
  exact this

theorem below_alloc {w W : World} (h : Below w.heap.size w W) (o : Obj) : Below w.heap.size w (W.alloc o) := h.alloc h.size o

set_option maxHeartbeats 4000000 in
theorem hex_walk (n0 m0 : Int) (w : World) : Calls Try.prog 8 #[.int .i64 n0, .int .i64 m0] w fun e w' => e = .returned (.bool true) ∧ Below w.heap.size w w' := by
  go_enter Try.func8, Try.ntmps8
  go_wp2_with fail
  refine (fit_any _).mono ?_
  rintro e w1 ⟨rfl, hb1⟩
  go_wp2_with fail
  rw [i64_and7, i64_and30]
  obtain ⟨n, hn⟩ : ∃ n : Nat, n0 % 1073741824 = (n : Int) := ⟨(n0 % 1073741824).toNat, by omega⟩
  obtain ⟨m, hm⟩ : ∃ m : Nat, m0 % 8 = (m : Int) := ⟨(m0 % 8).toNat, by omega⟩
  have hnb : n < 1073741824 := by omega
  have hmb : m < 8 := by omega
  rw [hn, hm]
  clear hn hm
  go_loopw [5, 7] (fun d i wr => ∃ (k : Nat) (D : ByteArray), i = .int .i64 k ∧ d = .string D ∧ k ≤ n ∧ D.size + k ≤ 1073741824 ∧ Hid (numGo 10 k D.data.toList = some (n : Int)) ∧ Below w.heap.size w wr) (fun d i _ => (intOf i).toNat + strNone d)
  case atStart => exact ⟨n, ⟨#[]⟩, rfl, rfl, by omega, by have : (⟨#[]⟩ : ByteArray).size = 0 := rfl; omega, rfl, hb1⟩
  case round =>
    obtain ⟨k, D, rfl, rfl, hk, hDk, hnum, hbr⟩ := hrel
    have hst := dec_step k D.data.toList n (by omega) hnum.out
    have hcv := one_byte_at (48 + (k : Int) % 10) (decC (k % 10)) (by rw [decC_toNat _ (by omega)]; omega) wr
    have hsz : (⟨#[decC (k % 10)]⟩ ++ D : ByteArray).size = 1 + D.size := app_size _ _
    have hdt : (⟨#[decC (k % 10)]⟩ ++ D : ByteArray).data.toList = decC (k % 10) :: D.data.toList := app_data _ _
    rw [← hdt] at hst
    have HST := Lib.hid hst
    have HSZ := Lib.hid hsz
    clear hst hdt hsz
    by_cases hk0 : 0 < k
    · go_wp2
      go_roundw
      case rel => exact ⟨k / 10, ⟨#[decC (k % 10)]⟩ ++ D, by go_num, rfl, by omega, by rw [HSZ.out]; omega, HST, below_alloc hbr _⟩
      case measure =>
        have h1 : 0 < (⟨#[decC (k % 10)]⟩ ++ D : ByteArray).size := by rw [HSZ.out]; omega
        rw [strNone_more _ h1]
        simp [intOf]; omega
    · by_cases hD0 : D.size = 0
      · have he : D.toList.isEmpty = true := str_empty D (List.eq_nil_of_length_eq_zero (by rw [← Lib.size_eq]; exact hD0))
        go_wp2
        go_roundw
        case rel => exact ⟨k / 10, ⟨#[decC (k % 10)]⟩ ++ D, by go_num, rfl, by omega, by rw [HSZ.out]; omega, HST, below_alloc hbr _⟩
        case measure =>
          have h1 : 0 < (⟨#[decC (k % 10)]⟩ ++ D : ByteArray).size := by rw [HSZ.out]; omega
          rw [strNone_more _ h1, strNone_empty D hD0]
          simp [intOf]; omega
      · have he : D.toList.isEmpty = false := str_nonempty D (fun e => hD0 (by rw [Lib.size_eq, e]; rfl))
        have hDne : D.data.toList ≠ [] := fun e => hD0 (by rw [Lib.size_eq, e]; rfl)
        have hnum0 : numGo 10 0 D.data.toList = some (n : Int) := by have := hnum.out; rwa [show k = 0 from by omega] at this
        have HN := Lib.hid hnum0
        have HNE := Lib.hid hDne
        clear hcv HST HSZ hnum0 hDne hnum
        go_wp2
        have hDs : D.size ≤ 1073741824 := by omega
        clear hk hDk he hk0 hD0
        generalize (k : Int) = kk at *
        go_loop [6, 8] (fun d i => ∃ (k : Nat) (E : ByteArray), i = .int .i64 k ∧ d = .string E ∧ k ≤ n ∧ E.size + k ≤ 1073741824 ∧ Hid (numGo 16 k E.data.toList = some (n : Int))) (fun d i => (intOf i).toNat + strNone d)
        case atStart => exact ⟨n, ⟨#[]⟩, rfl, rfl, by omega, by have : (⟨#[]⟩ : ByteArray).size = 0 := rfl; omega, rfl⟩
        case round =>
          obtain ⟨k, E, rfl, rfl, hk, hEk, hnum⟩ := hrel
          have hst := hex_step k E.data.toList n (by omega) hnum.out
          have hsz : (hexS.extract (k % 16) (k % 16 + 1) ++ E : ByteArray).size = 1 + E.size := by rw [hexS_at _ (by omega)]; exact app_size _ _
          have hdt : (hexS.extract (k % 16) (k % 16 + 1) ++ E : ByteArray).data.toList = hexC (k % 16) :: E.data.toList := by rw [hexS_at _ (by omega)]; exact app_data _ _
          rw [← hdt] at hst
          have HST := Lib.hid hst
          have HSZ := Lib.hid hsz
          clear hst hdt hsz
          by_cases hk0 : 0 < k
          · go_wp2
            go_round
            case rel => exact ⟨k / 16, hexS.extract (k % 16) (k % 16 + 1) ++ E, by go_num, rfl, by omega, by rw [HSZ.out]; omega, HST⟩
            case measure =>
              have h1 : 0 < (hexS.extract (k % 16) (k % 16 + 1) ++ E : ByteArray).size := by rw [HSZ.out]; omega
              have h2 : strNone (.string (hexS.extract (k % 16) (k % 16 + 1) ++ E)) = 0 := strNone_more _ h1
              unfold hexS at h2
              rw [h2]
              simp [intOf]; omega
          · by_cases hE0 : E.size = 0
            · have he : E.toList.isEmpty = true := str_empty E (List.eq_nil_of_length_eq_zero (by rw [← Lib.size_eq]; exact hE0))
              go_wp2
              go_round
              case rel => exact ⟨k / 16, hexS.extract (k % 16) (k % 16 + 1) ++ E, by go_num, rfl, by omega, by rw [HSZ.out]; omega, HST⟩
              case measure =>
                have h1 : 0 < (hexS.extract (k % 16) (k % 16 + 1) ++ E : ByteArray).size := by rw [HSZ.out]; omega
                have h2 : strNone (.string (hexS.extract (k % 16) (k % 16 + 1) ++ E)) = 0 := strNone_more _ h1
                unfold hexS at h2
                rw [h2, strNone_empty E hE0]
                simp [intOf]; omega
            · have he : E.toList.isEmpty = false := str_nonempty E (fun e => hE0 (by rw [Lib.size_eq, e]; rfl))
              have hEne : E.data.toList ≠ [] := fun e => hE0 (by rw [Lib.size_eq, e]; rfl)
              have hnum0 : numGo 16 0 E.data.toList = some (n : Int) := by have := hnum.out; rwa [show k = 0 from by omega] at this
              have C1 := hex_read10 D m n (by omega) HNE.out HN.out
              have C2 := hex_read16 E m n (by omega) hEne hnum0
              have C3 := hex_lower E (by omega)
              have C4 := hex_readlow E n hEne hnum0
              have hDs : D.size ≤ 1073741824 := hDs
              unfold zeroS at C1 C2
              have K1 := Lib.hid C1; have K2 := Lib.hid C2; have K3 := Lib.hid C3; have K4 := Lib.hid C4
              clear C1 C2 C3 C4 hnum0 hEne HST HSZ
              go_wp2_with fail
              refine (K1.out _).mono ?_
              rintro e w4 ⟨rfl, hb4⟩
              go_wp2_with fail
              refine (K2.out _).mono ?_
              rintro e w5 ⟨rfl, hb5⟩
              go_wp2_with fail
              refine (K3.out _).mono ?_
              rintro e w6 ⟨rfl, hb6⟩
              go_wp2_with fail
              refine (K4.out _).mono ?_
              rintro e w7 ⟨rfl, hb7⟩
              have hnn : ((n : Int) == (n : Int)) = true := by simp
              go_wp2
              go_ret
              exact ⟨rfl, bt (bt (bt (bt hbr hb4) hb5) hb6) hb7⟩

theorem hex_any (n0 m0 : Int) (w : World) (_hn : (Lit.int .i64 n0).wf = true) (_hm : (Lit.int .i64 m0).wf = true) : Calls Try.prog 8 #[.int .i64 n0, .int .i64 m0] w fun e w' => e = .returned (.bool true) ∧ Below w.heap.size w w' := hex_walk n0 m0 w

end Go.Proofs.Yteenbddmdoogdaa
