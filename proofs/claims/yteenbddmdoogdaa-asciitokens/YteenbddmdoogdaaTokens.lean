/- The walk of the law AsciiTokens. -/
import Derived.Test.YteenbddmdoogdaaFit
import Derived.Laws.IdiomStrings
import Derived.Lib.SlBytesConst
namespace Go.Proofs.Yteenbddmdoogdaa
open Go.RowKit Pl

/-- What '[]byte(s)' leaves: a new block that holds s's bytes. -/
def bytesWorld (w : World) (s : ByteArray) (c : Nat) : World := (w.alloc (Obj.cells (bytesRow s c) 5 ((bytesRow s c).size, (bytesRow s c).size + 1))).drew
theorem bytesWorld_below (w : World) (s : ByteArray) (c : Nat) : Below w.heap.size w (bytesWorld w s c) := ((Below.refl _ _).alloc (Nat.le_refl _) _).drew
theorem bytesWorld_size (w : World) (s : ByteArray) (c : Nat) : (bytesWorld w s c).heap.size = w.heap.size + 1 := by simp [bytesWorld]
theorem bytesWorld_cell (w : World) (s : ByteArray) (c k : Nat) (h : k < s.size) : (bytesWorld w s c).cell? ⟨w.heap.size, k, none⟩ = some (.int .u8 ((s[k]'h).toNat : Int)) := by
  show (w.alloc (Obj.cells (bytesRow s c) 5 _)).cell? _ = _
  rw [World.cell?_alloc_mark]
  have h1 : k < (Array.map (fun b : UInt8 => Value.int .u8 (b.toNat : Int)) s.data).size := by simpa using h
  rw [bytesRow, Array.getElem?_append_left h1, Array.getElem?_eq_getElem h1, Array.getElem_map]
  rfl

def marksN : List Nat := [33, 35, 36, 37, 38, 39, 42, 43, 45, 46, 94, 95, 124, 126, 96]
def alnumN (c : Nat) : Bool := decide (48 ≤ c ∧ c ≤ 57) || decide (65 ≤ c ∧ c ≤ 90) || decide (97 ≤ c ∧ c ≤ 122)
def inTo (c j : Nat) : Bool := alnumN c || (marksN.take j).any fun m => m == c
theorem inTo_zero (c : Nat) : inTo c 0 = alnumN c := by simp [inTo]
theorem inTo_all (c : Nat) : inTo c 15 = nameR (c : Int) := by
  rw [Bool.eq_iff_iff]
  simp [inTo, alnumN, marksN, nameR, markR, capR]
  omega
theorem inTo_step (c j : Nat) (h : j < 15) : inTo c (j + 1) = (inTo c j || marksN.getD j 0 == c) := by
  have h' : j < marksN.length := h
  unfold inTo
  rw [List.take_succ_eq_append_getElem h', List.any_append]
  simp [h', Bool.or_assoc]
theorem marks_lt (j : Nat) : marksN.getD j 0 < 256 := by
  by_cases h : j < 15
  · have : ∀ j : Fin 15, marksN.getD j.1 0 < 256 := by decide
    exact this ⟨j, h⟩
  · have : marksN.getD j 0 = 0 := by simp [List.getD, List.getElem?_eq_none (show marksN.length ≤ j from by simp [marksN]; omega)]
    omega

theorem alnum_cases (c : Nat) : (Hid (alnumN c = true) ∧ 48 ≤ c ∧ c ≤ 57) ∨ (Hid (alnumN c = true) ∧ 65 ≤ c ∧ c ≤ 90) ∨ (Hid (alnumN c = true) ∧ 97 ≤ c ∧ c ≤ 122) ∨ (Hid (alnumN c = false) ∧ c < 48) ∨ (Hid (alnumN c = false) ∧ 57 < c ∧ c < 65) ∨ (Hid (alnumN c = false) ∧ 90 < c ∧ c < 97) ∨ (Hid (alnumN c = false) ∧ 122 < c) := by
  have cases : (48 ≤ c ∧ c ≤ 57) ∨ (65 ≤ c ∧ c ≤ 90) ∨ (97 ≤ c ∧ c ≤ 122) ∨ c < 48 ∨ (57 < c ∧ c < 65) ∨ (90 < c ∧ c < 97) ∨ 122 < c := by omega
  unfold Hid alnumN
  simp
  omega

def marksObj : Obj := Obj.cells #[.int .u8 33, .int .u8 35, .int .u8 36, .int .u8 37, .int .u8 38, .int .u8 39, .int .u8 42, .int .u8 43, .int .u8 45, .int .u8 46, .int .u8 94, .int .u8 95, .int .u8 124, .int .u8 126, .int .u8 96] 5 (15, 16)
theorem marks_cell (w : World) (j : Nat) (h : j < 15) : (w.alloc marksObj).cell? ⟨w.heap.size, j, none⟩ = some (.int .u8 ((marksN.getD j 0 : Nat) : Int)) := by
  unfold marksObj
  rw [World.cell?_alloc_mark]
  have : ∀ j : Fin 15, (#[.int .u8 33, .int .u8 35, .int .u8 36, .int .u8 37, .int .u8 38, .int .u8 39, .int .u8 42, .int .u8 43, .int .u8 45, .int .u8 46, .int .u8 94, .int .u8 95, .int .u8 124, .int .u8 126, .int .u8 96] : Array Value)[j.1]? = some (.int .u8 ((marksN.getD j.1 0 : Nat) : Int)) := by
    intro j
    match j with
    | ⟨0, _⟩ | ⟨1, _⟩ | ⟨2, _⟩ | ⟨3, _⟩ | ⟨4, _⟩ | ⟨5, _⟩ | ⟨6, _⟩ | ⟨7, _⟩ | ⟨8, _⟩ | ⟨9, _⟩ | ⟨10, _⟩ | ⟨11, _⟩ | ⟨12, _⟩ | ⟨13, _⟩ | ⟨14, _⟩ => rfl
  exact this ⟨j, h⟩

def okTo (s : ByteArray) (k : Nat) : Bool := !s.toList.isEmpty && namesB (s.data.toList.take k)
theorem okTo_zero (s : ByteArray) : okTo s 0 = !s.toList.isEmpty := by simp [okTo, namesB]
theorem okTo_step (s : ByteArray) (k : Nat) (h : k < s.size) : okTo s (k + 1) = (okTo s k && nameR ((s[k]'h).toNat : Int)) := by
  rw [okTo, okTo, take_snoc s k h, namesB_append, namesB_cons, namesB_nil, Bool.and_true, Bool.and_assoc]
theorem okTo_end (s : ByteArray) (k : Nat) (h : s.size ≤ k) : okTo s k = tokB s.data.toList := by
  rw [okTo, take_all s k h, Lib.toList_data]; rfl

set_option maxHeartbeats 4000000 in
theorem tokens_walk (s : ByteArray) (w : World) (hs : s.size ≤ 1000) : Calls Try.prog 3 #[.string s] w fun e w' => e = .returned (.bool true) ∧ Below w.heap.size w w' := by
  have hcv := fun w s => run_bytes_of_string (P := Try.prog) w 9 24 5 s Try.underlying9 Try.underlying24 Try.underlying5
  have hl : decide (s.size ≤ 1000) = true := by simpa using hs
  go_enter Try.func3, Try.ntmps3
  go_wp2_with fail
  refine (fit_any _).mono ?_
  rintro e w1 ⟨rfl, hb1⟩
  go_wp2_with fail
  refine (light_any _ _).mono ?_
  rintro e w2 ⟨rfl, rfl⟩
  rw [hl]
  go_wp2_with fail
  have hbW := bytesWorld_below w1 s (grownCap w1 s.size 0 5)
  have hzW := bytesWorld_size w1 s (grownCap w1 s.size 0 5)
  have hcW := bytesWorld_cell w1 s (grownCap w1 s.size 0 5)
  generalize hG : (w1.alloc (Obj.cells (bytesRow s (grownCap w1 s.size 0 5)) 5 ((bytesRow s (grownCap w1 s.size 0 5)).size, (bytesRow s (grownCap w1 s.size 0 5)).size + 1))).drew = W
  rw [bytesWorld, hG] at hbW hzW hcW
  clear hG hcv
  have HcW := Lib.hid hcW
  have HzW := Lib.hid hzW
  clear hcW hzW
  generalize grownCap w1 s.size 0 5 = cp at *
  have h00 := okTo_zero s
  generalize (!s.toList.isEmpty) = ne at *
  have HOK := Lib.hid h00
  clear h00
  go_loopw [3, 19] (fun ok i wr => ∃ k : Nat, ∃ q : Bool, k ≤ s.size ∧ i = .int .i64 k ∧ ok = .bool q ∧ Hid (okTo s k = q) ∧ Below W.heap.size W wr) (fun _ i _ => s.size - (intOf i).toNat)
  case atStart => exact ⟨0, ne, by omega, rfl, rfl, HOK, Below.refl _ _⟩
  case round =>
    obtain ⟨k, q, hk, rfl, rfl, hq, hbr⟩ := hrel
    by_cases hlt : k < s.size
    · have hcell : wr.cell? ⟨w1.heap.size, k, none⟩ = some (.int .u8 ((s[k]'hlt).toNat : Int)) := (hbr.cell (by show w1.heap.size < _; rw [HzW.out]; omega)).trans (HcW.out k hlt)
      have hc256 : (s[k]'hlt).toNat < 256 := UInt8.toNat_lt _
      have hstep := okTo_step s k hlt
      generalize hc : (s[k]'hlt).toNat = c at *
      rw [hq.out, ← inTo_all] at hstep
      have HS := Lib.hid hstep
      clear hc hstep
      have kc := fun (w : World) (C : Array Value) (n c : Nat) => Lib.run_convert_bytes_const (P := Try.prog) w 24 5 C n c Try.underlying24 Try.underlying5
      have cases : (Hid (alnumN c = true) ∧ 48 ≤ c ∧ c ≤ 57) ∨ (Hid (alnumN c = true) ∧ 65 ≤ c ∧ c ≤ 90) ∨ (Hid (alnumN c = true) ∧ 97 ≤ c ∧ c ≤ 122) ∨ (Hid (alnumN c = false) ∧ c < 48) ∨ (Hid (alnumN c = false) ∧ 57 < c ∧ c < 65) ∨ (Hid (alnumN c = false) ∧ 90 < c ∧ c < 97) ∨ (Hid (alnumN c = false) ∧ 122 < c) := alnum_cases c
      rcases cases with ⟨hx, h⟩ | ⟨hx, h⟩ | ⟨hx, h⟩ | ⟨hx, h⟩ | ⟨hx, h⟩ | ⟨hx, h⟩ | ⟨hx, h⟩
      all_goals
        go_wp2_with fail
        have hm := marks_cell wr
        have hb2 : Below W.heap.size W (wr.alloc marksObj) := hbr.alloc hbr.size _
        unfold marksObj at hm hb2
        generalize hG2 : wr.alloc (Obj.cells #[Value.int IntKind.u8 33, Value.int IntKind.u8 35, Value.int IntKind.u8 36, Value.int IntKind.u8 37, Value.int IntKind.u8 38, Value.int IntKind.u8 39, Value.int IntKind.u8 42, Value.int IntKind.u8 43, Value.int IntKind.u8 45, Value.int IntKind.u8 46, Value.int IntKind.u8 94, Value.int IntKind.u8 95, Value.int IntKind.u8 124, Value.int IntKind.u8 126, Value.int IntKind.u8 96] 5 (15, 16)) = W2 at *
        clear hG2 kc
        have HM := Lib.hid hm
        clear hm hcell
        go_loop [6, 48] (fun v i => ∃ j : Nat, ∃ r : Bool, j ≤ 15 ∧ i = .int .i64 j ∧ v = .bool r ∧ Hid (inTo c j = r)) (fun _ i => 15 - (intOf i).toNat)
        case atStart => exact ⟨0, _, by omega, rfl, rfl, (inTo_zero c).trans (hx.out.trans (by first | rfl | (simp; omega)))⟩
        case round =>
          obtain ⟨j, r, hj, rfl, rfl, hr⟩ := hrel
          by_cases hjl : j < 15
          · have hcm := HM.out j hjl
            have hml := marks_lt j
            have hst := inTo_step c j hjl
            rw [hr.out] at hst
            generalize marksN.getD j 0 = m at *
            cases r with
            | true =>
              have HST := Lib.hid hst
              clear hst
              go_wp2
              go_round
              case rel => exact ⟨j + 1, _, by omega, by go_num, rfl, HST.out⟩
              case measure => simp [intOf]; omega
            | false =>
              have HST := Lib.hid hst
              clear hst
              by_cases hcm2 : c = m
              · subst hcm2
                go_wp2
                go_round
                case rel => exact ⟨j + 1, _, by omega, by go_num, rfl, HST.out.trans (by simp)⟩
                case measure => simp [intOf]; omega
              · have hb : ((c : Int) == (m : Int)) = false := by rw [beq_eq_false_iff_ne]; omega
                go_wp2
                go_round
                case rel => exact ⟨j + 1, _, by omega, by go_num, rfl, HST.out.trans (by rw [Bool.false_or]; exact beq_eq_false_iff_ne.2 (fun h => hcm2 h.symm))⟩
                case measure => simp [intOf]; omega
          · obtain rfl : j = 15 := by omega
            rw [hr.out] at HS
            cases q with
            | true =>
              cases r with
              | true =>
                go_wp2
                go_roundw
                case rel => exact ⟨k + 1, _, by omega, by go_num, rfl, HS.out, hb2⟩
                case measure => simp [intOf]; omega
              | false =>
                go_wp2
                go_roundw
                case rel => exact ⟨k + 1, _, by omega, by go_num, rfl, HS.out, hb2⟩
                case measure => simp [intOf]; omega
            | false =>
              go_wp2
              go_roundw
              case rel => exact ⟨k + 1, _, by omega, by go_num, rfl, HS.out, hb2⟩
              case measure => simp [intOf]; omega
    · have hend := okTo_end s k (by omega)
      rw [hq.out] at hend
      have HE := Lib.hid hend
      clear hend
      go_wp2_with fail
      refine (tok_any _ _).mono ?_
      rintro e w3 ⟨rfl, hb3⟩
      rw [← HE.out]
      have hqq : (q == q) = true := by simp
      go_wp2
      go_ret
      exact ⟨rfl, bt (bt (bt hb1 hbW) hbr) hb3⟩

theorem tokens_any (s : ByteArray) (w : World) (_hm : s.size ≤ maxLen) : Calls Try.prog 3 #[.string s] w fun e w' => e = .returned (.bool true) ∧ Below w.heap.size w w' := by
  by_cases hs : s.size ≤ 1000
  · exact tokens_walk s w hs
  · go_enter Try.func3, Try.ntmps3
    go_wp2_with fail
    refine (fit_any _).mono ?_
    rintro e w1 ⟨rfl, hb1⟩
    go_wp2_with fail
    refine (light_no _ _ hs).mono ?_
    rintro e w2 ⟨rfl, rfl⟩
    go_wp2
    go_ret
    exact ⟨rfl, hb1⟩

end Go.Proofs.Yteenbddmdoogdaa
