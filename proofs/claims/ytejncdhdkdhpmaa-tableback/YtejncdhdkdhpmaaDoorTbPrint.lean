/- The contract of table.Print. -/
import Derived.Test.YtejncdhdkdhpmaaDoorTbRight
import Derived.Test.YtejncdhdkdhpmaaDoorTbEq
import Derived.Test.YtejncdhdkdhpmaaDoorTbIdx
namespace Go.Proofs.YtejncdhdkdhpmaaDoor
open Go.RowKit Pl

theorem print_snoc (l : List Rt) (k : Nat) (h : k < l.length) : printL (l.take (k + 1)) = printL (l.take k) ++ lineOf l[k] := by
  unfold printL
  rw [List.take_add_one, List.getElem?_eq_getElem h, List.flatMap_append]
  simp
theorem line_bytes (a b c : ByteArray) : (a ++ ⟨#[32]⟩ ++ b ++ ⟨#[32]⟩ ++ c ++ ⟨#[10]⟩ : ByteArray).data.toList = lineOf (rt a b c) := by
  simp [app_data, lineOf, rt]

def sizeR (r : Rt) : Nat := r.m.length + r.p.length + r.h.length
def sizeL : List Rt → Nat
  | [] => 0
  | r :: l => sizeR r + sizeL l
theorem size_snoc (l : List Rt) (k : Nat) (h : k < l.length) : sizeL (l.take (k + 1)) = sizeL (l.take k) + sizeR l[k] := by
  induction l generalizing k with
  | nil => simp at h
  | cons r l ih =>
    cases k with
    | zero => simp [sizeL]
    | succ k =>
      have := ih k (by simpa using h)
      simp only [List.take_succ_cons, sizeL, List.getElem_cons_succ, this]
      omega
theorem size_take (l : List Rt) (k : Nat) : sizeL (l.take k) ≤ sizeL l := by
  induction l generalizing k with
  | nil => simp [sizeL]
  | cons r l ih =>
    cases k with
    | zero => simp [sizeL]
    | succ k => have := ih k; simp only [List.take_succ_cons, sizeL]; omega
theorem size_mem {l : List Rt} {r : Rt} (h : r ∈ l) : sizeR r ≤ sizeL l := by
  induction l with
  | nil => cases h
  | cons a l ih =>
    rcases List.mem_cons.1 h with rfl | h
    · simp [sizeL]
    · have := ih h; simp [sizeL]; omega
theorem line_len (r : Rt) : (lineOf r).length = sizeR r + 3 := by simp [lineOf, sizeR]; omega
theorem print_len (l : List Rt) : (printL l).length = sizeL l + 3 * l.length := by
  induction l with
  | nil => rfl
  | cons r l ih =>
    have : printL (r :: l) = lineOf r ++ printL l := rfl
    rw [this, List.length_append, ih, line_len, sizeL, List.length_cons]
    omega

set_option maxRecDepth 100000 in
set_option maxHeartbeats 4000000 in
theorem print_any (l : List Rt) (A : Option Addr) (c : Nat) (w : World) (hr : Rd w w.heap.size 3 A l.length (rtCells l)) (hn : l.length ≤ 100000) (hs : sizeL l ≤ 100000) :
    Calls Tryd.prog 13 #[.slice A l.length c] w fun e w' => e = .returned (.string (mkB (printL l))) ∧ Below w.heap.size w w' := by
  have HR := Lib.hid hr
  have HN := Lib.hid (new_builder w)
  have HBA := Lib.hid ((Below.refl w.heap.size w).alloc (Nat.le_refl _) (.cells #[.pointer none, .slice none 0 0] 52))
  have HST := Lib.hid (size_take l)
  clear hr
  go_enter Tryd.func13, Tryd.ntmps13
  go_wp2_with fail
  go_loopw [8] (fun i wr => ∃ (k : Nat), k ≤ l.length ∧ i = .int .i64 k ∧ Hid (Lib.IsBuilder 52 5 w.heap.size w.heap.size (Lib.byteCells (printL (l.take k))) wr) ∧ Hid (Below w.heap.size w wr)) (fun i _ => l.length - (intOf i).toNat)
  case atStart => exact ⟨0, by omega, rfl, HN, HBA⟩
  case round =>
    obtain ⟨k, hk, rfl, HI, HB⟩ := hrel
    by_cases hlt : k < l.length
    · obtain ⟨a, rfl, hab, k0, k1, k2⟩ := rt_in (HR.out.below HB.out (Nat.le_refl _)) rfl k hlt
      have hz : (mkB l[k].m).size + (mkB l[k].p).size + (mkB l[k].h).size ≤ 100000 := by
        have h1 := size_mem (List.getElem_mem hlt)
        rw [mkB_size, mkB_size, mkB_size]
        unfold sizeR at h1
        omega
      have HPS : Hid (printL (l.take (k + 1)) = printL (l.take k) ++ (mkB l[k].m ++ ⟨#[32]⟩ ++ mkB l[k].p ++ ⟨#[32]⟩ ++ mkB l[k].h ++ ⟨#[10]⟩ : ByteArray).data.toList) := by
        show _ = _
        rw [line_bytes, rt_mk]; exact print_snoc l k hlt
      have HPL : Hid ((printL (l.take k)).length ≤ 400000) := by
        show _ ≤ _
        rw [print_len]
        have := HST.out k
        have : (l.take k).length ≤ k := by simp; omega
        omega
      have HA := Lib.hid ((Below.refl wr.heap.size wr).alloc (Nat.le_refl _) (.cells #[.string (mkB l[k].m), .string (mkB l[k].p), .string (mkB l[k].h)] 31))
      generalize mkB l[k].m = xm at *
      generalize mkB l[k].p = xp at *
      generalize mkB l[k].h = xh at *
      have s1 : (⟨#[32]⟩ : ByteArray).size = 1 := rfl
      have s2 : (⟨#[10]⟩ : ByteArray).size = 1 := rfl
      have a1 := add_str xm ⟨#[32]⟩ (by omega)
      have a2 := add_str (xm ++ ⟨#[32]⟩) xp (by rw [app_size]; omega)
      have a3 := add_str (xm ++ ⟨#[32]⟩ ++ xp) ⟨#[32]⟩ (by rw [app_size, app_size]; omega)
      have a4 := add_str (xm ++ ⟨#[32]⟩ ++ xp ++ ⟨#[32]⟩) xh (by rw [app_size, app_size, app_size]; omega)
      have a5 := add_str (xm ++ ⟨#[32]⟩ ++ xp ++ ⟨#[32]⟩ ++ xh) ⟨#[10]⟩ (by rw [app_size, app_size, app_size, app_size]; omega)
      have hyz : (xm ++ ⟨#[32]⟩ ++ xp ++ ⟨#[32]⟩ ++ xh ++ ⟨#[10]⟩ : ByteArray).size ≤ 200000 := by rw [app_size, app_size, app_size, app_size, app_size]; omega
      have HYZ := Lib.hid hyz
      clear hyz s1 s2
      generalize (xm ++ ⟨#[32]⟩ ++ xp ++ ⟨#[32]⟩ ++ xh ++ ⟨#[10]⟩ : ByteArray) = y5 at *
      generalize (xm ++ ⟨#[32]⟩ ++ xp ++ ⟨#[32]⟩ ++ xh : ByteArray) = y4 at *
      generalize (xm ++ ⟨#[32]⟩ ++ xp ++ ⟨#[32]⟩ : ByteArray) = y3 at *
      generalize (xm ++ ⟨#[32]⟩ ++ xp : ByteArray) = y2 at *
      generalize (xm ++ ⟨#[32]⟩ : ByteArray) = y1 at *
      have HI2 := Lib.hid (bld_below HI.out HA.out)
      have HB2 := Lib.hid (bt HB.out HA.out)
      go_wp2_with fail
      refine (put_any w.heap.size w.heap.size (printL (l.take k)) y5 _ HI2.out (by have := HPL.out; have := HYZ.out; omega) HB2.out.size).mono ?_
      rintro e w4 ⟨rfl, hI4, hb4⟩
      have HB4 : Hid (Below w.heap.size w w4) := HB2.out.trans hb4
      have HI4 : Hid (Lib.IsBuilder 52 5 w.heap.size w.heap.size (Lib.byteCells (printL (l.take (k + 1)))) w4) := by rw [HPS.out]; exact hI4
      clear hb4 hI4
      go_wp2_with fail
      go_roundw
      case rel => exact ⟨k + 1, by omega, by go_num, HI4, HB4⟩
      case measure => simp [intOf]; omega
    · have HI2 : Hid (Lib.IsBuilder 52 5 w.heap.size w.heap.size (Lib.byteCells (printL l)) wr) := by
        have := HI.out
        rw [List.take_of_length_le (by omega)] at this
        exact this
      go_wp2_with fail
      refine (str_any w.heap.size w.heap.size (printL l) wr HI2.out HB.out.size).mono ?_
      rintro e w6 ⟨rfl, hb6⟩
      go_wp2_with fail
      go_ret
      exact ⟨rfl, HB.out.trans hb6⟩

end Go.Proofs.YtejncdhdkdhpmaaDoor
