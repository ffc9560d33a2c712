/- The contracts of strings.IndexRune, IndexAny and ContainsAny at CR and LF. -/
import Derived.Test.YtkbigfjaaiobfaaDoorAnsMem
import Derived.Test.YtkbigfjaaiobfaaDoorToken
import Derived.Laws.Runes
import Derived.BigQuiet
import Derived.ScopeJumps
import Derived.WalkMore
import Derived.Deep.RegionHeld3
namespace Go.Proofs.YtkbigfjaaiobfaaDoor
open Go.RowKit Pl Go.Shelf

theorem byte_any (s : ByteArray) (c : Int) (w : World) : Calls Tryd.prog 83 #[.string s, .int .u8 c] w fun e w' => e = .returned (.int .i64 (Lib.indexByte s.data.toList c.toNat.toUInt8)) ∧ w = w' :=
  (Any.strings_IndexByte { Tryd.lays153 with } s c w).mono fun _ _ ⟨he, hw⟩ => ⟨he, hw.symm⟩

set_option maxHeartbeats 1000000 in
theorem valid_any (r : Int) (w : World) (h0 : 0 ≤ r) (h1 : r ≤ 2147483647) : Calls Tryd.prog 84 #[.int .i32 r] w fun e w' => e = .returned (.bool (validRune r)) ∧ w = w' := by
  have hc : r < 55296 ∨ (55296 ≤ r ∧ r ≤ 57343) ∨ (57343 < r ∧ r ≤ 1114111) ∨ 1114111 < r := by omega
  rcases hc with h | ⟨h, k⟩ | ⟨h, k⟩ | h
  · have HV : Hid (validRune r = true) := decide_eq_true (.inl ⟨h0, h⟩)
    go_enter Tryd.func84, Tryd.ntmps84
    go_wp2
    go_ret
    exact ⟨by rw [HV.out]; rfl, rfl⟩
  · have HV : Hid (validRune r = false) := decide_eq_false (by omega)
    go_enter Tryd.func84, Tryd.ntmps84
    go_wp2
    go_ret
    exact ⟨by rw [HV.out]; rfl, rfl⟩
  · have HV : Hid (validRune r = true) := decide_eq_true (.inr ⟨h, k⟩)
    go_enter Tryd.func84, Tryd.ntmps84
    go_wp2
    go_ret
    exact ⟨by rw [HV.out]; rfl, rfl⟩
  · have HV : Hid (validRune r = false) := decide_eq_false (by omega)
    go_enter Tryd.func84, Tryd.ntmps84
    go_wp2
    go_ret
    exact ⟨by rw [HV.out]; rfl, rfl⟩

def crB : ByteArray := ⟨#[13, 10]⟩

set_option maxRecDepth 100000 in
set_option maxHeartbeats 4000000 in
theorem rune_high (r : Int) (w : World) (h0 : 128 ≤ r) (h1 : r ≤ 2147483647) : Calls Tryd.prog 68 #[.string crB, .int .i32 r] w fun e w' => e = .returned (.int .i64 (-1)) ∧ Below w.heap.size w w' := by
  by_cases he : r = 65533
  · subst he
    unfold crB
    have ha : ∀ pos (hp : pos < (⟨#[13, 10]⟩ : ByteArray).size), ((⟨#[13, 10]⟩ : ByteArray)[pos]'hp).toNat < 128 := by
      intro pos hp
      have : pos = 0 ∨ pos = 1 := by have : (⟨#[13, 10]⟩ : ByteArray).size = 2 := rfl; omega
      rcases this with rfl | rfl
      · show (13 : UInt8).toNat < 128; decide
      · show (10 : UInt8).toNat < 128; decide
    have HA := Lib.hid ha
    clear ha
    generalize hcs : (⟨#[13, 10]⟩ : ByteArray) = cs at *
    clear hcs
    go_enter Tryd.func68, Tryd.ntmps68
    go_wp2
    go_loopw [4] (fun _ w' => ∃ pos : Nat, w' = w.iter cs pos ∧ pos ≤ cs.size) (fun _ w' => cs.size - w'.iterPos w.heap.size)
    case atStart => exact ⟨0, rfl, by omega⟩
    case round =>
      obtain ⟨pos, rfl, hle⟩ := hrel
      by_cases hp : pos < cs.size
      · have hax := HA.out pos hp
        have hnx : ∀ ty, (Instr.next (.pointer (some ⟨w.heap.size, 0, none⟩)) true ty).run Tryd.prog (w.iter cs pos) = _ := fun ty => run_next_ascii w cs pos ty hp hax
        generalize hc : ((cs[pos]'hp).toNat) = c at *
        have hne : ((c : Int) == 65533) = false := beq_eq_false_iff_ne.2 (by omega)
        clear hc
        go_wp2_with fail
        go_roundw
        case rel => exact ⟨pos + 1, rfl, by omega⟩
        case measure => simp; omega
      · have hnx : ∀ ty, (Instr.next (.pointer (some ⟨w.heap.size, 0, none⟩)) true ty).run Tryd.prog (w.iter cs pos) = _ := fun ty => run_next_end w cs pos ty hp
        go_wp2
        go_ret
        exact ⟨rfl, below_iter _ _ _⟩
  · have hbe : (r == 65533) = false := beq_eq_false_iff_ne.2 he
    clear he
    cases hv : validRune r with
    | false =>
      have HV := Lib.hid (valid_any r w (by omega) h1)
      rw [hv] at HV
      clear hv
      unfold crB
      go_enter Tryd.func68, Tryd.ntmps68
      go_wp2_with fail
      refine HV.out.mono ?_
      rintro e w1 ⟨rfl, rfl⟩
      go_wp2_with fail
      go_ret
      exact ⟨rfl, Below.refl _ _⟩
    | true =>
      have HV := Lib.hid (valid_any r w (by omega) h1)
      rw [hv] at HV
      obtain ⟨e2, e4, el⟩ := encode_facts r (by rw [validRune_eq]; exact hv) h0
      have hcv : ∀ wx, (convert 21 9 (.int .i32 r)).run Tryd.prog wx = .ok (.string (Utf8.encode r)) wx := fun wx => run_convert_int_string wx 21 9 .i32 r (by rw [Tryd.underlying21]; rfl) Tryd.underlying9
      generalize Utf8.encode r = rs at *
      clear hv
      unfold crB
      by_cases h2 : rs.size = 2
      · obtain ⟨x, hx⟩ : ∃ x : UInt8, rs[1]'(by omega) = x := ⟨_, rfl⟩
        have hx1 : 128 ≤ x.toNat := by
          have := el (by omega)
          simp only [h2] at this
          rw [hx] at this
          exact this
        have hsz : (rs.size : Int) = 2 := by omega
        clear el e2 e4
        have HB := Lib.hid (byte_any ByteArray.empty x.toNat)
        have h83 : Lib.indexByte (ByteArray.empty).data.toList ((x.toNat : Int).toNat.toUInt8) = -1 := rfl
        rw [h83] at HB
        clear h83
        obtain ⟨cs, c2, c10, hcs⟩ : ∃ cs : ByteArray, ∃ (h : cs.size = 2), (cs[1]'(by omega)).toNat = 10 ∧ (⟨#[13, 10]⟩ : ByteArray) = cs := ⟨⟨#[13, 10]⟩, rfl, rfl, rfl⟩
        have cz : (cs.size : Int) = 2 := by omega
        have hne : (((cs[1]'(by omega)).toNat : Int) != (x.toNat : Int)) = true := bne_iff_ne.2 (by omega)
        have ksl : ∀ wx, (Instr.slice 9 (.string cs) (some (.int .i64 2)) none none).run Tryd.prog wx = .ok (.string ByteArray.empty) wx := fun wx => by
          have := run_slice_string_l (P := Tryd.prog) wx 9 cs Tryd.underlying9 .i64 2 (by decide) (by omega)
          rw [this, ← hcs]
          rfl
        rw [hcs]
        clear hcs c10
        have hwr : IntKind.i64.wrap 2 = 2 := by decide
        go_enter Tryd.func68, Tryd.ntmps68
        go_wp2_with fail
        refine HV.out.mono ?_
        rintro e w1 ⟨rfl, rfl⟩
        go_wp2_with fail
        refine wp_scope_jumps 1 (fun _ _ => False) (fun _ _ => 0) rfl ?_ (fun _ _ h => h.elim)
        go_wp2_with fail
        go_loopw [9] (fun i wr => i = .int .i64 1 ∧ wr = w) (fun _ _ => 0)
        case atStart => exact ⟨rfl, rfl⟩
        case round =>
          obtain ⟨rfl, rfl⟩ := hrel
          go_wp2_with fail
          refine wp_scope_jumps 0 (fun _ _ => False) (fun _ _ => 0) rfl ?_ (fun _ _ h => h.elim)
          go_wp2_with fail
          go_region
          go_wp2_with fail
          go_region_held3 (fun _ => True) (trivial) ((go_at_call 83; refine (HB.out _).mono ?_; rintro e w2 ⟨rfl, rfl⟩))
          go_wp2_with fail
          simp +zetaDelta only [Exit.jump, Exit.inBlock, Exit.then]
          go_ret
          exact ⟨rfl, ((Below.refl _ _).drew).drew⟩
      · have hlt : ¬ ((rs.size : Int) - 1 < 2) := by omega
        go_enter Tryd.func68, Tryd.ntmps68
        go_wp2_with fail
        refine HV.out.mono ?_
        rintro e w1 ⟨rfl, rfl⟩
        go_wp2_with fail
        refine wp_scope_jumps 1 (fun _ _ => False) (fun _ _ => 0) rfl ?_ (fun _ _ h => h.elim)
        go_wp2_with fail
        go_loopw [9] (fun i wr => i = .int .i64 ((rs.size : Int) - 1) ∧ wr = w) (fun _ _ => 0)
        case atStart => exact ⟨rfl, rfl⟩
        case round =>
          obtain ⟨rfl, rfl⟩ := hrel
          go_wp2_with fail
          simp only [Exit.jump]
          go_ret
          exact ⟨rfl, Below.refl _ _⟩

end Go.Proofs.YtkbigfjaaiobfaaDoor
