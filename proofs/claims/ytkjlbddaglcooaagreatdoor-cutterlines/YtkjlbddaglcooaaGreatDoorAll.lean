/- The contract of head.All. -/
import Derived.Test.YtkjlbddaglcooaaGreatDoorMem
import Derived.Test.YtkjlbddaglcooaaGreatDoorLeaf
import Derived.Test.YtkjlbddaglcooaaGreatDoorPlains
import Derived.Test.YtkjlbddaglcooaaGreatDoorWords
namespace Go.Proofs.YtkjlbddaglcooaaGreatDoor
open Go.RowKit Pl

set_option maxHeartbeats 1000000 in
theorem all_any (fs : List Fld) (name : ByteArray) (A : Option Addr) (c : Nat) (w : World) (hr : Rd w w.heap.size 2 A fs.length (fldCells fs)) (hn : fs.length ≤ 1000000000) :
    Calls Tryz.prog 31 #[.slice A fs.length c, .string name] w fun e w' => ∃ v, e = .returned v ∧ w'.ownsRow w.heap.size 9 1 v (valsOf name fs).length ((valsOf name fs).map .string) ∧ Below w.heap.size w w' := by
  obtain ⟨i0, hi, hz0, hz1, hz2⟩ := info_parts Tryz.info9
  have HI := Lib.hid hi; have HZ0 := Lib.hid hz0; have HZ1 := Lib.hid hz1; have HZ2 := Lib.hid hz2
  clear hi hz0 hz1 hz2
  go_enter Tryz.func31, Tryz.ntmps31
  go_wp2
  go_loopw [5, 10] (fun v i wr => ∃ k : Nat, k ≤ fs.length ∧ i = .int .i64 k ∧ wr.ownsRow w.heap.size 9 1 v (valsOf name (fs.take k)).length ((valsOf name (fs.take k)).map .string) ∧ Below w.heap.size w wr) (fun _ i _ => fs.length - (intOf i).toNat)
  case atStart => exact ⟨0, by omega, rfl, World.ownsRow_nil _ _ _ _, Below.refl _ _⟩
  case round =>
    obtain ⟨k, hk, rfl, hown, hbel⟩ := hrel
    by_cases hlt : k < fs.length
    · obtain ⟨a, rfl, hab, hc⟩ := (hr.below hbel (Nat.le_refl _)).2 (by omega)
      have hc0 : wr.cell? (a.add (k * 2)) = some (.string (fs[k]).1) := hc _ _ (fldCells_at fs k hlt).1
      have hc1 : wr.cell? ⟨(a.add (k * 2)).block, (a.add (k * 2)).off + 1, none⟩ = some (.string (fs[k]).2) := by rw [add_next]; exact hc _ _ (fldCells_at fs k hlt).2
      have hsn := valsOf_snoc name fs k hlt
      have hvl := valsOf_len name (fs.take k)
      rw [List.length_take] at hvl
      have hte := eq_test (fs[k]).1 name
      have HR := Lib.hid hr
      clear hc hr
      generalize (fs[k]).1 = f1 at *
      generalize (fs[k]).2 = f2 at *
      by_cases hq : f1 = name
      · subst hq
        rw [if_pos rfl] at hsn
        simp only [decide_true] at hte
        have HS := Lib.hid hsn
        clear hsn
        go_wp2_with (first | (at_builtin; refine wpList_append_own _ rfl _ _ 65 rfl w.heap.size 9 i0 (.string ⟨#[]⟩) 1 16 Tryz.underlying65 HI.out HZ0.out HZ1.out HZ2.out rfl (by decide) _ _ _ rfl ((hown.alloc _).alloc _) ⟨wr.heap.size + 1, 0, none⟩ 1 1 [.string f2] rfl rfl ?c1 ?c2 ?c3 ?c4 ?c5 ?_))
        case c1 => exact fun j u hu => by have hx := cell_one_new (wr.alloc (.cells #[.string f1, .string f2] 64)) (.string f2) 9 j u hu; simpa using hx
        case c2 => intro u hu; simp at hu; subst hu; rfl
        case c3 => unfold maxLen; omega
        case c4 => omega
        case c5 => have := hbel.size; simp; omega
        intro v' w1 hown' hgrow _
        have HO := Lib.hid hown'
        clear hown'
        go_wp2
        go_roundw
        case rel =>
          refine ⟨k + 1, by omega, by go_num, ?_, ?_⟩
          · rw [HS.out]
            simpa using HO.out
          · exact ((hbel.alloc hbel.size _).alloc (by have := hbel.size; simp; omega) _).grown hgrow (by have := hbel.size; simp; omega) (fun k hk => (hown.lt k hk).1)
        case measure => simp [intOf]; omega
      · rw [if_neg hq, List.append_nil] at hsn
        have htf : (f1.toList == name.toList) = false := by rw [hte]; simpa using hq
        have HS := Lib.hid hsn
        clear hsn hte hq
        go_wp2
        go_roundw
        case rel => exact ⟨k + 1, by omega, by go_num, by rw [HS.out]; exact hown.alloc _, hbel.alloc hbel.size _⟩
        case measure => simp [intOf]; omega
    · have hE : fs.take k = fs := List.take_of_length_le (by omega)
      rw [hE] at hown
      clear hE
      go_wp2
      go_ret
      exact ⟨_, rfl, hown, hbel⟩

end Go.Proofs.YtkjlbddaglcooaaGreatDoor
