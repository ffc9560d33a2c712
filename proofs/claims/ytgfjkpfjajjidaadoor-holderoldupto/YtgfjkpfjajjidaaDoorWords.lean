/- The contract of ascii.Words. -/
import Derived.Test.YtgfjkpfjajjidaaDoorToken
import Derived.Test.YtgfjkpfjajjidaaDoorPlains
namespace Go.Proofs.YtgfjkpfjajjidaaDoor
open Go.RowKit Pl

theorem Tryd.info9 : (Tryd.prog.info? 9).map (fun i => (i.zero, i.size, i.bytes)) = some (some (.string ⟨#[]⟩), 1, 16) := by kernel_rfl

set_option maxHeartbeats 1000000 in
theorem words_any (s : ByteArray) (b : UInt8) (w : World) (hs : s.size ≤ 1000000000000) :
    Calls Tryd.prog 28 #[.string s, .int .u8 (b.toNat : Int)] w fun e w' => ∃ v, e = .returned v ∧ w'.ownsRow w.heap.size 9 1 v (wordsB b s.data.toList).length ((wordsB b s.data.toList).map strV) ∧ Below w.heap.size w w' := by
  obtain ⟨i0, hi, hz0, hz1, hz2⟩ := info_parts Tryd.info9
  have HI := Lib.hid hi; have HZ0 := Lib.hid hz0; have HZ1 := Lib.hid hz1; have HZ2 := Lib.hid hz2
  clear hi hz0 hz1 hz2
  go_enter Tryd.func28, Tryd.ntmps28
  go_wp2
  go_loopw [5, 6, 7] (fun v f i wr => ∃ (k p : Nat) (ws : List (List UInt8)), k ≤ s.size ∧ p ≤ k ∧ ws.length ≤ k ∧ i = .int .i64 k ∧ f = .int .i64 p ∧ wr.ownsRow w.heap.size 9 1 v ws.length (ws.map strV) ∧ Below w.heap.size w wr ∧ Hid (WInv b s ws p k)) (fun _ _ i _ => s.size - (intOf i).toNat)
  case atStart => exact ⟨0, 0, [], by omega, by omega, by simp, rfl, rfl, World.ownsRow_nil _ _ _ _, Below.refl _ _, winv_start b s⟩
  case round =>
    obtain ⟨k, p, ws, hk, hp, hwl, rfl, rfl, hown, hbel, hinv⟩ := hrel
    by_cases hlt : k < s.size
    · have hext : s.extract p k = ⟨(piece s p k).toArray⟩ := Lib.extract_eq s p k
      have HX := Lib.hid hext
      clear hext
      by_cases hc : s[k] = b
      · have hW := Lib.hid (winv_cut hinv.out hlt hc)
        have htest : ((s[k].toNat : Int) == (b.toNat : Int)) = true := by rw [hc]; simp
        have HC := Lib.hid hc
        clear hc
        go_wp2_with (first | (at_builtin; refine wpList_append_own _ rfl _ _ 22 rfl w.heap.size 9 i0 (.string ⟨#[]⟩) 1 16 Tryd.underlying22 HI.out HZ0.out HZ1.out HZ2.out rfl (by decide) _ _ _ rfl (hown.alloc _) ⟨wr.heap.size, 0, none⟩ 1 1 [.string (s.extract p k)] rfl rfl ?c1 ?c2 ?c3 ?c4 ?c5 ?_))
        case c1 => exact cell_one_new _ _ _
        case c2 => intro u hu; simp at hu; subst hu; rfl
        case c3 => unfold maxLen; omega
        case c4 => omega
        case c5 => have := hbel.size; simp; omega
        intro v' w1 hown' hgrow _
        rw [HX.out] at hown'
        have hb1 : Below w.heap.size w w1 := (hbel.alloc hbel.size _).grown hgrow (by have := hbel.size; simp; omega) (fun k hk => (hown.lt k hk).1)
        have HO := Lib.hid hown'
        clear hown' hgrow hown
        go_wp2
        go_roundw
        case rel => exact ⟨k + 1, k + 1, ws ++ [piece s p k], by omega, by omega, by simp; omega, by go_num, by go_num, by simpa [strV] using HO.out, hb1, hW⟩
        case measure => simp [intOf]; omega
      · have hW := Lib.hid (winv_skip hinv.out hp hlt hc)
        have htest : ((s[k].toNat : Int) == (b.toNat : Int)) = false := by
          rw [beq_eq_false_iff_ne]; intro h; exact hc (UInt8.toNat_inj.1 (by omega))
        have HC := Lib.hid hc
        clear hc
        go_wp2
        go_roundw
        case rel => exact ⟨k + 1, p, ws, by omega, by omega, by omega, by go_num, rfl, hown, hbel, hW⟩
        case measure => simp [intOf]; omega
    · have hW := Lib.hid (winv_end hinv.out (by omega))
      have hext : s.extract p s.size = ⟨(piece s p k).toArray⟩ := by rw [Lib.extract_eq s p s.size, show s.size = k from by omega]; rfl
      have HX := Lib.hid hext
      clear hext
      go_wp2_with (first | (at_builtin; refine wpList_append_own _ rfl _ _ 22 rfl w.heap.size 9 i0 (.string ⟨#[]⟩) 1 16 Tryd.underlying22 HI.out HZ0.out HZ1.out HZ2.out rfl (by decide) _ _ _ rfl (hown.alloc _) ⟨wr.heap.size, 0, none⟩ 1 1 [.string (s.extract p s.size)] rfl rfl ?d1 ?d2 ?d3 ?d4 ?d5 ?_))
      case d1 => exact cell_one_new _ _ _
      case d2 => intro u hu; simp at hu; subst hu; rfl
      case d3 => unfold maxLen; omega
      case d4 => omega
      case d5 => have := hbel.size; simp; omega
      intro v' w1 hown' hgrow _
      rw [HX.out] at hown'
      have hb1 : Below w.heap.size w w1 := (hbel.alloc hbel.size _).grown hgrow (by have := hbel.size; simp; omega) (fun k hk => (hown.lt k hk).1)
      have HO := Lib.hid hown'
      clear hown' hgrow hown
      go_wp2
      go_ret
      exact ⟨_, rfl, by rw [hW.out]; simpa [strV] using HO.out, hb1⟩

end Go.Proofs.YtgfjkpfjajjidaaDoor
