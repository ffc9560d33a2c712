/- The document's answer of layer 8: a pattern's segments. -/
import Derived.Test.YtekjpcmobgdgpaaDoorRfHas
namespace Go.Proofs.YtekjpcmobgdgpaaDoor
open Go.RowKit Pl

def GInv (L : List Seg) (s : ByteArray) (ws : List Seg) (f k : Nat) : Prop := L = ws ++ wordsGo 47 (piece s f k) (s.data.toList.drop k)
theorem ginv_start (s : ByteArray) : GInv (wordsB 47 (s.data.toList.drop 1)) s [] 1 1 := by simp [GInv, wordsB, piece]
theorem ginv_skip {L : List Seg} {s : ByteArray} {ws : List Seg} {f k : Nat} (h : GInv L s ws f k) (hf : f ≤ k) (hk : k < s.size) (hn : s[k] ≠ 47) : GInv L s ws f (k + 1) := by
  unfold GInv at h ⊢
  rw [h, drop_at s k hk, wordsGo, if_neg hn, piece_snoc s f k hf hk]
theorem ginv_cut {L : List Seg} {s : ByteArray} {ws : List Seg} {f k : Nat} (h : GInv L s ws f k) (hk : k < s.size) (hn : s[k] = 47) : GInv L s (ws ++ [piece s f k]) (k + 1) (k + 1) := by
  unfold GInv at h ⊢
  rw [h, drop_at s k hk, wordsGo, if_pos hn, piece_same]; simp
theorem ginv_end {L : List Seg} {s : ByteArray} {ws : List Seg} {f k : Nat} (h : GInv L s ws f k) (hk : s.size ≤ k) : L = ws ++ [piece s f k] := by
  unfold GInv at h
  rw [h, drop_all s k hk, wordsGo]

set_option maxRecDepth 100000 in
set_option maxHeartbeats 4000000 in
theorem rcut_any (s : ByteArray) (w : World) (hs : s.size ≤ 1000000) (hs0 : 0 < s.size) :
    Calls Tryd.prog 27 #[.string s] w fun e w' => ∃ v, e = .returned v ∧ w'.ownsRow w.heap.size 9 1 v (cutL s.data.toList).length ((cutL s.data.toList).map strV) ∧ Below w.heap.size w w' := by
  obtain ⟨i0, hi, hz0, hz1, hz2⟩ := info_parts Tryd.info9
  have HI := Lib.hid hi; have HZ0 := Lib.hid hz0; have HZ1 := Lib.hid hz1; have HZ2 := Lib.hid hz2
  clear hi hz0 hz1 hz2
  have heq := eq_list s [47]
  unfold cutL
  by_cases h47 : s.data.toList = [47]
  · rw [decide_eq_true h47] at heq
    rw [if_pos h47]
    clear h47
    go_enter Tryd.func27, Tryd.ntmps27
    go_wp2_with fail
    go_ret
    exact ⟨_, rfl, World.ownsRow_nil _ _ _ _, Below.refl _ _⟩
  · rw [decide_eq_false h47] at heq
    rw [if_neg h47]
    have HG := Lib.hid (ginv_start s)
    generalize wordsB 47 (s.data.toList.drop 1) = L at *
    clear h47
    go_enter Tryd.func27, Tryd.ntmps27
    go_wp2_with fail
    go_loopw [3, 4, 5] (fun v f i wr => ∃ (k p : Nat) (ws : List (List UInt8)), 1 ≤ k ∧ k ≤ s.size + 1 ∧ ws.length ≤ k ∧ i = .int .i64 k ∧ f = .int .i64 p ∧ wr.ownsRow w.heap.size 9 1 v ws.length (ws.map strV) ∧ Below w.heap.size w wr ∧ Hid (k ≤ s.size → p ≤ k ∧ GInv L s ws p k) ∧ Hid (k = s.size + 1 → L = ws)) (fun _ _ i _ => s.size + 1 - (intOf i).toNat)
    case atStart => exact ⟨1, 1, [], by omega, by omega, by simp, rfl, rfl, World.ownsRow_nil _ _ _ _, Below.refl _ _, fun _ => ⟨Nat.le_refl _, HG.out⟩, fun h => by omega⟩
    case round =>
      obtain ⟨k, p, ws, hk1, hk, hwl, rfl, rfl, hown, hbel, HV, HE⟩ := hrel
      by_cases hle : k ≤ s.size
      · obtain ⟨hp, hgi⟩ := HV.out hle
        have HGI := Lib.hid hgi
        have hext : s.extract p k = ⟨(piece s p k).toArray⟩ := Lib.extract_eq s p k
        have HX := Lib.hid hext
        clear hext hgi HV HE
        by_cases hlt : k < s.size
        · have htk : ((k : Int) == (s.size : Int)) = false := by rw [beq_eq_false_iff_ne]; omega
          by_cases hc : s[k] = 47
          · have hW := Lib.hid (ginv_cut HGI.out hlt hc)
            have htest : ((s[k].toNat : Int) == 47) = true := by rw [hc]; rfl
            have HC := Lib.hid hc
            clear hc
            go_wp2_with (first | (at_builtin; refine wpList_append_own _ rfl _ _ 28 rfl w.heap.size 9 i0 (.string ⟨#[]⟩) 1 16 Tryd.underlying28 HI.out HZ0.out HZ1.out HZ2.out rfl (by decide) _ _ _ rfl (hown.alloc _) ⟨wr.heap.size, 0, none⟩ 1 1 [.string (s.extract p k)] rfl rfl ?c1 ?c2 ?c3 ?c4 ?c5 ?_))
            case c1 => exact cell_one_new _ _ _
            case c2 => intro u hu; simp at hu; subst hu; rfl
            case c3 => unfold maxLen; omega
            case c4 => omega
            case c5 => have := hbel.size; simp; omega
            intro v' w1 hown' hgrow _
            rw [HX.out] at hown'
            have hb1 : Below w.heap.size w w1 := (hbel.alloc hbel.size _).grown hgrow (by have := hbel.size; simp; omega) (fun k hk => (hown.lt k hk).1)
            have HO := Lib.hid hown'
            clear hown' hgrow hown
            go_wp2
            go_roundw
            case rel => exact ⟨k + 1, k + 1, ws ++ [piece s p k], by omega, by omega, by simp; omega, by go_num, by go_num, by simpa [strV] using HO.out, hb1, fun _ => ⟨Nat.le_refl _, hW.out⟩, fun h => by omega⟩
            case measure => simp [intOf]; omega
          · have hW := Lib.hid (ginv_skip HGI.out hp hlt hc)
            have htest : ((s[k].toNat : Int) == 47) = false := by
              rw [beq_eq_false_iff_ne]; intro h; exact hc (UInt8.toNat_inj.1 (by rw [show (47 : UInt8).toNat = 47 from rfl]; omega))
            have HC := Lib.hid hc
            clear hc
            go_wp2
            go_roundw
            case rel => exact ⟨k + 1, p, ws, by omega, by omega, by omega, by go_num, rfl, hown, hbel, fun _ => ⟨by omega, hW.out⟩, fun h => by omega⟩
            case measure => simp [intOf]; omega
        · have hks : k = s.size := by omega
          have hW := Lib.hid (ginv_end HGI.out (by omega))
          subst hks
          go_wp2_with (first | (at_builtin; refine wpList_append_own _ rfl _ _ 28 rfl w.heap.size 9 i0 (.string ⟨#[]⟩) 1 16 Tryd.underlying28 HI.out HZ0.out HZ1.out HZ2.out rfl (by decide) _ _ _ rfl (hown.alloc _) ⟨wr.heap.size, 0, none⟩ 1 1 [.string (s.extract p s.size)] rfl rfl ?d1 ?d2 ?d3 ?d4 ?d5 ?_))
          case d1 => exact cell_one_new _ _ _
          case d2 => intro u hu; simp at hu; subst hu; rfl
          case d3 => unfold maxLen; omega
          case d4 => omega
          case d5 => have := hbel.size; simp; omega
          intro v' w1 hown' hgrow _
          rw [HX.out] at hown'
          have hb1 : Below w.heap.size w w1 := (hbel.alloc hbel.size _).grown hgrow (by have := hbel.size; simp; omega) (fun k hk => (hown.lt k hk).1)
          have HO := Lib.hid hown'
          clear hown' hgrow hown
          go_wp2
          go_roundw
          case rel => exact ⟨s.size + 1, s.size + 1, ws ++ [piece s p s.size], by omega, by omega, by simp; omega, by go_num, by go_num, by simpa [strV] using HO.out, hb1, fun h => by omega, fun _ => hW.out⟩
          case measure => simp [intOf]
      · have HL := Lib.hid (HE.out (by omega))
        clear HE HV
        go_wp2
        go_ret
        exact ⟨_, rfl, by rw [HL.out]; exact hown, hbel⟩
end Go.Proofs.YtekjpcmobgdgpaaDoor
