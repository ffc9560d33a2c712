/- The contracts of Text, and of the laws' own look ahead. -/
import Derived.Test.YthpklagnecoilaaDoorWa
namespace Go.Proofs.YthpklagnecoilaaDoor
open Go.RowKit

def txL (p : Wk) : Bytes := ptL p.x p.y ++ [32] ++ ptL p.dx p.dy

set_option maxRecDepth 100000 in
set_option maxHeartbeats 4000000 in
theorem text_any (a b c d : Nat) (p : Wk) (h : Rw a b c d p) (w : World) (hg : GB w) : Calls Tryd.prog 12 #[.agg #[.complex .f64 a b, .complex .f64 c d]] w fun e w' => e = .returned (.string (mkB (txL p))) ∧ Below w.heap.size w w' := by
  have hb1 := (Below.refl w.heap.size w).alloc (Nat.le_refl _) (.cells #[.complex .f64 a b, .complex .f64 c d] 26)
  have HK := Lib.hid (bk_new w (.complex .f64 a b) (.complex .f64 c d))
  have HB1 := Lib.hid hb1
  have HS : Hid (w.heap.size < (w.alloc (.cells #[.complex .f64 a b, .complex .f64 c d] 26)).heap.size) := HK.out.lt
  have s1 := pt_short h.x h.y
  have s2 := pt_short h.dx h.dy
  have HP : Hid (txL p = ptL p.x p.y ++ [32] ++ ptL p.dx p.dy) := rfl
  generalize hw1 : w.alloc (.cells #[.complex .f64 a b, .complex .f64 c d] 26) = w1 at *
  have HG := Lib.hid (hg.on hb1)
  have HA := Lib.hid (fun wx (hb : Below w1.heap.size w1 wx) => point_any a b p.x p.y h.x h.y wx (HG.out.on hb))
  have HC := Lib.hid (fun wx (hb : Below w1.heap.size w1 wx) => point_any c d p.dx p.dy h.dx h.dy wx (HG.out.on hb))
  have HCD : Hid (∀ wx, Below w1.heap.size w1 wx → wx.cell? ⟨w.heap.size, 0, none⟩ = some (.complex .f64 a b) ∧ wx.cell? ⟨w.heap.size, 1, none⟩ = some (.complex .f64 c d)) := fun wx hb => ⟨(HK.out.on hb HS.out).c0, (HK.out.on hb HS.out).c1⟩
  have HD := Lib.hid (Below.refl w1.heap.size w1).drew
  have x0 := HK.out.c0
  have x1 := HK.out.c1
  generalize txL p = tx at *
  generalize ptL p.x p.y = p1 at *
  generalize ptL p.dx p.dy = p2 at *
  have a1 := fun wx => add_str (mkB p1) ⟨#[32]⟩ (by rw [mkB_size]; show p1.length + 1 ≤ _; omega) wx
  have e1 : mkB p1 ++ ⟨#[32]⟩ = mkB (p1 ++ [32]) := mkB_app p1 [32]
  have a2 := fun wx => add_str (mkB (p1 ++ [32])) (mkB p2) (by rw [mkB_size, mkB_size]; simp; omega) wx
  rw [mkB_app, ← HP.out] at a2
  simp only [e1] at a1
  generalize mkB (p1 ++ [32]) = m1 at *
  generalize mkB p1 = m2 at *
  generalize mkB p2 = m3 at *
  generalize mkB tx = m4 at *
  clear h hg s1 s2 e1 HP hb1 HG
  have hst := st_cx
  go_enter Tryd.func12, Tryd.ntmps12
  go_wp2_with fail
  go_region_held3 (fun W => W.cell? ⟨w.heap.size, 0, none⟩ = some (.complex .f64 a b) ∧ W.cell? ⟨w.heap.size, 1, none⟩ = some (.complex .f64 c d)) (first | (exact HCD.out _ HD.out) | (exact HCD.out _ hc3) | (exact HCD.out _ hc4)) ((first
    | (go_at_call 14; refine (HC.out _ hc3).mono ?_; rintro e w4 ⟨rfl, hb4⟩
       have hc4 := bt hc3 hb4)
    | (go_at_call 14; refine (HA.out _ HD.out).mono ?_; rintro e w3 ⟨rfl, hb3⟩
       have hc3 := bt HD.out hb3)))
  all_goals
    have HE := Lib.hid (bt HB1.out hc4)
    go_wp2_with fail
    go_ret
    exact ⟨rfl, HE.out⟩

theorem flf_walk : walkW (⟨#[70, 76, 70]⟩ : ByteArray).data.toList = some ⟨1, 1, 0, 1⟩ := by decide
theorem flf_text : mkB (txL ⟨1, 1, 0, 1⟩) = ⟨#[49, 32, 49, 32, 48, 32, 49]⟩ := by
  have : txL ⟨1, 1, 0, 1⟩ = [49, 32, 49, 32, 48, 32, 49] := by decide +kernel
  rw [this]
  rfl

set_option maxRecDepth 100000 in
set_option maxHeartbeats 4000000 in
/-- The laws' own look ahead: true. -/
theorem fit_any (w : World) (hg : GB w) : Calls Tryd.prog 9 #[] w fun e w' => e = .returned (.bool true) ∧ Below w.heap.size w w' := by
  have hst := st_cx
  have HW := Lib.hid (walk_any ⟨#[70, 76, 70]⟩ w)
  rw [flf_walk] at HW
  simp only [Option.isSome_some, Option.getD_some] at HW
  have HG := Lib.hid hg
  clear hg
  go_enter Tryd.func9, Tryd.ntmps9
  go_wp2_with fail
  refine HW.out.mono ?_
  rintro e w1 ⟨a, b, c, d, rfl, hr, hb1⟩
  have hx : (FloatKind.f64.format.order a 4607182418800017408 == some .eq) = true := by rw [ord_rp hr.x rp_one]; rfl
  have hy : (FloatKind.f64.format.order d 4607182418800017408 == some .eq) = true := by rw [ord_rp hr.dy rp_one]; rfl
  have hb2 := hb1.alloc hb1.size (.cells #[.complex .f64 a b, .complex .f64 c d] 26)
  have HK := Lib.hid (bk_new w1 (.complex .f64 a b) (.complex .f64 c d))
  have HB2 := Lib.hid hb2
  have HT := Lib.hid (text_any a b c d _ hr _ (HG.out.on hb2))
  rw [flf_text] at HT
  clear hb2 hb1 hr
  go_wp2_with fail
  refine HT.out.mono ?_
  rintro e w2 ⟨rfl, hb3⟩
  have hk := HK.out.on hb3 HK.out.lt
  have x0 := hk.c0
  have x1 := hk.c1
  have HE := Lib.hid (bt HB2.out hb3)
  clear hk hb3
  go_wp2_with fail
  go_ret
  exact ⟨rfl, HE.out⟩
end Go.Proofs.YthpklagnecoilaaDoor
