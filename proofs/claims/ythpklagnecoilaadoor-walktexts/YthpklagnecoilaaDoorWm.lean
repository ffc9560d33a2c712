/- The contracts of walks: what they tell and what they turn. -/
import Derived.Test.YthpklagnecoilaaDoorWkPlain
import Derived.Test.YthpklagnecoilaaDoorBs
import Derived.Test.YthpklagnecoilaaDoorShelf
import Derived.Lib.SmallJoins
import Derived.Lib.AppendIntMem
import Derived.Lib.LaidTab
import Derived.Lib.ItoaLen
namespace Go.Proofs.YthpklagnecoilaaDoor
open Go.RowKit Go.Shelf

/-- What stands from the start: the powers of ten. -/
structure GB (w : World) : Prop where
  pow : ∃ t fr, w.heap[0]? = some (.cells (Lib.pow10Tab.map fun z => Value.int .u64 z).toArray t fr)
  big : 1 ≤ w.heap.size
theorem GB.below {w w' : World} {B : Nat} (h : GB w) (hb : Below B w w') (hB : 1 ≤ B) : GB w' := by
  obtain ⟨⟨t, fr, p⟩, hs⟩ := h
  exact ⟨⟨t, fr, by rw [hb.block 0 (by omega)]; exact p⟩, Nat.le_trans hs hb.size⟩
theorem GB.on {w w' : World} (h : GB w) (hb : Below w.heap.size w w') : GB w' := h.below hb h.big
theorem GB.powTab {w : World} (h : GB w) {n : String} (hn : Tryd.prog.globalNamed n = some 0) : Lib.TabIs Tryd.prog w n .u64 Lib.pow10Tab := by
  obtain ⟨t, fr, hp⟩ := h.pow
  unfold Lib.TabIs World.var?
  rw [hn]
  simp only [Option.bind_some]
  rw [hp]
theorem fmt_any (n : Int) (h0 : -9223372036854775808 ≤ n) (h1 : n ≤ 9223372036854775807) (w : World) (hg : GB w) :
    Calls Tryd.prog 16 #[.int .i64 n, .int .i64 10] w fun e w' => e = .returned (.string (mkB (Lib.itoa n))) ∧ Below w.heap.size w w' :=
  (Any.strconv_FormatInt_10 Tryd.laysM173 n h0 h1 w (hg.powTab (by kernel_rfl))).mono fun _ _ ⟨he, k, os, hw⟩ => ⟨he, by rw [hw]; exact Lib.below_grow _ w (Nat.le_refl _) k os⟩

theorem conv_int {a : Nat} {x : Int} (ha : Rp a x) (t : TypeId) (ht : t = 2 ∨ t = 3) (wx : World) : (convert 29 t (.float .f64 a)).run Tryd.prog wx = .ok (.int .i64 x) wx := by
  rcases ht with rfl | rfl
  · exact run_convert_float_int wx 29 2 .f64 .i64 a x (by kernel_rfl) (by kernel_rfl) (int_rp ha)
  · exact run_convert_float_int wx 29 3 .f64 .i64 a x (by kernel_rfl) (by kernel_rfl) (int_rp ha)

theorem whole_any (a : Nat) (x : Int) (ha : Rp a x) (w : World) (hg : GB w) : Calls Tryd.prog 15 #[.float .f64 a] w fun e w' => e = .returned (.string (mkB (Lib.itoa x))) ∧ Below w.heap.size w w' := by
  have h0 := ha.2.1
  have h1 := ha.2.2
  have hc := fun wx => conv_int ha 2 (.inl rfl) wx
  have HF := Lib.hid (fmt_any x (by omega) (by omega) w hg)
  generalize Lib.itoa x = ix at *
  clear ha h0 h1 hg
  go_enter Tryd.func15, Tryd.ntmps15
  go_wp2_with (go_at_call 16; refine HF.out.mono ?_; rintro e w1 ⟨rfl, hb⟩)
  go_ret
  exact ⟨rfl, hb⟩

theorem add_str (a b : ByteArray) (h : a.size + b.size ≤ 9223372036854775807) (wx : World) : (Op.stringOp .add a b).run Tryd.prog wx = .ok (.string (a ++ b)) wx := run_string_add_sum wx a b h
theorem mkB_app (a b : Bytes) : mkB a ++ mkB b = mkB (a ++ b) := bytes_ext (by simp [mkB])

def ptL (x y : Int) : Bytes := Lib.itoa x ++ [32] ++ Lib.itoa y
theorem itoa_short {x : Int} (h0 : -45 ≤ x) (h1 : x ≤ 45) : (Lib.itoa x).length ≤ 21 := Lib.itoa_length_le x (by omega) (by omega)
theorem pt_short {a b : Nat} {x y : Int} (ha : Rp a x) (hb : Rp b y) : (ptL x y).length ≤ 43 := by
  have := itoa_short ha.2.1 ha.2.2
  have := itoa_short hb.2.1 hb.2.2
  simp [ptL]
  omega

theorem point_any (a b : Nat) (x y : Int) (ha : Rp a x) (hb : Rp b y) (w : World) (hg : GB w) : Calls Tryd.prog 14 #[.complex .f64 a b] w fun e w' => e = .returned (.string (mkB (ptL x y))) ∧ Below w.heap.size w w' := by
  have s1 := itoa_short ha.2.1 ha.2.2
  have s2 := itoa_short hb.2.1 hb.2.2
  have HF := Lib.hid (whole_any a x ha w hg)
  have HF2 := Lib.hid (fun w1 (hw : Below w.heap.size w w1) => whole_any b y hb w1 (hg.on hw))
  have HP : Hid (ptL x y = Lib.itoa x ++ [32] ++ Lib.itoa y) := rfl
  generalize ptL x y = pt at *
  generalize Lib.itoa x = ix at *
  generalize Lib.itoa y = iy at *
  have a1 := fun wx => add_str (mkB ix) ⟨#[32]⟩ (by rw [mkB_size]; show ix.length + 1 ≤ _; omega) wx
  have e1 : mkB ix ++ ⟨#[32]⟩ = mkB (ix ++ [32]) := mkB_app ix [32]
  have a2 := fun wx => add_str (mkB (ix ++ [32])) (mkB iy) (by rw [mkB_size, mkB_size]; simp; omega) wx
  rw [mkB_app, ← HP.out] at a2
  simp only [e1] at a1
  generalize mkB (ix ++ [32]) = m1 at *
  generalize mkB ix = m2 at *
  generalize mkB iy = m3 at *
  generalize mkB pt = m4 at *
  clear ha hb hg s1 s2 e1 HP
  go_enter Tryd.func14, Tryd.ntmps14
  go_wp2_with fail
  refine HF.out.mono ?_
  rintro e w1 ⟨rfl, hb1⟩
  go_wp2_with fail
  refine (HF2.out _ hb1).mono ?_
  rintro e w2 ⟨rfl, hb2⟩
  have hb3 := Lib.hid (bt hb1 hb2)
  go_wp2_with fail
  go_ret
  exact ⟨rfl, hb3.out⟩
end Go.Proofs.YthpklagnecoilaaDoor
