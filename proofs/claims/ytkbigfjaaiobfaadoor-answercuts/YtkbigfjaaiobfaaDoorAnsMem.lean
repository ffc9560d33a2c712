/- What the calls read of memory that stands from the start; blocks that are known whole. -/
import Derived.Test.YtkbigfjaaiobfaaDoorShelf
import Derived.Test.YtkbigfjaaiobfaaDoorMem
import Derived.Test.YtkbigfjaaiobfaaDoorAnsPlain
import Derived.Lib.SmallJoins
import Derived.Lib.AppendIntMem
import Derived.Lib.LaidTab
namespace Go.Proofs.YtkbigfjaaiobfaaDoor
open Go.RowKit Pl Go.Shelf

theorem blk_cell {w : World} {g : Nat} {cs : Array Value} {t : TypeId} (h : w.heap[g]? = some (.cells cs t (0, 0))) (i : Nat) : w.cell? ⟨g, i, none⟩ = cs[i]? := by simp [World.cell?, h]
theorem blk_free {w : World} {g : Nat} {cs : Array Value} {t : TypeId} (h : w.heap[g]? = some (.cells cs t (0, 0))) (i : Nat) : w.frozen? ⟨g, i, none⟩ = false := by simp [World.frozen?, h]
theorem blk_lt {w : World} {g : Nat} {o : Obj} (h : w.heap[g]? = some o) : g < w.heap.size := (Array.getElem?_eq_some_iff.1 h).1

theorem drewN_below (w : World) (n : Nat) : Below w.heap.size w (w.drewN n) := ⟨rfl, rfl, rfl, Nat.le_refl _, fun _ _ => rfl⟩

/-- The table of powers of ten, and a number. -/
structure GB (w : World) : Prop where
  pow : ∃ t fr, w.heap[1]? = some (.cells (Lib.pow10Tab.map fun z => Value.int .u64 z).toArray t fr)
  mx : ∃ m, w.cell? ⟨0, 0, none⟩ = some (.int .i64 m)
  big : 8 ≤ w.heap.size
/-- The two sentinels besides. -/
structure GV (w : World) : Prop extends GB w where
  es : ∃ ev, w.cell? ⟨4, 0, none⟩ = some ev ∧ (ev = .nilIface ∨ ∃ te pe, ev = .iface te pe)
  er : ∃ ev, w.cell? ⟨5, 0, none⟩ = some ev ∧ (ev = .nilIface ∨ ∃ te pe, ev = .iface te pe)

theorem GB.below {w w' : World} {B : Nat} (h : GB w) (hb : Below B w w') (hB : 8 ≤ B) : GB w' := by
  obtain ⟨⟨t, fr, p⟩, ⟨m, hm⟩, hs⟩ := h
  exact ⟨⟨t, fr, by rw [hb.block 1 (by omega)]; exact p⟩, ⟨m, by rw [World.cell?_of_block (hb.block 0 (by omega))]; exact hm⟩, Nat.le_trans hs hb.size⟩
theorem GB.on {w w' : World} (h : GB w) (hb : Below w.heap.size w w') : GB w' := h.below hb h.big
theorem GV.below {w w' : World} {B : Nat} (h : GV w) (hb : Below B w w') (hB : 8 ≤ B) : GV w' := by
  obtain ⟨hh, ⟨e1, h1, k1⟩, ⟨e2, h2, k2⟩⟩ := h
  exact ⟨hh.below hb hB, ⟨e1, by rw [World.cell?_of_block (hb.block 4 (by omega))]; exact h1, k1⟩, ⟨e2, by rw [World.cell?_of_block (hb.block 5 (by omega))]; exact h2, k2⟩⟩
theorem GV.on {w w' : World} (h : GV w) (hb : Below w.heap.size w w') : GV w' := h.below hb h.big

theorem GB.tab {w : World} (h : GB w) {n : String} (hn : Tryd.prog.globalNamed n = some 1) : Lib.TabIs Tryd.prog w n .u64 Lib.pow10Tab := by
  obtain ⟨t, fr, hp⟩ := h.pow
  unfold Lib.TabIs World.var?
  rw [hn]
  simp only [Option.bind_some]
  rw [hp]

theorem itoa_any (n : Int) (h0 : -9223372036854775808 ≤ n) (h1 : n ≤ 9223372036854775807) (w : World) (hg : GB w) :
    Calls Tryd.prog 21 #[.int .i64 n] w fun e w' => e = .returned (.string (mkB (Lib.itoa n))) ∧ Below w.heap.size w w' :=
  (Any.strconv_Itoa Tryd.lays171 n h0 h1 w (hg.tab (by kernel_rfl))).mono fun _ _ ⟨he, k, os, hw⟩ => ⟨he, by rw [hw]; exact Lib.below_grow _ w (Nat.le_refl _) k os⟩

def cutV (s sep : List UInt8) : Value := .tuple #[.string (mkB (Lib.cut s sep).1), .string (mkB (Lib.cut s sep).2.1), .bool (Lib.cut s sep).2.2]
theorem cutc_any (s sep : ByteArray) (w : World) (hs : s.size < 4294967281) (hg : GB w) :
    Calls Tryd.prog 23 #[.string s, .string sep] w fun e w' => e = .returned (cutV s.data.toList sep.data.toList) ∧ Below w.heap.size w w' := by
  obtain ⟨m, hm⟩ := hg.mx
  exact (Any.strings_Cut Tryd.lays145 s sep m w hs hm).mono fun _ _ ⟨he, n, hw⟩ => ⟨he, by rw [hw]; exact drewN_below _ n⟩

theorem cutp_any (s p : ByteArray) (w : World) : Calls Tryd.prog 26 #[.string s, .string p] w fun e w' => e = .returned (.tuple #[.string (mkB (Lib.trimPrefix s.data.toList p.data.toList)), .bool (Lib.hasPrefix s.data.toList p.data.toList)]) ∧ w = w' :=
  (Any.strings_CutPrefix Tryd.lays103 s p w).mono fun _ _ ⟨he, hw⟩ => ⟨he, hw.symm⟩

theorem atoi_ok (s : ByteArray) (v : Int) (hs : s.size ≤ 281474976710656) (h : Lib.atoiAll s.data.toList = .ok v) (w : World) :
    Calls Tryd.prog 48 #[.string s] w fun e w' => e = .returned (.tuple #[.int .i64 v, .nilIface]) ∧ Below w.heap.size w w' :=
  (Any.strconv_Atoi_ok Tryd.lays172 s (by omega) v h w).mono fun _ _ ⟨he, hw⟩ => ⟨he, by
    rcases hw with rfl | ⟨t, rfl⟩
    · exact Below.refl _ _
    · exact Lib.bytesWorld_below _ _ _⟩
theorem atoi_bad (s : ByteArray) (hs : s.size ≤ 281474976710656) (h : ∀ v, Lib.atoiAll s.data.toList ≠ .ok v) (w : World) (hg : GV w) :
    Calls Tryd.prog 48 #[.string s] w fun e w' => ∃ v t p, e = .returned (.tuple #[.int .i64 v, .iface t p]) ∧ -9223372036854775808 ≤ v ∧ v ≤ 9223372036854775807 ∧ Below w.heap.size w w' := by
  obtain ⟨e1, h1, k1⟩ := hg.es
  obtain ⟨e2, h2, k2⟩ := hg.er
  cases ha : Lib.atoiAll s.data.toList with
  | ok v => exact absurd ha (h v)
  | range => exact (Any.strconv_Atoi_range Tryd.lays172 s hs ha e2 w h2 k2).mono fun _ _ ⟨_, he, _, _, hb⟩ => ⟨_, _, _, he, by unfold Lib.atoiSat; split <;> decide, by unfold Lib.atoiSat; split <;> decide, hb⟩
  | _ => exact (Any.strconv_Atoi_syntax Tryd.lays172 s hs ha e1 w h1 k1).mono fun _ _ ⟨_, he, _, _, hb⟩ => ⟨_, _, _, he, by decide, by decide, hb⟩

theorem trim_any (s : ByteArray) (w : World) (hs : s.size ≤ 9223372036854775807) :
    Calls Tryd.prog 18 #[.string s] w fun e w' => e = .returned (.string (trS s)) ∧ Below w.heap.size w w' := by
  have hcon := Any.strings_Trim_laid Tryd.lays160 (by kernel_rfl) s ⟨#[32, 9]⟩ w hs (by decide) (ascii_of_all (by decide))
  change Calls Tryd.prog 30 _ _ (fun e w' => e = .returned (.string ⟨(Lib.trimS s.data.toList [32, 9]).toArray⟩) ∧ Below w.heap.size w w') at hcon
  rw [trimS_eq] at hcon
  change Calls Tryd.prog 30 _ _ (fun e w' => e = .returned (.string (trS s)) ∧ Below w.heap.size w w') at hcon
  generalize trS s = r at hcon ⊢
  go_enter Tryd.func18, Tryd.ntmps18
  go_wp2_with (go_at_call 30; refine hcon.mono ?_; rintro e w' ⟨rfl, hB⟩)
  go_ret
  exact ⟨rfl, hB⟩

end Go.Proofs.YtkbigfjaaiobfaaDoor
