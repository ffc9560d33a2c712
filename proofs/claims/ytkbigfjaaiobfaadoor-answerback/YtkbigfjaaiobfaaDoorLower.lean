/- The contract of ascii.Lower. -/
import Derived.Test.YtkbigfjaaiobfaaDoorToken
import Derived.Test.YtkbigfjaaiobfaaDoorLowPlain
import Derived.Lib.BufferWrite
import Derived.Lib.SlBuf
import Derived.Lib.OthersKept
import Derived.Laws.BytesArg
import Derived.Laws.CopyOwn
namespace Go.Proofs.YtkbigfjaaiobfaaDoor
open Go.RowKit Pl
open Go.Lib (byteCells)

theorem Tryd.info5 : (Tryd.prog.info? 5).map (fun i => (i.zero, i.size, i.bytes)) = some (some (.int .u8 0), 1, 1) := by kernel_rfl
theorem Tryd.size5 : (Tryd.prog.info? 5).map (·.size) = some 1 := by kernel_rfl

/-- Where a loop of Lower stands: the iterator's block, the row of bytes. -/
structure LowSt (s : ByteArray) (w wr : World) (g I pos : Nat) : Prop where
  iter : wr.heap[I]? = some (.stringIter s pos)
  row : wr.heap[g]? = some (.cells (byteCells (lowTo s.data.toList pos)).toArray 5 (0, 0))
  ne : g ≠ I
  lg : w.heap.size ≤ g
  lI : w.heap.size ≤ I
  below : Below w.heap.size w wr

theorem LowSt.cell {s : ByteArray} {w wr : World} {g I pos : Nat} (h : LowSt s w wr g I pos) (hp : pos < s.size) : wr.cell? ⟨g, pos, none⟩ = some (.int .u8 ((s[pos]'hp).toNat : Int)) := by
  have hc : wr.cell? ⟨g, pos, none⟩ = (byteCells (lowTo s.data.toList pos)).toArray[pos]? := by simp [World.cell?, h.row]
  rw [hc]
  simp [byteCells, lowTo_get s pos hp]

theorem LowSt.free {s : ByteArray} {w wr : World} {g I pos : Nat} (h : LowSt s w wr g I pos) (j : Nat) : wr.frozen? ⟨g, j, none⟩ = false := by
  simp [World.frozen?, h.row]

theorem LowSt.go {s : ByteArray} {w wr : World} {g I pos : Nat} (h : LowSt s w wr g I pos) (pos' : Nat) (hs : lowTo s.data.toList pos' = lowTo s.data.toList pos) : LowSt s w (wr.iterAt I s pos') g I pos' := by
  refine ⟨Lib.iterAt_heap wr I s pos pos' h.iter, ?_, h.ne, h.lg, h.lI, Lib.below_iterAt h.below h.lI s pos'⟩
  rw [Lib.iterAt_other wr I g s pos' h.ne, hs]; exact h.row

theorem LowSt.put {s : ByteArray} {w wr : World} {g I pos : Nat} (h : LowSt s w wr g I pos) (hp : pos < s.size) (v : Int) (hv : ((lowU (s[pos]'hp)).toNat : Int) = v) :
    LowSt s w ((wr.iterAt I s (pos + 1)).setCell ⟨g, pos, none⟩ (.int .u8 v)) g I (pos + 1) := by
  have hrow : (wr.iterAt I s (pos + 1)).heap[g]? = some (.cells (byteCells (lowTo s.data.toList pos)).toArray 5 (0, 0)) := by
    rw [Lib.iterAt_other wr I g s (pos + 1) h.ne]; exact h.row
  refine ⟨?_, ?_, h.ne, h.lg, h.lI, (Lib.below_iterAt h.below h.lI s (pos + 1)).setCell (by exact h.lg) _⟩
  · rw [Below.heap_setCell _ _ _ _ (fun e => h.ne e.symm)]; exact Lib.iterAt_heap wr I s pos (pos + 1) h.iter
  · rw [Lib.heap_setCell_same (i := pos) hrow]
    congr 2
    rw [← lowTo_set s pos hp]
    simp [byteCells, ← hv]

theorem LowSt.skip {s : ByteArray} {w wr : World} {g I pos : Nat} (_h : LowSt s w wr g I pos) (hp : pos < s.size) (ha : 128 ≤ (s[pos]'hp).toNat) (j : Nat) (hj : j ≤ (Utf8.decode s pos).2) : lowTo s.data.toList (pos + j) = lowTo s.data.toList pos := by
  induction j with
  | zero => rfl
  | succ j ih =>
    obtain ⟨hlt, hb⟩ := decode_cont s pos hp ha j (by omega)
    rw [← ih (by omega), ← lowTo_same s (pos + j) hlt (lowU_high hb)]
    rfl

theorem own_made {w w1 : World} {n g : Nat} {xs : List Value} (h : w1.ownsRow w.heap.size 5 1 (.slice (some ⟨g, 0, none⟩) n n) n xs) : ∃ cur : Array Value, w1.heap[g]? = some (.cells cur 5 (0, 0)) ∧ cur.size = n := by
  rcases h.2 with ⟨h1, _⟩ | ⟨g', cap, cur, hv, _, hh, _, _, hsz, _⟩
  · cases h1
  · injection hv with h1 h2 h3
    injection h1 with h1
    injection h1 with h1
    subst h1; subst h3
    exact ⟨cur, hh, by omega⟩

set_option maxHeartbeats 1000000 in
theorem lower_any (s : ByteArray) (w : World) (hs : s.size ≤ 1000000000000) :
    Calls Tryd.prog 17 #[.string s] w fun e w' => e = .returned (.string ⟨(lowB s.data.toList).toArray⟩) ∧ Below w.heap.size w w' := by
  obtain ⟨i0, hi, hz0, hz1, hz2⟩ := info_parts Tryd.info5
  have HI := Lib.hid hi; have HZ0 := Lib.hid hz0; have HZ1 := Lib.hid hz1; have HZ2 := Lib.hid hz2
  clear hi hz0 hz1 hz2
  go_enter Tryd.func17, Tryd.ntmps17
  go_wp2_with (first | (at_make; refine wpList_make_full _ rfl _ _ 32 rfl w.heap.size 5 i0 (.int .u8 0) 1 Tryd.underlying32 HI.out HZ0.out HZ1.out .i64 .i64 _ _ s.size rfl rfl rfl rfl ?b2 ?b3 ?b4 ?_))
  case b2 => rw [HZ2.out]; omega
  case b3 => unfold maxLen; omega
  case b4 => exact Nat.le_refl _
  intro w1 hown hgr
  obtain ⟨cur, hcur, hcsz⟩ := own_made hown
  have hcopy := Lib.run_copy_row_string (P := Tryd.prog) w1 32 9 3 5 w.heap.size 0 s.size s.size s cur 5 Tryd.underlying32 Tryd.size5 hcur (Nat.le_refl _) (by omega)
  have hb1 : Below w.heap.size w w1 := (Below.refl _ _).grown hgr (Nat.le_refl _) (fun k hk => by cases hk)
  have hst : LowSt s w ((w1.setRow w.heap.size (byteCells s.data.toList ++ List.drop s.size cur.toList).toArray).iter s 0) w.heap.size w1.heap.size 0 := by
    have hlt : w.heap.size < w1.heap.size := (Array.getElem?_eq_some_iff.1 hcur).1
    have hsz : (w1.setRow w.heap.size (byteCells s.data.toList ++ List.drop s.size cur.toList).toArray).heap.size = w1.heap.size := size_setRow _ _ _
    refine ⟨?_, ?_, by omega, Nat.le_refl _, hb1.size, ?_⟩
    · have := World.iter_heap (w1.setRow w.heap.size (byteCells s.data.toList ++ List.drop s.size cur.toList).toArray) s 0
      rwa [hsz] at this
    · have h0 : List.drop s.size cur.toList = [] := List.drop_of_length_le (by simp; omega)
      rw [World.iter, Below.heap_alloc _ _ _ (by omega), setRow_heap w1 _ cur _ 5 _ hcur, lowTo_zero, h0, List.append_nil]
    · exact (below_setRow hb1 (Nat.le_refl _) _).alloc (by rw [hsz]; exact hb1.size) _
  go_wp2_with fail
  generalize (w1.setRow w.heap.size (byteCells s.data.toList ++ List.drop s.size cur.toList).toArray).iter s 0 = W at *
  clear hcopy hown hgr hcur hcsz hb1
  generalize w1.heap.size = I at *
  go_loopw [4] (fun _ wr => ∃ pos : Nat, LowSt s w wr w.heap.size I pos) (fun _ wr => s.size - wr.iterPos I)
  case atStart => exact ⟨0, hst⟩
  case round =>
    obtain ⟨pos, hr⟩ := hrel
    have HP := Lib.hid (iterPos_of hr.iter)
    by_cases hp : pos < s.size
    · by_cases ha : (s[pos]'hp).toNat < 128
      · have hnx : ∀ ty, (Instr.next (.pointer (some ⟨I, 0, none⟩)) true ty).run Tryd.prog wr = _ := fun ty => Lib.run_next_ascii_at wr I s pos ty hr.iter hp ha
        cases hc : capR ((s[pos]'hp).toNat : Int) with
        | true =>
          have hN := hr.put hp _ (lowU_cap hc)
          have hcell := hr.cell hp
          have hfree := hr.free pos
          have hcell2 : (wr.iterAt I s (pos + 1)).cell? ⟨w.heap.size, pos, none⟩ = some (.int .u8 ((s[pos]'hp).toNat : Int)) := (World.cell?_of_block (Lib.iterAt_other wr I w.heap.size s (pos + 1) hr.ne)).trans hcell
          have hfree2 : (wr.iterAt I s (pos + 1)).frozen? ⟨w.heap.size, pos, none⟩ = false := (World.frozen?_of_block (Lib.iterAt_other wr I w.heap.size s (pos + 1) hr.ne)).trans hfree
          have hc90 : ((s[pos]'hp).toNat : Int) ≤ 90 := by simp [capR] at hc; omega
          clear hcell hfree
          generalize ((s[pos]'hp).toNat) = c at *
          go_wp2_with (first | (go_at_call 29; refine (cap_any _ _ (by omega) (by omega)).mono ?_; rintro e w' ⟨rfl, rfl⟩))
          go_roundw
          case rel => exact ⟨pos + 1, hN⟩
          case measure => rw [iterPos_of hN.iter, HP.out]; omega
        | false =>
          have hN := hr.go (pos + 1) (lowTo_same s pos hp (lowU_not hc))
          generalize ((s[pos]'hp).toNat) = c at *
          go_wp2_with (first | (go_at_call 29; refine (cap_any _ _ (by omega) (by omega)).mono ?_; rintro e w' ⟨rfl, rfl⟩))
          go_roundw
          case rel => exact ⟨pos + 1, hN⟩
          case measure => rw [iterPos_of hN.iter, HP.out]; omega
      · have hnx : ∀ ty, (Instr.next (.pointer (some ⟨I, 0, none⟩)) true ty).run Tryd.prog wr = _ := fun ty => Lib.run_next_any_at wr I s pos ty hr.iter hp
        have hN := hr.go (pos + (Utf8.decode s pos).2) (hr.skip hp (by omega) _ (Nat.le_refl _))
        have hd := decode_high s pos hp (by omega)
        have hd2 := decode_le s pos
        generalize (Utf8.decode s pos).1 = c at *
        generalize (Utf8.decode s pos).2 = d at *
        have hc : capR (c : Int) = false := by simp [capR]; omega
        go_wp2_with (first | (go_at_call 29; refine (cap_any _ _ (by omega) (by omega)).mono ?_; rintro e w' ⟨rfl, rfl⟩))
        go_roundw
        case rel => exact ⟨pos + d, hN⟩
        case measure => rw [iterPos_of hN.iter, HP.out]; omega
    · have hnx : ∀ ty, (Instr.next (.pointer (some ⟨I, 0, none⟩)) true ty).run Tryd.prog wr = _ := fun ty => Lib.run_next_end_at wr I s pos ty hr.iter hp
      have hcv := run_convert_bytes_arg (P := Tryd.prog) wr 32 5 Tryd.underlying32 Tryd.underlying5 w.heap.size 0 s.size s.size ((lowB s.data.toList).map fun b => (b.toNat : Int)) (by simp [lowB]) (fun i hi => by
        have hc : wr.cell? ⟨w.heap.size, 0 + i, none⟩ = (byteCells (lowTo s.data.toList pos)).toArray[i]? := by simp [World.cell?, hr.row]
        have hl : i < (lowB s.data.toList).length := by simpa [lowB] using hi
        rw [hc, lowTo_all _ _ (by simp; omega)]
        simp [byteCells, hl]) 9 Tryd.underlying9
      have HE : Hid (strOfNums ((lowB s.data.toList).map fun b => (b.toNat : Int)) = ⟨(lowB s.data.toList).toArray⟩) := by
        show _ = _
        simp [strOfNums, Function.comp_def]
      have HB := Lib.hid hr.below
      go_wp2
      go_ret
      exact ⟨by rw [← HE.out]; rfl, HB.out⟩

end Go.Proofs.YtkbigfjaaiobfaaDoor
