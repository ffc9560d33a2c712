/- The contracts of bytes.HasSuffix at rows of bytes, of strings.TrimSuffix and strings.Split at ends of lines, and of (*Cutter).endHead. -/
import Derived.Test.YtkjlbddaglcooaaGreatDoorCtLow
import Derived.Test.YtkjlbddaglcooaaGreatDoorShelf
import Derived.Test.YtkjlbddaglcooaaGreatDoorParseOne
import Derived.Test.YtkjlbddaglcooaaGreatDoorBodyStr
import Derived.Lib.SlFresh
import Derived.Deep.RegionLaw
namespace Go.Proofs.YtkjlbddaglcooaaGreatDoor
open Go.RowKit Pl Go.Shelf
open Go.Lib (byteCells numsL)

theorem in_row {w : World} {base n : Nat} {l : List UInt8} {v : Value} (h : w.ownsRow base 5 1 v n (byteCells l)) : ∃ A c, v = .slice A n c ∧ n ≤ c ∧ Lib.BytesIn w A n (numsL l) := by
  have hn : l.length = n := by have := h.1; simpa [byteCells] using this
  rcases h.2 with ⟨rfl, rfl⟩ | ⟨g, cap, cur, rfl, _, hh, hc, _⟩
  · exact ⟨none, 0, rfl, Nat.le_refl _, Lib.BytesIn.nil _ _ _⟩
  · refine ⟨_, cap, rfl, hc, Lib.BytesIn.of_cells fun i hi => ?_⟩
    refine h.cells (g := g) rfl i _ ?_
    have hi2 : i < l.length := by omega
    simp [byteCells, numsL, hi2]
theorem in_new (w : World) (q : List UInt8) (fr : Nat × Nat) : Lib.BytesIn (w.alloc (.cells (byteCells q).toArray 5 fr)) (some ⟨w.heap.size, 0, none⟩) q.length (numsL q) := by
  refine Lib.BytesIn.of_cells fun i hi => ?_
  refine World.news_of_block (heap_alloc_new w _) i _ ?_
  simp [byteCells, numsL, hi]

theorem suffix_new (w : World) {base : Nat} {l : List UInt8} {v : Value} (q : List UInt8) (qs : Array Value) (fr : Nat × Nat) (hq : (byteCells q).toArray = qs) (m : Nat) (hm : q.length = m) (h : w.ownsRow base 5 1 v l.length (byteCells l)) (hl : l.length ≤ 1000000) :
    Calls Tryz.prog 52 #[v, .slice (some ⟨w.heap.size, 0, none⟩) m m] (w.alloc (.cells qs 5 fr)) fun e w' => e = .returned (.bool (Lib.hasSuffix l q)) ∧ w.alloc (.cells qs 5 fr) = w' := by
  subst hq
  subst hm
  obtain ⟨A, c, rfl, hc, hb⟩ := in_row (own_below h ((Below.refl _ _).alloc (Nat.le_refl _) (.cells (byteCells q).toArray 5 fr)))
  have := Any.bytes_HasSuffix_all Tryz.lays117 A (some ⟨w.heap.size, 0, none⟩) l.length c q.length q.length (numsL l) (numsL q) (w.alloc (.cells (byteCells q).toArray 5 fr)) (Lib.numsL_length l) (Lib.numsL_length q) hc (by omega) hb (in_new w q fr)
  rw [Lib.bytesOf_numsL, Lib.bytesOf_numsL] at this
  exact this.mono fun _ _ ⟨he, hw⟩ => ⟨he, hw.symm⟩

theorem suffix_cr (l : List UInt8) : Lib.hasSuffix l [13] = crB l := by
  rcases List.eq_nil_or_concat l with rfl | ⟨y, z, rfl⟩
  · rfl
  · rw [List.concat_eq_append]
    unfold Lib.hasSuffix crB
    rw [Bool.eq_iff_iff, List.isSuffixOf_iff_suffix]
    constructor
    · rintro ⟨t, ht⟩
      have := List.append_inj_right' ht rfl
      simpa using this.symm
    · intro h
      have hz : z = 13 := by simpa using h
      subst hz
      exact ⟨y, rfl⟩

/-- The cell that strings.Split looks at holds a number. -/
def MX (w : World) : Prop := ∃ m, w.cell? ⟨4, 0, none⟩ = some (.int .i64 m)
theorem MX.of {w w' : World} (h : MX w) (hb : w'.heap[4]? = w.heap[4]?) : MX w' := by
  obtain ⟨m, h⟩ := h
  exact ⟨m, by rw [World.cell?_of_block hb]; exact h⟩
theorem MX.lt {w : World} (h : MX w) : 4 < w.heap.size := by
  obtain ⟨m, h⟩ := h
  exact World.block_lt_of_cell? _ _ h
theorem MX.below {w w' : World} (h : MX w) (hb : Below w.heap.size w w') : MX w' := h.of (hb.block 4 h.lt)
theorem MX.fr {P : Nat → Prop} {g : Nat} {w w' : World} (h : MX w) (hb : Fr P g w w') (h0 : P 4) (hg : ¬ P g) : MX w' := h.of (hb.block 4 h0 (fun e => hg (e ▸ h0)))

theorem trim_ends (x : List UInt8) : Lib.trimSuffix (x ++ [13, 10, 13, 10]) [13, 10, 13, 10] = x := by
  have h : Lib.hasSuffix (x ++ [13, 10, 13, 10]) [13, 10, 13, 10] = true := by simp [Lib.hasSuffix]
  unfold Lib.trimSuffix
  rw [if_pos h]
  simp
theorem trimEnds_any (x : List UInt8) (w : World) (hs : x.length ≤ 1000000) : Calls Tryz.prog 68 #[.string ⟨(x ++ [13, 10, 13, 10]).toArray⟩, .string ⟨#[13, 10, 13, 10]⟩] w fun e w' => e = .returned (.string (mkB x)) ∧ w = w' := by
  have hc := Any.strings_TrimSuffix Tryz.lays102 ⟨(x ++ [13, 10, 13, 10]).toArray⟩ ⟨#[13, 10, 13, 10]⟩ w (by simp [ByteArray.size]; omega)
  have e1 : (ByteArray.mk (x ++ [13, 10, 13, 10]).toArray).data.toList = x ++ [13, 10, 13, 10] := by simp
  rw [e1] at hc
  change Calls Tryz.prog 68 _ _ (fun e w' => e = .returned (.string ⟨(Lib.trimSuffix (x ++ [13, 10, 13, 10]) [13, 10, 13, 10]).toArray⟩) ∧ w' = w) at hc
  rw [trim_ends] at hc
  exact hc.mono fun _ _ ⟨he, hw⟩ => ⟨he, hw.symm⟩

theorem splitB_le (sep : ByteArray) : ∀ (k : Nat) (s : ByteArray), ∀ p ∈ Lib.splitB sep 0 k s, p.size ≤ s.size
  | 0, s => by simp [Lib.splitB]
  | k + 1, s => by
    unfold Lib.splitB
    split
    · simp
    · intro p hp
      rw [List.mem_cons] at hp
      rcases hp with rfl | hp
      · simp; omega
      · have := splitB_le sep k _ p hp
        simp at this
        omega
theorem lines_len (x : List UInt8) : (linesOf x).length = Lib.countB (mkB x) ⟨#[13, 10]⟩ + 1 := Lib.splitB_all ⟨#[13, 10]⟩ (by decide) 0 _ (mkB x) rfl
theorem lines_le (x : List UInt8) : ∀ p ∈ linesOf x, p.size ≤ x.length := fun p hp => by
  have := splitB_le _ _ _ p hp
  rwa [mkB_size] at this
theorem count_le_len (x : List UInt8) : Lib.countB (mkB x) ⟨#[13, 10]⟩ ≤ x.length := by
  have := Lib.countB_le ⟨#[13, 10]⟩ (by decide) (mkB x).size (mkB x) (Nat.le_refl _)
  rwa [mkB_size] at this
theorem Tryz.info9w : (Tryz.prog.info? 9).map (fun i => (i.zero, i.size, i.bytes)) = some (some (.string ByteArray.empty), 1, 16) := by kernel_rfl
theorem split_any (x : List UInt8) (w : World) (hs : x.length ≤ 1000000) (hm : MX w) : Calls Tryz.prog 69 #[.string (mkB x), .string ⟨#[13, 10]⟩] w fun e w' =>
    e = .returned (.slice (some ⟨w.heap.size, 0, none⟩) (linesOf x).length (linesOf x).length) ∧ w' = w.alloc (.cells ((linesOf x).map Value.string).toArray 9) := by
  obtain ⟨m, hm⟩ := hm
  have := Any.strings_Split Tryz.lays146 Tryz.info9w (mkB x) ⟨#[13, 10]⟩ m w (by rw [mkB_size]; omega) hm (by decide)
  rw [lines_len]
  exact this
theorem rd_new (w : World) (cs : List Value) (t : TypeId) : Rd (w.alloc (.cells cs.toArray t)) (w.alloc (.cells cs.toArray t)).heap.size 1 (some ⟨w.heap.size, 0, none⟩) cs.length cs := by
  refine ⟨by simp, fun _ => ⟨_, rfl, by simp, fun j u hu => ?_⟩⟩
  exact World.news_of_block (heap_alloc_new w (.cells cs.toArray t)) j u (by simpa using hu)

theorem CV.toBody {P : Nat → Prop} {w w4 : World} {g gb : Nat} {c : Cst} {l : List UInt8} {wv lv fv bv v : Value} {r : Rq} {d : Bst} (h : CV P w g c l wv lv fv bv) (hb : Below w.heap.size w w4) (hbo : BO (fun k => k < w.heap.size) w4 gb d) (hgb : gb = w.heap.size)
    (hv : w.ownsRow 0 64 2 v r.fs.length (fldCells r.fs)) :
    CV P (((((((w4.setCell ⟨g, 1, none⟩ (.slice none 0 0)).setCell ⟨g, 2, none⟩ (.string r.m)).setCell ⟨g, 3, none⟩ (.string r.t)).setCell ⟨g, 4, none⟩ v).setCell ⟨g, 5, none⟩ (.string r.body)).setCell ⟨g, 6, none⟩ (.bool r.close)).setCell ⟨g, 7, none⟩ (.pointer (some ⟨gb, 0, none⟩))) g ⟨[], r, some d, c.done, c.status⟩ l wv (.slice none 0 0) v (.pointer (some ⟨gb, 0, none⟩)) := by
  have hne : g ≠ gb := by have := h.lt; omega
  have e0 : w4.heap[g]? = some (.cells #[wv, lv, .string c.rq.m, .string c.rq.t, fv, .string c.rq.body, .bool c.rq.close, bv, .bool c.done, .int .i64 c.status] 59 (0, 0)) := (hb.block g h.lt).trans h.blk
  have e1 : (w4.setCell ⟨g, 1, none⟩ (.slice none 0 0)).heap[g]? = some (.cells #[wv, .slice none 0 0, .string c.rq.m, .string c.rq.t, fv, .string c.rq.body, .bool c.rq.close, bv, .bool c.done, .int .i64 c.status] 59 (0, 0)) := set_same 1 e0
  have e2 : ((w4.setCell ⟨g, 1, none⟩ (.slice none 0 0)).setCell ⟨g, 2, none⟩ (.string r.m)).heap[g]? = some (.cells #[wv, .slice none 0 0, .string r.m, .string c.rq.t, fv, .string c.rq.body, .bool c.rq.close, bv, .bool c.done, .int .i64 c.status] 59 (0, 0)) := set_same 2 e1
  have e3 := set_same (v := .string r.t) 3 e2
  have e4 := set_same (v := v) 4 e3
  have e5 := set_same (v := .string r.body) 5 e4
  have e6 := set_same (v := .bool r.close) 6 e5
  have e7 := set_same (v := .pointer (some ⟨gb, 0, none⟩)) 7 e6
  have hneF : v.ownBlock ≠ some g := own_ne2 hv h.blk (by decide)
  have hlt : ∀ k, PB P g wv v k → k < w.heap.size := fun k hk => by
    rcases hk with hk | hk | hk | hk
    · exact h.lo k hk
    · rw [hk]; exact h.lt
    · exact h.wt.lt k hk
    · exact (hv.lt k hk).2
  have hbo2 : BO (PB P g wv v) w4 gb d := hbo.weak hlt
  have hg0 : PB P g wv v g := .inr (.inl rfl)
  refine ⟨e7.trans rfl, ?_, World.ownsRow_nil _ _ _ _, ?_, ?_, h.ng, h.wtP, fun k hk => (by cases hk), fun k _ hk => (by cases hk), fun _ => rfl, fun hx => (by cases hx), fun d' hd' => ?_⟩
  · refine h.wt.block fun k hk => ?_
    have hkg : k ≠ g := fun e => h.neW (by rw [hk, e])
    rw [Below.heap_setCell _ _ _ _ hkg, Below.heap_setCell _ _ _ _ hkg, Below.heap_setCell _ _ _ _ hkg, Below.heap_setCell _ _ _ _ hkg, Below.heap_setCell _ _ _ _ hkg, Below.heap_setCell _ _ _ _ hkg, Below.heap_setCell _ _ _ _ hkg]
    exact hb.block k (h.wt.lt k hk)
  · exact ownsRow_setCell_other (ownsRow_setCell_other (ownsRow_setCell_other (ownsRow_setCell_other (ownsRow_setCell_other (ownsRow_setCell_other (ownsRow_setCell_other (own_below hv hb) hneF _) hneF _) hneF _) hneF _) hneF _) hneF _) hneF _
  · exact fun k hk => le_set (le_set (le_set (le_set (le_set (le_set (le_set (Nat.lt_of_lt_of_le (h.lo k hk) hb.size)))))))
  · injection hd' with hd'
    subst hd'
    refine ⟨gb, rfl, fun hP => ?_, ((((((hbo2.far hg0 hne).far hg0 hne).far hg0 hne).far hg0 hne).far hg0 hne).far hg0 hne).far hg0 hne⟩
    have := h.lo gb hP
    omega

end Go.Proofs.YtkjlbddaglcooaaGreatDoor
