/- The contracts of New, stop, take, Feed, Done, Status, Left of package cutter. -/
import Derived.Test.YtkjlbddaglcooaaGreatDoorCtWait
import Derived.Test.YtkjlbddaglcooaaGreatDoorBodyLow
namespace Go.Proofs.YtkjlbddaglcooaaGreatDoor
open Go.RowKit Pl
open Go.Lib (byteCells)

theorem Tryz.info5w : (Tryz.prog.info? 5).map (fun i => (i.zero, i.size, i.bytes)) = some (some (.int .u8 0), 1, 1) := by kernel_rfl
theorem Tryz.size59 : (Tryz.prog.info? 59).map (·.size) = some 10 := by kernel_rfl

theorem cnew_any (w : World) : Calls Tryz.prog 12 #[] w fun e w' => e = .returned (.pointer (some ⟨w.heap.size, 0, none⟩)) ∧ CO (fun k => k < w.heap.size) w' w.heap.size newC [] ∧ Below w.heap.size w w' := by
  go_enter Tryz.func12, Tryz.ntmps12
  go_wp2
  go_ret
  refine ⟨rfl, ⟨.slice none 0 0, .slice none 0 0, .slice none 0 0, .pointer none, heap_alloc_new w _, wt_nil _, World.ownsRow_nil _ _ _ _, World.ownsRow_nil _ _ _ _, fun k hk => ?_, Nat.lt_irrefl _, fun k hk => (by cases hk), fun k hk => (by cases hk), fun k hk => (by cases hk), fun _ => rfl, fun _ => rfl, fun d hd => (by cases hd)⟩, (Below.refl _ _).alloc (Nat.le_refl _) _⟩
  simp
  omega

def put10 (W : World) (g : Nat) (u0 u1 u2 u3 u4 u5 u6 u7 u8 u9 : Value) : World := ((((((((((W.setCell ⟨g, 0, none⟩ u0).setCell ⟨g, 1, none⟩ u1).setCell ⟨g, 2, none⟩ u2).setCell ⟨g, 3, none⟩ u3).setCell ⟨g, 4, none⟩ u4).setCell ⟨g, 5, none⟩ u5).setCell ⟨g, 6, none⟩ u6).setCell ⟨g, 7, none⟩ u7).setCell ⟨g, 8, none⟩ u8).setCell ⟨g, 9, none⟩ u9)
theorem put10_blk {W : World} {g : Nat} {x0 x1 x2 x3 x4 x5 x6 x7 x8 x9 : Value} (h : W.heap[g]? = some (.cells #[x0, x1, x2, x3, x4, x5, x6, x7, x8, x9] 59 (0, 0))) (u0 u1 u2 u3 u4 u5 u6 u7 u8 u9 : Value) : (put10 W g u0 u1 u2 u3 u4 u5 u6 u7 u8 u9).heap[g]? = some (.cells #[u0, u1, u2, u3, u4, u5, u6, u7, u8, u9] 59 (0, 0)) := by
  have e0 : (W.setCell ⟨g, 0, none⟩ u0).heap[g]? = some (.cells #[u0, x1, x2, x3, x4, x5, x6, x7, x8, x9] 59 (0, 0)) := set_same 0 h
  have e1 : ((W.setCell ⟨g, 0, none⟩ u0).setCell ⟨g, 1, none⟩ u1).heap[g]? = some (.cells #[u0, u1, x2, x3, x4, x5, x6, x7, x8, x9] 59 (0, 0)) := set_same 1 e0
  have e2 : (((W.setCell ⟨g, 0, none⟩ u0).setCell ⟨g, 1, none⟩ u1).setCell ⟨g, 2, none⟩ u2).heap[g]? = some (.cells #[u0, u1, u2, x3, x4, x5, x6, x7, x8, x9] 59 (0, 0)) := set_same 2 e1
  have e3 : ((((W.setCell ⟨g, 0, none⟩ u0).setCell ⟨g, 1, none⟩ u1).setCell ⟨g, 2, none⟩ u2).setCell ⟨g, 3, none⟩ u3).heap[g]? = some (.cells #[u0, u1, u2, u3, x4, x5, x6, x7, x8, x9] 59 (0, 0)) := set_same 3 e2
  have e4 : (((((W.setCell ⟨g, 0, none⟩ u0).setCell ⟨g, 1, none⟩ u1).setCell ⟨g, 2, none⟩ u2).setCell ⟨g, 3, none⟩ u3).setCell ⟨g, 4, none⟩ u4).heap[g]? = some (.cells #[u0, u1, u2, u3, u4, x5, x6, x7, x8, x9] 59 (0, 0)) := set_same 4 e3
  have e5 : ((((((W.setCell ⟨g, 0, none⟩ u0).setCell ⟨g, 1, none⟩ u1).setCell ⟨g, 2, none⟩ u2).setCell ⟨g, 3, none⟩ u3).setCell ⟨g, 4, none⟩ u4).setCell ⟨g, 5, none⟩ u5).heap[g]? = some (.cells #[u0, u1, u2, u3, u4, u5, x6, x7, x8, x9] 59 (0, 0)) := set_same 5 e4
  have e6 : (((((((W.setCell ⟨g, 0, none⟩ u0).setCell ⟨g, 1, none⟩ u1).setCell ⟨g, 2, none⟩ u2).setCell ⟨g, 3, none⟩ u3).setCell ⟨g, 4, none⟩ u4).setCell ⟨g, 5, none⟩ u5).setCell ⟨g, 6, none⟩ u6).heap[g]? = some (.cells #[u0, u1, u2, u3, u4, u5, u6, x7, x8, x9] 59 (0, 0)) := set_same 6 e5
  have e7 : ((((((((W.setCell ⟨g, 0, none⟩ u0).setCell ⟨g, 1, none⟩ u1).setCell ⟨g, 2, none⟩ u2).setCell ⟨g, 3, none⟩ u3).setCell ⟨g, 4, none⟩ u4).setCell ⟨g, 5, none⟩ u5).setCell ⟨g, 6, none⟩ u6).setCell ⟨g, 7, none⟩ u7).heap[g]? = some (.cells #[u0, u1, u2, u3, u4, u5, u6, u7, x8, x9] 59 (0, 0)) := set_same 7 e6
  have e8 : (((((((((W.setCell ⟨g, 0, none⟩ u0).setCell ⟨g, 1, none⟩ u1).setCell ⟨g, 2, none⟩ u2).setCell ⟨g, 3, none⟩ u3).setCell ⟨g, 4, none⟩ u4).setCell ⟨g, 5, none⟩ u5).setCell ⟨g, 6, none⟩ u6).setCell ⟨g, 7, none⟩ u7).setCell ⟨g, 8, none⟩ u8).heap[g]? = some (.cells #[u0, u1, u2, u3, u4, u5, u6, u7, u8, x9] 59 (0, 0)) := set_same 8 e7
  have e9 : ((((((((((W.setCell ⟨g, 0, none⟩ u0).setCell ⟨g, 1, none⟩ u1).setCell ⟨g, 2, none⟩ u2).setCell ⟨g, 3, none⟩ u3).setCell ⟨g, 4, none⟩ u4).setCell ⟨g, 5, none⟩ u5).setCell ⟨g, 6, none⟩ u6).setCell ⟨g, 7, none⟩ u7).setCell ⟨g, 8, none⟩ u8).setCell ⟨g, 9, none⟩ u9).heap[g]? = some (.cells #[u0, u1, u2, u3, u4, u5, u6, u7, u8, u9] 59 (0, 0)) := set_same 9 e8
  exact e9
theorem put10_fr {P : Nat → Prop} {W : World} {g : Nat} (u0 u1 u2 u3 u4 u5 u6 u7 u8 u9 : Value) : Fr P g W (put10 W g u0 u1 u2 u3 u4 u5 u6 u7 u8 u9) := by
  unfold put10
  exact ((((((((((Fr.refl _ _ _).setCell _ _).setCell _ _).setCell _ _).setCell _ _).setCell _ _).setCell _ _).setCell _ _).setCell _ _).setCell _ _).setCell _ _

set_option maxHeartbeats 1000000 in
theorem cstop_any {P : Nat → Prop} {w : World} {g : Nat} {c : Cst} {l : List UInt8} (h : CO P w g c l) (s : Int) : Calls Tryz.prog 40 #[.pointer (some ⟨g, 0, none⟩), .int .i64 s] w fun e w' => e = .returned (.tuple #[]) ∧ CO P w' g (stopC s) [] ∧ Fr P g w w' := by
  obtain ⟨wv, lv, fv, bv, h⟩ := h
  have f0 := h.free 0; have f1 := h.free 1; have f2 := h.free 2; have f3 := h.free 3; have f4 := h.free 4
  have f5 := h.free 5; have f6 := h.free 6; have f7 := h.free 7; have f8 := h.free 8; have f9 := h.free 9
  have c0 := h.cell 0; have c1 := h.cell 1; have c2 := h.cell 2; have c3 := h.cell 3; have c4 := h.cell 4
  have c5 := h.cell 5; have c6 := h.cell 6; have c7 := h.cell 7; have c8 := h.cell 8; have c9 := h.cell 9
  simp [ctCells] at c0 c1 c2 c3 c4 c5 c6 c7 c8 c9
  have HB := Lib.hid (put10_blk h.blk (.slice none 0 0) (.slice none 0 0) (.string ⟨#[]⟩) (.string ⟨#[]⟩) (.slice none 0 0) (.string ⟨#[]⟩) (.bool false) (.pointer none) (.bool true) (.int .i64 s))
  have HF := Lib.hid (put10_fr (P := P) (W := w) (g := g) (.slice none 0 0) (.slice none 0 0) (.string ⟨#[]⟩) (.string ⟨#[]⟩) (.slice none 0 0) (.string ⟨#[]⟩) (.bool false) (.pointer none) (.bool true) (.int .i64 s))
  have HL := Lib.hid h.lo
  have HG := Lib.hid h.ng
  clear h
  go_enter Tryz.func40, Tryz.ntmps40
  go_wp2
  go_end0
  change _ ∧ CO P (put10 w g (.slice none 0 0) (.slice none 0 0) (.string ⟨#[]⟩) (.string ⟨#[]⟩) (.slice none 0 0) (.string ⟨#[]⟩) (.bool false) (.pointer none) (.bool true) (.int .i64 s)) g (stopC s) [] ∧ Fr P g w (put10 w g (.slice none 0 0) (.slice none 0 0) (.string ⟨#[]⟩) (.string ⟨#[]⟩) (.slice none 0 0) (.string ⟨#[]⟩) (.bool false) (.pointer none) (.bool true) (.int .i64 s))
  exact ⟨rfl, ⟨_, _, _, _, cv_stop HB.out (fun k hk => Nat.lt_of_lt_of_le (HL.out k hk) HF.out.size) HG.out⟩, HF.out⟩

set_option maxHeartbeats 1000000 in
theorem ctake_any {P : Nat → Prop} {w : World} {g : Nat} {c : Cst} {b : UInt8} {l : List UInt8} (h : CO P w g c (b :: l)) : Calls Tryz.prog 26 #[.pointer (some ⟨g, 0, none⟩)] w fun e w' => e = .returned (.int .u8 (b.toNat : Int)) ∧ CO P w' g c l ∧ Fr P g w w' := by
  obtain ⟨wv, lv, fv, bv, h⟩ := h
  have hw := h.wt
  obtain ⟨A, cap, rfl, h1, h2, h3⟩ := hw
  simp only [List.length_cons] at h1
  rcases h3 with ⟨rfl, rfl⟩ | ⟨gw, o, cur, rfl, h4, h5, h6⟩
  · omega
  · unfold maxLen at h2
    have f0 := h.free 0
    have c0 := h.cell 0
    simp [ctCells] at c0
    have hb : w.cell? ⟨gw, o, none⟩ = some (.int .u8 (b.toNat : Int)) := by
      have := h6 0 b rfl
      simpa [World.cell?, h4] using this
    have hc : cap = 1 ∨ 1 < cap := by omega
    rcases hc with hc | hc
    · subst hc
      have hl : l = [] := List.length_eq_zero_iff.1 (by omega)
      have hW : Wt w (.slice (some ⟨gw, o, none⟩) 0 0) l := by
        subst hl
        exact ⟨_, _, rfl, Nat.le_refl _, Nat.zero_le _, .inr ⟨gw, o, cur, rfl, h4, by omega, fun j b hb => (by simp at hb)⟩⟩
      have H := Lib.hid (h.setW hW rfl)
      have hln : l.length = 0 := by rw [hl]; rfl
      simp only [hln] at c0
      clear h h6 hl hln hW
      go_enter Tryz.func26, Tryz.ntmps26
      go_wp2
      go_ret
      exact ⟨rfl, ⟨_, _, _, _, H.out⟩, (Fr.refl _ _ _).setCell _ _⟩
    · have hW : Wt w (.slice (some ⟨gw, o + 1, none⟩) l.length (cap - 1)) l :=
        ⟨_, _, rfl, by omega, by unfold maxLen; omega, .inr ⟨gw, o + 1, cur, rfl, h4, by omega, fun j b hb => by rw [Nat.add_assoc, Nat.add_comm 1 j]; exact h6 (j + 1) b hb⟩⟩
      have H := Lib.hid (h.setW hW rfl)
      clear h h6 hW
      generalize l.length = n at *
      go_enter Tryz.func26, Tryz.ntmps26
      go_wp2
      go_ret
      exact ⟨rfl, ⟨_, _, _, _, H.out⟩, (Fr.refl _ _ _).setCell _ _⟩

theorem cdone_any {P : Nat → Prop} {w : World} {g : Nat} {c : Cst} {l : List UInt8} (h : CO P w g c l) : Calls Tryz.prog 17 #[.pointer (some ⟨g, 0, none⟩)] w fun e w' => e = .returned (.bool c.done) ∧ w = w' := by
  obtain ⟨wv, lv, fv, bv, h⟩ := h
  have c8 := h.cell 8
  simp [ctCells] at c8
  have H := Lib.hid h
  clear h
  go_enter Tryz.func17, Tryz.ntmps17
  go_wp2
  go_ret
  exact ⟨rfl, rfl⟩

theorem cstatus_any {P : Nat → Prop} {w : World} {g : Nat} {c : Cst} {l : List UInt8} (h : CO P w g c l) : Calls Tryz.prog 19 #[.pointer (some ⟨g, 0, none⟩)] w fun e w' => e = .returned (.int .i64 c.status) ∧ w = w' := by
  obtain ⟨wv, lv, fv, bv, h⟩ := h
  have c9 := h.cell 9
  simp [ctCells] at c9
  have H := Lib.hid h
  clear h
  go_enter Tryz.func19, Tryz.ntmps19
  go_wp2
  go_ret
  exact ⟨rfl, rfl⟩

theorem cleft_any {P : Nat → Prop} {w : World} {g : Nat} {c : Cst} {l : List UInt8} (h : CO P w g c l) : Calls Tryz.prog 15 #[.pointer (some ⟨g, 0, none⟩)] w fun e w' => e = .returned (.int .i64 (l.length : Int)) ∧ w = w' := by
  obtain ⟨wv, lv, fv, bv, h⟩ := h
  obtain ⟨A, cap, rfl, _⟩ := h.wt
  have c0 := h.cell 0
  simp [ctCells] at c0
  have H := Lib.hid h
  clear h
  go_enter Tryz.func15, Tryz.ntmps15
  go_wp2
  go_ret
  exact ⟨rfl, rfl⟩

theorem BO.move {Q Q' : Nat → Prop} {w w5 : World} {gb : Nat} {d : Bst} {row : Option Nat} (h : BO Q w gb d) (hg : w.grownBy w5 row) (hrow : ∀ k, row = some k → Q k) (hne : row ≠ some gb) (hQ : ∀ k, Q' k → (Q k ∨ w.heap.size ≤ k) ∧ k < w5.heap.size) : BO Q' w5 gb d := by
  obtain ⟨lv, dv, h⟩ := h
  have hl : lv.ownBlock = none ∨ lv.ownBlock ≠ row := by
    cases hlv : lv.ownBlock with
    | none => exact .inl rfl
    | some k => exact .inr fun e => h.lnP k hlv (hrow k e.symm)
  have hd : dv.ownBlock = none ∨ dv.ownBlock ≠ row := by
    cases hdv : dv.ownBlock with
    | none => exact .inl rfl
    | some k => exact .inr fun e => h.dtP k hdv (hrow k e.symm)
  refine ⟨lv, dv, (hg.block gb h.lt (fun e => hne e.symm)).trans h.blk, h.ln.kept hg hl, h.dt.kept hg hd, fun k hk => (hQ k hk).2, h.ap, fun k hk hq => ?_, fun k hk hq => ?_⟩
  · rcases (hQ k hq).1 with h1 | h1
    · exact h.lnP k hk h1
    · have := (h.ln.lt k hk).2; omega
  · rcases (hQ k hq).1 with h1 | h1
    · exact h.dtP k hk h1
    · have := (h.dt.lt k hk).2; omega

theorem CV.feedW {P : Nat → Prop} {w w5 : World} {g : Nat} {c : Cst} {l l' : List UInt8} {wv lv fv bv v : Value} (h : CV P w g c l wv lv fv bv) (hw : Wt w5 v l') (hg : w.grownBy w5 wv.ownBlock) (hb : v.ownBlock = wv.ownBlock ∨ v.ownBlock = some w.heap.size) : CV P (w5.setCell ⟨g, 0, none⟩ v) g c l' v lv fv bv := by
  have hblk : w5.heap[g]? = _ := (hg.block g h.lt (fun e => h.neW e.symm)).trans h.blk
  have hvg : v.ownBlock ≠ some g := by
    rcases hb with hb | hb
    · rw [hb]; exact h.neW
    · rw [hb]; intro e; injection e with e; have := h.lt; omega
  have hl : lv.ownBlock = none ∨ lv.ownBlock ≠ wv.ownBlock := by
    cases hlv : lv.ownBlock with
    | none => exact .inl rfl
    | some k => exact .inr fun e => h.ap k e.symm hlv
  have hf : fv.ownBlock = none ∨ fv.ownBlock ≠ wv.ownBlock := by
    cases hfv : fv.ownBlock with
    | none => exact .inl rfl
    | some k =>
      refine .inr fun e => ?_
      rcases h.fl.2 with ⟨rfl, _⟩ | ⟨g', cap', cur, rfl, _, hh, _⟩
      · cases hfv
      · have : g' = k := by simpa [Value.ownBlock] using hfv
        subst this
        exact h.wt.ne hh (by decide) e.symm
  refine ⟨by rw [set_same 0 hblk]; rfl, hw.block fun k hk => Below.heap_setCell _ _ _ _ fun e => hvg (by rw [hk, e]), ownsRow_setCell_other (h.ln.kept hg hl) h.neL _, ownsRow_setCell_other (h.fl.kept hg hf) h.neF _, fun i hi => le_set (Nat.lt_of_lt_of_le (h.lo i hi) hg.size), h.ng, ?_, h.lnP, ?_, h.nl, h.bn, fun d hd => ?_⟩
  · intro k hk hP
    rcases hb with hb | hb
    · exact h.wtP k (by rw [← hb]; exact hk) hP
    · rw [hb] at hk; injection hk with hk; have := h.lo k hP; omega
  · intro k hk hk2
    rcases hb with hb | hb
    · exact h.ap k (by rw [← hb]; exact hk) hk2
    · rw [hb] at hk; injection hk with hk; have := (h.ln.lt k hk2).2; omega
  · obtain ⟨gb, e, h1, h2⟩ := h.bs d hd
    refine ⟨gb, e, h1, ?_⟩
    have hgb : wv.ownBlock ≠ some gb := by
      obtain ⟨lv', dv', hb2⟩ := h2
      exact h.wt.ne hb2.blk (by decide)
    have h3 : BO (PB P g v fv) w5 gb d := by
      refine h2.move hg (fun k hk => .inr (.inr (.inl hk))) hgb fun k hk => ⟨?_, ?_⟩
      · rcases hk with hk | hk | hk | hk
        · exact .inl (.inl hk)
        · exact .inl (.inr (.inl hk))
        · rcases hb with hb | hb
          · exact .inl (.inr (.inr (.inl (by rw [← hb]; exact hk))))
          · rw [hb] at hk; injection hk with hk; exact .inr (by omega)
        · exact .inl (.inr (.inr (.inr hk)))
      · rcases hk with hk | hk | hk | hk
        · exact Nat.lt_of_lt_of_le (h.lo k hk) hg.size
        · exact Nat.lt_of_lt_of_le (by rw [hk]; exact h.lt) hg.size
        · exact hw.lt k hk
        · exact Nat.lt_of_lt_of_le (h.fl.lt k hk).2 hg.size
    exact h3.far (.inr (.inl rfl)) (h.gb_ne h2)

set_option maxHeartbeats 1000000 in
theorem cfeed_any {P : Nat → Prop} {w : World} {g : Nat} {c : Cst} {l : List UInt8} (h : CO P w g c l) (hd : c.done = false) (s : ByteArray) (hs : l.length + s.size ≤ 140737488355328) : Calls Tryz.prog 13 #[.pointer (some ⟨g, 0, none⟩), .string s] w fun e w' => e = .returned (.tuple #[]) ∧ CO P w' g c (l ++ s.data.toList) ∧ Fr P g w w' := by
  obtain ⟨i0, hi, hz0, hz1, hz2⟩ := info_parts Tryz.info5w
  obtain ⟨wv, lv, fv, bv, h⟩ := h
  have c0 := h.cell 0; have c8 := h.cell 8
  simp [ctCells, hd] at c0 c8
  have H := Lib.hid h
  have HI := Lib.hid hi; have HZ0 := Lib.hid hz0; have HZ1 := Lib.hid hz1; have HZ2 := Lib.hid hz2
  have HS := Lib.hid hs
  clear h hi hz0 hz1 hz2 hs hd
  go_enter Tryz.func13, Tryz.ntmps13
  go_wp2_with (at_builtin; refine wpList_append_wait rfl _ _ rfl i0 HI.out HZ0.out HZ1.out HZ2.out wv l s rfl rfl H.out.wt HS.out ?_)
  intro v' w5 hw5 hg5 hat5
  obtain ⟨A5, cap5, rfl, hw5b⟩ := hw5
  have hw5 : Wt w5 (.slice A5 (l ++ s.data.toList).length cap5) (l ++ s.data.toList) := ⟨A5, cap5, rfl, hw5b⟩
  generalize hn5 : (l ++ s.data.toList).length = n5 at hw5 hat5
  have HN5 := Lib.hid hn5
  clear hn5 hw5b
  have hB := H.out.feedW hw5 hg5 hat5
  have hblk5 : w5.heap[g]? = _ := (hg5.block g H.out.lt (fun e => H.out.neW e.symm)).trans H.out.blk
  have hfr : Fr P g w (w5.setCell ⟨g, 0, none⟩ (.slice A5 n5 cap5)) := ((Fr.refl P g w).grown hg5 H.out.lo H.out.wtP).setCell _ _
  have f0 := blk_free hblk5 0
  have d0 := blk_cell hblk5 0
  simp [ctCells] at d0
  have HB := Lib.hid hB
  have HF := Lib.hid hfr
  clear hB hfr hblk5 hw5 hg5 hat5 c0 c8
  go_wp2
  go_end0
  exact ⟨rfl, ⟨_, _, _, _, HB.out⟩, HF.out⟩

end Go.Proofs.YtkjlbddaglcooaaGreatDoor
