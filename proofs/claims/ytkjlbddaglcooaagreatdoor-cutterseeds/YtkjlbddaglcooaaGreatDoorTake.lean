/- The contract of (*Head).take. -/
import Derived.Test.YtkjlbddaglcooaaGreatDoorBodyMem
import Derived.Test.YtkjlbddaglcooaaGreatDoorMem
import Derived.Test.YtkjlbddaglcooaaGreatDoorPlains
import Derived.Test.YtkjlbddaglcooaaGreatDoorToken
import Derived.Test.YtkjlbddaglcooaaGreatDoorLower
import Derived.Test.YtkjlbddaglcooaaGreatDoorStr
import Derived.Deep.RegionHeld3
import Derived.Deep.DrawnRows
namespace Go.Proofs.YtkjlbddaglcooaaGreatDoor
open Go.RowKit Pl

theorem Tryz.info64 : (Tryz.prog.info? 64).map (fun i => (i.zero, i.size, i.bytes)) = some (some (.agg #[.string ⟨#[]⟩, .string ⟨#[]⟩]), 2, 32) := by kernel_rfl

def hdCells (m t v b cl le st : Value) : Array Value := #[m, t, v, b, cl, le, st]

/-- Where take stands: the head's block, its row of fields; nothing else of what was there has turned. -/
structure TkSt (m t b cl le st : Value) (w wr : World) (g : Nat) (v : Value) (fs : List Fld) : Prop where
  blk : wr.heap[g]? = some (.cells (hdCells m t v b cl le st) 51 (0, 0))
  row : wr.ownsRow w.heap.size 64 2 v fs.length (fldCells fs)
  grown : w.grownBy wr (some g)
  lg : g < w.heap.size

section
variable {m t b cl le st : Value} {w wr : World} {g : Nat} {v : Value} {fs : List Fld}
theorem TkSt.lt (h : TkSt m t b cl le st w wr g v fs) : g < wr.heap.size := Nat.lt_of_lt_of_le h.lg h.grown.size
theorem grown_below {a b c : World} {row : Option Nat} (h : a.grownBy b row) (k : Below b.heap.size b c) : a.grownBy c row :=
  ⟨k.os.trans h.os, k.tape.trans h.tape, k.output.trans h.output, Nat.le_trans h.size k.size, fun i hi hne => (k.block i (Nat.lt_of_lt_of_le hi h.size)).trans (h.block i hi hne)⟩
theorem TkSt.below {w' : World} (h : TkSt m t b cl le st w wr g v fs) (k : Below wr.heap.size wr w') : TkSt m t b cl le st w w' g v fs :=
  ⟨(k.block g h.lt).trans h.blk, own_below h.row k, grown_below h.grown k, h.lg⟩
theorem TkSt.cell (h : TkSt m t b cl le st w wr g v fs) : wr.cell? ⟨g, 2, none⟩ = some v := by simp [World.cell?, h.blk, hdCells]
theorem TkSt.drew (h : TkSt m t b cl le st w wr g v fs) : TkSt m t b cl le st w wr.drew g v fs := h.below (Below.refl _ _).drew
theorem TkSt.alloc (h : TkSt m t b cl le st w wr g v fs) (o : Obj) : TkSt m t b cl le st w (wr.alloc o) g v fs := h.below ((Below.refl _ _).alloc (Nat.le_refl _) _)
theorem TkSt.free (h : TkSt m t b cl le st w wr g v fs) : wr.frozen? ⟨g, 2, none⟩ = false := by simp [World.frozen?, h.blk]
theorem TkSt.apart (h : TkSt m t b cl le st w wr g v fs) : some g ≠ v.ownBlock := by
  rcases h.row.2 with ⟨rfl, _⟩ | ⟨g', cap, cur, rfl, _, hh, _⟩
  · simp [Value.ownBlock]
  · intro e
    have e' : g = g' := by simpa [Value.ownBlock] using e
    subst e'
    rw [h.blk] at hh
    injection hh with hh
    injection hh with _ ht
    cases ht
theorem TkSt.far {w5 : World} (h : TkSt m t b cl le st w wr g v fs) (hg : wr.grownBy w5 v.ownBlock) : w5.heap[g]? = some (.cells (hdCells m t v b cl le st) 51 (0, 0)) :=
  (hg.block g h.lt h.apart).trans h.blk
theorem TkSt.cell5 {w5 : World} (h : TkSt m t b cl le st w wr g v fs) (hg : wr.grownBy w5 v.ownBlock) : w5.cell? ⟨g, 2, none⟩ = some v := by
  have e := h.far hg
  simp [World.cell?, e, hdCells]
theorem TkSt.free5 {w5 : World} (h : TkSt m t b cl le st w wr g v fs) (hg : wr.grownBy w5 v.ownBlock) : w5.frozen? ⟨g, 2, none⟩ = false := by
  have e := h.far hg
  simp [World.frozen?, e]
theorem TkSt.next {w5 : World} {g2 cap n : Nat} {fs' : List Fld} (h : TkSt m t b cl le st w wr g v fs) (hg : wr.grownBy w5 v.ownBlock) (hn : n = fs'.length) (ho : w5.ownsRow w.heap.size 64 2 (.slice (some ⟨g2, 0, none⟩) n cap) n (fldCells fs')) :
    TkSt m t b cl le st w (w5.setCell ⟨g, 2, none⟩ (.slice (some ⟨g2, 0, none⟩) n cap)) g (.slice (some ⟨g2, 0, none⟩) n cap) fs' := by
  subst hn
  have e := h.far hg
  have hl : ∀ k, v.ownBlock = some k → w.heap.size ≤ k := fun k hk => (h.row.lt k hk).1
  refine ⟨?_, ownsRow_setCell_below ho (by exact h.lg) _, ?_, h.lg⟩
  · rw [Lib.heap_setCell_same (i := 2) e]
    rfl
  · refine ⟨hg.os.trans h.grown.os, hg.tape.trans h.grown.tape, hg.output.trans h.grown.output, ?_, fun i hi hne => ?_⟩
    · have := h.grown.size; have := hg.size
      simp [World.setCell]; omega
    · have hne2 : i ≠ g := fun e => hne (by rw [e])
      rw [Below.heap_setCell _ _ _ _ (by simpa using hne2)]
      refine (hg.block i (Nat.lt_of_lt_of_le hi h.grown.size) (fun e => ?_)).trans (h.grown.block i hi hne)
      have := hl i e.symm
      omega
end

theorem call_t {m t b cl le st : Value} {w W : World} {g : Nat} {v : Value} {fs : List Fld} {f : FuncId} {args : Array Value} {r : Value} (hc : Hid (∀ w, Calls Tryz.prog f args w fun e w' => e = .returned r ∧ Below w.heap.size w w')) (h : TkSt m t b cl le st w W g v fs) :
    Calls Tryz.prog f args W fun e w' => e = .returned r ∧ TkSt m t b cl le st w w' g v fs := (hc.out W).mono fun _ _ ⟨he, hb⟩ => ⟨he, h.below hb⟩

theorem low_s (s : ByteArray) (w : World) (hs : s.size ≤ 1000000000000) : Calls Tryz.prog 47 #[.string s] w fun e w' => e = .returned (.string (lowS s)) ∧ Below w.heap.size w w' := lower_any s w hs

theorem fldOf_none (s : ByteArray) (h : cutL s.data.toList = none) : fldOf s = none := by unfold fldOf; rw [h]
theorem fldOf_some (s : ByteArray) {a b : ByteArray} (h : cutL s.data.toList = some (a.data.toList, b.data.toList)) : fldOf s = if tokB a.data.toList && valB b.data.toList then some (lowS a, trS b) else none := by unfold fldOf; rw [h]; rfl
theorem cut_sizes (s : ByteArray) {a b : ByteArray} (h : cutL s.data.toList = some (a.data.toList, b.data.toList)) : a.size ≤ s.size ∧ b.size ≤ s.size := by
  rcases cutL_cases s.data.toList with ⟨_, h2⟩ | ⟨i, _, h2, h3⟩
  · rw [h2] at h; cases h
  · rw [h3] at h
    injection h with h
    injection h with ha hb
    have e1 := congrArg List.length ha
    have e2 := congrArg List.length hb
    rw [List.length_take, data_len, data_len] at e1
    rw [List.length_drop, data_len, data_len] at e2
    omega

set_option maxHeartbeats 2000000 in
theorem take_any (ls : List ByteArray) (A : Option Addr) (c g B : Nat) (m t b cl le st : Value) (w : World) (hB : B ≤ g) (hr : Rd w B 1 A ls.length (ls.map .string)) (hn : ls.length ≤ 1000000) (hs : ∀ s ∈ ls, s.size ≤ 1000000)
    (hblk : w.heap[g]? = some (.cells (hdCells m t (.slice none 0 0) b cl le st) 51 (0, 0))) :
    Calls Tryz.prog 30 #[.pointer (some ⟨g, 0, none⟩), .slice A ls.length c] w fun e w' => e = .returned (.bool (takeF ls).isSome) ∧ ∃ v fs, TkSt m t b cl le st w w' g v fs ∧ (∀ x, takeF ls = some x → fs = x) := by
  have hg : g < w.heap.size := (Array.getElem?_eq_some_iff.1 hblk).1
  have hst0 : TkSt m t b cl le st w w g (.slice none 0 0) [] := ⟨hblk, World.ownsRow_nil _ _ _ _, World.grownBy.refl _ _, hg⟩
  have HS := Lib.hid hs
  obtain ⟨i0, hi, hz0, hz1, hz2⟩ := info_parts Tryz.info64
  have HI := Lib.hid hi; have HZ0 := Lib.hid hz0; have HZ1 := Lib.hid hz1; have HZ2 := Lib.hid hz2
  clear hi hz0 hz1 hz2 hs hblk
  go_enter Tryz.func30, Tryz.ntmps30
  go_wp2
  go_loopw [12] (fun i wr => ∃ (k : Nat) (fs : List Fld) (v : Value), k ≤ ls.length ∧ i = .int .i64 k ∧ fs.length = k ∧ TkSt m t b cl le st w wr g v fs ∧ Hid (takeF (ls.take k) = some fs)) (fun i _ => ls.length - (intOf i).toNat)
  case atStart => exact ⟨0, [], .slice none 0 0, by omega, rfl, rfl, hst0, rfl⟩
  case round =>
    obtain ⟨k, fs, v, hk, rfl, hfl, hst, htk⟩ := hrel
    clear hst0
    have HF := Lib.hid hfl
    have hfl2 : fs.length ≤ k := by omega
    clear hfl
    have hrd : Rd wr B 1 A ls.length (ls.map .string) := hr.block fun j hj => hst.grown.block j (by omega) (by simp; omega)
    by_cases hlt : k < ls.length
    · obtain ⟨a, rfl, hab, hc⟩ := hrd.at hlt (.string ls[k]) (by simp [hlt])
      have hsz := HS.out ls[k] (List.getElem_mem hlt)
      have hstop := takeF_stop ls k hlt
      have hsnoc := takeF_snoc ls k hlt fs
      have HR := Lib.hid hr
      clear hr hrd
      generalize ls[k] = s at *
      have HSTOP := Lib.hid hstop; have HSNOC := Lib.hid hsnoc
      clear hstop hsnoc
      cases hcut : cutL s.data.toList with
      | none =>
        have HC := Lib.hid hcut
        clear hcut
        go_wp2_with (go_at_call 46; refine (cut_miss s _ (by omega) HC.out).mono ?_; rintro e w1 ⟨rfl, hb1⟩)
        go_ret
        exact ⟨ret_bool (by rw [HSTOP.out (fldOf_none s HC.out)]; rfl), v, fs, hst.below hb1, fun x hx => by rw [HSTOP.out (fldOf_none s HC.out)] at hx; cases hx⟩
      | some p =>
        obtain ⟨na, va, hcut⟩ : ∃ na va : ByteArray, cutL s.data.toList = some (na.data.toList, va.data.toList) := ⟨mkB p.1, mkB p.2, by rw [hcut, mkB_data, mkB_data]⟩
        have hfo := fldOf_some s hcut
        have hcs := cut_sizes s hcut
        have HC := Lib.hid hcut
        clear hcut
        have htc := fun w => tok_any na w
        have hvc := fun w => val_any va w
        cases htok : tokB na.data.toList with
        | false =>
          rw [htok] at hfo htc
          have HFO : Hid (fldOf s = none) := by rw [hfo]; rfl
          have HTC := Lib.hid htc
          clear hfo htc hvc htok
          go_wp2_with (first | (go_at_call 46; refine (cut_hit s na va _ (by omega) HC.out).mono ?_; rintro e w1 ⟨rfl, hb1⟩) | (go_at_call 43; refine (HTC.out _).mono ?_; rintro e w2 ⟨rfl, hb2⟩))
          go_ret
          exact ⟨ret_bool (by rw [HSTOP.out HFO.out]; rfl), v, fs, (hst.below hb1).below hb2, fun x hx => by rw [HSTOP.out HFO.out] at hx; cases hx⟩
        | true =>
          rw [htok] at hfo htc
          have HTC := Lib.hid htc
          clear htc htok
          cases hval : valB va.data.toList with
          | false =>
            rw [hval] at hfo hvc
            have HFO : Hid (fldOf s = none) := by rw [hfo]; rfl
            have HVC := Lib.hid hvc
            clear hfo hvc hval
            go_wp2_with (first | (go_at_call 46; refine (cut_hit s na va _ (by omega) HC.out).mono ?_; rintro e w1 ⟨rfl, hb1⟩) | (go_at_call 43; refine (HTC.out _).mono ?_; rintro e w2 ⟨rfl, hb2⟩) | (go_at_call 45; refine (HVC.out _).mono ?_; rintro e w3 ⟨rfl, hb3⟩))
            go_ret
            exact ⟨ret_bool (by rw [HSTOP.out HFO.out]; rfl), v, fs, ((hst.below hb1).below hb2).below hb3, fun x hx => by rw [HSTOP.out HFO.out] at hx; cases hx⟩
          | true =>
            rw [hval] at hfo hvc
            have HFO : Hid (fldOf s = some (lowS na, trS va)) := by rw [hfo]; rfl
            have HVC := Lib.hid hvc
            clear hfo hvc hval
            have hlc := Lib.hid fun w => low_s na w (by omega)
            have hrc := Lib.hid fun w => trim_any va w (by omega)
            have HN := Lib.hid (HSNOC.out _ htk.out HFO.out)
            clear HSNOC HSTOP
            generalize lowS na = ln at *
            generalize trS va = tv at *
            go_wp2_with (first | (go_at_call 46; refine (cut_hit s na va _ (by omega) HC.out).mono ?_; rintro e w1 ⟨rfl, hb1⟩) | (go_at_call 43; refine (HTC.out _).mono ?_; rintro e w2 ⟨rfl, hb2⟩) | (go_at_call 45; refine (HVC.out _).mono ?_; rintro e w3 ⟨rfl, hb3⟩))
            have hst3 := ((hst.below hb1).below hb2).below hb3
            clear hst hb1 hb2 hb3 hc
            have hce3 := hst3.cell
            go_region_law ((first
                | (go_simp; go_at_call 47; refine (call_t hlc hst3.drew).mono ?_; rintro e wa ⟨rfl, hsta⟩; have hcea := hsta.cell)
                | (go_simp; go_at_call 48; refine (call_t hrc hsta).mono ?_; rintro e wb ⟨rfl, hstb⟩; have hceb := hstb.cell; have hcec := (hstb.alloc (Obj.cells #[Value.string ln, Value.string tv] 64)).cell)
                | (refine step_append_lies _ (by rfl) (.tmp 39) (.tmp 45) 31 (by rfl) w.heap.size 64 i0 (.agg #[.string ⟨#[]⟩, .string ⟨#[]⟩]) 2 32 Tryz.underlying31 HI.out HZ0.out HZ1.out HZ2.out rfl (by decide) v fs.length (fldCells fs) (by rfl) (hstb.alloc _).row ⟨wb.heap.size, 0, none⟩ 1 1 [.string ln, .string tv] (by rfl) rfl (World.news_of_block (heap_alloc_new wb _)) (by intro u hu; simp at hu; rcases hu with rfl | rfl <;> rfl) (by decide) (by unfold maxLen; omega) (by omega) (hstb.alloc _).grown.size (wb.heap.size + 1) (by simp) ?_
                   intro g2 cap w5 hown5 hgr5 hat5 hlt5
                   have hce5 := TkSt.cell5 (hstb.alloc _) hgr5
                   have hfr5 := TkSt.free5 (hstb.alloc _) hgr5
                   have hown6 : w5.ownsRow w.heap.size 64 2 (.slice (some ⟨g2, 0, none⟩) (fs ++ [(ln, tv)]).length cap) (fs ++ [(ln, tv)]).length (fldCells (fs ++ [(ln, tv)])) := by
                     rw [fldCells_snoc, List.length_append]; exact hown5
                   clear hown5 hat5)))
            all_goals
              have hnx : TkSt m t b cl le st w (w5.setCell ⟨g, 2, none⟩ (.slice (some ⟨g2, 0, none⟩) (fs.length + 1) cap)) g (.slice (some ⟨g2, 0, none⟩) (fs.length + 1) cap) (fs ++ [(ln, tv)]) := by
                have := TkSt.next (hstb.alloc _) hgr5 rfl hown6
                simpa using this
              clear hown6 hgr5 hsta hce5 hfr5 hcec hceb hcea hce3
              go_wp2
              go_roundw
              case rel => exact ⟨k + 1, fs ++ [(ln, tv)], _, by omega, by go_num, by simp [HF.out], hnx, HN.out⟩
              case measure => simp [intOf]; omega
    · have hE : ls.take k = ls := List.take_of_length_le (by omega)
      have htk2 := htk.out
      rw [hE] at htk2
      have HT := Lib.hid htk2
      clear htk2 hE
      go_wp2
      go_ret
      exact ⟨ret_bool (by rw [HT.out]; rfl), v, fs, hst, fun x hx => by rw [HT.out] at hx; injection hx⟩

end Go.Proofs.YtkjlbddaglcooaaGreatDoor
