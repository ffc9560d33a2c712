/- The contracts of head.wrong, (*Head).measureBy, (*Head).measure. -/
import Derived.Test.YtkjlbddaglcooaaGreatDoorBegin
import Derived.Test.YtkjlbddaglcooaaGreatDoorAll
import Derived.Test.YtkjlbddaglcooaaGreatDoorNumber
namespace Go.Proofs.YtkjlbddaglcooaaGreatDoor
open Go.RowKit Pl

def hdV (m t v b cl le st : Value) : Value := .agg (hdCells m t v b cl le st)
def nilS : Value := .slice none 0 0
def emptyS : Value := .string ⟨#[]⟩
def wrongV (n : Int) : Value := .agg #[.string ⟨#[]⟩, .string ⟨#[]⟩, .slice none 0 0, .string ⟨#[]⟩, .bool false, .int .i64 0, .int .i64 n]

set_option maxHeartbeats 1000000 in
theorem wrong_any (n : Int) (w : World) : Calls Tryz.prog 28 #[.int .i64 n] w fun e w' => e = .returned (wrongV n) ∧ Below w.heap.size w w' := by
  go_enter Tryz.func28, Tryz.ntmps28
  go_wp2
  exact bodyPost_ret (v := wrongV n) (by simp [results, Tryz.results28, go_sem, wrongV]) rfl ⟨rfl, (Below.refl _ _).alloc (Nat.le_refl _) _⟩

theorem numGo_bd : ∀ (l : List UInt8) (n r : Int), 0 ≤ n → n ≤ 1073741824 → numGo 10 n l = some r → 0 ≤ r ∧ r ≤ 1073741824
  | [], n, r, h0, h1, h => by simp [numGo] at h; omega
  | c :: l, n, r, h0, h1, h => by
    rw [numGo] at h
    split at h
    · cases h
    · rename_i hb
      have hk := num_ok10 (by simpa using hb)
      exact numGo_bd l _ r (by omega) (by omega) h
theorem numB_bd (l : List UInt8) (r : Int) (h : numB 10 l = some r) : 0 ≤ r ∧ r ≤ 1073741824 := by
  unfold numB at h
  split at h
  · cases h
  · exact numGo_bd l 0 r (by omega) (by omega) h

theorem byLen_cases (s : ByteArray) : (numB 10 s.data.toList = none ∧ byLen s = (400, 0)) ∨ (∃ n, numB 10 s.data.toList = some n ∧ 600 < n ∧ byLen s = (413, 0)) ∨ ∃ n, numB 10 s.data.toList = some n ∧ n ≤ 600 ∧ byLen s = (0, n) := by
  unfold byLen
  cases h : numB 10 s.data.toList with
  | none => exact .inl ⟨rfl, rfl⟩
  | some n =>
    by_cases hn : 600 < n
    · exact .inr (.inl ⟨n, rfl, hn, by simp [hn]⟩)
    · exact .inr (.inr ⟨n, rfl, by omega, by simp [hn]⟩)

/-- What measure leaves: the head's length, nothing else of what was there. -/
structure Meas (r : Int × Int) (m t v b cl st : Value) (w : World) (g : Nat) (w' : World) : Prop where
  ok : r.1 = 0 → w'.heap[g]? = some (.cells (hdCells m t v b cl (.int .i64 r.2) st) 51 (0, 0))
  grown : w.grownBy w' (some g)

set_option maxHeartbeats 1000000 in
theorem measureBy_any (s : ByteArray) (g : Nat) (m t v b cl st : Value) (w : World) (hblk : w.heap[g]? = some (.cells (hdCells m t v b cl (.int .i64 0) st) 51 (0, 0))) :
    Calls Tryz.prog 49 #[.pointer (some ⟨g, 0, none⟩), .string s] w fun e w' => e = .returned (.int .i64 (byLen s).1) ∧ Meas (byLen s) m t v b cl st w g w' := by
  have hg := blk_lt hblk
  have HB := Lib.hid hblk
  clear hblk
  have hnum := fun w => num10_any s w
  have hlo : ∀ n, numB 10 s.data.toList = some n → 0 ≤ n ∧ n ≤ 1073741824 := fun n h => numB_bd _ n h
  rcases byLen_cases s with ⟨h1, h2⟩ | ⟨n, h1, h2, h3⟩ | ⟨n, h1, h2, h3⟩
  · rw [h1] at hnum
    rw [h2]
    have HN := Lib.hid hnum
    clear hnum hlo h1 h2
    go_enter Tryz.func49, Tryz.ntmps49
    go_wp2_with (go_at_call 61; refine (HN.out _).mono ?_; rintro e w1 ⟨rfl, hb1⟩)
    go_ret
    exact ⟨rfl, (fun h => by cases h), grown_of_below hb1 _⟩
  · have hl := hlo n h1
    rw [h1] at hnum
    rw [h3]
    simp only [Option.getD_some, Option.isSome_some] at hnum
    have HN := Lib.hid hnum
    clear hnum hlo h1 h3
    go_enter Tryz.func49, Tryz.ntmps49
    go_wp2_with (go_at_call 61; refine (HN.out _).mono ?_; rintro e w1 ⟨rfl, hb1⟩)
    go_ret
    exact ⟨rfl, (fun h => by cases h), grown_of_below hb1 _⟩
  · have hl := hlo n h1
    rw [h1] at hnum
    rw [h3]
    simp only [Option.getD_some, Option.isSome_some] at hnum
    have HN := Lib.hid hnum
    clear hnum hlo h1 h3
    go_enter Tryz.func49, Tryz.ntmps49
    go_wp2_with fail
    refine (HN.out _).mono ?_
    rintro e w1 ⟨rfl, hb1⟩
    have hblk1 := (hb1.block g hg).trans HB.out
    have c5 := blk_cell hblk1 5
    have f5 := blk_free hblk1 5
    simp [hdCells] at c5
    have HB1 := Lib.hid hblk1
    clear hblk1
    go_wp2_with fail
    go_ret
    refine ⟨rfl, fun _ => ?_, grown_set (grown_of_below hb1 _) _ _⟩
    have e2 := Lib.heap_setCell_same (i := 5) (v := .int .i64 n) HB1.out
    exact e2

theorem own_cell {w : World} {base g cap n : Nat} {e : TypeId} {xs : List Value} (h : w.ownsRow base e 1 (.slice (some ⟨g, 0, none⟩) n cap) n xs) (i : Nat) (u : Value) (hu : xs[i]? = some u) : w.cell? ⟨g, i, none⟩ = some u := by
  have := h.cells (g := g) rfl i u hu
  rwa [add_zero_own] at this

theorem own_mono {w : World} {base base' k n : Nat} {e : TypeId} {v : Value} {xs : List Value} (h : w.ownsRow base e k v n xs) (hb : base' ≤ base) : w.ownsRow base' e k v n xs := by
  refine ⟨h.1, ?_⟩
  rcases h.2 with h0 | ⟨g, cap, cur, h1, h2, h3⟩
  · exact .inl h0
  · exact .inr ⟨g, cap, cur, h1, by omega, h3⟩
/-- All's contract at a world that came of w. -/
theorem all_at (fs : List Fld) (name : ByteArray) (A : Option Addr) (c : Nat) (w : World) (hr : Rd w w.heap.size 2 A fs.length (fldCells fs)) (hn : fs.length ≤ 1000000) (W : World) (hW : Below w.heap.size w W) :
    Calls Tryz.prog 31 #[.slice A fs.length c, .string name] W fun e w' => ∃ v, e = .returned v ∧ w'.ownsRow w.heap.size 9 1 v (valsOf name fs).length ((valsOf name fs).map .string) ∧ Below w.heap.size w w' ∧ Below W.heap.size W w' :=
  (all_any fs name A c W ((hr.below hW (Nat.le_refl _)).wide hW.size) (by omega)).mono fun _ _ ⟨v, he, ho, hb⟩ => ⟨v, he, own_mono ho hW.size, bt hW hb, hb⟩

set_option maxHeartbeats 2000000 in
theorem measure_core (A : Option Addr) (n c g : Nat) (m t b cl st : Value) (w : World) (L C : List ByteArray) (r : Int × Int) (HM : Hid (measureF L C = r)) (HS : Hid (∀ x ∈ C, x.size ≤ 1000000))
    (HA1 : Hid (∀ W, Below w.heap.size w W → Calls Tryz.prog 31 #[.slice A n c, .string ⟨#[99, 111, 110, 116, 101, 110, 116, 45, 108, 101, 110, 103, 116, 104]⟩] W fun e w' => ∃ v, e = .returned v ∧ w'.ownsRow w.heap.size 9 1 v L.length (L.map .string) ∧ Below w.heap.size w w' ∧ Below W.heap.size W w'))
    (HA2 : Hid (∀ W, Below w.heap.size w W → Calls Tryz.prog 31 #[.slice A n c, .string ⟨#[116, 114, 97, 110, 115, 102, 101, 114, 45, 101, 110, 99, 111, 100, 105, 110, 103]⟩] W fun e w' => ∃ v, e = .returned v ∧ w'.ownsRow w.heap.size 9 1 v C.length (C.map .string) ∧ Below w.heap.size w w' ∧ Below W.heap.size W w'))
    (hl1 : L.length ≤ 1000000) (hl2 : C.length ≤ 1000000)
    (hblk : w.heap[g]? = some (.cells (hdCells m t (.slice A n c) b cl (.int .i64 0) st) 51 (0, 0))) :
    Calls Tryz.prog 32 #[.pointer (some ⟨g, 0, none⟩)] w fun e w' => e = .returned (.int .i64 r.1) ∧ Meas r m t (.slice A n c) b cl st w g w' := by
  have hg := blk_lt hblk
  have c2 := blk_cell hblk 2
  simp [hdCells] at c2
  have HB := Lib.hid hblk
  clear hblk
  have hb0 : Below w.heap.size w w.drew := (Below.refl _ _).drew
  go_enter Tryz.func32, Tryz.ntmps32
  go_wp2_with fail
  go_region_held3 (fun W => W.cell? ⟨g, 2, none⟩ = some (.slice A n c)) (first | (exact c2) | (exact (hb1.cell (p := ⟨g, 2, none⟩) hg).trans c2) | (exact (hb2.cell (p := ⟨g, 2, none⟩) hg).trans c2))
    ((first
      | (go_at_call 31; with_reducible refine (HA1.out _ hb0).mono ?_; rintro e w1 ⟨v1, rfl, hown1, hb1, _⟩)
      | (go_at_call 31; with_reducible refine (HA2.out _ hb1).mono ?_; rintro e w2 ⟨v2, rfl, hown2, hb2, hb12⟩)))
  have hown3 := own_below hown1 hb12
  have HB2 := Lib.hid ((hb2.block g hg).trans HB.out)
  have hgr2 := grown_of_below hb2 (some g)
  clear hown1 HA1 HA2 c2 hb0 hb1 hb12 HB
  rcases L with _ | ⟨s, _ | ⟨s2, L⟩⟩
  · obtain ⟨A1, c1, rfl, _⟩ := Rd.own hown3
    have HO3 := Lib.hid hown3
    clear hown3
    rcases C with _ | ⟨x, _ | ⟨x2, C⟩⟩
    · obtain ⟨A2, c2, rfl, _⟩ := Rd.own hown2
      have HO2 := Lib.hid hown2
      clear hown2
      have HR : Hid (r = (0, 0)) := HM.out.symm
      go_wp2_with fail
      go_ret
      rw [HR.out]
      exact ⟨rfl, (fun _ => HB2.out), hgr2⟩
    · obtain ⟨g2, c2, rfl, _, hgl2, _⟩ := own_shape hown2 (by simp)
      have k0 := own_cell hown2 0 (.string x) rfl
      have HO2 := Lib.hid hown2
      clear hown2
      have hxs := HS.out x (by simp)
      have HL := Lib.hid fun w => low_s x w (by omega)
      have hq := eq_list (lowS x) [99, 104, 117, 110, 107, 101, 100]
      by_cases hcl : (lowS x).data.toList = [99, 104, 117, 110, 107, 101, 100]
      · have HR : Hid (r = (0, -1)) := by
          rw [← HM.out]
          show (if lowS x = chunkedN then ((0 : Int), (-1 : Int)) else (501, 0)) = _
          rw [if_pos (bytes_ext (by rw [hcl]; rfl))]
        have ht : ((lowS x).toList == [99, 104, 117, 110, 107, 101, 100]) = true := by rw [hq]; exact decide_eq_true hcl
        clear hq hcl
        generalize lowS x = lx at *
        go_wp2_with fail
        refine (HL.out _).mono ?_
        rintro e w3 ⟨rfl, hb3⟩
        have hblk3 := (hb3.block g (blk_lt HB2.out)).trans HB2.out
        have c5 := blk_cell hblk3 5
        have f5 := blk_free hblk3 5
        simp [hdCells] at c5
        have HB3 := Lib.hid hblk3
        clear hblk3
        have hgr3 := grown_below hgr2 hb3
        go_wp2_with fail
        go_ret
        rw [HR.out]
        refine ⟨rfl, (fun _ => ?_), grown_set hgr3 _ _⟩
        have e2 := Lib.heap_setCell_same (i := 5) (v := .int .i64 (-1)) HB3.out
        exact e2
      · have HR : Hid (r = (501, 0)) := by
          rw [← HM.out]
          show (if lowS x = chunkedN then ((0 : Int), (-1 : Int)) else (501, 0)) = _
          rw [if_neg (fun e => hcl (by rw [e]; rfl))]
        have ht : ((lowS x).toList == [99, 104, 117, 110, 107, 101, 100]) = false := by rw [hq]; exact decide_eq_false hcl
        clear hq hcl
        generalize lowS x = lx at *
        go_wp2_with fail
        refine (HL.out _).mono ?_
        rintro e w3 ⟨rfl, hb3⟩
        go_wp2_with fail
        go_ret
        rw [HR.out]
        exact ⟨rfl, (fun h => by cases h), grown_below hgr2 hb3⟩
    · obtain ⟨A2, c2, rfl, _⟩ := Rd.own hown2
      have HO2 := Lib.hid hown2
      clear hown2
      have HR : Hid (r = (501, 0)) := HM.out.symm
      have hlen : 1 < (x :: x2 :: C).length := by simp
      generalize (x :: x2 :: C).length = n2 at *
      have t1 : decide ((1 : Int) < (n2 : Int)) = true := by simp; omega
      go_wp2_with fail
      go_ret
      rw [HR.out]
      exact ⟨rfl, (fun h => by cases h), hgr2⟩
  · obtain ⟨g1, c1, rfl, _, hgl1, _⟩ := own_shape hown3 (by simp)
    have k1 := own_cell hown3 0 (.string s) rfl
    have HO3 := Lib.hid hown3
    clear hown3
    rcases C with _ | ⟨x, C⟩
    · obtain ⟨A2, c2, rfl, _⟩ := Rd.own hown2
      have HO2 := Lib.hid hown2
      clear hown2
      have HR : Hid (r = byLen s) := HM.out.symm
      have HMB := Lib.hid (measureBy_any s g m t (.slice A n c) b cl st w2 HB2.out)
      go_wp2_with fail
      refine HMB.out.mono ?_
      rintro e w3 ⟨rfl, hms⟩
      go_wp2_with fail
      go_ret
      rw [HR.out]
      refine ⟨rfl, hms.ok, ?_⟩
      exact ⟨hms.grown.os.trans hgr2.os, hms.grown.tape.trans hgr2.tape, hms.grown.output.trans hgr2.output, Nat.le_trans hgr2.size hms.grown.size, fun i hi hne => (hms.grown.block i (Nat.lt_of_lt_of_le hi hgr2.size) hne).trans (hgr2.block i hi hne)⟩
    · obtain ⟨A2, c2, rfl, _⟩ := Rd.own hown2
      have HO2 := Lib.hid hown2
      clear hown2
      have HR : Hid (r = (400, 0)) := HM.out.symm
      have hlen : 0 < (x :: C).length := by simp
      generalize (x :: C).length = n2 at *
      have t1 : decide ((0 : Int) < (n2 : Int)) = true := by simp; omega
      have t2 : decide (0 < n2) = true := by simp; omega
      go_wp2_with fail
      go_ret
      rw [HR.out]
      exact ⟨rfl, (fun h => by cases h), hgr2⟩
  · obtain ⟨A1, c1, rfl, _⟩ := Rd.own hown3
    have HO3 := Lib.hid hown3
    clear hown3
    have HR : Hid (r = (400, 0)) := HM.out.symm
    have hlen : 1 < (s :: s2 :: L).length := by simp
    generalize (s :: s2 :: L).length = n2 at *
    have t1 : decide ((1 : Int) < (n2 : Int)) = true := by simp; omega
    go_wp2_with fail
    go_ret
    rw [HR.out]
    exact ⟨rfl, (fun h => by cases h), hgr2⟩

theorem measure_any (fs : List Fld) (A : Option Addr) (c g : Nat) (m t b cl st : Value) (w : World) (hr : Rd w w.heap.size 2 A fs.length (fldCells fs)) (hn : fs.length ≤ 1000000) (hs : ∀ x ∈ valsOf codingN fs, x.size ≤ 1000000)
    (hblk : w.heap[g]? = some (.cells (hdCells m t (.slice A fs.length c) b cl (.int .i64 0) st) 51 (0, 0))) :
    Calls Tryz.prog 32 #[.pointer (some ⟨g, 0, none⟩)] w fun e w' => e = .returned (.int .i64 (measureF (valsOf lengthN fs) (valsOf codingN fs)).1) ∧ Meas (measureF (valsOf lengthN fs) (valsOf codingN fs)) m t (.slice A fs.length c) b cl st w g w' :=
  measure_core A fs.length c g m t b cl st w (valsOf lengthN fs) (valsOf codingN fs) _ rfl hs (all_at fs lengthN A c w hr hn) (all_at fs codingN A c w hr hn)
    (Nat.le_trans (valsOf_len _ _) hn) (Nat.le_trans (valsOf_len _ _) hn) hblk

end Go.Proofs.YtkjlbddaglcooaaGreatDoor
