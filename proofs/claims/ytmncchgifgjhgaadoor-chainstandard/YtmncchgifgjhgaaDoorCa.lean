/- The contracts of answer.Word, answer.Plain, plain, slices.Clone at fields, strings.HasPrefix, head.All. -/
import Derived.Test.YtmncchgifgjhgaaDoorCb
import Derived.Deep.RegionHeld3
namespace Go.Proofs.YtmncchgifgjhgaaDoor
open Go.RowKit Go.Shelf

set_option maxHeartbeats 1000000 in
theorem word_any (n : Int) (w : World) : Calls Tryd.prog 16 #[.int .i64 n] w fun e w' => e = .returned (.string (mkB (wordL n))) ∧ w = w' := by
  rcases word_cases n with rfl | rfl | rfl | rfl | rfl | rfl | rfl | rfl | rfl | rfl | rfl | rfl | rfl | rfl | h
  iterate 14
    · go_enter Tryd.func16, Tryd.ntmps16
      go_wp2
      go_ret
      exact ⟨rfl, rfl⟩
  · rw [word_else h]
    obtain ⟨h200, h201, h400, h401, h404, h405, h409, h412, h413, h431, h500, h501, h503, h507⟩ := h
    have e200 : (n == 200) = false := beq_eq_false_iff_ne.2 h200
    have e201 : (n == 201) = false := beq_eq_false_iff_ne.2 h201
    have e400 : (n == 400) = false := beq_eq_false_iff_ne.2 h400
    have e401 : (n == 401) = false := beq_eq_false_iff_ne.2 h401
    have e404 : (n == 404) = false := beq_eq_false_iff_ne.2 h404
    have e405 : (n == 405) = false := beq_eq_false_iff_ne.2 h405
    have e409 : (n == 409) = false := beq_eq_false_iff_ne.2 h409
    have e412 : (n == 412) = false := beq_eq_false_iff_ne.2 h412
    have e413 : (n == 413) = false := beq_eq_false_iff_ne.2 h413
    have e431 : (n == 431) = false := beq_eq_false_iff_ne.2 h431
    have e500 : (n == 500) = false := beq_eq_false_iff_ne.2 h500
    have e501 : (n == 501) = false := beq_eq_false_iff_ne.2 h501
    have e503 : (n == 503) = false := beq_eq_false_iff_ne.2 h503
    have e507 : (n == 507) = false := beq_eq_false_iff_ne.2 h507
    clear h200 h201 h400 h401 h404 h405 h409 h412 h413 h431 h500 h501 h503 h507
    go_enter Tryd.func16, Tryd.ntmps16
    go_wp2
    go_ret
    exact ⟨rfl, rfl⟩

/-- The text of a plain answer. -/
def plB (n : Int) : ByteArray := mkB (wordL n ++ [10])
set_option maxHeartbeats 2000000 in
theorem plainc_any (n : Int) (cl : Bool) (w : World) : Calls Tryd.prog 50 #[.int .i64 n, .bool cl] w fun e w' => e = .returned (.agg #[.int .i64 n, .slice none 0 0, .string (plB n), .bool cl]) ∧ Below w.heap.size w w' := by
  have HB0 := Lib.hid ((Below.refl w.heap.size w).alloc (Nat.le_refl _) (.cells #[.int .i64 0, .slice none 0 0, .string ⟨#[]⟩, .bool false] 32))
  have hk := heap_alloc_new w (.cells #[.int .i64 0, .slice none 0 0, .string ⟨#[]⟩, .bool false] 32)
  have c0 := blk_cell hk 0; have c1 := blk_cell hk 1; have c2 := blk_cell hk 2; have c3 := blk_cell hk 3
  have f0 := blk_free hk 0; have f1 := blk_free hk 1; have f2 := blk_free hk 2; have f3 := blk_free hk 3
  simp only [List.getElem?_toArray, List.getElem?_cons_zero, List.getElem?_cons_succ] at c0 c1 c2 c3
  have HK := Lib.hid hk
  clear hk
  have HW := Lib.hid (word_any n)
  have hwl : (mkB (wordL n)).size ≤ 31 := by rw [mkB_size]; exact word_len n
  have k1 := add_str (mkB (wordL n)) ⟨#[10]⟩ (by have : (⟨#[10]⟩ : ByteArray).size = 1 := rfl; omega)
  have he : mkB (wordL n) ++ ⟨#[10]⟩ = plB n := mkB_app (wordL n) [10]
  rw [he] at k1
  clear he hwl
  generalize plB n = X at *
  generalize mkB (wordL n) = Y at *
  go_enter Tryd.func50, Tryd.ntmps50
  go_wp2_with fail
  generalize w.alloc (.cells #[.int .i64 0, .slice none 0 0, .string ⟨#[]⟩, .bool false] 32) = w0 at *
  refine (HW.out w0).mono ?_
  rintro e w1 ⟨rfl, rfl⟩
  go_wp2_with fail
  refine put4_ret (W := w0) Tryd.results50 HK.out (.int .i64 n) (.slice none 0 0) (.string X) (.bool cl) rfl rfl ?_
  exact ⟨rfl, put4_below HB0.out (Nat.le_refl _) _ _ _ _⟩

set_option maxHeartbeats 2000000 in
theorem plain_any (n : Int) (w : World) : Calls Tryd.prog 36 #[.int .i64 n] w fun e w' => e = .returned (.agg #[.int .i64 n, .slice none 0 0, .string (plB n), .bool false]) ∧ Below w.heap.size w w' := by
  have HB0 := Lib.hid ((Below.refl w.heap.size w).alloc (Nat.le_refl _) (.cells #[.int .i64 0, .slice none 0 0, .string ⟨#[]⟩, .bool false] 32))
  have hk := heap_alloc_new w (.cells #[.int .i64 0, .slice none 0 0, .string ⟨#[]⟩, .bool false] 32)
  have HK := Lib.hid hk
  clear hk
  generalize hw0 : w.alloc (.cells #[.int .i64 0, .slice none 0 0, .string ⟨#[]⟩, .bool false] 32) = w0 at *
  have HP := Lib.hid (plainc_any n false w0)
  generalize plB n = X at *
  go_enter Tryd.func36, Tryd.ntmps36
  go_wp2_with fail
  refine HP.out.mono ?_
  rintro e w1 ⟨rfl, hb1⟩
  have hk1 := (hb1.block _ (blk_lt HK.out)).trans HK.out
  have c0 := blk_cell hk1 0; have c1 := blk_cell hk1 1; have c2 := blk_cell hk1 2; have c3 := blk_cell hk1 3
  have f0 := blk_free hk1 0; have f1 := blk_free hk1 1; have f2 := blk_free hk1 2; have f3 := blk_free hk1 3
  simp only [List.getElem?_toArray, List.getElem?_cons_zero, List.getElem?_cons_succ] at c0 c1 c2 c3
  have HK1 := Lib.hid hk1
  have HB1 := Lib.hid (bt HB0.out hb1)
  clear hk1 hb1
  go_wp2_with fail
  refine put4_ret (W := w1) Tryd.results36 HK1.out (.int .i64 n) (.slice none 0 0) (.string X) (.bool false) rfl rfl ?_
  exact ⟨rfl, put4_below HB1.out (Nat.le_refl _) _ _ _ _⟩
def preL (p s : Bytes) : Bool := decide (p.length ≤ s.length) && (s.take p.length == p)

theorem pre_in (s p : ByteArray) (hs : s.size ≤ 1000000) (hp : p.size ≤ 1000000) (w : World) : Calls Tryd.prog 54 #[.string s, .string p] w fun e w' => e = .returned (.bool (preL p.data.toList s.data.toList)) ∧ w = w' := by
  unfold preL
  rw [data_len, data_len]
  by_cases h : p.size ≤ s.size
  · rw [decide_eq_true h, Bool.true_and]
    have hx : ((s.extract 0 p.size).toList == p.toList) = (s.data.toList.take p.size == p.data.toList) := by
      rw [Lib.toList_data, Lib.toList_data, ext_data]; simp
    generalize (s.data.toList.take p.size == p.data.toList) = r at *
    go_enter Tryd.func54, Tryd.ntmps54
    go_wp2_with fail
    go_ret
    exact ⟨rfl, rfl⟩
  · rw [decide_eq_false h, Bool.false_and]
    go_enter Tryd.func54, Tryd.ntmps54
    go_wp2_with fail
    go_ret
    exact ⟨rfl, rfl⟩
theorem pre_any (s p : ByteArray) (hs : s.size ≤ 1000000) (hp : p.size ≤ 1000000) (w : World) : Calls Tryd.prog 51 #[.string s, .string p] w fun e w' => e = .returned (.bool (preL p.data.toList s.data.toList)) ∧ w = w' := by
  have HP := Lib.hid (pre_in s p hs hp w)
  generalize preL p.data.toList s.data.toList = r at *
  go_enter Tryd.func51, Tryd.ntmps51
  go_wp2_with fail
  refine HP.out.mono ?_
  rintro e w1 ⟨rfl, rfl⟩
  go_wp2_with fail
  go_ret
  exact ⟨rfl, rfl⟩


theorem Tryd.info9 : (Tryd.prog.info? 9).map (fun i => (i.zero, i.size, i.bytes)) = some (some (.string ⟨#[]⟩), 1, 16) := by kernel_rfl
theorem Tryd.info42 : (Tryd.prog.info? 42).map (fun i => (i.zero, i.size, i.bytes)) = some (some (.agg #[.string ⟨#[]⟩, .string ⟨#[]⟩]), 2, 32) := by kernel_rfl
theorem fld_one (l : List Fld) : ∀ u ∈ fldCells l, u.oneCell' = true := by
  intro u hu
  obtain ⟨x, _, hu⟩ := List.mem_flatMap.1 hu
  simp only [List.mem_cons, List.not_mem_nil, or_false] at hu
  rcases hu with rfl | rfl <;> rfl
theorem own_row {w : World} {base n : Nat} {v : Value} {xs : List Value} (h : w.ownsRow base 42 2 v n xs) : ∃ A c, v = .slice A n c ∧ n ≤ c ∧ Rd w w.heap.size 2 A n xs ∧ (∀ a, A = some a → base ≤ a.block ∧ a.off = 0) := by
  rcases h.2 with ⟨rfl, rfl⟩ | ⟨g, cap, cur, rfl, hg, hh, h3, _⟩
  · exact ⟨none, 0, rfl, Nat.le_refl _, ⟨h.1, fun hn => absurd rfl hn⟩, (fun a e => by cases e)⟩
  · exact ⟨_, _, rfl, h3, ⟨h.1, fun _ => ⟨_, rfl, blk_lt hh, fun j u hu => h.cells (g := g) rfl j u hu⟩⟩, (fun a e => by cases e; exact ⟨hg, rfl⟩)⟩

set_option maxRecDepth 100000 in
set_option maxHeartbeats 4000000 in
theorem clone_any (l : List Fld) (A : Option Addr) (c : Nat) (w : World) (hr : Rd w w.heap.size 2 A l.length (fldCells l)) (hn : l.length ≤ 100000) :
    Calls Tryd.prog 49 #[.slice A l.length c] w fun e w' => ∃ A' c', e = .returned (.slice A' l.length c') ∧ Rd w' w'.heap.size 2 A' l.length (fldCells l) ∧ (∀ a, A' = some a → w.heap.size ≤ a.block) ∧ Below w.heap.size w w' := by
  have q42 : ∀ (w : World) (a : Option Addr) (n c n' c' : Nat), (binOp .eql 22 (.slice a n c) (.slice none n' c')).run Tryd.prog w = .ok (.bool a.isNone) w := fun w a n c n' c' => Lib.run_eql_slice_nil w _ _ a n c n' c' Tryd.underlying22
  cases A with
  | none =>
    have h0 : l.length = 0 := by
      refine Nat.eq_zero_of_not_pos fun hp => ?_
      obtain ⟨a, e, _⟩ := hr.2 (by omega)
      cases e
    rw [h0]
    have h1 : l = [] := List.eq_nil_of_length_eq_zero h0
    subst h1
    clear hr hn h0
    go_enter Tryd.func49, Tryd.ntmps49
    go_wp2_with fail
    go_ret
    exact ⟨none, 0, rfl, ⟨rfl, fun h => absurd rfl h⟩, (fun a e => by cases e), Below.refl _ _⟩
  | some a =>
    obtain ⟨i0, hi, hz0, hz1, hz2⟩ := info_parts Tryd.info42
    have HZ := Lib.hid (And.intro hz0 (And.intro hz1 hz2))
    clear hz0 hz1 hz2
    have hA := (Below.refl w.heap.size w).alloc (Nat.le_refl _) (.cells #[] 42)
    have HX : Hid (∀ j u, (fldCells l)[j]? = some u → (w.alloc (.cells #[] 42)).cell? (a.add j) = some u) := fun j u hu => by
      obtain ⟨a', e, hb, hc⟩ := hr.2 (fun h0 => by rw [List.eq_nil_of_length_eq_zero h0] at hu; simp [fldCells] at hu)
      cases e
      exact (hA.cell (p := a.add j) (by rw [add_block]; exact hb)).trans (hc j u hu)
    have HL : Hid ((fldCells l).length = l.length * 2) := hr.1
    have HO : Hid (∀ u ∈ fldCells l, u.oneCell' = true) := fld_one l
    have HM : Hid (0 + l.length ≤ maxLen) := by show _ ≤ _; unfold maxLen; omega
    have HB : Hid ((0 + l.length) * 32 ≤ 140737488355328) := by show _ ≤ _; omega
    have HBA := Lib.hid hA
    generalize hcs : fldCells l = cs at *
    clear hr hA hcs
    generalize l.length = n at *
    go_enter Tryd.func49, Tryd.ntmps49
    go_wp2_with (at_builtin; refine wpList_append_own_at _ rfl _ _ 22 rfl w.heap.size 42 i0 (.agg #[.string ⟨#[]⟩, .string ⟨#[]⟩]) 2 32 Tryd.underlying22 hi HZ.out.1 HZ.out.2.1 HZ.out.2.2 rfl (by decide) _ _ _ rfl (World.ownsRow_made w #[] 0 (Nat.le_refl _) (Nat.zero_le _) rfl) a n c cs rfl HL.out HX.out HO.out HM.out HB.out ?hle ?_)
    case hle => simp
    intro v' w1 hown hgrow _ _
    have HW := Lib.hid hown
    have HG := Lib.hid (((Below.refl _ w).alloc (Nat.le_refl _) (.cells #[] 42)).grown hgrow (by simp) (by intro k hk; simp [Value.ownBlock] at hk; omega))
    clear hown hgrow
    obtain ⟨A', c', rfl, hc', hrd, hge⟩ := own_row HW.out
    have HTY := Lib.hid hge
    have HR := Lib.hid hrd
    clear hrd hge
    go_wp2_with fail
    go_ret
    exact ⟨A', c', rfl, HR.out, fun a e => (HTY.out a e).1, HG.out⟩

set_option maxHeartbeats 1000000 in
theorem all_any (fs : List Fld) (name : ByteArray) (A : Option Addr) (c : Nat) (w : World) (hr : Rd w w.heap.size 2 A fs.length (fldCells fs)) (hn : fs.length ≤ 1000000000) :
    Calls Tryd.prog 14 #[.slice A fs.length c, .string name] w fun e w' => ∃ v, e = .returned v ∧ w'.ownsRow w.heap.size 9 1 v (valsOf name fs).length ((valsOf name fs).map .string) ∧ Below w.heap.size w w' := by
  obtain ⟨i0, hi, hz0, hz1, hz2⟩ := info_parts Tryd.info9
  have HI := Lib.hid hi; have HZ0 := Lib.hid hz0; have HZ1 := Lib.hid hz1; have HZ2 := Lib.hid hz2
  clear hi hz0 hz1 hz2
  go_enter Tryd.func14, Tryd.ntmps14
  go_wp2
  go_loopw [5, 10] (fun v i wr => ∃ k : Nat, k ≤ fs.length ∧ i = .int .i64 k ∧ wr.ownsRow w.heap.size 9 1 v (valsOf name (fs.take k)).length ((valsOf name (fs.take k)).map .string) ∧ Below w.heap.size w wr) (fun _ i _ => fs.length - (intOf i).toNat)
  case atStart => exact ⟨0, by omega, rfl, World.ownsRow_nil _ _ _ _, Below.refl _ _⟩
  case round =>
    obtain ⟨k, hk, rfl, hown, hbel⟩ := hrel
    by_cases hlt : k < fs.length
    · obtain ⟨a, rfl, hab, hc⟩ := (hr.below hbel (Nat.le_refl _)).2 (by omega)
      have hc0 : wr.cell? (a.add (k * 2)) = some (.string (fs[k]).1) := hc _ _ (fldCells_at fs k hlt).1
      have hc1 : wr.cell? ⟨(a.add (k * 2)).block, (a.add (k * 2)).off + 1, none⟩ = some (.string (fs[k]).2) := by rw [add_next]; exact hc _ _ (fldCells_at fs k hlt).2
      have hsn := valsOf_snoc name fs k hlt
      have hvl := valsOf_len name (fs.take k)
      rw [List.length_take] at hvl
      have hte := eq_test (fs[k]).1 name
      have HR := Lib.hid hr
      clear hc hr
      generalize (fs[k]).1 = f1 at *
      generalize (fs[k]).2 = f2 at *
      by_cases hq : f1 = name
      · subst hq
        rw [if_pos rfl] at hsn
        simp only [decide_true] at hte
        have HS := Lib.hid hsn
        clear hsn
        go_wp2_with (first | (at_builtin; refine wpList_append_own _ rfl _ _ 26 rfl w.heap.size 9 i0 (.string ⟨#[]⟩) 1 16 Tryd.underlying26 HI.out HZ0.out HZ1.out HZ2.out rfl (by decide) _ _ _ rfl ((hown.alloc _).alloc _) ⟨wr.heap.size + 1, 0, none⟩ 1 1 [.string f2] rfl rfl ?c1 ?c2 ?c3 ?c4 ?c5 ?_))
        case c1 => exact fun j u hu => by have hx := cell_one_new (wr.alloc (.cells #[.string f1, .string f2] 42)) (.string f2) 9 j u hu; simpa using hx
        case c2 => intro u hu; simp at hu; subst hu; rfl
        case c3 => unfold maxLen; omega
        case c4 => omega
        case c5 => have := hbel.size; simp; omega
        intro v' w1 hown' hgrow _
        have HO := Lib.hid hown'
        clear hown'
        go_wp2
        go_roundw
        case rel =>
          refine ⟨k + 1, by omega, by go_num, ?_, ?_⟩
          · rw [HS.out]
            simpa using HO.out
          · exact ((hbel.alloc hbel.size _).alloc (by have := hbel.size; simp; omega) _).grown hgrow (by have := hbel.size; simp; omega) (fun k hk => (hown.lt k hk).1)
        case measure => simp [intOf]; omega
      · rw [if_neg hq, List.append_nil] at hsn
        have htf : (f1.toList == name.toList) = false := by rw [hte]; simpa using hq
        have HS := Lib.hid hsn
        clear hsn hte hq
        go_wp2
        go_roundw
        case rel => exact ⟨k + 1, by omega, by go_num, by rw [HS.out]; exact hown.alloc _, hbel.alloc hbel.size _⟩
        case measure => simp [intOf]; omega
    · have hE : fs.take k = fs := List.take_of_length_le (by omega)
      rw [hE] at hown
      clear hE
      go_wp2
      go_ret
      exact ⟨_, rfl, hown, hbel⟩


end Go.Proofs.YtmncchgifgjhgaaDoor
