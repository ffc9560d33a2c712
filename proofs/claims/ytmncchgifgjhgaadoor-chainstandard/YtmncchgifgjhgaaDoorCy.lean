/- The laws' own helper light. -/
import Derived.Test.YtmncchgifgjhgaaDoorCw
namespace Go.Proofs.YtmncchgifgjhgaaDoor
open Go.RowKit Go.Shelf

/-- What a law is handed of a call. -/
structure Cl.at (c : Cl) (w : World) : Prop where
  row : Rd w w.heap.size 2 c.A c.fs.length (fldCells c.fs)
  rowS : Rd w w.heap.size 1 c.B c.al.length (c.al.map .string)
  cap : c.al.length ≤ c.ac
  fsz : ∀ f ∈ c.fs, f.1.size ≤ 140737488355328 ∧ f.2.size ≤ 140737488355328
  alz : ∀ x ∈ c.al, x.size ≤ 140737488355328
  fsn : c.fs.length ≤ 140737488355328
  aln : c.al.length ≤ 140737488355328
  z0 : c.m.size ≤ 140737488355328
  z1 : c.tg.size ≤ 140737488355328
  z2 : c.bd.size ≤ 140737488355328
  z3 : c.tk.size ≤ 140737488355328
  icn : I64 c.cn
  isq : I64 c.sq
  ivs : I64 c.vs
/-- A call is short. -/
structure Cl.light (c : Cl) : Prop where
  z0 : c.m.size ≤ 3000
  z1 : c.tg.size ≤ 3000
  z2 : c.bd.size ≤ 3000
  z3 : c.tk.size ≤ 3000
  fsn : c.fs.length < 40
  aln : c.al.length < 40
  fsz : ∀ f ∈ c.fs, f.1.size ≤ 3000 ∧ f.2.size ≤ 3000
  alz : ∀ x ∈ c.al, x.size ≤ 3000
  icn : -4611686018427387904 < c.cn
  isq : -4611686018427387904 < c.sq
  ivs : -4611686018427387904 < c.vs

theorem wrap_of (x : Int) (h0 : -9223372036854775808 ≤ x) (h1 : x ≤ 9223372036854775807) : wrap64 x = x := by unfold wrap64; omega
theorem wrap_in (x : Int) : -9223372036854775808 ≤ wrap64 x ∧ wrap64 x ≤ 9223372036854775807 := by unfold wrap64; omega
def sumF (fs : List Fld) : Nat := (fs.map fun f => f.1.size + f.2.size).sum
def sumS (l : List ByteArray) : Nat := (l.map fun x => x.size).sum
theorem sumF_snoc (fs : List Fld) (k : Nat) (h : k < fs.length) : sumF (fs.take (k + 1)) = sumF (fs.take k) + ((fs[k]).1.size + (fs[k]).2.size) := by
  rw [List.take_succ_eq_append_getElem h]
  unfold sumF
  rw [List.map_append, List.sum_append]
  simp only [List.map_cons, List.map_nil, List.sum_cons, List.sum_nil, Nat.add_zero]
theorem sumS_snoc (l : List ByteArray) (k : Nat) (h : k < l.length) : sumS (l.take (k + 1)) = sumS (l.take k) + (l[k]).size := by
  rw [List.take_succ_eq_append_getElem h]
  unfold sumS
  rw [List.map_append, List.sum_append]
  simp only [List.map_cons, List.map_nil, List.sum_cons, List.sum_nil, Nat.add_zero]
theorem sumF_mem {fs : List Fld} {f : Fld} (h : f ∈ fs) : f.1.size + f.2.size ≤ sumF fs := by
  induction fs with
  | nil => cases h
  | cons a l ih =>
    have e : sumF (a :: l) = a.1.size + a.2.size + sumF l := by simp [sumF]
    rcases List.mem_cons.1 h with rfl | h
    · omega
    · have := ih h; omega
theorem sumS_mem {fs : List ByteArray} {f : ByteArray} (h : f ∈ fs) : f.size ≤ sumS fs := by
  induction fs with
  | nil => cases h
  | cons a l ih =>
    have e : sumS (a :: l) = a.size + sumS l := by simp [sumS]
    rcases List.mem_cons.1 h with rfl | h
    · omega
    · have := ih h; omega
theorem sumF_le (fs : List Fld) (h : ∀ f ∈ fs, f.1.size ≤ 140737488355328 ∧ f.2.size ≤ 140737488355328) : sumF fs ≤ fs.length * 281474976710656 := by
  induction fs with
  | nil => simp [sumF]
  | cons a l ih =>
    have e : sumF (a :: l) = a.1.size + a.2.size + sumF l := by simp [sumF]
    have h1 := h a (by simp)
    have h2 := ih fun f hf => h f (by simp [hf])
    rw [e, List.length_cons, Nat.succ_mul]
    omega
theorem sumS_le (fs : List ByteArray) (h : ∀ f ∈ fs, f.size ≤ 140737488355328) : sumS fs ≤ fs.length * 140737488355328 := by
  induction fs with
  | nil => simp [sumS]
  | cons a l ih =>
    have e : sumS (a :: l) = a.size + sumS l := by simp [sumS]
    have h1 := h a (by simp)
    have h2 := ih fun f hf => h f (by simp [hf])
    rw [e, List.length_cons, Nat.succ_mul]
    omega

set_option maxRecDepth 100000 in
set_option maxHeartbeats 4000000 in
theorem light_few (c : Cl) (w : World) (h : c.at w) (hf : c.fs.length < 40) (ha : c.al.length < 40) : Calls Tryd.prog 10 #[c.v] w fun e w' => (∃ r, e = .returned (.bool r) ∧ (r = true → c.light)) ∧ Below w.heap.size w w' := by
  show Calls Tryd.prog 10 #[.agg #[.string c.m, .string c.tg, .slice c.A c.fs.length c.fc, .string c.bd, .bool c.cc, .int .i64 c.cn, .int .i64 c.sq, .int .i64 c.vs, .string c.hn, c.pv, .slice c.B c.al.length c.ac, .bool c.fd, .string c.tk]] w _
  have hb1 := (Below.refl w.heap.size w).alloc (Nat.le_refl _) (.cells #[.string c.m, .string c.tg, .slice c.A c.fs.length c.fc, .string c.bd, .bool c.cc, .int .i64 c.cn, .int .i64 c.sq, .int .i64 c.vs, .string c.hn, c.pv, .slice c.B c.al.length c.ac, .bool c.fd, .string c.tk] 30)
  have hkq := heap_alloc_new w (.cells #[.string c.m, .string c.tg, .slice c.A c.fs.length c.fc, .string c.bd, .bool c.cc, .int .i64 c.cn, .int .i64 c.sq, .int .i64 c.vs, .string c.hn, c.pv, .slice c.B c.al.length c.ac, .bool c.fd, .string c.tk] 30)
  have c0 := blk_cell hkq 0; have c1 := blk_cell hkq 1; have c2 := blk_cell hkq 2; have c3 := blk_cell hkq 3; have c4 := blk_cell hkq 4; have c5 := blk_cell hkq 5; have c6 := blk_cell hkq 6; have c7 := blk_cell hkq 7; have c8 := blk_cell hkq 8; have c9 := blk_cell hkq 9; have c10 := blk_cell hkq 10; have c11 := blk_cell hkq 11; have c12 := blk_cell hkq 12
  simp only [List.getElem?_toArray, List.getElem?_cons_zero, List.getElem?_cons_succ] at c0 c1 c2 c3 c4 c5 c6 c7 c8 c9 c10 c11 c12
  have HC := Lib.hid hkq; have HB := Lib.hid hb1
  clear hkq hb1
  have z0 := h.z0; have z1 := h.z1; have z2 := h.z2; have z3 := h.z3
  have HH := Lib.hid h
  have HR := Lib.hid h.row; have HRS := Lib.hid h.rowS
  have HN1 : Hid (c.fs.length ≤ 140737488355328) := h.fsn
  have HN2 : Hid (c.al.length ≤ 140737488355328) := h.aln
  have HF := Lib.hid hf
  have HAA := Lib.hid ha
  clear h hf ha
  obtain ⟨m, tg, A, fs, fc, bd, cc, cn, sq, vs, hn, pv, B, al, ac, fd, tk⟩ := c
  simp only at *
  generalize hw1 : w.alloc (.cells #[.string m, .string tg, .slice A fs.length fc, .string bd, .bool cc, .int .i64 cn, .int .i64 sq, .int .i64 vs, .string hn, pv, .slice B al.length ac, .bool fd, .string tk] 30) = w1 at *
  go_enter Tryd.func10, Tryd.ntmps10
  go_wp2_with fail
  have HS0 : Hid ((m.size : Int) + (tg.size : Int) + (bd.size : Int) + (tk.size : Int) = ((m.size + tg.size + bd.size + tk.size : Nat) : Int)) := by show _ = _; simp only [Int.natCast_add]
  have HS1 : Hid (m.size + tg.size + bd.size + tk.size ≤ 562949953421312) := by show _ ≤ _; omega
  have HS2 : Hid (m.size ≤ m.size + tg.size + bd.size + tk.size ∧ tg.size ≤ m.size + tg.size + bd.size + tk.size ∧ bd.size ≤ m.size + tg.size + bd.size + tk.size ∧ tk.size ≤ m.size + tg.size + bd.size + tk.size) := by show _ ∧ _; omega
  rw [HS0.out]
  generalize m.size + tg.size + bd.size + tk.size = S0 at *
  clear z0 z1 z2 z3 HS0 c0 c1 c3 c4 c5 c6 c7 c8 c9 c11 c12
  go_loopw [3, 30] (fun nv i wr => ∃ (k : Nat) (z : Nat), k ≤ fs.length ∧ nv = .int .i64 z ∧ i = .int .i64 k ∧ Hid (Below w1.heap.size w1 wr) ∧ Hid (z = S0 + sumF (fs.take k))) (fun _ i _ => fs.length - (intOf i).toNat)
  case atStart => exact ⟨0, S0, Nat.zero_le _, rfl, rfl, Below.refl _ _, rfl⟩
  case round =>
    obtain ⟨k, z, hk, rfl, rfl, HBL, HZ⟩ := hrel
    by_cases hlt : k < fs.length
    · obtain ⟨a, rfl, hab, hc⟩ := ((HR.out.below HB.out (Nat.le_refl _)).below (HBL.out.mono HB.out.size) (Nat.le_refl _)).2 (by omega)
      have x0 : wr.cell? (a.add (k * 2)) = some (.string (fs[k]).1) := hc _ _ (fldCells_at fs k hlt).1
      have x1 : wr.cell? ⟨(a.add (k * 2)).block, (a.add (k * 2)).off + 1, none⟩ = some (.string (fs[k]).2) := by rw [add_next]; exact hc _ _ (fldCells_at fs k hlt).2
      have hsz := HH.out.fsz _ (List.getElem_mem hlt)
      have HSN := Lib.hid (sumF_snoc fs k hlt)
      have hkl : k ≤ 140737488355328 := Nat.le_trans hk HN1.out
      have hz0 : z ≤ 12000000000000000 := by
        have h1 := sumF_le (fs.take k) fun f hf => HH.out.fsz f (List.mem_of_mem_take hf)
        have h2 : (fs.take k).length * 281474976710656 ≤ 40 * 281474976710656 := Nat.mul_le_mul_right _ (by rw [List.length_take]; have := HF.out; omega)
        have h3 := HS1.out
        have h4 := HZ.out
        omega
      clear hc
      generalize (fs[k]).1 = f1 at *
      generalize (fs[k]).2 = f2 at *
      obtain ⟨hz1, hz2⟩ := hsz
      have HB1 := Lib.hid (HBL.out.alloc HBL.out.size (.cells #[.string f1, .string f2] 42))
      go_wp2_with fail
      go_roundw
      case rel => exact ⟨k + 1, z + (f1.size + f2.size), by omega, by first | rfl | (simp only [Int.natCast_add]), by go_num, HB1, by show _ = _; rw [HSN.out, HZ.out]; omega⟩
      case measure => simp [intOf]; omega
    · obtain rfl : k = fs.length := by omega
      have hkq := (HBL.out.block _ (blk_lt HC.out)).trans HC.out
      have d0 := blk_cell hkq 0; have d1 := blk_cell hkq 1; have d2 := blk_cell hkq 2; have d3 := blk_cell hkq 3; have d4 := blk_cell hkq 4; have d5 := blk_cell hkq 5; have d6 := blk_cell hkq 6; have d7 := blk_cell hkq 7; have d8 := blk_cell hkq 8; have d9 := blk_cell hkq 9; have d10 := blk_cell hkq 10; have d11 := blk_cell hkq 11; have d12 := blk_cell hkq 12
      simp only [List.getElem?_toArray, List.getElem?_cons_zero, List.getElem?_cons_succ] at d0 d1 d2 d3 d4 d5 d6 d7 d8 d9 d10 d11 d12
      clear hkq hk hlt c2 c10
      rw [List.take_length] at HZ
      have hz0 : z ≤ 12000000000000000 := by
        have h1 := sumF_le fs HH.out.fsz
        have h2 : fs.length * 281474976710656 ≤ 40 * 281474976710656 := Nat.mul_le_mul_right _ (by have := HF.out; omega)
        have h3 := HS1.out
        have h4 := HZ.out
        omega
      go_wp2_with fail
      go_loopw [3, 48] (fun nv i wr2 => ∃ (k y : Nat), k ≤ al.length ∧ nv = .int .i64 y ∧ i = .int .i64 k ∧ wr2 = wr ∧ Hid (y = z + sumS (al.take k))) (fun _ i _ => al.length - (intOf i).toNat)
      case atStart => exact ⟨0, z, Nat.zero_le _, rfl, rfl, rfl, rfl⟩
      case round =>
        obtain ⟨q, y, hq, rfl, rfl, rfl, HY⟩ := hrel
        by_cases hlt2 : q < al.length
        · obtain ⟨a, rfl, hab, hc⟩ := ((HRS.out.below HB.out (Nat.le_refl _)).below (HBL.out.mono HB.out.size) (Nat.le_refl _)).2 (by omega)
          have x0 := hc q (.string al[q]) (by simp [hlt2])
          have hsz := HH.out.alz _ (List.getElem_mem hlt2)
          have HSN := Lib.hid (sumS_snoc al q hlt2)
          have hql : q ≤ 140737488355328 := Nat.le_trans hq HN2.out
          have hy0 : y ≤ 20000000000000000 := by
            have h1 := sumS_le (al.take q) fun f hf => HH.out.alz f (List.mem_of_mem_take hf)
            have h2 : (al.take q).length * 140737488355328 ≤ 40 * 140737488355328 := Nat.mul_le_mul_right _ (by rw [List.length_take]; have := HAA.out; omega)
            have h4 := HY.out
            omega
          clear hc
          generalize al[q] = f1 at *
          go_wp2_with fail
          go_roundw
          case rel => exact ⟨q + 1, y + f1.size, by omega, by first | rfl | (simp only [Int.natCast_add]), by go_num, (by first | exact trivial | rfl), by show _ = _; rw [HSN.out, HY.out]; omega⟩
          case measure => simp [intOf]; omega
        · obtain rfl : q = al.length := by omega
          have HFIN : Hid (Below w.heap.size w wr) := bt HB.out HBL.out
          clear hq hlt2
          rw [List.take_length] at HY
          have hfl : (fs.length : Int) < 40 := by have := HF.out; omega
          have hal : (al.length : Int) < 40 := by have := HAA.out; omega
          by_cases y1 : (y : Int) < 3000
          · by_cases y2 : cn > -4611686018427387904
            · by_cases y3 : sq > -4611686018427387904
              · by_cases y4 : vs > -4611686018427387904
                · go_wp2_with fail
                  go_ret
                  have hy := HY.out
                  have hz := HZ.out
                  have h5 := HS2.out
                  refine ⟨⟨true, rfl, fun _ => ⟨by show m.size ≤ 3000; omega, by show tg.size ≤ 3000; omega, by show bd.size ≤ 3000; omega, by show tk.size ≤ 3000; omega, HF.out, HAA.out, fun f hm => by have := sumF_mem hm; simp only at this; omega, fun x hm => by have := sumS_mem hm; simp only at this; omega, y2, y3, y4⟩⟩, HFIN.out⟩
                · go_wp2_with fail
                  go_ret
                  first | exact ⟨⟨false, rfl, fun h => by cases h⟩, HFIN.out⟩ | exact ⟨.inl rfl, HFIN.out⟩ | exact ⟨.inl ⟨rfl, fun h => by cases h⟩, HFIN.out⟩
              · go_wp2_with fail
                go_ret
                first | exact ⟨⟨false, rfl, fun h => by cases h⟩, HFIN.out⟩ | exact ⟨.inl rfl, HFIN.out⟩ | exact ⟨.inl ⟨rfl, fun h => by cases h⟩, HFIN.out⟩
            · go_wp2_with fail
              go_ret
              first | exact ⟨⟨false, rfl, fun h => by cases h⟩, HFIN.out⟩ | exact ⟨.inl rfl, HFIN.out⟩ | exact ⟨.inl ⟨rfl, fun h => by cases h⟩, HFIN.out⟩
          · go_wp2_with fail
            go_ret
            first | exact ⟨⟨false, rfl, fun h => by cases h⟩, HFIN.out⟩ | exact ⟨.inl rfl, HFIN.out⟩ | exact ⟨.inl ⟨rfl, fun h => by cases h⟩, HFIN.out⟩

set_option maxRecDepth 100000 in
set_option maxHeartbeats 4000000 in
theorem light_many (c : Cl) (w : World) (h : c.at w) (hf : ¬ (c.fs.length < 40 ∧ c.al.length < 40)) : Calls Tryd.prog 10 #[c.v] w fun e w' => (e = .returned (.bool false)) ∧ Below w.heap.size w w' := by
  show Calls Tryd.prog 10 #[.agg #[.string c.m, .string c.tg, .slice c.A c.fs.length c.fc, .string c.bd, .bool c.cc, .int .i64 c.cn, .int .i64 c.sq, .int .i64 c.vs, .string c.hn, c.pv, .slice c.B c.al.length c.ac, .bool c.fd, .string c.tk]] w _
  have hb1 := (Below.refl w.heap.size w).alloc (Nat.le_refl _) (.cells #[.string c.m, .string c.tg, .slice c.A c.fs.length c.fc, .string c.bd, .bool c.cc, .int .i64 c.cn, .int .i64 c.sq, .int .i64 c.vs, .string c.hn, c.pv, .slice c.B c.al.length c.ac, .bool c.fd, .string c.tk] 30)
  have hkq := heap_alloc_new w (.cells #[.string c.m, .string c.tg, .slice c.A c.fs.length c.fc, .string c.bd, .bool c.cc, .int .i64 c.cn, .int .i64 c.sq, .int .i64 c.vs, .string c.hn, c.pv, .slice c.B c.al.length c.ac, .bool c.fd, .string c.tk] 30)
  have c0 := blk_cell hkq 0; have c1 := blk_cell hkq 1; have c2 := blk_cell hkq 2; have c3 := blk_cell hkq 3; have c4 := blk_cell hkq 4; have c5 := blk_cell hkq 5; have c6 := blk_cell hkq 6; have c7 := blk_cell hkq 7; have c8 := blk_cell hkq 8; have c9 := blk_cell hkq 9; have c10 := blk_cell hkq 10; have c11 := blk_cell hkq 11; have c12 := blk_cell hkq 12
  simp only [List.getElem?_toArray, List.getElem?_cons_zero, List.getElem?_cons_succ] at c0 c1 c2 c3 c4 c5 c6 c7 c8 c9 c10 c11 c12
  have HC := Lib.hid hkq; have HB := Lib.hid hb1
  clear hkq hb1
  have z0 := h.z0; have z1 := h.z1; have z2 := h.z2; have z3 := h.z3
  have HH := Lib.hid h
  have HR := Lib.hid h.row; have HRS := Lib.hid h.rowS
  have HN1 : Hid (c.fs.length ≤ 140737488355328) := h.fsn
  have HN2 : Hid (c.al.length ≤ 140737488355328) := h.aln
  have HF := Lib.hid hf
  
  clear h hf 
  obtain ⟨m, tg, A, fs, fc, bd, cc, cn, sq, vs, hn, pv, B, al, ac, fd, tk⟩ := c
  simp only at *
  generalize hw1 : w.alloc (.cells #[.string m, .string tg, .slice A fs.length fc, .string bd, .bool cc, .int .i64 cn, .int .i64 sq, .int .i64 vs, .string hn, pv, .slice B al.length ac, .bool fd, .string tk] 30) = w1 at *
  go_enter Tryd.func10, Tryd.ntmps10
  go_wp2_with fail
  have HS0 : Hid ((m.size : Int) + (tg.size : Int) + (bd.size : Int) + (tk.size : Int) = ((m.size + tg.size + bd.size + tk.size : Nat) : Int)) := by show _ = _; simp only [Int.natCast_add]
  have HS1 : Hid (m.size + tg.size + bd.size + tk.size ≤ 562949953421312) := by show _ ≤ _; omega
  have HS2 : Hid (m.size ≤ m.size + tg.size + bd.size + tk.size ∧ tg.size ≤ m.size + tg.size + bd.size + tk.size ∧ bd.size ≤ m.size + tg.size + bd.size + tk.size ∧ tk.size ≤ m.size + tg.size + bd.size + tk.size) := by show _ ∧ _; omega
  rw [HS0.out]
  generalize m.size + tg.size + bd.size + tk.size = S0 at *
  clear z0 z1 z2 z3 HS0 c0 c1 c3 c4 c5 c6 c7 c8 c9 c11 c12
  go_loopw [3, 30] (fun nv i wr => ∃ (k : Nat) (z : Int), k ≤ fs.length ∧ nv = .int .i64 z ∧ i = .int .i64 k ∧ Hid (Below w1.heap.size w1 wr)) (fun _ i _ => fs.length - (intOf i).toNat)
  case atStart => exact ⟨0, S0, Nat.zero_le _, rfl, rfl, Below.refl _ _⟩
  case round =>
    obtain ⟨k, z, hk, rfl, rfl, HBL⟩ := hrel
    by_cases hlt : k < fs.length
    · obtain ⟨a, rfl, hab, hc⟩ := ((HR.out.below HB.out (Nat.le_refl _)).below (HBL.out.mono HB.out.size) (Nat.le_refl _)).2 (by omega)
      have x0 : wr.cell? (a.add (k * 2)) = some (.string (fs[k]).1) := hc _ _ (fldCells_at fs k hlt).1
      have x1 : wr.cell? ⟨(a.add (k * 2)).block, (a.add (k * 2)).off + 1, none⟩ = some (.string (fs[k]).2) := by rw [add_next]; exact hc _ _ (fldCells_at fs k hlt).2
      have hsz := HH.out.fsz _ (List.getElem_mem hlt)
      have HSN := Lib.hid (sumF_snoc fs k hlt)
      have hkl : k ≤ 140737488355328 := Nat.le_trans hk HN1.out
      clear hc
      generalize (fs[k]).1 = f1 at *
      generalize (fs[k]).2 = f2 at *
      obtain ⟨hz1, hz2⟩ := hsz
      have HB1 := Lib.hid (HBL.out.alloc HBL.out.size (.cells #[.string f1, .string f2] 42))
      go_wp2_with fail
      go_roundw
      case rel => exact ⟨k + 1, _, by omega, rfl, by go_num, HB1⟩
      case measure => simp [intOf]; omega
    · obtain rfl : k = fs.length := by omega
      have hkq := (HBL.out.block _ (blk_lt HC.out)).trans HC.out
      have d0 := blk_cell hkq 0; have d1 := blk_cell hkq 1; have d2 := blk_cell hkq 2; have d3 := blk_cell hkq 3; have d4 := blk_cell hkq 4; have d5 := blk_cell hkq 5; have d6 := blk_cell hkq 6; have d7 := blk_cell hkq 7; have d8 := blk_cell hkq 8; have d9 := blk_cell hkq 9; have d10 := blk_cell hkq 10; have d11 := blk_cell hkq 11; have d12 := blk_cell hkq 12
      simp only [List.getElem?_toArray, List.getElem?_cons_zero, List.getElem?_cons_succ] at d0 d1 d2 d3 d4 d5 d6 d7 d8 d9 d10 d11 d12
      clear hkq hk hlt c2 c10
      go_wp2_with fail
      go_loopw [3, 48] (fun nv i wr2 => ∃ (k y : Nat) (x : Int), k ≤ al.length ∧ nv = .int .i64 x ∧ i = .int .i64 k ∧ wr2 = wr) (fun _ i _ => al.length - (intOf i).toNat)
      case atStart => exact ⟨0, 0, z, Nat.zero_le _, rfl, rfl, rfl⟩
      case round =>
        obtain ⟨q, y, x, hq, rfl, rfl, rfl⟩ := hrel
        by_cases hlt2 : q < al.length
        · obtain ⟨a, rfl, hab, hc⟩ := ((HRS.out.below HB.out (Nat.le_refl _)).below (HBL.out.mono HB.out.size) (Nat.le_refl _)).2 (by omega)
          have x0 := hc q (.string al[q]) (by simp [hlt2])
          have hsz := HH.out.alz _ (List.getElem_mem hlt2)
          have HSN := Lib.hid (sumS_snoc al q hlt2)
          have hql : q ≤ 140737488355328 := Nat.le_trans hq HN2.out
          clear hc
          generalize al[q] = f1 at *
          go_wp2_with fail
          go_roundw
          case rel => exact ⟨q + 1, 0, _, by omega, rfl, by go_num, (by first | exact trivial | rfl)⟩
          case measure => simp [intOf]; omega
        · obtain rfl : q = al.length := by omega
          have HFIN : Hid (Below w.heap.size w wr) := bt HB.out HBL.out
          clear hq hlt2
          by_cases y1 : x < 3000
          · by_cases y2 : (fs.length : Int) < 40
            · have y3 : ¬ (al.length : Int) < 40 := by have := HF.out; omega
              go_wp2_with fail
              go_ret
              exact ⟨rfl, HFIN.out⟩
            · go_wp2_with fail
              go_ret
              exact ⟨rfl, HFIN.out⟩
          · go_wp2_with fail
            go_ret
            exact ⟨rfl, HFIN.out⟩

theorem light_any (c : Cl) (w : World) (h : c.at w) : Calls Tryd.prog 10 #[c.v] w fun e w' => (∃ r, e = .returned (.bool r) ∧ (r = true → c.light)) ∧ Below w.heap.size w w' := by
  by_cases hf : c.fs.length < 40 ∧ c.al.length < 40
  · exact light_few c w h hf.1 hf.2
  · exact (light_many c w h hf).mono fun e w' ⟨he, hb⟩ => ⟨⟨false, he, fun h => by cases h⟩, hb⟩
end Go.Proofs.YtmncchgifgjhgaaDoor
