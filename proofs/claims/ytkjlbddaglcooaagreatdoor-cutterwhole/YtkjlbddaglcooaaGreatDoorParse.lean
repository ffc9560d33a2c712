/- The contract of head.Parse. -/
import Derived.Test.YtkjlbddaglcooaaGreatDoorMeasure
import Derived.Test.YtkjlbddaglcooaaGreatDoorCloses
namespace Go.Proofs.YtkjlbddaglcooaaGreatDoor
open Go.RowKit Pl

def zero7 : Array Value := #[.string ⟨#[]⟩, .string ⟨#[]⟩, .slice none 0 0, .string ⟨#[]⟩, .bool false, .int .i64 0, .int .i64 0]
def hdVal (h : Hd) (v : Value) : Value := .agg #[.string h.m, .string h.t, v, .string ⟨#[]⟩, .bool h.close, .int .i64 h.len, .int .i64 h.status]

/-- What Parse answers. -/
def Parsed (h : Hd) (w : World) (e : Ending) (w' : World) : Prop := ∃ v, e = .returned (hdVal h v) ∧ w'.ownsRow w.heap.size 64 2 v h.fs.length (fldCells h.fs) ∧ Below w.heap.size w w'

theorem parsed_bad {w w' : World} {h : Hd} (n : Int) (hh : badH n = h) (hb : Below w.heap.size w w') : Parsed h w (.returned (wrongV n)) w' := by
  subst hh
  exact ⟨.slice none 0 0, rfl, World.ownsRow_nil _ _ _ _, hb⟩

theorem res_cells {W : World} {R : Nat} (h : W.heap[R]? = some (.cells zero7 51 (0, 0))) : (W.cell? ⟨R, 0, none⟩ = some (.string ⟨#[]⟩) ∧ W.cell? ⟨R, 1, none⟩ = some (.string ⟨#[]⟩) ∧ W.cell? ⟨R, 2, none⟩ = some (.slice none 0 0) ∧ W.cell? ⟨R, 3, none⟩ = some (.string ⟨#[]⟩) ∧ W.cell? ⟨R, 4, none⟩ = some (.bool false) ∧ W.cell? ⟨R, 5, none⟩ = some (.int .i64 0) ∧ W.cell? ⟨R, 6, none⟩ = some (.int .i64 0)) ∧ (W.frozen? ⟨R, 0, none⟩ = false ∧ W.frozen? ⟨R, 1, none⟩ = false ∧ W.frozen? ⟨R, 2, none⟩ = false ∧ W.frozen? ⟨R, 3, none⟩ = false ∧ W.frozen? ⟨R, 4, none⟩ = false ∧ W.frozen? ⟨R, 5, none⟩ = false ∧ W.frozen? ⟨R, 6, none⟩ = false) := by
  refine ⟨⟨?_, ?_, ?_, ?_, ?_, ?_, ?_⟩, ?_, ?_, ?_, ?_, ?_, ?_, ?_⟩
  all_goals first | (rw [blk_cell h]; rfl) | exact blk_free h _

def put7 (W : World) (R : Nat) (u0 u1 u2 u3 u4 u5 u6 : Value) : World :=
  ((((((W.setCell ⟨R, 0, none⟩ u0).setCell ⟨R, 1, none⟩ u1).setCell ⟨R, 2, none⟩ u2).setCell ⟨R, 3, none⟩ u3).setCell ⟨R, 4, none⟩ u4).setCell ⟨R, 5, none⟩ u5).setCell ⟨R, 6, none⟩ u6
theorem put7_blk {W : World} {R : Nat} (h : W.heap[R]? = some (.cells zero7 51 (0, 0))) (u0 u1 u2 u3 u4 u5 u6 : Value) : (put7 W R u0 u1 u2 u3 u4 u5 u6).heap[R]? = some (.cells #[u0, u1, u2, u3, u4, u5, u6] 51 (0, 0)) := by
  have e0 := Lib.heap_setCell_same (i := 0) (v := u0) h
  have e1 := Lib.heap_setCell_same (i := 1) (v := u1) e0
  have e2 := Lib.heap_setCell_same (i := 2) (v := u2) e1
  have e3 := Lib.heap_setCell_same (i := 3) (v := u3) e2
  have e4 := Lib.heap_setCell_same (i := 4) (v := u4) e3
  have e5 := Lib.heap_setCell_same (i := 5) (v := u5) e4
  exact Lib.heap_setCell_same (i := 6) (v := u6) e5
theorem put7_far {W : World} {R k : Nat} (hk : k ≠ R) (u0 u1 u2 u3 u4 u5 u6 : Value) : (put7 W R u0 u1 u2 u3 u4 u5 u6).heap[k]? = W.heap[k]? := by
  unfold put7
  rw [Below.heap_setCell _ _ _ _ (by simpa using hk), Below.heap_setCell _ _ _ _ (by simpa using hk), Below.heap_setCell _ _ _ _ (by simpa using hk), Below.heap_setCell _ _ _ _ (by simpa using hk), Below.heap_setCell _ _ _ _ (by simpa using hk), Below.heap_setCell _ _ _ _ (by simpa using hk), Below.heap_setCell _ _ _ _ (by simpa using hk)]
theorem put7_below {w W : World} {R : Nat} (h : Below w.heap.size w W) (hR : w.heap.size ≤ R) (u0 u1 u2 u3 u4 u5 u6 : Value) : Below w.heap.size w (put7 W R u0 u1 u2 u3 u4 u5 u6) := by
  unfold put7
  exact ((((((h.setCell hR _).setCell hR _).setCell hR _).setCell hR _).setCell hR _).setCell hR _).setCell hR _
theorem put7_own {W : World} {R base k n : Nat} {e : TypeId} {v : Value} {xs : List Value} (h : W.ownsRow base e k v n xs) (hR : R < base) (u0 u1 u2 u3 u4 u5 u6 : Value) : (put7 W R u0 u1 u2 u3 u4 u5 u6).ownsRow base e k v n xs := by
  unfold put7
  exact ownsRow_setCell_below (ownsRow_setCell_below (ownsRow_setCell_below (ownsRow_setCell_below (ownsRow_setCell_below (ownsRow_setCell_below (ownsRow_setCell_below h hR _) hR _) hR _) hR _) hR _) hR _) hR _
theorem put7_ret {W : World} {R : Nat} {a : Act} {Q : Ending → World → Prop} (h : W.heap[R]? = some (.cells zero7 51 (0, 0))) (u0 u1 u2 u3 u4 u5 u6 : Value) (ha : a.tmps.getD 2 undef = .pointer (some ⟨R, 0, none⟩)) (hd : a.defers = [])
    (hQ : Q (.returned (.agg #[u0, u1, u2, u3, u4, u5, u6])) (put7 W R u0 u1 u2 u3 u4 u5 u6)) : bodyPost Tryz.prog Tryz.f20 Q .ret a (put7 W R u0 u1 u2 u3 u4 u5 u6) := by
  have hb := put7_blk h u0 u1 u2 u3 u4 u5 u6
  generalize put7 W R u0 u1 u2 u3 u4 u5 u6 = V at *
  have c0 := blk_cell hb 0
  have c1 := blk_cell hb 1
  have c2 := blk_cell hb 2
  have c3 := blk_cell hb 3
  have c4 := blk_cell hb 4
  have c5 := blk_cell hb 5
  have c6 := blk_cell hb 6
  simp at c0 c1 c2 c3 c4 c5 c6
  simp at ha
  exact bodyPost_ret (v := .agg #[u0, u1, u2, u3, u4, u5, u6]) (by simp [results, Tryz.results20, go_sem, ha, c0, c1, c2, c3, c4, c5, c6]) hd hQ

set_option maxHeartbeats 1000000 in
theorem parse_none (A : Option Addr) (c : Nat) (w : World) : Calls Tryz.prog 20 #[.slice A 0 c] w fun e w' => Parsed (badH 400) w e w' := by
  go_enter Tryz.func20, Tryz.ntmps20
  go_wp2_with fail
  refine (wrong_any _ _).mono ?_
  rintro e w1 ⟨rfl, hb1⟩
  have hb1' : Below w.heap.size w w1 := ((Below.refl _ _).alloc (Nat.le_refl _) _).trans (hb1.mono (by simp))
  have hres : w1.heap[w.heap.size]? = some (.cells zero7 51 (0, 0)) := (hb1.block _ (by simp)).trans (heap_alloc_new w _)
  obtain ⟨⟨r0, r1, r2, r3, r4, r5, r6⟩, f0, f1, f2, f3, f4, f5, f6⟩ := res_cells hres
  unfold wrongV
  go_wp2_with fail
  exact put7_ret hres _ _ _ _ _ _ _ rfl rfl (parsed_bad 400 rfl (put7_below hb1' (Nat.le_refl _) _ _ _ _ _ _ _))

theorem below_grown {w W W' : World} {g : Nat} (h : Below w.heap.size w W) (k : W.grownBy W' (some g)) (hg : w.heap.size ≤ g) : Below w.heap.size w W' := h.grown k h.size (fun j hj => by injection hj with hj; omega)

/-- Where Parse stands: the result's block is untouched, the head's block is known. -/
structure PS (w W : World) (cs : Array Value) : Prop where
  res : W.heap[w.heap.size]? = some (.cells zero7 51 (0, 0))
  blk : W.heap[w.heap.size + 1]? = some (.cells cs 51 (0, 0))
  below : Below w.heap.size w W
theorem PS.go {w W W' : World} {cs cs' : Array Value} (h : PS w W cs) (k : W.grownBy W' (some (w.heap.size + 1))) (hb : W'.heap[w.heap.size + 1]? = some (.cells cs' 51 (0, 0))) : PS w W' cs' :=
  ⟨(k.block _ (by have := blk_lt h.res; omega) (by simp)).trans h.res, hb, below_grown h.below k (by omega)⟩
theorem PS.step {w W W' : World} {cs : Array Value} (h : PS w W cs) (k : Below W.heap.size W W') : PS w W' cs :=
  ⟨(k.block _ (blk_lt h.res)).trans h.res, (k.block _ (blk_lt h.blk)).trans h.blk, bt h.below k⟩
theorem PS.res_of {w W W' : World} {cs : Array Value} (h : PS w W cs) (k : W.grownBy W' (some (w.heap.size + 1))) : W'.heap[w.heap.size]? = some (.cells zero7 51 (0, 0)) ∧ Below w.heap.size w W' :=
  ⟨(k.block _ (blk_lt h.res) (by simp)).trans h.res, below_grown h.below k (by omega)⟩
theorem PS.start (w : World) : PS w ((w.alloc (.cells zero7 51)).alloc (.cells zero7 51)).drew zero7 := by
  refine ⟨?_, ?_, ((((Below.refl _ _).alloc (Nat.le_refl _) _).alloc (by simp) _).drew)⟩
  · show ((w.alloc (.cells zero7 51)).alloc (.cells zero7 51)).heap[w.heap.size]? = _
    rw [Below.heap_alloc _ _ _ (by simp)]
    exact heap_alloc_new w _
  · have := heap_alloc_new (w.alloc (.cells zero7 51)) (.cells zero7 51)
    rw [show (w.alloc (.cells zero7 51)).heap.size = w.heap.size + 1 from by simp] at this
    exact this

theorem fldOf_sizes (s : ByteArray) (f : Fld) (h : fldOf s = some f) : f.1.size ≤ s.size ∧ f.2.size ≤ s.size := by
  cases hc : cutL s.data.toList with
  | none => rw [fldOf_none s hc] at h; cases h
  | some p =>
    have hc2 : cutL s.data.toList = some ((mkB p.1).data.toList, (mkB p.2).data.toList) := by rw [hc, mkB_data, mkB_data]
    have hz := cut_sizes s hc2
    rw [fldOf_some s hc2] at h
    split at h
    · injection h with h
      subst h
      have h1 : (lowS (mkB p.1)).size = (mkB p.1).size := by rw [← data_len, lowS_data, lowB, List.length_map, data_len]
      have h2 := trS_size (mkB p.2)
      exact ⟨by simp only; omega, by simp only; omega⟩
    · cases h
theorem takeF_sizes (B : Nat) : ∀ (ls : List ByteArray) (fs : List Fld), (∀ s ∈ ls, s.size ≤ B) → takeF ls = some fs → ∀ f ∈ fs, f.1.size ≤ B ∧ f.2.size ≤ B
  | [], fs, _, h => by simp [takeF] at h; subst h; simp
  | l :: ls, fs, hb, h => by
    rw [takeF] at h
    cases hf : fldOf l with
    | none => rw [hf] at h; cases h
    | some f0 =>
      rw [hf] at h
      cases ht : takeF ls with
      | none => rw [ht] at h; cases h
      | some fa =>
        rw [ht] at h
        simp at h
        subst h
        intro f hfm
        rw [List.mem_cons] at hfm
        rcases hfm with rfl | hfm
        · have := fldOf_sizes l f hf
          have := hb l (by simp)
          omega
        · exact takeF_sizes B ls fa (fun s hs => hb s (by simp [hs])) ht f hfm
theorem valsOf_mem (name : ByteArray) (fs : List Fld) (x : ByteArray) (h : x ∈ valsOf name fs) : ∃ f ∈ fs, f.2 = x := by
  unfold valsOf at h
  rw [List.mem_filterMap] at h
  obtain ⟨f, hf, he⟩ := h
  split at he
  · injection he with he; exact ⟨f, hf, he⟩
  · cases he

set_option maxHeartbeats 1000000 in
theorem parse_longs (first : ByteArray) (n : Nat) (a : Addr) (c : Nat) (w : World) (hcell : w.cell? a = some (.string first)) (hab : a.block < w.heap.size) (hn : n + 1 ≤ c) (hc : 1 < c) (hc2 : c ≤ maxLen) (hl : 200 < first.size ∨ (first.size ≤ 200 ∧ 16 < n)) : Calls Tryz.prog 20 #[.slice (some a) (n + 1) c] w fun e w' => Parsed (badH 431) w e w' := by
  unfold maxLen at hc2
  rcases hl with hl | ⟨hl, hl2⟩
  all_goals
    go_enter Tryz.func20, Tryz.ntmps20
    go_wp2_with fail
    go_region
    go_wp2_with fail
    refine (wrong_any _ _).mono ?_
    rintro e w1 ⟨rfl, hb1⟩
    have hb1' : Below w.heap.size w w1 := ((Below.refl _ _).alloc (Nat.le_refl _) _).drew.trans (hb1.mono (by simp))
    have hres : w1.heap[w.heap.size]? = some (.cells zero7 51 (0, 0)) := (hb1.block _ (by simp)).trans (heap_alloc_new w _)
    obtain ⟨⟨r0, r1, r2, r3, r4, r5, r6⟩, f0, f1, f2, f3, f4, f5, f6⟩ := res_cells hres
    unfold wrongV
    go_wp2_with fail
    exact put7_ret hres _ _ _ _ _ _ _ rfl rfl (parsed_bad 431 rfl (put7_below hb1' (Nat.le_refl _) _ _ _ _ _ _ _))

set_option maxHeartbeats 2000000 in
theorem parse_core (first : ByteArray) (rest : List ByteArray) (a : Addr) (c : Nat) (w : World) (h : Hd) (HP : Hid (parseF (first :: rest) = h)) (hcell : w.cell? a = some (.string first)) (hab : a.block < w.heap.size)
    (hr : Rd w w.heap.size 1 (some ⟨a.block, a.off + 1, none⟩) rest.length (rest.map .string)) (hs : ∀ s ∈ rest, s.size ≤ 1000000)
    (hn : rest.length + 1 ≤ c) (hc : 1 < c) (hc2 : c ≤ maxLen) (hl : first.size ≤ 200) (hl2 : rest.length ≤ 16) : Calls Tryz.prog 20 #[.slice (some a) (rest.length + 1) c] w fun e w' => Parsed h w e w' := by
  unfold maxLen at hc2
  have HR := Lib.hid hr
  have HS := Lib.hid hs
  clear hr hs
  have hlen : rest.length = rest.length := rfl
  generalize hnr : rest.length = n at *
  have HN := Lib.hid hnr
  clear hnr hlen
  go_enter Tryz.func20, Tryz.ntmps20
  go_wp2_with fail
  go_region
  go_wp2_with fail
  have hps := PS.start w
  unfold zero7 at hps
  generalize ((w.alloc (Obj.cells #[Value.string { data := #[] }, Value.string { data := #[] }, Value.slice none 0 0, Value.string { data := #[] }, Value.bool false, Value.int IntKind.i64 0, Value.int IntKind.i64 0] 51)).alloc (Obj.cells #[Value.string { data := #[] }, Value.string { data := #[] }, Value.slice none 0 0, Value.string { data := #[] }, Value.bool false, Value.int IntKind.i64 0, Value.int IntKind.i64 0] 51)).drew = W1 at *
  refine (begin_any first (w.heap.size + 1) emptyS emptyS nilS emptyS (.bool false) (.int .i64 0) (.int .i64 0) W1 (by omega) hps.blk).mono ?_
  rintro e w2 ⟨rfl, hbg⟩
  cases hF : firstOf first with
  | none =>
    have HB : Hid (badH 400 = h) := by rw [← HP.out]; exact (parse_f first rest ⟨hl, by rw [HN.out]; exact hl2⟩ hF).symm
    obtain ⟨hres, hbel⟩ := hps.res_of hbg.grown
    clear hF
    go_wp2_with fail
    refine (wrong_any _ _).mono ?_
    rintro e w3 ⟨rfl, hb3⟩
    have hres3 := (hb3.block _ (blk_lt hres)).trans hres
    obtain ⟨⟨r0, r1, r2, r3, r4, r5, r6⟩, f0, f1, f2, f3, f4, f5, f6⟩ := res_cells hres3
    unfold wrongV
    go_wp2_with fail
    exact put7_ret hres3 _ _ _ _ _ _ _ rfl rfl (parsed_bad 400 HB.out (put7_below (bt hbel hb3) (Nat.le_refl _) _ _ _ _ _ _ _))
  | some mt =>
    obtain ⟨m, t⟩ := mt
    have hps2 := hps.go hbg.grown (hbg.first m t hF)
    have HF := Lib.hid hF
    clear hF
    have hr2 : Rd w2 w.heap.size 1 (some ⟨a.block, a.off + 1, none⟩) rest.length (rest.map .string) := by rw [HN.out]; exact HR.out.below hps2.below (Nat.le_refl _)
    have htc := take_any rest (some ⟨a.block, a.off + 1, none⟩) (c - 1) (w.heap.size + 1) w.heap.size (.string m) (.string t) emptyS (.bool false) (.int .i64 0) (.int .i64 0) w2 (by omega) hr2 (by rw [HN.out]; omega) HS.out hps2.blk
    rw [HN.out] at htc
    have HTC := Lib.hid htc
    clear htc hr2
    go_wp2_with fail
    refine HTC.out.mono ?_
    rintro e w3 ⟨rfl, v, fs, hst, hfs⟩
    cases hT : takeF rest with
    | none =>
      have HB : Hid (badH 400 = h) := by rw [← HP.out]; exact (parse_t first rest ⟨hl, by rw [HN.out]; exact hl2⟩ HF.out hT).symm
      obtain ⟨hres, hbel⟩ := hps2.res_of hst.grown
      clear hT
      go_wp2_with fail
      refine (wrong_any _ _).mono ?_
      rintro e w4 ⟨rfl, hb4⟩
      have hres3 := (hb4.block _ (blk_lt hres)).trans hres
      obtain ⟨⟨r0, r1, r2, r3, r4, r5, r6⟩, f0, f1, f2, f3, f4, f5, f6⟩ := res_cells hres3
      unfold wrongV
      go_wp2_with fail
      exact put7_ret hres3 _ _ _ _ _ _ _ rfl rfl (parsed_bad 400 HB.out (put7_below (bt hbel hb4) (Nat.le_refl _) _ _ _ _ _ _ _))
    | some fs2 =>
      obtain rfl := hfs fs2 hT
      have hsz : ∀ (name x : ByteArray), x ∈ valsOf name fs → x.size ≤ 1000000 := fun name x hx => by
        obtain ⟨f, hf, rfl⟩ := valsOf_mem name fs x hx
        exact (takeF_sizes 1000000 rest fs HS.out hT f hf).2
      have hfl : fs.length ≤ 16 := by rw [takeF_len rest fs hT, HN.out]; exact hl2
      have HSZ := Lib.hid hsz
      have HT := Lib.hid hT
      clear hT hfs hsz
      obtain ⟨A2, c2, rfl, hrd⟩ := Rd.own hst.row
      have hps3 := hps2.go hst.grown hst.blk
      have ce3 := hst.cell
      have HST := Lib.hid hst
      have HAH := Lib.hid (all_any fs hostN A2 c2 w3 hrd (by omega))
      unfold hostN at HAH
      clear hst
      go_wp2_with fail
      refine HAH.out.mono ?_
      rintro e w4 ⟨vh, rfl, hoh, hb4⟩
      change w4.ownsRow w3.heap.size 9 1 vh (valsOf hostN fs).length ((valsOf hostN fs).map .string) at hoh
      obtain ⟨Ah, ch, rfl, _⟩ := Rd.own hoh
      have hps4 := hps3.step hb4
      have HOH := Lib.hid hoh
      clear hoh HAH ce3
      by_cases hh : (valsOf hostN fs).length = 1
      · have HPM := Lib.hid (parse_m first rest ⟨hl, by rw [HN.out]; exact hl2⟩ HF.out HT.out hh)
        have HPO := Lib.hid (parse_ok first rest ⟨hl, by rw [HN.out]; exact hl2⟩ HF.out HT.out hh)
        generalize (valsOf hostN fs).length = nh at *
        subst hh
        have hrd4 := (hrd.below hb4 (Nat.le_refl _)).wide hb4.size
        have hmc := measure_any fs A2 c2 (w.heap.size + 1) (.string m) (.string t) emptyS (.bool false) (.int .i64 0) w4 hrd4 (by omega) (fun x hx => HSZ.out _ x hx) hps4.blk
        generalize measureF (valsOf lengthN fs) (valsOf codingN fs) = r at *
        obtain ⟨st, le⟩ := r
        have HM := Lib.hid hmc
        clear hmc hrd4
        go_wp2_with fail
        refine HM.out.mono ?_
        rintro e w5 ⟨rfl, hms⟩
        by_cases hst0 : st = 0
        · subst hst0
          have hps5 := hps4.go hms.grown (hms.ok rfl)
          have hrow5 : w5.ownsRow w2.heap.size 64 2 (.slice A2 fs.length c2) fs.length (fldCells fs) := (own_below HST.out.row hb4).kept hms.grown (.inr HST.out.apart.symm)
          obtain ⟨A3, c3, he3, hrd5⟩ := Rd.own hrow5
          injection he3 with he1 he2 he3
          subst he1; subst he3
          have ce5 : w5.cell? ⟨w.heap.size + 1, 2, none⟩ = some (.slice A2 fs.length c2) := by rw [blk_cell hps5.blk]; rfl
          have HAC := Lib.hid (all_any fs connN A2 c2 w5 hrd5 (by omega))
          unfold connN at HAC
          have HB : Hid ((⟨m, t, fs, closesF (valsOf connN fs), le, 0⟩ : Hd) = h) := by rw [← HP.out]; exact (HPO.out rfl).symm
          clear HPM HPO he2 HM
          go_wp2_with fail
          refine HAC.out.mono ?_
          rintro e w6 ⟨vc, rfl, hoc, hb6⟩
          change w6.ownsRow w5.heap.size 9 1 vc (valsOf connN fs).length ((valsOf connN fs).map .string) at hoc
          obtain ⟨Ac, cc, rfl, hrc⟩ := Rd.own hoc
          have HCL := Lib.hid (closes_any (valsOf connN fs) Ac cc w6 hrc (by have := valsOf_len connN fs; omega) (fun x hx => HSZ.out _ x hx))
          generalize closesF (valsOf connN fs) = clo at *
          have HOC := Lib.hid hoc
          clear hoc ce5
          go_wp2_with fail
          refine HCL.out.mono ?_
          rintro e w7 ⟨rfl, hb7⟩
          have hps7 := (hps5.step hb6).step hb7
          have hrow7 := own_below (own_below hrow5 hb6) hb7
          have hlw2 : w.heap.size + 1 < w2.heap.size := blk_lt hps2.blk
          have g0 := blk_cell hps7.blk 0
          have g1 := blk_cell hps7.blk 1
          have g2 := blk_cell hps7.blk 2
          have g3 := blk_cell hps7.blk 3
          have g4 := blk_cell hps7.blk 4
          have g5 := blk_cell hps7.blk 5
          have g6 := blk_cell hps7.blk 6
          have f4' := blk_free hps7.blk 4
          simp [hdCells, emptyS] at g0 g1 g2 g3 g4 g5 g6
          obtain ⟨⟨r0, r1, r2, r3, r4, r5, r6⟩, f0, f1, f2, f3, f4, f5, f6⟩ := res_cells hps7.res
          go_wp2_with fail
          have hres8 : (w7.setCell ⟨w.heap.size + 1, 4, none⟩ (.bool clo)).heap[w.heap.size]? = some (.cells zero7 51 (0, 0)) := by
            rw [Below.heap_setCell _ _ _ _ (by simp)]; exact hps7.res
          refine put7_ret hres8 _ _ _ _ _ _ _ rfl rfl ?_
          refine ⟨.slice A2 fs.length c2, by rw [← HB.out]; rfl, ?_, ?_⟩
          · rw [← HB.out]
            exact own_mono (put7_own (ownsRow_setCell_below hrow7 (by simpa using hlw2) _) (by omega) _ _ _ _ _ _ _) (by omega)
          · exact put7_below (hps7.below.setCell (by simp) _) (Nat.le_refl _) _ _ _ _ _ _ _
        · have HB : Hid (badH st = h) := by rw [← HP.out]; exact (HPM.out hst0).symm
          obtain ⟨hres, hbel⟩ := hps4.res_of hms.grown
          have h31 : (st == 0) = false := by simpa using hst0
          clear HPM HPO HM
          go_wp2_with fail
          refine (wrong_any _ _).mono ?_
          rintro e w6 ⟨rfl, hb6⟩
          have hres3 := (hb6.block _ (blk_lt hres)).trans hres
          obtain ⟨⟨r0, r1, r2, r3, r4, r5, r6⟩, f0, f1, f2, f3, f4, f5, f6⟩ := res_cells hres3
          unfold wrongV
          go_wp2_with fail
          exact put7_ret hres3 _ _ _ _ _ _ _ rfl rfl (parsed_bad st HB.out (put7_below (bt hbel hb6) (Nat.le_refl _) _ _ _ _ _ _ _))
      · have HB : Hid (badH 400 = h) := by rw [← HP.out]; exact (parse_h first rest ⟨hl, by rw [HN.out]; exact hl2⟩ HF.out HT.out hh).symm
        generalize (valsOf hostN fs).length = nh at *
        have h31 : (nh == 1) = false := by simpa using hh
        have h32 : ((nh : Int) == 1) = false := by rw [beq_eq_false_iff_ne]; omega
        have hres := hps4.res
        have hbel := hps4.below
        go_wp2_with fail
        refine (wrong_any _ _).mono ?_
        rintro e w5 ⟨rfl, hb5⟩
        have hres3 := (hb5.block _ (blk_lt hres)).trans hres
        obtain ⟨⟨r0, r1, r2, r3, r4, r5, r6⟩, f0, f1, f2, f3, f4, f5, f6⟩ := res_cells hres3
        unfold wrongV
        go_wp2_with fail
        exact put7_ret hres3 _ _ _ _ _ _ _ rfl rfl (parsed_bad 400 HB.out (put7_below (bt hbel hb5) (Nat.le_refl _) _ _ _ _ _ _ _))

theorem add_off (a : Addr) (j : Nat) : (⟨a.block, a.off + 1, none⟩ : Addr).add j = a.add (j + 1) := by
  unfold Addr.add
  by_cases h : j = 0
  · simp [h]
  · simp [h]; omega

theorem parse_any (ls : List ByteArray) (A : Option Addr) (c : Nat) (w : World) (hr : Rd w w.heap.size 1 A ls.length (ls.map .string)) (hn : 2 ≤ ls.length) (hcap : ls.length ≤ c) (hc2 : c ≤ maxLen) (hs : ∀ s ∈ ls, s.size ≤ 1000000) :
    Calls Tryz.prog 20 #[.slice A ls.length c] w fun e w' => Parsed (parseF ls) w e w' := by
  match ls, hn with
  | first :: rest, hn =>
    obtain ⟨a, rfl, hab, hc⟩ := hr.2 (by simp)
    have hcell : w.cell? a = some (.string first) := by
      have := hc 0 (.string first) rfl
      simpa [Addr.add] using this
    simp only [List.length_cons] at hn hcap ⊢
    by_cases hl : 200 < first.size ∨ (first.size ≤ 200 ∧ 16 < rest.length)
    · rw [parse_long first rest (by omega)]
      exact parse_longs first rest.length a c w hcell hab hcap (by omega) hc2 hl
    · refine parse_core first rest a c w _ rfl hcell hab ⟨by simp, fun _ => ⟨_, rfl, hab, fun j u hu => ?_⟩⟩ (fun s hx => hs s (by simp [hx])) hcap (by omega) hc2 (by omega) (by omega)
      rw [add_off]
      exact hc (j + 1) u (by simpa using hu)

end Go.Proofs.YtkjlbddaglcooaaGreatDoor
