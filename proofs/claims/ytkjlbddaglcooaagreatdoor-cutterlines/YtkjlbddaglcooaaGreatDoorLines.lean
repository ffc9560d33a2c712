/- The law CutterLines, walked. -/
import Derived.Test.YtkjlbddaglcooaaGreatDoorSeedsLow
import Derived.Test.YtkjlbddaglcooaaGreatDoorWhole
import Derived.Deep.RegionLaw
import Derived.Deep.AppendLies
namespace Go.Proofs.YtkjlbddaglcooaaGreatDoor
open Go.RowKit Pl
open Go.Lib (byteCells)

theorem Tryz.info3 : (Tryz.prog.info? 3).map (fun i => (i.zero, i.size, i.bytes)) = some (some (.int .i64 0), 1, 8) := by kernel_rfl
/-- The places of CR among the first i bytes. -/
def crs (L : List UInt8) (i : Nat) : List Nat := (List.range i).filter fun j => L[j]? == some 13
theorem crs_snoc (L : List UInt8) (i : Nat) : crs L (i + 1) = crs L i ++ (if L[i]? = some 13 then [i] else []) := by
  unfold crs
  rw [List.range_succ, List.filter_append]
  congr 1
  by_cases h : L[i]? = some 13
  · rw [if_pos h]; simp [h]
  · rw [if_neg h]; simp [h]
theorem crs_mem {L : List UInt8} {i k : Nat} (h : k ∈ crs L i) : L[k]? = some 13 := by
  unfold crs at h
  rw [List.mem_filter] at h
  simpa using h.2
theorem crs_le (L : List UInt8) (i : Nat) : (crs L i).length ≤ i := by
  unfold crs
  exact Nat.le_trans (List.length_filter_le _ _) (by simp)
theorem crs_some {L : List UInt8} {i k : Nat} (hk : k < i) (h : L[k]? = some 13) : 0 < (crs L i).length := by
  refine List.length_pos_of_mem (a := k) ?_
  unfold crs
  rw [List.mem_filter]
  exact ⟨List.mem_range.2 hk, by simp [h]⟩
theorem own_zero {w : World} {base n k : Nat} {e : TypeId} {v : Value} {xs : List Value} (h : w.ownsRow base e k v n xs) : w.ownsRow 0 e k v n xs := by
  rcases h.2 with ⟨rfl, h0⟩ | ⟨g, cap, cur, rfl, h1, hh⟩
  · exact ⟨h.1, .inl ⟨rfl, h0⟩⟩
  · exact ⟨h.1, .inr ⟨g, cap, cur, rfl, Nat.zero_le _, hh⟩⟩
def natCells (l : List Nat) : List Value := l.map fun (j : Nat) => Value.int .i64 (j : Int)

theorem lines_text (mi ti tk : Nat) (cl : Bool) : seedT mi ti 0 tk 0 cl = joinL (seedLs mi ti 0 tk 0 cl) ++ [13, 10] := by
  rw [seed_split]
  simp [tailT, bodyT]
theorem method_first : ∀ mi : Fin 6, (methodT mi)[0]? ≠ some 13 ∧ 0 < (methodT mi).length := by decide
/-- What is wrong where an end of a line is broken. -/
theorem lines_broken (mi ti tk : Nat) (cl : Bool) (h1 : mi < 6) (h2 : ti < 16) (h4 : tk < 4) (k : Nat) (hk : (seedT mi ti 0 tk 0 cl)[k]? = some 13) :
    0 < k ∧ k + 1 < (seedT mi ti 0 tk 0 cl).length ∧ runC newC ((seedT mi ti 0 tk 0 cl).take k ++ (seedT mi ti 0 tk 0 cl).drop (k + 1)) = (stopC 400, []) ∧ runC newC ((seedT mi ti 0 tk 0 cl ++ [120]).set (k + 1) 120) = (stopC 400, []) := by
  obtain ⟨hg, hl, _⟩ := seed_open mi ti 0 tk 0 cl h1 h2 (by decide) h4 (by decide)
  have hpos : 0 < k := by
    rcases Nat.eq_zero_or_pos k with rfl | h
    · exfalso
      obtain ⟨m1, m2⟩ := method_first ⟨mi, h1⟩
      have e : ∃ x, seedT mi ti 0 tk 0 cl = methodT mi ++ x := ⟨_, by rw [lines_text, seedLs, joinL, firstL]; simp only [List.append_assoc]; rfl⟩
      obtain ⟨x, e⟩ := e
      rw [e, List.getElem?_append_left m2] at hk
      exact m1 hk
    · exact h
  rw [lines_text] at hk ⊢
  obtain ⟨c1, c2, _⟩ := cr_at _ k hg hk
  have hlen : k + 1 < (joinL (seedLs mi ti 0 tk 0 cl) ++ [13, 10]).length := by simp; omega
  refine ⟨hpos, hlen, broken_cr _ k hg hl hk, ?_⟩
  rw [List.set_eq_take_append_cons_drop, if_pos (by rw [List.length_append]; omega), List.take_append_of_le_length (by omega)]
  exact broken_lf _ k hg hl hk _
theorem lines_some (mi ti tk : Nat) (cl : Bool) : ∃ k, k < (seedT mi ti 0 tk 0 cl).length ∧ (seedT mi ti 0 tk 0 cl)[k]? = some 13 := by
  rw [lines_text]
  exact ⟨(joinL (seedLs mi ti 0 tk 0 cl)).length, by simp, by simp⟩

set_option maxRecDepth 10000 in
set_option maxHeartbeats 8000000 in
theorem lines_core (m t b k c wr n : Int) (cl : Bool) (m8 mi ti tk nk : Nat) (hm8 : m % 256 = (m8 : Int)) (hmi : m8 % 6 = mi) (hti : t % 16 = (ti : Int)) (htk : k % 4 = (tk : Int)) (hnk : n % 65536 = (nk : Int)) (w : World) (hmx : MX w) (htb : TB w) :
    Calls Tryz.prog 5 #[.agg #[.int .i64 m, .int .i64 t, .int .i64 b, .int .i64 k, .int .i64 c, .bool cl, .int .i64 wr], .int .i64 n] w fun e w' => e = .returned (.bool true) ∧ Below w.heap.size w w' := by
  have b1 : mi < 6 := by omega
  have b2 : ti < 16 := by omega
  have b4 : tk < 4 := by omega
  have b5 : nk < 65536 := by omega
  have a1 := i64_and16 n
  rw [hnk] at a1
  obtain ⟨i0, hi, hz0, hz1, hz2⟩ := info_parts Tryz.info3
  have HI := Lib.hid hi; have HZ0 := Lib.hid hz0; have HZ1 := Lib.hid hz1; have HZ2 := Lib.hid hz2
  clear hi hz0 hz1 hz2
  have HX := Lib.hid fun w h => text_any m t 0 k 0 0 cl m8 mi ti 0 tk 0 0 hm8 hmi hti rfl htk rfl rfl (.inl rfl) w h
  have hsl : (mkT (seedT mi ti 0 tk 0 cl)).size ≤ 3000 := by rw [mkT_size]; exact seed_len mi ti 0 tk 0 cl b1 b2 (by decide) b4 (by decide)
  have hsp : 0 < (mkT (seedT mi ti 0 tk 0 cl)).size := by rw [mkT_size]; exact seed_pos mi ti 0 tk 0 cl
  have HBR : Hid (∀ k, (mkT (seedT mi ti 0 tk 0 cl)).data.toList[k]? = some 13 → 0 < k ∧ k + 1 < (mkT (seedT mi ti 0 tk 0 cl)).size ∧ runC newC ((mkT (seedT mi ti 0 tk 0 cl)).data.toList.take k ++ (mkT (seedT mi ti 0 tk 0 cl)).data.toList.drop (k + 1)) = (stopC 400, []) ∧ runC newC (((mkT (seedT mi ti 0 tk 0 cl)).data.toList ++ [120]).set (k + 1) 120) = (stopC 400, [])) := fun k hk => by
    rw [mkT_data] at hk ⊢
    rw [mkT_size]
    exact lines_broken mi ti tk cl b1 b2 b4 k hk
  have HCR : Hid (0 < (crs (mkT (seedT mi ti 0 tk 0 cl)).data.toList (mkT (seedT mi ti 0 tk 0 cl)).size).length) := by
    obtain ⟨k, k1, k2⟩ := lines_some mi ti tk cl
    exact crs_some (k := k) (by rw [mkT_size]; exact k1) (by rw [mkT_data]; exact k2)
  generalize mkT (seedT mi ti 0 tk 0 cl) = s1 at *
  have hb0 : Below w.heap.size w (w.alloc (.cells #[.int .i64 m, .int .i64 t, .int .i64 b, .int .i64 k, .int .i64 c, .bool cl, .int .i64 wr] 25)) := (Below.refl _ _).alloc (Nat.le_refl _) _
  have hq0 := heap_alloc_new w (.cells #[.int .i64 m, .int .i64 t, .int .i64 b, .int .i64 k, .int .i64 c, .bool cl, .int .i64 wr] 25)
  have HF := Lib.hid (fit_any _ (hmx.below hb0))
  have HB0 := Lib.hid hb0; have HQ0 := Lib.hid hq0; have HM := Lib.hid hmx; have HTB := Lib.hid htb
  clear hm8 hmi hti htk hnk hb0 hq0 hmx htb b1 b2 b4
  go_enter Tryz.func5, Tryz.ntmps5
  go_wp2_with fail
  refine HF.out.mono ?_
  rintro e w1 ⟨rfl, hb1⟩
  have hq1 := (hb1.block _ (blk_lt HQ0.out)).trans HQ0.out
  have hbw1 := bt HB0.out hb1
  have d0 := blk_cell hq1 0; have d1 := blk_cell hq1 1; have d2 := blk_cell hq1 2; have d3 := blk_cell hq1 3; have d4 := blk_cell hq1 4; have d5 := blk_cell hq1 5; have d6 := blk_cell hq1 6
  have f2 := blk_free hq1 2; have f4 := blk_free hq1 4; have f6 := blk_free hq1 6
  simp at d0 d1 d2 d3 d4 d5 d6
  have hbs : Below w.heap.size w (((w1.setCell ⟨w.heap.size, 6, none⟩ (.int .i64 0)).setCell ⟨w.heap.size, 4, none⟩ (.int .i64 0)).setCell ⟨w.heap.size, 2, none⟩ (.int .i64 0)) := ((hbw1.setCell (Nat.le_refl _) _).setCell (Nat.le_refl _) _).setCell (Nat.le_refl _) _
  have HBS := Lib.hid hbs
  clear hb1 hq1 hbw1 hbs HF HQ0 HB0
  go_wp2_with fail
  refine (HX.out _ (HTB.out.below HBS.out)).mono ?_
  rintro e w2 ⟨rfl, hb2⟩
  have HB2 := Lib.hid (bt HBS.out hb2)
  clear hb2 HX HBS d0 d1 d2 d3 d4 d5 d6 f2 f4 f6
  have hcv := run_bytes_of_string (P := Tryz.prog) w2 9 46 5 s1 Tryz.underlying9 Tryz.underlying46 Tryz.underlying5
  have hcg := grownCap_ge w2 s1.size 0 5
  have hcx := grownCap_le_maxLen w2 s1.size 0 5 (by unfold maxLen; omega)
  generalize grownCap w2 s1.size 0 5 = cap at *
  have hVb : Below w2.heap.size w2 (w2.drew.alloc (.cells (bytesRow s1 cap) 5 ((bytesRow s1 cap).size, (bytesRow s1 cap).size + 1))) := ((Below.refl _ _).drew).alloc (Nat.le_refl _) _
  have hVn := World.news_of_block (heap_alloc_new w2.drew (.cells (bytesRow s1 cap) 5 ((bytesRow s1 cap).size, (bytesRow s1 cap).size + 1)))
  have HVC : Hid (∀ j (h : j < s1.size), (w2.drew.alloc (.cells (bytesRow s1 cap) 5 ((bytesRow s1 cap).size, (bytesRow s1 cap).size + 1))).cell? ⟨w2.heap.size, j, none⟩ = some (.int .u8 ((s1[j]).toNat : Int))) := fun j h => by
    have := hVn j (.int .u8 ((s1[j]).toNat : Int)) (by rw [Array.getElem?_toList]; exact bytesRow_at s1 cap j h)
    rw [add_zero_own] at this
    exact this
  have hVl : w2.heap.size < (w2.drew.alloc (.cells (bytesRow s1 cap) 5 ((bytesRow s1 cap).size, (bytesRow s1 cap).size + 1))).heap.size := by simp
  have HVB := Lib.hid (bt HB2.out hVb)
  unfold maxLen at hcx
  clear hVb hVn HB2
  generalize w2.drew.alloc (.cells (bytesRow s1 cap) 5 ((bytesRow s1 cap).size, (bytesRow s1 cap).size + 1)) = V at *
  have h4V : MX V := HM.out.below HVB.out
  have HMV := Lib.hid h4V
  clear h4V HM HTB
  go_wp2_with fail
  clear hcv
  generalize w2.heap.size = G at *
  go_loopw [6, 26] (fun v6 v26 wr => ∃ (i : Nat), i ≤ s1.size ∧ v26 = .int .i64 i ∧ wr.ownsRow V.heap.size 3 1 v6 (crs s1.data.toList i).length (natCells (crs s1.data.toList i)) ∧ Below V.heap.size V wr) (fun _ v26 _ => s1.size - (intOf v26).toNat)
  case atStart => exact ⟨0, Nat.zero_le _, rfl, World.ownsRow_nil _ _ _ _, Below.refl _ _⟩
  case round =>
    obtain ⟨i, hi, rfl, hown, hbw⟩ := hrel
    have HBW := Lib.hid hbw
    by_cases hlt : i < s1.size
    · have ci : wr.cell? ⟨G, i, none⟩ = some (.int .u8 ((s1[i]).toNat : Int)) := (HBW.out.cell (p := ⟨G, i, none⟩) hVl).trans (HVC.out i hlt)
      have hget : s1.data.toList[i]? = some s1[i] := by
        rw [List.getElem?_eq_getElem (by simpa using hlt)]
        rfl
      have hsn := crs_snoc s1.data.toList i
      rw [hget] at hsn
      have hle := crs_le s1.data.toList i
      by_cases h13 : s1[i] = 13
      · rw [h13] at ci hsn
        rw [if_pos rfl] at hsn
        have ci : wr.cell? ⟨G, i, none⟩ = some (.int .u8 13) := ci
        obtain ⟨Av, cv, rfl, _⟩ := Rd.own hown
        have HOW := Lib.hid (hown.alloc (.cells #[.int .i64 (i : Int)] 3))
        have HOL := Lib.hid hown.lt
        have HSN := Lib.hid hsn
        clear hown hbw hsn hget h13
        generalize crs s1.data.toList i = E at *
        go_wp2_with (first | (at_builtin; refine wpList_append_lies _ rfl _ _ 47 rfl V.heap.size 3 i0 (.int .i64 0) 1 8 Tryz.underlying47 HI.out HZ0.out HZ1.out HZ2.out rfl (by decide) _ _ _ rfl HOW.out ⟨wr.heap.size, 0, none⟩ 1 1 [.int .i64 (i : Int)] rfl rfl ?c1 ?c2 (by decide) ?c3 ?c4 ?c5 (wr.heap.size + 1) ?c6 ?_))
        try (case c1 => exact World.news_of_block (heap_alloc_new wr _))
        case c2 => first | rfl | (intro u hu; simp at hu; subst hu; rfl)
        case c3 => unfold maxLen; omega
        case c4 => omega
        try (case c5 => have := HBW.out.size; simp; omega)
        try (case c6 => simp)
        intro g2 cap2 w5 hown5 hgr5 hat5 hlt5
        have HB5 : Hid (Below V.heap.size V w5) := (HBW.out.alloc HBW.out.size _).grown hgr5 (by have := HBW.out.size; simp; omega) (fun k hk => (HOL.out k hk).1)
        have HO5 : Hid (w5.ownsRow V.heap.size 3 1 (.slice (some ⟨g2, 0, none⟩) (E.length + 1) cap2) (crs s1.data.toList (i + 1)).length (natCells (crs s1.data.toList (i + 1)))) := by
          show World.ownsRow _ _ _ _ _ _ _
          rw [HSN.out, List.length_append]
          unfold natCells
          rw [List.map_append]
          exact hown5
        clear hown5 hgr5 hat5 hlt5 HOW HOL
        go_wp2_with fail
        go_roundw
        case rel => exact ⟨i + 1, by omega, by go_num, HO5.out, HB5.out⟩
        case measure => simp [intOf]; omega
      · have hx : (((s1[i]).toNat : Int) == 13) = false := by
          rw [beq_eq_false_iff_ne]
          intro e
          exact h13 (UInt8.toNat_inj.1 (by have : (13 : UInt8).toNat = 13 := rfl; omega))
        rw [if_neg (by simpa using h13), List.append_nil] at hsn
        have HO5 := Lib.hid hown
        rw [← hsn] at HO5
        clear hown hbw hsn hget h13
        generalize (s1[i]).toNat = x at *
        go_wp2_with fail
        go_roundw
        case rel => exact ⟨i + 1, by omega, by go_num, HO5.out, HBW.out⟩
        case measure => simp [intOf]; omega
    · obtain rfl : i = s1.size := by omega
      obtain ⟨kj, hkj⟩ : ∃ kj : Nat, kj = nk % (crs s1.data.toList s1.size).length := ⟨_, rfl⟩
      have hjl : kj < (crs s1.data.toList s1.size).length := by rw [hkj]; exact Nat.mod_lt _ HCR.out
      have hrem : (nk : Int) % ((crs s1.data.toList s1.size).length : Int) = (kj : Int) := by rw [hkj]; simp
      have hel := crs_le s1.data.toList s1.size
      have hcr := HCR.out
      have hmem : (crs s1.data.toList s1.size)[kj] ∈ crs s1.data.toList s1.size := List.getElem_mem hjl
      obtain ⟨q1, q2, q3, q4⟩ := HBR.out _ (crs_mem hmem)
      rcases hown.2 with ⟨_, h0⟩ | ⟨ge, ce, cure, hve, _, hhe, hce, _⟩
      · omega
      · subst hve
        have ck := hown.cells (g := ge) rfl kj (.int .i64 (((crs s1.data.toList s1.size)[kj] : Nat) : Int)) (by unfold natCells; simp [hjl])
        rw [add_zero_own] at ck
        have HQ3 := Lib.hid q3; have HQ4 := Lib.hid q4
        generalize (crs s1.data.toList s1.size)[kj] = kk at *
        generalize (crs s1.data.toList s1.size).length = el at *
        clear hkj hmem hbw hown hhe HCR HBR q3 q4
        obtain ⟨i5, hi5, hy0, hy1, hy2⟩ := info_parts Tryz.info5w
        have HI5 := Lib.hid hi5; have HY0 := Lib.hid hy0; have HY1 := Lib.hid hy1; have HY2 := Lib.hid hy2
        clear hi5 hy0 hy1 hy2
        have hk1 : kk ≤ cap := by omega
        have hk2 : ¬ (cap = kk + 1) := by omega
        have hk3 : (kk : Int) + 1 ≤ (s1.size : Int) := by omega
        have hk4 : (0 : Int) ≤ (kk : Int) + 1 := by omega
        have hk5 : kk + 1 ≤ s1.size := by omega
        have HT1 : Hid (∀ W, Below V.heap.size V W → ∀ j u, (byteCells (s1.data.toList.take kk))[j]? = some u → W.cell? ((⟨G, 0, none⟩ : Addr).add j) = some u) := fun W hW j u hu => by
          have hj : j < kk := by
            have := (List.getElem?_eq_some_iff.1 hu).1
            simp [byteCells] at this
            omega
          have hjs : j < s1.size := by omega
          rw [add_zero_own, (hW.cell (p := ⟨G, j, none⟩) hVl), HVC.out j hjs]
          rw [← hu]
          simp [byteCells, hj, hjs]
          rfl
        have HT2 : Hid (∀ W, Below V.heap.size V W → ∀ j u, (byteCells (s1.data.toList.drop (kk + 1)))[j]? = some u → W.cell? ((⟨G, kk + 1, none⟩ : Addr).add j) = some u) := fun W hW j u hu => by
          have hj : kk + 1 + j < s1.size := by
            have := (List.getElem?_eq_some_iff.1 hu).1
            simp [byteCells] at this
            omega
          have e : (⟨G, kk + 1, none⟩ : Addr).add j = ⟨G, kk + 1 + j, none⟩ := by
            unfold Addr.add
            split
            · rename_i h; rw [h]
            · rfl
          rw [e, (hW.cell (p := ⟨G, kk + 1 + j, none⟩) hVl), HVC.out _ hj]
          rw [← hu]
          simp [byteCells, hj]
          rfl
        have HO1 : Hid (∀ l : List UInt8, ∀ u ∈ byteCells l, u.oneCell' = true) := fun l u hu => by
          unfold byteCells at hu
          obtain ⟨x, _, rfl⟩ := List.mem_map.1 hu
          rfl
        have HL1 : Hid ((byteCells (s1.data.toList.take kk)).length = kk * 1) := by
          show _ = _
          simp [byteCells]
          omega
        have HL2 : Hid ((byteCells (s1.data.toList.drop (kk + 1))).length = (s1.size - (kk + 1)) * 1) := by
          show _ = _
          simp [byteCells]
        have HN1 : Hid (0 + kk ≤ maxLen ∧ (0 + kk) * 1 ≤ 140737488355328) := by unfold maxLen; exact ⟨by omega, by omega⟩
        have HN2 : Hid (kk + (s1.size - (kk + 1)) ≤ maxLen ∧ (kk + (s1.size - (kk + 1))) * 1 ≤ 140737488355328 ∧ 0 < s1.size - (kk + 1)) := by unfold maxLen; exact ⟨by omega, by omega, by omega⟩
        have hbd : Below V.heap.size V wr.drew := HBW.out.drew
        have HBD := Lib.hid hbd
        have HBS := Lib.hid HBW.out.size
        clear hbd
        go_wp2_with fail
        have hwr1 : IntKind.i64.wrap ((kk : Int) + 1) = (kk : Int) + 1 := by rw [IntKind.wrap_i64]; omega
        have hwr2 : ((kk : Int) + 1).toNat = kk + 1 := by omega
        go_region_law ((first
          | (refine step_append_lies _ (by rfl) (.tmp 52) (.tmp 56) 46 (by rfl) wr.heap.size 5 i5 (.int .u8 0) 1 1 Tryz.underlying46 HI5.out HY0.out HY1.out HY2.out rfl (by decide) (.slice (some ⟨g5, 0, none⟩) kk c5) kk (byteCells (s1.data.toList.take kk)) (by rfl) HW5.out ⟨G, kk + 1, none⟩ (s1.size - (kk + 1)) (cap - (kk + 1)) (byteCells (s1.data.toList.drop (kk + 1))) (by rfl) HL2.out (HT2.out _ HB5.out) (HO1.out _) HN2.out.2.2 HN2.out.1 HN2.out.2.1 HZ5.out _ rfl ?_
             intro g6 c6 w6 hown6 hgr6 hat6 hlt6)
          | (refine step_append_lies _ (by rfl) (.const (.slice none 0 0)) (.tmp 51) 46 (by rfl) wr.heap.size 5 i5 (.int .u8 0) 1 1 Tryz.underlying46 HI5.out HY0.out HY1.out HY2.out rfl (by decide) (.slice none 0 0) 0 [] (by rfl) (World.ownsRow_nil _ _ _ _) ⟨G, 0, none⟩ kk cap (byteCells (s1.data.toList.take kk)) (by rfl) HL1.out (HT1.out _ HBD.out) (HO1.out _) q1 HN1.out.1 HN1.out.2 (Nat.le_refl _) wr.heap.size rfl ?_
             intro g5 c5 w5 hown5 hgr5 hat5 hlt5
             simp only [Nat.zero_add, List.nil_append] at hown5 ⊢
             have HW5 := Lib.hid hown5
             have HZ5 : Hid (wr.heap.size ≤ w5.heap.size) := hgr5.size
             have HB5 : Hid (Below V.heap.size V w5) := HBD.out.grown hgr5 HBS.out (fun k hk => (by cases hk))
             clear hown5 hgr5 hat5 hlt5)))
        all_goals
          have HRA : Hid (w6.ownsRow 0 5 1 (.slice (some ⟨g6, 0, none⟩) (kk + (s1.size - (kk + 1))) c6) (kk + (s1.size - (kk + 1))) (byteCells (s1.data.toList.take kk ++ s1.data.toList.drop (kk + 1)))) := by
            show World.ownsRow _ _ _ _ _ _ _
            unfold byteCells at hown6 ⊢
            rw [List.map_append]
            exact own_zero hown6
          have HB6 : Hid (Below V.heap.size V w6) := HB5.out.grown hgr6 HB5.out.size (fun k hk => Nat.le_trans HBS.out (HW5.out.lt k hk).1)
          have HL3 : Hid ((byteCells s1.data.toList).length = s1.size * 1) := by
            show _ = _
            simp [byteCells]
          have HT3 : Hid (∀ j u, (byteCells s1.data.toList)[j]? = some u → w6.cell? ((⟨G, 0, none⟩ : Addr).add j) = some u) := fun j u hu => by
            have hjs : j < s1.size := by
              have := (List.getElem?_eq_some_iff.1 hu).1
              simpa [byteCells] using this
            rw [add_zero_own, (HB6.out.cell (p := ⟨G, j, none⟩) hVl), HVC.out j hjs]
            rw [← hu]
            simp [byteCells, hjs]
            rfl
          clear hown6 hgr6 hat6 hlt6 HW5 HZ5 HB5 HT1 HT2 HBD HL1 HL2 HN1 HN2
          go_wp2_with (first | (at_builtin; refine wpList_append_lies _ rfl (.const (.slice none 0 0)) (.tmp 58) 46 rfl w6.heap.size 5 i5 (.int .u8 0) 1 1 Tryz.underlying46 HI5.out HY0.out HY1.out HY2.out rfl (by decide) (.slice none 0 0) 0 [] rfl (World.ownsRow_nil _ _ _ _) ⟨G, 0, none⟩ s1.size cap (byteCells s1.data.toList) rfl HL3.out HT3.out (HO1.out _) hsp (by unfold maxLen; omega) (by omega) (Nat.le_refl _) w6.heap.size rfl ?_))
          intro g7 c7 w7 hown7 hgr7 hat7 hlt7
          try simp only [Nat.zero_add, List.nil_append] at hown7
          try simp only [Nat.zero_add]
          have hb7 : Below w6.heap.size w6 w7 := (Below.refl _ _).grown hgr7 (Nat.le_refl _) (fun k hk => (by cases hk))
          have HB7 := Lib.hid hb7
          have HW7 := Lib.hid (hown7.alloc (.cells #[.int .u8 120] 5))
          have HG7 := Lib.hid fun k hk => (hown7.lt k hk).1
          clear hown7 hgr7 hat7 hlt7 hb7 HT3 HL3
          go_wp2_with (first | (at_builtin; refine wpList_append_lies _ rfl (.tmp 59) (.tmp 60) 46 rfl w6.heap.size 5 i5 (.int .u8 0) 1 1 Tryz.underlying46 HI5.out HY0.out HY1.out HY2.out rfl (by decide) _ _ _ rfl HW7.out ⟨w7.heap.size, 0, none⟩ 1 1 [.int .u8 120] rfl rfl ?c1 ?c2 (by decide) ?c3 ?c4 ?c5 (w7.heap.size + 1) ?c6 ?_))
          try (case c1 => exact World.news_of_block (heap_alloc_new w7 _))
          case c2 => first | rfl | (intro u hu; simp at hu; subst hu; rfl)
          case c3 => unfold maxLen; omega
          case c4 => omega
          try (case c5 => have := HB7.out.size; simp; omega)
          try (case c6 => simp)
          intro g8 c8 w8 hown8 hgr8 hat8 hlt8
          have hb8 : Below w6.heap.size w6 w8 := (HB7.out.alloc HB7.out.size _).grown hgr8 (by have := HB7.out.size; simp; omega) (fun k hk => HG7.out k hk)
          have hx8 : (byteCells s1.data.toList ++ [Value.int .u8 120])[kk + 1]? = some (.int .u8 ((s1[kk + 1]).toNat : Int)) := by
            rw [List.getElem?_append_left (by simp [byteCells]; omega)]
            simp [byteCells, q2]
            rfl
          have k8 := hown8.cellAt (kk + 1) (by omega)
          rw [hx8] at k8
          have f8 := hown8.frozenAt (kk + 1)
          have hst8 := (hown8.stored (kk + 1) (.int .u8 120)).1
          have hlo8 : w6.heap.size ≤ g8 := (hown8.lt g8 rfl).1
          have HRB : Hid ((w8.setCell ⟨g8, kk + 1, none⟩ (.int .u8 120)).ownsRow 0 5 1 (.slice (some ⟨g8, 0, none⟩) (s1.size + 1) c8) (s1.size + 1) (byteCells ((s1.data.toList ++ [120]).set (kk + 1) 120))) := by
            have e : (byteCells s1.data.toList ++ [Value.int .u8 120]).set (kk + 1) (.int .u8 120) = byteCells ((s1.data.toList ++ [120]).set (kk + 1) 120) := by
              unfold byteCells
              rw [List.map_set, List.map_append]
              rfl
            rw [e] at hst8
            exact own_zero hst8
          have hb9 : Below w6.heap.size w6 (w8.setCell ⟨g8, kk + 1, none⟩ (.int .u8 120)) := hb8.setCell hlo8 _
          have HRA2 := Lib.hid (own_below HRA.out hb9)
          have HB9 : Hid (Below V.heap.size V (w8.setCell ⟨g8, kk + 1, none⟩ (.int .u8 120))) := HB6.out.trans (hb9.mono HB6.out.size)
          clear hown8 hgr8 hat8 hlt8 hb8 hx8 hst8 hb9 HW7 HG7 HRA HB6 HB7 hlo8
          generalize (s1[kk + 1]).toNat = x8 at *
          have hA1 := own_string HRA2.out
          have HA1 := Lib.hid fun w h => call_all (mkT (s1.data.toList.take kk ++ s1.data.toList.drop (kk + 1))) w h (by rw [mkT_size, List.length_append, List.length_take, List.length_drop, data_len]; omega) (stopC 400, []) (Lib.hid (by rw [mkT_data]; exact HQ3.out))
          have HA2 := Lib.hid fun w h => call_all (mkT ((s1.data.toList ++ [120]).set (kk + 1) 120)) w h (by rw [mkT_size, List.length_set, List.length_append, data_len]; simp; omega) (stopC 400, []) (Lib.hid (by rw [mkT_data]; exact HQ4.out))
          have eA : (⟨(s1.data.toList.take kk ++ s1.data.toList.drop (kk + 1)).toArray⟩ : ByteArray) = mkT (s1.data.toList.take kk ++ s1.data.toList.drop (kk + 1)) := rfl
          rw [eA] at hA1
          clear eA HQ3 HQ4 HRA2
          generalize mkT (s1.data.toList.take kk ++ s1.data.toList.drop (kk + 1)) = tA at *
          go_wp2_with fail
          refine (HA1.out _ (HMV.out.below HB9.out)).mono ?_
          rintro e w10 ⟨v10, xs10, rfl, _, _, hb10⟩
          have hA2 := own_string (own_below HRB.out hb10)
          have eB : (⟨((s1.data.toList ++ [120]).set (kk + 1) 120).toArray⟩ : ByteArray) = mkT ((s1.data.toList ++ [120]).set (kk + 1) 120) := rfl
          rw [eB] at hA2
          have HB10 := Lib.hid (bt HB9.out hb10)
          clear eB hb10 HRB HA1 hA1 k8 f8
          generalize mkT ((s1.data.toList ++ [120]).set (kk + 1) 120) = tB at *
          go_wp2_with fail
          refine (HA2.out _ (HMV.out.below HB10.out)).mono ?_
          rintro e w11 ⟨v11, xs11, rfl, _, _, hb11⟩
          have HB11 := Lib.hid (bt HB10.out hb11)
          clear hb11 HA2 hA2
          simp only [stopC]
          go_wp2_with fail
          go_ret
          exact ⟨ret_bool (by simp), bt HVB.out HB11.out⟩

theorem lines_walk (m t b k c wr n : Int) (cl : Bool) (w : World) (hmx : MX w) (htb : TB w) :
    Calls Tryz.prog 5 #[.agg #[.int .i64 m, .int .i64 t, .int .i64 b, .int .i64 k, .int .i64 c, .bool cl, .int .i64 wr], .int .i64 n] w fun e w' => e = .returned (.bool true) ∧ Below w.heap.size w w' :=
  lines_core m t b k c wr n cl (m % 256).toNat ((m % 256).toNat % 6) (t % 16).toNat (k % 4).toNat (n % 65536).toNat (by omega) rfl (by omega) (by omega) (by omega) w hmx htb
end Go.Proofs.YtkjlbddaglcooaaGreatDoor
