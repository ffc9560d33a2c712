/- The contracts of the laws' same (at one response), of answer.Plain and of the laws' fit. -/
import Derived.Test.YtkbigfjaaiobfaaDoorAnsDec
import Derived.BigQuiet
namespace Go.Proofs.YtkbigfjaaiobfaaDoor
open Go.RowKit Pl Go.Shelf

set_option maxRecDepth 100000 in
set_option maxHeartbeats 4000000 in
theorem same_any (r : Rsp) (A1 A2 : Option Addr) (c1 c2 : Nat) (w : World) (hn : r.fs.length ≤ 1000000000) (h1 : Rd w w.heap.size 2 A1 r.fs.length (fldCells r.fs)) (h2 : Rd w w.heap.size 2 A2 r.fs.length (fldCells r.fs)) :
    Calls Tryd.prog 13 #[.agg #[.int .i64 r.st, .slice A1 r.fs.length c1, .string r.body, .bool r.cl], .agg #[.int .i64 r.st, .slice A2 r.fs.length c2, .string r.body, .bool r.cl]] w fun e w' => e = .returned (.bool true) ∧ Below w.heap.size w w' := by
  obtain ⟨st, fs, body, cl⟩ := r
  simp only at hn h1 h2 ⊢
  have HB0 := Lib.hid (((Below.refl w.heap.size w).alloc (Nat.le_refl _) (.cells #[.int .i64 st, .slice A1 fs.length c1, .string body, .bool cl] 24)).alloc (by simp) (.cells #[.int .i64 st, .slice A2 fs.length c2, .string body, .bool cl] 24))
  have hk1 : ((w.alloc (.cells #[.int .i64 st, .slice A1 fs.length c1, .string body, .bool cl] 24)).alloc (.cells #[.int .i64 st, .slice A2 fs.length c2, .string body, .bool cl] 24)).heap[w.heap.size]? = some (.cells #[.int .i64 st, .slice A1 fs.length c1, .string body, .bool cl] 24 (0, 0)) :=
    (Below.heap_alloc _ _ _ (by simp)).trans (heap_alloc_new w _)
  have hk2 : ((w.alloc (.cells #[.int .i64 st, .slice A1 fs.length c1, .string body, .bool cl] 24)).alloc (.cells #[.int .i64 st, .slice A2 fs.length c2, .string body, .bool cl] 24)).heap[w.heap.size + 1]? = some (.cells #[.int .i64 st, .slice A2 fs.length c2, .string body, .bool cl] 24 (0, 0)) := by
    have := heap_alloc_new (w.alloc (.cells #[.int .i64 st, .slice A1 fs.length c1, .string body, .bool cl] 24)) (.cells #[.int .i64 st, .slice A2 fs.length c2, .string body, .bool cl] 24)
    simpa using this
  have HK1 := Lib.hid hk1; have HK2 := Lib.hid hk2
  have HR1 := Lib.hid h1; have HR2 := Lib.hid h2
  clear h1 h2 hk1 hk2
  have heq : (body.toList == body.toList) = true := by simp
  have hcl : (cl == cl) = true := by simp
  go_enter Tryd.func13, Tryd.ntmps13
  have p0 := blk_cell HK1.out 0; have p1 := blk_cell HK1.out 1; have p2 := blk_cell HK1.out 2; have p3 := blk_cell HK1.out 3
  have q0 := blk_cell HK2.out 0; have q1 := blk_cell HK2.out 1; have q2 := blk_cell HK2.out 2; have q3 := blk_cell HK2.out 3
  simp only [List.getElem?_toArray, List.getElem?_cons_zero, List.getElem?_cons_succ] at p0 p1 p2 p3 q0 q1 q2 q3
  go_wp2_with fail
  generalize (w.alloc (.cells #[.int .i64 st, .slice A1 fs.length c1, .string body, .bool cl] 24)).alloc (.cells #[.int .i64 st, .slice A2 fs.length c2, .string body, .bool cl] 24) = W0 at *
  go_loopw [37] (fun i wr => ∃ k q : Nat, k ≤ fs.length ∧ i = .int .i64 k ∧ wr = W0.drewN q) (fun i _ => fs.length - (intOf i).toNat)
  case atStart => exact ⟨0, 0, by omega, rfl, rfl⟩
  case round =>
    obtain ⟨k, q, hk, rfl, rfl⟩ := hrel
    by_cases hlt : k < fs.length
    · obtain ⟨a1, rfl, _, hc1⟩ := ((HR1.out.below HB0.out (Nat.le_refl _)).2 (by omega))
      obtain ⟨a2, rfl, _, hc2⟩ := ((HR2.out.below HB0.out (Nat.le_refl _)).2 (by omega))
      have x0 : W0.cell? (a1.add (k * 2)) = some (.string (fs[k]).1) := hc1 _ _ (fldCells_at fs k hlt).1
      have x1 : W0.cell? ⟨(a1.add (k * 2)).block, (a1.add (k * 2)).off + 1, none⟩ = some (.string (fs[k]).2) := by rw [add_next]; exact hc1 _ _ (fldCells_at fs k hlt).2
      have y0 : W0.cell? (a2.add (k * 2)) = some (.string (fs[k]).1) := hc2 _ _ (fldCells_at fs k hlt).1
      have y1 : W0.cell? ⟨(a2.add (k * 2)).block, (a2.add (k * 2)).off + 1, none⟩ = some (.string (fs[k]).2) := by rw [add_next]; exact hc2 _ _ (fldCells_at fs k hlt).2
      clear hc1 hc2
      generalize (fs[k]).1 = f1 at *
      generalize (fs[k]).2 = f2 at *
      have i0 : (0 : Int) ≤ (k : Int) := by omega
      have i1 : (k : Int) < (fs.length : Int) := by omega
      go_wp2_with fail
      go_quiet (fail)
      go_wp2_with fail
      go_roundw
      case rel => exact ⟨k + 1, q + nq, by omega, by go_num, rfl⟩
      case measure => simp [intOf]; omega
    · go_wp2_with fail
      go_ret
      exact ⟨rfl, HB0.out.trans ((drewN_below _ _).mono HB0.out.size)⟩

theorem plain_ret {W : World} {R : Nat} {a : Act} {X : Ending → World → Prop} {z0 z1 z2 z3 : Value} (h : W.heap[R]? = some (.cells #[z0, z1, z2, z3] 24 (0, 0))) (u0 u1 u2 u3 : Value) (ha : a.tmps.getD 4 undef = .pointer (some ⟨R, 0, none⟩)) (hd : a.defers = [])
    (hQ : X (.returned (.agg #[u0, u1, u2, u3])) (put4 W R u0 u1 u2 u3)) : bodyPost Tryd.prog Tryd.f15 X .ret a (put4 W R u0 u1 u2 u3) := by
  have hb := put4_blk h u0 u1 u2 u3
  generalize put4 W R u0 u1 u2 u3 = V at *
  have c0 := blk_cell hb 0
  have c1 := blk_cell hb 1
  have c2 := blk_cell hb 2
  have c3 := blk_cell hb 3
  simp at c0 c1 c2 c3
  simp at ha
  exact bodyPost_ret (v := .agg #[u0, u1, u2, u3]) (by simp [results, Tryd.results15, go_sem, ha, c0, c1, c2, c3]) hd hQ

def plainR (n : Int) (cl : Bool) : Rsp := ⟨n, [], mkB (wordL n ++ [10]), cl⟩
set_option maxHeartbeats 2000000 in
theorem plain_any (n : Int) (cl : Bool) (w : World) : Calls Tryd.prog 15 #[.int .i64 n, .bool cl] w fun e w' => e = .returned (.agg #[.int .i64 n, .slice none 0 0, .string (mkB (wordL n ++ [10])), .bool cl]) ∧ Below w.heap.size w w' := by
  have HB0 := Lib.hid ((Below.refl w.heap.size w).alloc (Nat.le_refl _) (.cells #[.int .i64 0, .slice none 0 0, .string ⟨#[]⟩, .bool false] 24))
  have hk := heap_alloc_new w (.cells #[.int .i64 0, .slice none 0 0, .string ⟨#[]⟩, .bool false] 24)
  have c0 := blk_cell hk 0; have c1 := blk_cell hk 1; have c2 := blk_cell hk 2; have c3 := blk_cell hk 3
  have f0 := blk_free hk 0; have f1 := blk_free hk 1; have f2 := blk_free hk 2; have f3 := blk_free hk 3
  simp only [List.getElem?_toArray, List.getElem?_cons_zero, List.getElem?_cons_succ] at c0 c1 c2 c3
  have HK := Lib.hid hk
  clear hk
  have HW := Lib.hid (word_any n)
  have hwl : (mkB (wordL n)).size ≤ 31 := by rw [mkB_size]; exact word_len n
  have k1 := add_str (mkB (wordL n)) ⟨#[10]⟩ (by have : (⟨#[10]⟩ : ByteArray).size = 1 := rfl; omega)
  have he : mkB (wordL n) ++ ⟨#[10]⟩ = mkB (wordL n ++ [10]) := bytes_ext (by rw [app_data, mkB_data, mkB_data])
  rw [he] at k1
  clear he hwl
  generalize mkB (wordL n ++ [10]) = X at *
  generalize mkB (wordL n) = Y at *
  go_enter Tryd.func15, Tryd.ntmps15
  go_wp2_with fail
  generalize w.alloc (.cells #[.int .i64 0, .slice none 0 0, .string ⟨#[]⟩, .bool false] 24) = w0 at *
  refine (HW.out w0).mono ?_
  rintro e w1 ⟨rfl, rfl⟩
  go_wp2_with fail
  refine plain_ret (W := w0) HK.out (.int .i64 n) (.slice none 0 0) (.string X) (.bool cl) rfl rfl ?_
  exact ⟨rfl, put4_below HB0.out (Nat.le_refl _) _ _ _ _⟩

theorem rd_nil (w : World) (B : Nat) : Rd w B 2 none 0 (fldCells []) := ⟨rfl, fun h => absurd rfl h⟩
theorem dig2 : Lib.itoa 10 = [49, 48] := by
  unfold Lib.itoa; rw [if_neg (by decide)]
  show Lib.decDigits 10 = _
  rw [Lib.decDigits_two (by decide) (by decide)]; rfl
theorem dig3 : Lib.itoa 404 = [52, 48, 52] := by
  unfold Lib.itoa; rw [if_neg (by decide)]
  show Lib.decDigits 404 = _
  rw [Lib.decDigits, dif_neg (by decide), Lib.decDigits_two (by decide) (by decide)]; rfl
def fitB : ByteArray := ⟨#[72, 84, 84, 80, 47, 49, 46, 49, 32, 52, 48, 52, 32, 78, 111, 116, 32, 70, 111, 117, 110, 100, 13, 10, 99, 111, 110, 116, 101, 110, 116, 45, 108, 101, 110, 103, 116, 104, 58, 32, 49, 48, 13, 10, 13, 10, 78, 111, 116, 32, 70, 111, 117, 110, 100, 10]⟩
theorem fit_enc : mkB (encL (plainR 404 false)) = fitB := by
  apply bytes_ext
  have hs : ((mkB (wordL 404 ++ [10])).size : Int) = 10 := by rw [mkB_size]; rfl
  rw [mkB_data]
  simp only [encL, plainR, tailL, firstL, hs, dig2, dig3, mkB_data]
  rfl

set_option maxHeartbeats 2000000 in
theorem fit_any (w : World) (hg : GB w) : Calls Tryd.prog 9 #[] w fun e w' => e = .returned (.bool true) ∧ Below w.heap.size w w' := by
  have HP := Lib.hid (plain_any 404 false w)
  have HE := Lib.hid (fun (w : World) (hg : GB w) => enc_any (plainR 404 false) none 0 w (by decide) (by decide) (rd_nil w _) (by rw [← mkB_size, fit_enc]; decide) hg)
  rw [fit_enc] at HE
  change Hid (∀ w, GB w → Calls Tryd.prog 11 #[.agg #[.int .i64 404, .slice none 0 0, .string (mkB (wordL 404 ++ [10])), .bool false]] w _) at HE
  generalize mkB (wordL 404 ++ [10]) = X at *
  have HT := Lib.hid (fun w => tok_any ⟨#[97]⟩ w)
  have ht : tokB (⟨#[97]⟩ : ByteArray).data.toList = true := by decide
  rw [ht] at HT
  clear ht
  have heq : (fitB.toList == [72, 84, 84, 80, 47, 49, 46, 49, 32, 52, 48, 52, 32, 78, 111, 116, 32, 70, 111, 117, 110, 100, 13, 10, 99, 111, 110, 116, 101, 110, 116, 45, 108, 101, 110, 103, 116, 104, 58, 32, 49, 48, 13, 10, 13, 10, 78, 111, 116, 32, 70, 111, 117, 110, 100, 10]) = true := by rw [eq_list]; rfl
  generalize fitB = F at *
  go_enter Tryd.func9, Tryd.ntmps9
  go_wp2_with fail
  refine HP.out.mono ?_
  rintro e w1 ⟨rfl, hb1⟩
  go_wp2_with fail
  refine (HE.out w1 (hg.on hb1)).mono ?_
  rintro e w2 ⟨rfl, hb2⟩
  go_wp2_with fail
  refine (HT.out w2).mono ?_
  rintro e w3 ⟨rfl, hb3⟩
  go_wp2_with fail
  go_ret
  exact ⟨rfl, bt (bt hb1 hb2) hb3⟩

end Go.Proofs.YtkbigfjaaiobfaaDoor
