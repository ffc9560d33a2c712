/- The law AnswerWords, walked. -/
import Derived.Test.YtkbigfjaaiobfaaDoorAnsSame
import Derived.Carry
import Derived.MapKept
namespace Go.Proofs.YtkbigfjaaiobfaaDoor
open Go.RowKit Pl Go.Shelf

/-- One more key in a map. -/
theorem ins_any (W : World) (r : Nat) (es : Array MapEntry) (clock : Nat) (key : Int) (val : Value) (hb : W.heap[r]? = some (.map es clock)) (hf : Instr.findNow (.int .i64) (.int .i64 key) es.toList 0 = some none) :
    ∃ W', (Instr.mapUpdate 37 (.map (some r)) (.int .i64 key) val).run Tryd.prog W = .ok () W' ∧ W'.heap[r]? = some (.map (es.push ⟨.int .i64 key, val, clock⟩) (clock + 1)) ∧ ∀ B, B ≤ r → Below B W W' := by
  refine ⟨{ W with heap := W.heap.setIfInBounds r (.map (es.push ⟨.int .i64 key, val, clock⟩) (clock + 1)) }, ?_, (MapKept.heap_set hb).1, fun B hB => ⟨rfl, rfl, rfl, by simp, fun j hj => (MapKept.heap_set hb).2 j (by omega)⟩⟩
  have hc : (Instr.checkKey false 10000 3 (.int .i64 key)).run Tryd.prog W = .ok () W := MapKept.run_checkKey (k := .int .i64 key) Tryd.underlying3 (by simp [MapKept.IsKey]) false 9999
  simp [Instr.mapUpdate, run_underlying Tryd.underlying37, MapKept.run_getObj_map hb, hc, MapKept.run_findKey Tryd.underlying3 hf, MapKept.run_setObj_map _ hb, Result.andThen]

def ent (k : Int) (s : ByteArray) (c : Nat) : MapEntry := ⟨.int .i64 k, .string s, c⟩
def wordsMap : Array MapEntry := #[ent 200 ⟨#[79, 75]⟩ 0, ent 201 ⟨#[67, 114, 101, 97, 116, 101, 100]⟩ 1, ent 400 ⟨#[66, 97, 100, 32, 82, 101, 113, 117, 101, 115, 116]⟩ 2, ent 401 ⟨#[85, 110, 97, 117, 116, 104, 111, 114, 105, 122, 101, 100]⟩ 3, ent 404 ⟨#[78, 111, 116, 32, 70, 111, 117, 110, 100]⟩ 4, ent 405 ⟨#[77, 101, 116, 104, 111, 100, 32, 78, 111, 116, 32, 65, 108, 108, 111, 119, 101, 100]⟩ 5, ent 409 ⟨#[67, 111, 110, 102, 108, 105, 99, 116]⟩ 6, ent 412 ⟨#[80, 114, 101, 99, 111, 110, 100, 105, 116, 105, 111, 110, 32, 70, 97, 105, 108, 101, 100]⟩ 7, ent 413 ⟨#[67, 111, 110, 116, 101, 110, 116, 32, 84, 111, 111, 32, 76, 97, 114, 103, 101]⟩ 8, ent 431 ⟨#[82, 101, 113, 117, 101, 115, 116, 32, 72, 101, 97, 100, 101, 114, 32, 70, 105, 101, 108, 100, 115, 32, 84, 111, 111, 32, 76, 97, 114, 103, 101]⟩ 9, ent 500 ⟨#[73, 110, 116, 101, 114, 110, 97, 108, 32, 83, 101, 114, 118, 101, 114, 32, 69, 114, 114, 111, 114]⟩ 10, ent 501 ⟨#[78, 111, 116, 32, 73, 109, 112, 108, 101, 109, 101, 110, 116, 101, 100]⟩ 11, ent 503 ⟨#[83, 101, 114, 118, 105, 99, 101, 32, 85, 110, 97, 118, 97, 105, 108, 97, 98, 108, 101]⟩ 12, ent 507 ⟨#[73, 110, 115, 117, 102, 102, 105, 99, 105, 101, 110, 116, 32, 83, 116, 111, 114, 97, 103, 101]⟩ 13]

/-- The map as the law lays it. -/
theorem made_any (W : World) (r : Nat) (hb : W.heap[r]? = some (.map #[] 0)) : ∃ W1 W2 W3 W4 W5 W6 W7 W8 W9 W10 W11 W12 W13 W14 : World, ((Instr.mapUpdate 37 (.map (some r)) (.int .i64 200) (.string ⟨#[79, 75]⟩)).run Tryd.prog W = .ok () W1 ∧ (Instr.mapUpdate 37 (.map (some r)) (.int .i64 201) (.string ⟨#[67, 114, 101, 97, 116, 101, 100]⟩)).run Tryd.prog W1 = .ok () W2 ∧ (Instr.mapUpdate 37 (.map (some r)) (.int .i64 400) (.string ⟨#[66, 97, 100, 32, 82, 101, 113, 117, 101, 115, 116]⟩)).run Tryd.prog W2 = .ok () W3 ∧ (Instr.mapUpdate 37 (.map (some r)) (.int .i64 401) (.string ⟨#[85, 110, 97, 117, 116, 104, 111, 114, 105, 122, 101, 100]⟩)).run Tryd.prog W3 = .ok () W4 ∧ (Instr.mapUpdate 37 (.map (some r)) (.int .i64 404) (.string ⟨#[78, 111, 116, 32, 70, 111, 117, 110, 100]⟩)).run Tryd.prog W4 = .ok () W5 ∧ (Instr.mapUpdate 37 (.map (some r)) (.int .i64 405) (.string ⟨#[77, 101, 116, 104, 111, 100, 32, 78, 111, 116, 32, 65, 108, 108, 111, 119, 101, 100]⟩)).run Tryd.prog W5 = .ok () W6 ∧ (Instr.mapUpdate 37 (.map (some r)) (.int .i64 409) (.string ⟨#[67, 111, 110, 102, 108, 105, 99, 116]⟩)).run Tryd.prog W6 = .ok () W7 ∧ (Instr.mapUpdate 37 (.map (some r)) (.int .i64 412) (.string ⟨#[80, 114, 101, 99, 111, 110, 100, 105, 116, 105, 111, 110, 32, 70, 97, 105, 108, 101, 100]⟩)).run Tryd.prog W7 = .ok () W8 ∧ (Instr.mapUpdate 37 (.map (some r)) (.int .i64 413) (.string ⟨#[67, 111, 110, 116, 101, 110, 116, 32, 84, 111, 111, 32, 76, 97, 114, 103, 101]⟩)).run Tryd.prog W8 = .ok () W9 ∧ (Instr.mapUpdate 37 (.map (some r)) (.int .i64 431) (.string ⟨#[82, 101, 113, 117, 101, 115, 116, 32, 72, 101, 97, 100, 101, 114, 32, 70, 105, 101, 108, 100, 115, 32, 84, 111, 111, 32, 76, 97, 114, 103, 101]⟩)).run Tryd.prog W9 = .ok () W10 ∧ (Instr.mapUpdate 37 (.map (some r)) (.int .i64 500) (.string ⟨#[73, 110, 116, 101, 114, 110, 97, 108, 32, 83, 101, 114, 118, 101, 114, 32, 69, 114, 114, 111, 114]⟩)).run Tryd.prog W10 = .ok () W11 ∧ (Instr.mapUpdate 37 (.map (some r)) (.int .i64 501) (.string ⟨#[78, 111, 116, 32, 73, 109, 112, 108, 101, 109, 101, 110, 116, 101, 100]⟩)).run Tryd.prog W11 = .ok () W12 ∧ (Instr.mapUpdate 37 (.map (some r)) (.int .i64 503) (.string ⟨#[83, 101, 114, 118, 105, 99, 101, 32, 85, 110, 97, 118, 97, 105, 108, 97, 98, 108, 101]⟩)).run Tryd.prog W12 = .ok () W13 ∧ (Instr.mapUpdate 37 (.map (some r)) (.int .i64 507) (.string ⟨#[73, 110, 115, 117, 102, 102, 105, 99, 105, 101, 110, 116, 32, 83, 116, 111, 114, 97, 103, 101]⟩)).run Tryd.prog W13 = .ok () W14) ∧ W14.heap[r]? = some (.map wordsMap 14) ∧ ∀ B, B ≤ r → Below B W W14 := by
  obtain ⟨W1, u1, g1, b1⟩ := ins_any W r _ 0 200 (.string ⟨#[79, 75]⟩) hb (by rfl)
  obtain ⟨W2, u2, g2, b2⟩ := ins_any W1 r _ 1 201 (.string ⟨#[67, 114, 101, 97, 116, 101, 100]⟩) g1 (by rfl)
  obtain ⟨W3, u3, g3, b3⟩ := ins_any W2 r _ 2 400 (.string ⟨#[66, 97, 100, 32, 82, 101, 113, 117, 101, 115, 116]⟩) g2 (by rfl)
  obtain ⟨W4, u4, g4, b4⟩ := ins_any W3 r _ 3 401 (.string ⟨#[85, 110, 97, 117, 116, 104, 111, 114, 105, 122, 101, 100]⟩) g3 (by rfl)
  obtain ⟨W5, u5, g5, b5⟩ := ins_any W4 r _ 4 404 (.string ⟨#[78, 111, 116, 32, 70, 111, 117, 110, 100]⟩) g4 (by rfl)
  obtain ⟨W6, u6, g6, b6⟩ := ins_any W5 r _ 5 405 (.string ⟨#[77, 101, 116, 104, 111, 100, 32, 78, 111, 116, 32, 65, 108, 108, 111, 119, 101, 100]⟩) g5 (by rfl)
  obtain ⟨W7, u7, g7, b7⟩ := ins_any W6 r _ 6 409 (.string ⟨#[67, 111, 110, 102, 108, 105, 99, 116]⟩) g6 (by rfl)
  obtain ⟨W8, u8, g8, b8⟩ := ins_any W7 r _ 7 412 (.string ⟨#[80, 114, 101, 99, 111, 110, 100, 105, 116, 105, 111, 110, 32, 70, 97, 105, 108, 101, 100]⟩) g7 (by rfl)
  obtain ⟨W9, u9, g9, b9⟩ := ins_any W8 r _ 8 413 (.string ⟨#[67, 111, 110, 116, 101, 110, 116, 32, 84, 111, 111, 32, 76, 97, 114, 103, 101]⟩) g8 (by rfl)
  obtain ⟨W10, u10, g10, b10⟩ := ins_any W9 r _ 9 431 (.string ⟨#[82, 101, 113, 117, 101, 115, 116, 32, 72, 101, 97, 100, 101, 114, 32, 70, 105, 101, 108, 100, 115, 32, 84, 111, 111, 32, 76, 97, 114, 103, 101]⟩) g9 (by rfl)
  obtain ⟨W11, u11, g11, b11⟩ := ins_any W10 r _ 10 500 (.string ⟨#[73, 110, 116, 101, 114, 110, 97, 108, 32, 83, 101, 114, 118, 101, 114, 32, 69, 114, 114, 111, 114]⟩) g10 (by rfl)
  obtain ⟨W12, u12, g12, b12⟩ := ins_any W11 r _ 11 501 (.string ⟨#[78, 111, 116, 32, 73, 109, 112, 108, 101, 109, 101, 110, 116, 101, 100]⟩) g11 (by rfl)
  obtain ⟨W13, u13, g13, b13⟩ := ins_any W12 r _ 12 503 (.string ⟨#[83, 101, 114, 118, 105, 99, 101, 32, 85, 110, 97, 118, 97, 105, 108, 97, 98, 108, 101]⟩) g12 (by rfl)
  obtain ⟨W14, u14, g14, b14⟩ := ins_any W13 r _ 13 507 (.string ⟨#[73, 110, 115, 117, 102, 102, 105, 99, 105, 101, 110, 116, 32, 83, 116, 111, 114, 97, 103, 101]⟩) g13 (by rfl)
  exact ⟨W1, W2, W3, W4, W5, W6, W7, W8, W9, W10, W11, W12, W13, W14, ⟨u1, u2, u3, u4, u5, u6, u7, u8, u9, u10, u11, u12, u13, u14⟩, g14, fun B hB => (((((((((((((b1 B hB).trans (b2 B hB)).trans (b3 B hB)).trans (b4 B hB)).trans (b5 B hB)).trans (b6 B hB)).trans (b7 B hB)).trans (b8 B hB)).trans (b9 B hB)).trans (b10 B hB)).trans (b11 B hB)).trans (b12 B hB)).trans (b13 B hB)).trans (b14 B hB)⟩

theorem look_any (W : World) (r : Nat) (n : Int) (v : Value) (ok : Bool) (hb : W.heap[r]? = some (.map wordsMap 14)) (hf : (ok = true ∧ ∃ i, Instr.findNow (.int .i64) (.int .i64 n) wordsMap.toList 0 = some (some (i, v))) ∨ (ok = false ∧ v = .string ⟨#[]⟩ ∧ Instr.findNow (.int .i64) (.int .i64 n) wordsMap.toList 0 = some none)) :
    (Instr.lookup 37 (.map (some r)) (.int .i64 n) true).run Tryd.prog W = .ok (.tuple #[v, .bool ok]) W := by
  have hc : ∀ b, (Instr.checkKey b 10000 3 (.int .i64 n)).run Tryd.prog W = .ok () W := fun b => MapKept.run_checkKey (k := .int .i64 n) Tryd.underlying3 (by simp [MapKept.IsKey]) b 9999
  rcases hf with ⟨rfl, i, hf⟩ | ⟨rfl, rfl, hf⟩
  · simp [Instr.lookup, run_underlying Tryd.underlying37, MapKept.run_getObj_map hb, hc, MapKept.run_findKey Tryd.underlying3 hf, Result.andThen]
  · simp [Instr.lookup, run_underlying Tryd.underlying37, MapKept.run_getObj_map hb, hc, MapKept.run_findKey Tryd.underlying3 hf, Result.andThen, Tryd.zeroValue9]

theorem find_step {n k : Int} {s : ByteArray} (c : Nat) (l : List MapEntry) (i : Nat) (h : n ≠ k) : Instr.findNow (.int .i64) (.int .i64 n) (ent k s c :: l) i = Instr.findNow (.int .i64) (.int .i64 n) l (i + 1) := by
  have : Instr.sameNow (.int .i64) (.int .i64 n) (ent k s c).key = some false := by simp [ent, Instr.sameNow, h]
  rw [Instr.findNow, this]

theorem find_else {n : Int} (h : n ≠ 200 ∧ n ≠ 201 ∧ n ≠ 400 ∧ n ≠ 401 ∧ n ≠ 404 ∧ n ≠ 405 ∧ n ≠ 409 ∧ n ≠ 412 ∧ n ≠ 413 ∧ n ≠ 431 ∧ n ≠ 500 ∧ n ≠ 501 ∧ n ≠ 503 ∧ n ≠ 507) : Instr.findNow (.int .i64) (.int .i64 n) wordsMap.toList 0 = some none := by
  obtain ⟨h200, h201, h400, h401, h404, h405, h409, h412, h413, h431, h500, h501, h503, h507⟩ := h
  show Instr.findNow (.int .i64) (.int .i64 n) [ent 200 ⟨#[79, 75]⟩ 0, ent 201 ⟨#[67, 114, 101, 97, 116, 101, 100]⟩ 1, ent 400 ⟨#[66, 97, 100, 32, 82, 101, 113, 117, 101, 115, 116]⟩ 2, ent 401 ⟨#[85, 110, 97, 117, 116, 104, 111, 114, 105, 122, 101, 100]⟩ 3, ent 404 ⟨#[78, 111, 116, 32, 70, 111, 117, 110, 100]⟩ 4, ent 405 ⟨#[77, 101, 116, 104, 111, 100, 32, 78, 111, 116, 32, 65, 108, 108, 111, 119, 101, 100]⟩ 5, ent 409 ⟨#[67, 111, 110, 102, 108, 105, 99, 116]⟩ 6, ent 412 ⟨#[80, 114, 101, 99, 111, 110, 100, 105, 116, 105, 111, 110, 32, 70, 97, 105, 108, 101, 100]⟩ 7, ent 413 ⟨#[67, 111, 110, 116, 101, 110, 116, 32, 84, 111, 111, 32, 76, 97, 114, 103, 101]⟩ 8, ent 431 ⟨#[82, 101, 113, 117, 101, 115, 116, 32, 72, 101, 97, 100, 101, 114, 32, 70, 105, 101, 108, 100, 115, 32, 84, 111, 111, 32, 76, 97, 114, 103, 101]⟩ 9, ent 500 ⟨#[73, 110, 116, 101, 114, 110, 97, 108, 32, 83, 101, 114, 118, 101, 114, 32, 69, 114, 114, 111, 114]⟩ 10, ent 501 ⟨#[78, 111, 116, 32, 73, 109, 112, 108, 101, 109, 101, 110, 116, 101, 100]⟩ 11, ent 503 ⟨#[83, 101, 114, 118, 105, 99, 101, 32, 85, 110, 97, 118, 97, 105, 108, 97, 98, 108, 101]⟩ 12, ent 507 ⟨#[73, 110, 115, 117, 102, 102, 105, 99, 105, 101, 110, 116, 32, 83, 116, 111, 114, 97, 103, 101]⟩ 13] 0 = some none
  rw [find_step _ _ _ h200, find_step _ _ _ h201, find_step _ _ _ h400, find_step _ _ _ h401, find_step _ _ _ h404, find_step _ _ _ h405, find_step _ _ _ h409, find_step _ _ _ h412, find_step _ _ _ h413, find_step _ _ _ h431, find_step _ _ _ h500, find_step _ _ _ h501, find_step _ _ _ h503, find_step _ _ _ h507]
  rfl

/-- What the law looks up is the word. -/
theorem find_any (n : Int) : ∃ v ok, ((ok = true ∧ v = .string (mkB (wordL n)) ∧ ∃ i, Instr.findNow (.int .i64) (.int .i64 n) wordsMap.toList 0 = some (some (i, v))) ∨ (ok = false ∧ v = .string ⟨#[]⟩ ∧ wordL n = [85, 110, 107, 110, 111, 119, 110] ∧ Instr.findNow (.int .i64) (.int .i64 n) wordsMap.toList 0 = some none)) := by
  rcases word_cases n with rfl | rfl | rfl | rfl | rfl | rfl | rfl | rfl | rfl | rfl | rfl | rfl | rfl | rfl | h
  · exact ⟨_, true, .inl ⟨rfl, rfl, 0, rfl⟩⟩
  · exact ⟨_, true, .inl ⟨rfl, rfl, 1, rfl⟩⟩
  · exact ⟨_, true, .inl ⟨rfl, rfl, 2, rfl⟩⟩
  · exact ⟨_, true, .inl ⟨rfl, rfl, 3, rfl⟩⟩
  · exact ⟨_, true, .inl ⟨rfl, rfl, 4, rfl⟩⟩
  · exact ⟨_, true, .inl ⟨rfl, rfl, 5, rfl⟩⟩
  · exact ⟨_, true, .inl ⟨rfl, rfl, 6, rfl⟩⟩
  · exact ⟨_, true, .inl ⟨rfl, rfl, 7, rfl⟩⟩
  · exact ⟨_, true, .inl ⟨rfl, rfl, 8, rfl⟩⟩
  · exact ⟨_, true, .inl ⟨rfl, rfl, 9, rfl⟩⟩
  · exact ⟨_, true, .inl ⟨rfl, rfl, 10, rfl⟩⟩
  · exact ⟨_, true, .inl ⟨rfl, rfl, 11, rfl⟩⟩
  · exact ⟨_, true, .inl ⟨rfl, rfl, 12, rfl⟩⟩
  · exact ⟨_, true, .inl ⟨rfl, rfl, 13, rfl⟩⟩
  · exact ⟨_, false, .inr ⟨rfl, rfl, word_else h, find_else h⟩⟩

set_option maxRecDepth 100000 in
set_option maxHeartbeats 4000000 in
theorem words_walk (n : Int) (w : World) (_h : (Lit.int .i64 n).wf = true) (hg : GB w) :
    Calls Tryd.prog 5 #[.int .i64 n] w fun e w' => e = .returned (.bool true) ∧ Below w.heap.size w w' := by
  have HFIT := Lib.hid (fit_any w hg)
  have hmm := @run_makeMap Tryd.prog
  have HW := Lib.hid (word_any n)
  clear hg
  obtain ⟨v, ok, hf⟩ := find_any n
  rcases hf with ⟨rfl, rfl, i, hf⟩ | ⟨rfl, rfl, hw, hf⟩
  · have HL := Lib.hid (fun W r hb => look_any W r n (.string (mkB (wordL n))) true hb (.inl ⟨rfl, i, hf⟩))
    clear hf
    generalize mkB (wordL n) = X at *
    have hx : (X.toList == X.toList) = true := by simp
    go_enter Tryd.func5, Tryd.ntmps5
    go_wp2_with fail
    refine HFIT.out.mono ?_
    rintro e w1 ⟨rfl, hb1⟩
    have HB1 := Lib.hid (bt hb1 ((Below.refl _ w1).alloc (Nat.le_refl _) (.map #[] 0)))
    obtain ⟨W1, W2, W3, W4, W5, W6, W7, W8, W9, W10, W11, W12, W13, W14, ⟨u1, u2, u3, u4, u5, u6, u7, u8, u9, u10, u11, u12, u13, u14⟩, hMM, hBB⟩ := made_any (w1.alloc (.map #[] 0)) w1.heap.size (heap_alloc_new w1 _)
    have HB2 := Lib.hid (HB1.out.trans (hBB w.heap.size hb1.size))
    have hlk := HL.out _ _ hMM
    clear hb1 hBB hMM
    go_wp2_with fail
    refine (HW.out _).mono ?_
    rintro e w3 ⟨rfl, rfl⟩
    go_wp2_with fail
    go_ret
    exact ⟨rfl, HB2.out⟩
  · have HL := Lib.hid (fun W r hb => look_any W r n (.string ⟨#[]⟩) false hb (.inr ⟨rfl, rfl, hf⟩))
    clear hf
    rw [hw] at HW
    clear hw
    have hx : ((mkB [85, 110, 107, 110, 111, 119, 110]).toList == [85, 110, 107, 110, 111, 119, 110]) = true := by rw [eq_list, mkB_data]; rfl
    generalize mkB [85, 110, 107, 110, 111, 119, 110] = X at *
    go_enter Tryd.func5, Tryd.ntmps5
    go_wp2_with fail
    refine HFIT.out.mono ?_
    rintro e w1 ⟨rfl, hb1⟩
    have HB1 := Lib.hid (bt hb1 ((Below.refl _ w1).alloc (Nat.le_refl _) (.map #[] 0)))
    obtain ⟨W1, W2, W3, W4, W5, W6, W7, W8, W9, W10, W11, W12, W13, W14, ⟨u1, u2, u3, u4, u5, u6, u7, u8, u9, u10, u11, u12, u13, u14⟩, hMM, hBB⟩ := made_any (w1.alloc (.map #[] 0)) w1.heap.size (heap_alloc_new w1 _)
    have HB2 := Lib.hid (HB1.out.trans (hBB w.heap.size hb1.size))
    have hlk := HL.out _ _ hMM
    clear hb1 hBB hMM
    go_wp2_with fail
    refine (HW.out _).mono ?_
    rintro e w3 ⟨rfl, rfl⟩
    go_wp2_with fail
    go_ret
    exact ⟨rfl, HB2.out⟩

end Go.Proofs.YtkbigfjaaiobfaaDoor
