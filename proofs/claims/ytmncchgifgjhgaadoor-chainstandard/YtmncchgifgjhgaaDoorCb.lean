/- Words for bytes, texts, fields and memory: what the contracts share; what a handle answers. -/
import Derived.Test.YtmncchgifgjhgaaDoorProg
import Derived.WalkKit
import Derived.WalkSpells
import Derived.WalkLawsBesides
import Derived.Below
import Derived.Carry
import Derived.MapKept
import Derived.Laws.OwnMore
import Derived.Laws.Rows
import Derived.Deep.AppendLies
import Derived.Deep.Draws
import Derived.Lib.Hide
import Derived.Lib.Join
import Derived.Lib.Strings
import Derived.Test.YtmncchgifgjhgaaDoorShelfI
import Derived.Lib.SmallJoins
import Derived.Lib.AppendIntMem
import Derived.Lib.LaidTab
import Derived.Lib.ItoaNum
import Derived.Lib.ItoaLen
import Derived.Shelf.Abstract
namespace Go.Proofs.YtmncchgifgjhgaaDoor
open Go.RowKit Go.Shelf

abbrev Bytes := List UInt8
def mkB (l : Bytes) : ByteArray := ⟨l.toArray⟩
def strV (s : Bytes) : Value := .string (mkB s)
theorem mkB_data (l : Bytes) : (mkB l).data.toList = l := by simp [mkB]
theorem mkB_of (s : ByteArray) : mkB s.data.toList = s := by simp [mkB]
theorem data_len (s : ByteArray) : s.data.toList.length = s.size := by simp
theorem mkB_size (l : Bytes) : (mkB l).size = l.length := by rw [← data_len, mkB_data]
theorem bytes_ext {a b : ByteArray} (h : a.data.toList = b.data.toList) : a = b := by
  cases a; cases b; simp at h; rw [h]
theorem mkB_inj {a b : Bytes} (h : mkB a = mkB b) : a = b := by rw [← mkB_data a, h, mkB_data]
theorem eq_test (a b : ByteArray) : (a.toList == b.toList) = decide (a = b) := by
  rw [Lib.toList_data, Lib.toList_data, Bool.eq_iff_iff]
  simp only [beq_iff_eq, decide_eq_true_eq]
  exact ⟨bytes_ext, fun h => by rw [h]⟩
theorem eq_list (a : ByteArray) (l : Bytes) : (a.toList == l) = decide (a.data.toList = l) := by
  rw [Lib.toList_data, Bool.eq_iff_iff]
  simp only [beq_iff_eq, decide_eq_true_eq]
theorem eq_mk (a b : Bytes) : ((mkB a).toList == (mkB b).toList) = decide (a = b) := by
  rw [eq_test, Bool.eq_iff_iff]
  simp only [decide_eq_true_eq]
  exact ⟨mkB_inj, fun h => by rw [h]⟩
theorem ext_data (s : ByteArray) (p k : Nat) : (s.extract p k).data.toList = (s.data.toList.drop p).take (k - p) := by
  rw [Lib.extract_eq s p k]
theorem strV_of (s : ByteArray) : strV s.data.toList = .string s := by rw [strV, mkB_of]
theorem strV_inj {a b : Bytes} (h : strV a = strV b) : a = b := by
  unfold strV at h
  injection h with h
  exact mkB_inj h
theorem take_snoc (s : ByteArray) (k : Nat) (h : k < s.size) : s.data.toList.take (k + 1) = s.data.toList.take k ++ [s[k]] := by
  rw [List.take_succ_eq_append_getElem (by simpa using h)]; rfl
theorem take_all (s : ByteArray) (k : Nat) (h : s.size ≤ k) : s.data.toList.take k = s.data.toList := List.take_of_length_le (by simpa using h)

theorem bt {w w1 w2 : World} (h : Below w.heap.size w w1) (k : Below w1.heap.size w1 w2) : Below w.heap.size w w2 := h.trans (k.mono h.size)
theorem blk_cell {w : World} {g : Nat} {cs : Array Value} {t : TypeId} (h : w.heap[g]? = some (.cells cs t (0, 0))) (i : Nat) : w.cell? ⟨g, i, none⟩ = cs[i]? := by simp [World.cell?, h]
theorem blk_free {w : World} {g : Nat} {cs : Array Value} {t : TypeId} (h : w.heap[g]? = some (.cells cs t (0, 0))) (i : Nat) : w.frozen? ⟨g, i, none⟩ = false := by simp [World.frozen?, h]
theorem blk_lt {w : World} {g : Nat} {o : Obj} (h : w.heap[g]? = some o) : g < w.heap.size := (Array.getElem?_eq_some_iff.1 h).1
theorem drewN_below (w : World) (n : Nat) : Below w.heap.size w (w.drewN n) := ⟨rfl, rfl, rfl, Nat.le_refl _, fun _ _ => rfl⟩
theorem set_same {w : World} {g : Nat} {cs : Array Value} {t : TypeId} {v : Value} (i : Nat) (h : w.heap[g]? = some (.cells cs t (0, 0))) : (w.setCell ⟨g, i, none⟩ v).heap[g]? = some (.cells (cs.setIfInBounds i v) t (0, 0)) := heap_setCell_same w g i cs t v h
theorem set_oth (W : World) (a : Addr) (u : Value) (j : Nat) (hj : j ≠ a.block) : (W.setCell a u).heap[j]? = W.heap[j]? := Below.heap_setCell W a u j hj
theorem set_size (W : World) (a : Addr) (u : Value) : (W.setCell a u).heap.size = W.heap.size := by simp [World.setCell]


abbrev Fld := ByteArray × ByteArray
def fldCells (fs : List Fld) : List Value := fs.flatMap fun f => [.string f.1, .string f.2]
def valsOf (name : ByteArray) (fs : List Fld) : List ByteArray := fs.filterMap fun f => if f.1 = name then some f.2 else none
theorem fldCells_length (fs : List Fld) : (fldCells fs).length = fs.length * 2 := by
  induction fs with
  | nil => rfl
  | cons f fs ih => simp [fldCells] at ih ⊢; omega
theorem fldCells_at (fs : List Fld) (k : Nat) (h : k < fs.length) : (fldCells fs)[k * 2]? = some (.string (fs[k]).1) ∧ (fldCells fs)[k * 2 + 1]? = some (.string (fs[k]).2) := by
  induction fs generalizing k with
  | nil => simp at h
  | cons f fs ih =>
    cases k with
    | zero => exact ⟨rfl, rfl⟩
    | succ k =>
      have := ih k (by simpa using h)
      have e : fldCells (f :: fs) = .string f.1 :: .string f.2 :: fldCells fs := rfl
      rw [e, show (k + 1) * 2 = k * 2 + 1 + 1 from by omega]
      simpa using this
theorem fldCells_snoc (fs : List Fld) (a b : ByteArray) : fldCells (fs ++ [(a, b)]) = fldCells fs ++ [.string a, .string b] := by
  simp [fldCells]
theorem valsOf_snoc (name : ByteArray) (fs : List Fld) (k : Nat) (h : k < fs.length) : valsOf name (fs.take (k + 1)) = valsOf name (fs.take k) ++ (if (fs[k]).1 = name then [(fs[k]).2] else []) := by
  rw [List.take_succ_eq_append_getElem h, valsOf, List.filterMap_append]
  congr 1
  by_cases e : (fs[k]).1 = name <;> simp [e]
theorem valsOf_len (name : ByteArray) (fs : List Fld) : (valsOf name fs).length ≤ fs.length := List.length_filterMap_le _ _

def wordL (n : Int) : List UInt8 := if n = 200 then [79, 75] else if n = 201 then [67, 114, 101, 97, 116, 101, 100] else if n = 400 then [66, 97, 100, 32, 82, 101, 113, 117, 101, 115, 116] else if n = 401 then [85, 110, 97, 117, 116, 104, 111, 114, 105, 122, 101, 100] else if n = 404 then [78, 111, 116, 32, 70, 111, 117, 110, 100] else if n = 405 then [77, 101, 116, 104, 111, 100, 32, 78, 111, 116, 32, 65, 108, 108, 111, 119, 101, 100] else if n = 409 then [67, 111, 110, 102, 108, 105, 99, 116] else if n = 412 then [80, 114, 101, 99, 111, 110, 100, 105, 116, 105, 111, 110, 32, 70, 97, 105, 108, 101, 100] else if n = 413 then [67, 111, 110, 116, 101, 110, 116, 32, 84, 111, 111, 32, 76, 97, 114, 103, 101] else if n = 431 then [82, 101, 113, 117, 101, 115, 116, 32, 72, 101, 97, 100, 101, 114, 32, 70, 105, 101, 108, 100, 115, 32, 84, 111, 111, 32, 76, 97, 114, 103, 101] else if n = 500 then [73, 110, 116, 101, 114, 110, 97, 108, 32, 83, 101, 114, 118, 101, 114, 32, 69, 114, 114, 111, 114] else if n = 501 then [78, 111, 116, 32, 73, 109, 112, 108, 101, 109, 101, 110, 116, 101, 100] else if n = 503 then [83, 101, 114, 118, 105, 99, 101, 32, 85, 110, 97, 118, 97, 105, 108, 97, 98, 108, 101] else if n = 507 then [73, 110, 115, 117, 102, 102, 105, 99, 105, 101, 110, 116, 32, 83, 116, 111, 114, 97, 103, 101] else [85, 110, 107, 110, 111, 119, 110]
theorem word_cases (n : Int) : n = 200 ∨ n = 201 ∨ n = 400 ∨ n = 401 ∨ n = 404 ∨ n = 405 ∨ n = 409 ∨ n = 412 ∨ n = 413 ∨ n = 431 ∨ n = 500 ∨ n = 501 ∨ n = 503 ∨ n = 507 ∨ (n ≠ 200 ∧ n ≠ 201 ∧ n ≠ 400 ∧ n ≠ 401 ∧ n ≠ 404 ∧ n ≠ 405 ∧ n ≠ 409 ∧ n ≠ 412 ∧ n ≠ 413 ∧ n ≠ 431 ∧ n ≠ 500 ∧ n ≠ 501 ∧ n ≠ 503 ∧ n ≠ 507) := by omega
theorem word_else {n : Int} (h : n ≠ 200 ∧ n ≠ 201 ∧ n ≠ 400 ∧ n ≠ 401 ∧ n ≠ 404 ∧ n ≠ 405 ∧ n ≠ 409 ∧ n ≠ 412 ∧ n ≠ 413 ∧ n ≠ 431 ∧ n ≠ 500 ∧ n ≠ 501 ∧ n ≠ 503 ∧ n ≠ 507) : wordL n = [85, 110, 107, 110, 111, 119, 110] := by
  obtain ⟨h200, h201, h400, h401, h404, h405, h409, h412, h413, h431, h500, h501, h503, h507⟩ := h
  unfold wordL
  rw [if_neg h200, if_neg h201, if_neg h400, if_neg h401, if_neg h404, if_neg h405, if_neg h409, if_neg h412, if_neg h413, if_neg h431, if_neg h500, if_neg h501, if_neg h503, if_neg h507]
theorem word_len (n : Int) : (wordL n).length ≤ 31 := by
  rcases word_cases n with rfl | rfl | rfl | rfl | rfl | rfl | rfl | rfl | rfl | rfl | rfl | rfl | rfl | rfl | h
  · decide
  · decide
  · decide
  · decide
  · decide
  · decide
  · decide
  · decide
  · decide
  · decide
  · decide
  · decide
  · decide
  · decide
  · rw [word_else h]; decide

theorem add_block (a : Addr) (n : Nat) : (a.add n).block = a.block := by unfold Addr.add; split <;> rfl
theorem add_zero_own (g j : Nat) : (⟨g, 0, none⟩ : Addr).add j = ⟨g, j, none⟩ := by
  unfold Addr.add
  split
  · rename_i h; rw [h]
  · simp

theorem add_next (a : Addr) (m : Nat) : (⟨(a.add m).block, (a.add m).off + 1, none⟩ : Addr) = a.add (m + 1) := by
  unfold Addr.add
  by_cases h : m = 0
  · simp [h]
  · simp [h, Nat.add_assoc]

/-- The slice A of n elements, k cells each, holds the cells xs, and lies in a block below B. -/
def Rd (w : World) (B k : Nat) (A : Option Addr) (n : Nat) (xs : List Value) : Prop :=
  xs.length = n * k ∧ (n ≠ 0 → ∃ a : Addr, A = some a ∧ a.block < B ∧ ∀ j u, xs[j]? = some u → w.cell? (a.add j) = some u)

theorem Rd.block {w w' : World} {B k n : Nat} {A : Option Addr} {xs : List Value} (h : Rd w B k A n xs) (hb : ∀ j, j < B → w'.heap[j]? = w.heap[j]?) : Rd w' B k A n xs := by
  refine ⟨h.1, fun hn => ?_⟩
  obtain ⟨a, e, hl, hc⟩ := h.2 hn
  exact ⟨a, e, hl, fun j u hu => (World.cell?_of_block (hb _ (by rw [add_block]; exact hl))).trans (hc j u hu)⟩
theorem Rd.below {w w' : World} {B C k n : Nat} {A : Option Addr} {xs : List Value} (h : Rd w B k A n xs) (hb : Below C w w') (hB : B ≤ C) : Rd w' B k A n xs :=
  h.block fun j hj => hb.block j (by omega)
theorem Rd.wide {w : World} {B C k n : Nat} {A : Option Addr} {xs : List Value} (h : Rd w B k A n xs) (hB : B ≤ C) : Rd w C k A n xs := by
  refine ⟨h.1, fun hn => ?_⟩
  obtain ⟨a, e, hl, hc⟩ := h.2 hn
  exact ⟨a, e, by omega, hc⟩
theorem Rd.at {w : World} {B n i : Nat} {A : Option Addr} {xs : List Value} (h : Rd w B 1 A n xs) (hi : i < n) (u : Value) (hu : xs[i]? = some u) : ∃ a : Addr, A = some a ∧ a.block < B ∧ w.cell? (a.add i) = some u := by
  obtain ⟨a, e, hl, hc⟩ := h.2 (by omega)
  exact ⟨a, e, hl, hc i u hu⟩
theorem Rd.own {w : World} {base k n : Nat} {e : TypeId} {v : Value} {xs : List Value} (h : w.ownsRow base e k v n xs) : ∃ A c, v = .slice A n c ∧ Rd w w.heap.size k A n xs := by
  rcases h.2 with ⟨rfl, rfl⟩ | ⟨g, cap, cur, rfl, _, hh, _⟩
  · exact ⟨none, 0, rfl, h.1, fun hn => absurd rfl hn⟩
  · refine ⟨_, _, rfl, h.1, fun _ => ⟨_, rfl, (Array.getElem?_eq_some_iff.1 hh).1, fun j u hu => h.cells (g := g) rfl j u hu⟩⟩


def put4 (W : World) (R : Nat) (u0 u1 u2 u3 : Value) : World := (((W.setCell ⟨R, 0, none⟩ u0).setCell ⟨R, 1, none⟩ u1).setCell ⟨R, 2, none⟩ u2).setCell ⟨R, 3, none⟩ u3
theorem put4_blk {W : World} {R : Nat} {z0 z1 z2 z3 : Value} (h : W.heap[R]? = some (.cells #[z0, z1, z2, z3] 32 (0, 0))) (u0 u1 u2 u3 : Value) : (put4 W R u0 u1 u2 u3).heap[R]? = some (.cells #[u0, u1, u2, u3] 32 (0, 0)) := by
  unfold put4
  rw [set_same 3 (set_same 2 (set_same 1 (set_same 0 h)))]
  rfl
theorem put4_far {W : World} {R k : Nat} (hk : k ≠ R) (u0 u1 u2 u3 : Value) : (put4 W R u0 u1 u2 u3).heap[k]? = W.heap[k]? := by
  unfold put4
  rw [Below.heap_setCell _ _ _ _ (by simpa using hk), Below.heap_setCell _ _ _ _ (by simpa using hk), Below.heap_setCell _ _ _ _ (by simpa using hk), Below.heap_setCell _ _ _ _ (by simpa using hk)]
theorem put4_below {w W : World} {R : Nat} (h : Below w.heap.size w W) (hR : w.heap.size ≤ R) (u0 u1 u2 u3 : Value) : Below w.heap.size w (put4 W R u0 u1 u2 u3) :=
  (((h.setCell (p := ⟨R, 0, none⟩) hR _).setCell (p := ⟨R, 1, none⟩) hR _).setCell (p := ⟨R, 2, none⟩) hR _).setCell (p := ⟨R, 3, none⟩) hR _
theorem put4_own {W : World} {R base : Nat} {e : TypeId} {k n : Nat} {v : Value} {xs : List Value} (h : W.ownsRow base e k v n xs) (hR : R < base) (u0 u1 u2 u3 : Value) : (put4 W R u0 u1 u2 u3).ownsRow base e k v n xs := by
  refine ⟨h.1, ?_⟩
  rcases h.2 with hn | ⟨g, cap, cur, hv, hg, hh, r⟩
  · exact .inl hn
  · exact .inr ⟨g, cap, cur, hv, hg, (put4_far (by omega) _ _ _ _).trans hh, r⟩
theorem own_lower {W : World} {base B : Nat} {e : TypeId} {k n : Nat} {v : Value} {xs : List Value} (h : W.ownsRow B e k v n xs) (hB : base ≤ B) : W.ownsRow base e k v n xs := by
  refine ⟨h.1, ?_⟩
  rcases h.2 with hn | ⟨g, cap, cur, hv, hg, r⟩
  · exact .inl hn
  · exact .inr ⟨g, cap, cur, hv, by omega, r⟩

theorem put4_ret {fn : Func} {k : Nat} {W : World} {R : Nat} {a : Act} {X : Ending → World → Prop} {z0 z1 z2 z3 : Value} (hf : fn.results = #[.cell k 32]) (h : W.heap[R]? = some (.cells #[z0, z1, z2, z3] 32 (0, 0))) (u0 u1 u2 u3 : Value) (ha : a.tmps.getD k undef = .pointer (some ⟨R, 0, none⟩)) (hd : a.defers = [])
    (hQ : X (.returned (.agg #[u0, u1, u2, u3])) (put4 W R u0 u1 u2 u3)) : bodyPost Tryd.prog fn X .ret a (put4 W R u0 u1 u2 u3) := by
  have hb := put4_blk h u0 u1 u2 u3
  generalize put4 W R u0 u1 u2 u3 = V at *
  have c0 := blk_cell hb 0
  have c1 := blk_cell hb 1
  have c2 := blk_cell hb 2
  have c3 := blk_cell hb 3
  simp at c0 c1 c2 c3
  simp at ha
  exact bodyPost_ret (v := .agg #[u0, u1, u2, u3]) (by simp [results, hf, go_sem, ha, c0, c1, c2, c3]) hd hQ

/-- The table of powers of ten. -/
structure GB (w : World) : Prop where
  pow : ∃ t fr, w.heap[1]? = some (.cells (Lib.pow10Tab.map fun z => Value.int .u64 z).toArray t fr)
  big : 4 ≤ w.heap.size
theorem GB.below {w w' : World} {B : Nat} (h : GB w) (hb : Below B w w') (hB : 4 ≤ B) : GB w' := by
  obtain ⟨⟨t, fr, p⟩, hs⟩ := h
  exact ⟨⟨t, fr, by rw [hb.block 1 (by omega)]; exact p⟩, Nat.le_trans hs hb.size⟩
theorem GB.on {w w' : World} (h : GB w) (hb : Below w.heap.size w w') : GB w' := h.below hb h.big
theorem GB.tab {w : World} (h : GB w) {n : String} (hn : Tryd.prog.globalNamed n = some 1) : Lib.TabIs Tryd.prog w n .u64 Lib.pow10Tab := by
  obtain ⟨t, fr, hp⟩ := h.pow
  unfold Lib.TabIs World.var?
  rw [hn]
  simp only [Option.bind_some]
  rw [hp]
theorem itoa_any (n : Int) (h0 : -9223372036854775808 ≤ n) (h1 : n ≤ 9223372036854775807) (w : World) (hg : GB w) :
    Calls Tryd.prog 53 #[.int .i64 n] w fun e w' => e = .returned (.string (mkB (Lib.itoa n))) ∧ Below w.heap.size w w' :=
  (Any.strconv_Itoa Tryd.lays171 n h0 h1 w (hg.tab (by kernel_rfl))).mono fun _ _ ⟨he, k, os, hw⟩ => ⟨he, by rw [hw]; exact Lib.below_grow _ w (Nat.le_refl _) k os⟩

theorem add_str (a b : ByteArray) (h : a.size + b.size ≤ 9223372036854775807) (wx : World) : (Op.stringOp .add a b).run Tryd.prog wx = .ok (.string (a ++ b)) wx := run_string_add_sum wx a b h
theorem app_size (a b : ByteArray) : (a ++ b).size = a.size + b.size := by simp
theorem mkB_app (a b : Bytes) : mkB a ++ mkB b = mkB (a ++ b) := bytes_ext (by rw [ByteArray.data_append]; simp [mkB])

theorem own_of_block {w : World} {g base n k : Nat} {cs : Array Value} {t : TypeId} (h : w.heap[g]? = some (.cells cs t (0, 0))) (hb : base ≤ g) (hs : cs.size = n * k) (hn : n ≤ maxLen) : w.ownsRow base t k (.slice (some ⟨g, 0, none⟩) n n) n cs.toList :=
  ⟨by simpa using hs, .inr ⟨g, n, cs, rfl, hb, h, Nat.le_refl _, hn, hs, List.take_of_length_le (by simp [hs])⟩⟩

/-- Nothing old has turned but blocks of P. -/
structure Frm (P : Nat → Prop) (w w' : World) : Prop where
  os : w'.os = w.os
  tape : w'.tape = w.tape
  output : w'.output = w.output
  size : w.heap.size ≤ w'.heap.size
  block : ∀ k, k < w.heap.size → ¬ P k → w'.heap[k]? = w.heap[k]?
theorem Frm.refl (P : Nat → Prop) (w : World) : Frm P w w := ⟨rfl, rfl, rfl, Nat.le_refl _, fun _ _ _ => rfl⟩
theorem Frm.trans {P : Nat → Prop} {a b c : World} (h : Frm P a b) (k : Frm P b c) : Frm P a c :=
  ⟨k.os.trans h.os, k.tape.trans h.tape, k.output.trans h.output, Nat.le_trans h.size k.size, fun i hi hp => (k.block i (Nat.lt_of_lt_of_le hi h.size) hp).trans (h.block i hi hp)⟩
theorem Frm.of {P : Nat → Prop} {w w' : World} (h : Below w.heap.size w w') : Frm P w w' := ⟨h.os, h.tape, h.output, h.size, fun k hk _ => h.block k hk⟩
theorem Frm.on {P : Nat → Prop} {a b c : World} (h : Frm P a b) (k : Below b.heap.size b c) : Frm P a c := h.trans (.of k)
theorem Frm.below {P : Nat → Prop} {B : Nat} {w w' : World} (h : Frm P w w') (hB : B ≤ w.heap.size) (hp : ∀ j, P j → B ≤ j) : Below B w w' :=
  ⟨h.os, h.tape, h.output, h.size, fun k hk => h.block k (by omega) fun q => by have := hp k q; omega⟩
/-- A store into a block that is new, or one of P. -/
theorem Frm.set {P : Nat → Prop} {a b : World} (h : Frm P a b) (g i : Nat) (v : Value) (hg : a.heap.size ≤ g ∨ P g) : Frm P a (b.setCell ⟨g, i, none⟩ v) :=
  ⟨by rw [← h.os]; rfl, by rw [← h.tape]; rfl, by rw [← h.output]; rfl, by rw [set_size]; exact h.size, fun k hk hp => by
    rw [set_oth _ _ _ _ (hg.elim (fun hg => by show k ≠ g; omega) (fun hg => by rintro rfl; exact hp hg))]; exact h.block k hk hp⟩
theorem Frm.put4 {P : Nat → Prop} {a b : World} (h : Frm P a b) (g : Nat) (u0 u1 u2 u3 : Value) (hg : a.heap.size ≤ g) : Frm P a (put4 b g u0 u1 u2 u3) :=
  (((h.set g 0 u0 (.inl hg)).set g 1 u1 (.inl hg)).set g 2 u2 (.inl hg)).set g 3 u3 (.inl hg)

/-- The slice A reads as the fields l, in a block that is none of P. -/
def Row (P : Nat → Prop) (w : World) (A : Option Addr) (l : List Fld) : Prop :=
  l ≠ [] → ∃ a : Addr, A = some a ∧ a.block < w.heap.size ∧ ¬ P a.block ∧ ∀ j u, (fldCells l)[j]? = some u → w.cell? (a.add j) = some u
theorem Row.frm {P : Nat → Prop} {w w' : World} {A : Option Addr} {l : List Fld} (h : Row P w A l) (k : Frm P w w') : Row P w' A l := fun hn => by
  obtain ⟨a, e, hl, hp, hc⟩ := h hn
  exact ⟨a, e, Nat.lt_of_lt_of_le hl k.size, hp, fun j u hu => (World.cell?_of_block (k.block _ (by rw [add_block]; exact hl) (by rw [add_block]; exact hp))).trans (hc j u hu)⟩
theorem Row.rd {P : Nat → Prop} {w : World} {A : Option Addr} {l : List Fld} (h : Row P w A l) : Rd w w.heap.size 2 A l.length (fldCells l) :=
  ⟨fldCells_length l, fun hn => by
    obtain ⟨a, e, hl, _, hc⟩ := h (fun e => hn (by rw [e]; rfl))
    exact ⟨a, e, hl, hc⟩⟩
theorem Row.of {P : Nat → Prop} {w : World} {A : Option Addr} {l : List Fld} (h : Rd w w.heap.size 2 A l.length (fldCells l)) (hp : ∀ a, A = some a → ¬ P a.block) : Row P w A l := fun hn => by
  obtain ⟨a, e, hl, hc⟩ := h.2 (fun e => hn (List.eq_nil_of_length_eq_zero e))
  exact ⟨a, e, hl, hp a e, hc⟩
theorem Row.nil (P : Nat → Prop) (w : World) (A : Option Addr) : Row P w A [] := fun h => absurd rfl h

theorem Row.set {P : Nat → Prop} {w : World} {A : Option Addr} {l : List Fld} (h : Row P w A l) (g i : Nat) (v : Value) (hg : ∀ a, A = some a → a.block ≠ g) : Row P (w.setCell ⟨g, i, none⟩ v) A l := fun hn => by
  obtain ⟨a, e, hl, hp, hc⟩ := h hn
  exact ⟨a, e, by rw [set_size]; exact hl, hp, fun j u hu => (World.cell?_of_block (set_oth _ _ _ _ (by rw [add_block]; exact hg a e))).trans (hc j u hu)⟩
theorem Row.put4 {P : Nat → Prop} {w : World} {A : Option Addr} {l : List Fld} (h : Row P w A l) (g : Nat) (u0 u1 u2 u3 : Value) (hg : ∀ a, A = some a → a.block ≠ g) : Row P (put4 w g u0 u1 u2 u3) A l :=
  (((h.set g 0 u0 hg).set g 1 u1 hg).set g 2 u2 hg).set g 3 u3 hg

/-- The slice A reads as the texts l, in a block that is none of P. -/
def RowS (P : Nat → Prop) (w : World) (A : Option Addr) (l : List ByteArray) : Prop :=
  l ≠ [] → ∃ a : Addr, A = some a ∧ a.block < w.heap.size ∧ ¬ P a.block ∧ ∀ j u, (l.map Value.string)[j]? = some u → w.cell? (a.add j) = some u
theorem RowS.frm {P : Nat → Prop} {w w' : World} {A : Option Addr} {l : List ByteArray} (h : RowS P w A l) (k : Frm P w w') : RowS P w' A l := fun hn => by
  obtain ⟨a, e, hl, hp, hc⟩ := h hn
  exact ⟨a, e, Nat.lt_of_lt_of_le hl k.size, hp, fun j u hu => (World.cell?_of_block (k.block _ (by rw [add_block]; exact hl) (by rw [add_block]; exact hp))).trans (hc j u hu)⟩
theorem RowS.rd {P : Nat → Prop} {w : World} {A : Option Addr} {l : List ByteArray} (h : RowS P w A l) : Rd w w.heap.size 1 A l.length (l.map .string) :=
  ⟨by simp, fun hn => by
    obtain ⟨a, e, hl, _, hc⟩ := h (fun e => hn (by rw [e]; rfl))
    exact ⟨a, e, hl, hc⟩⟩
theorem RowS.of {P : Nat → Prop} {w : World} {A : Option Addr} {l : List ByteArray} (h : Rd w w.heap.size 1 A l.length (l.map .string)) (hp : ∀ a, A = some a → ¬ P a.block) : RowS P w A l := fun hn => by
  obtain ⟨a, e, hl, hc⟩ := h.2 (fun e => hn (List.eq_nil_of_length_eq_zero e))
  exact ⟨a, e, hl, hp a e, hc⟩

/-- What a handle may come to: an answer, or it gives up. -/
inductive Out where
  | ans (st : Int) (l : List Fld) (b : ByteArray) (c : Bool)
  | gone
def Ends (P : Nat → Prop) (B : Nat) : Out → Ending → World → Prop
  | .ans st l b c, e, w' => ∃ A n, e = .returned (.agg #[.int .i64 st, .slice A l.length n, .string b, .bool c]) ∧ Row P w' A l ∧ l.length ≤ 100 ∧ ∀ a, A = some a → B ≤ a.block
  | .gone, e, _ => ∃ u pv, e = .panicked [{ v := .iface u pv, recovered := false }]

/-- In worlds that grow out of w0 (nothing but P's blocks turned) in which S0 holds, the handle hv comes to o at the call cv, and S1 holds behind it. -/
def Hd (P : Nat → Prop) (S0 S1 : World → Prop) (cv : Value) (o : Out) (w0 : World) (hv : Value) : Prop :=
  ∃ k caps, hv = .func (.func k) #[] caps ∧ Enters Tryd.prog k ∧ ∀ w, Frm P w0 w → S0 w → Calls Tryd.prog k (#[cv] ++ caps) w fun e w' => Ends P 0 o e w' ∧ Frm P w w' ∧ S1 w'

/-- S speaks of P's blocks alone. -/
def Of (P : Nat → Prop) (S : World → Prop) : Prop := ∀ w w', S w → (∀ j, P j → w'.heap[j]? = w.heap[j]?) → S w'
theorem Of.on {P : Nat → Prop} {S : World → Prop} (h : Of P S) {B : Nat} {w w' : World} (hs : S w) (hb : Below B w w') (hp : ∀ j, P j → j < B) : S w' := h w w' hs fun j hj => hb.block j (hp j hj)
theorem Of.set {P : Nat → Prop} {S : World → Prop} (h : Of P S) {w : World} (hs : S w) (g i : Nat) (v : Value) (hg : ¬ P g) : S (w.setCell ⟨g, i, none⟩ v) := h w _ hs fun j hj => set_oth _ _ _ _ (by rintro rfl; exact hg hj)
theorem Of.put4 {P : Nat → Prop} {S : World → Prop} (h : Of P S) {w : World} (hs : S w) (g : Nat) (u0 u1 u2 u3 : Value) (hg : ¬ P g) : S (put4 w g u0 u1 u2 u3) :=
  h.set (h.set (h.set (h.set hs g 0 u0 hg) g 1 u1 hg) g 2 u2 hg) g 3 u3 hg

end Go.Proofs.YtmncchgifgjhgaaDoor
