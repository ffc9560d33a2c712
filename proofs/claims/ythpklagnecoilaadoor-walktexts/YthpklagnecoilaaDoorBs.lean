/- Words for bytes, texts and memory: what the contracts share. -/
import Derived.Test.YthpklagnecoilaaDoorProg
import Derived.WalkKit
import Derived.WalkSpells
import Derived.WalkLawsBesides
import Derived.Below
import Derived.Carry
import Derived.MapKept
import Derived.Laws.OwnMore
import Derived.Laws.Rows
import Derived.Deep.AppendLies
import Derived.Deep.Draws
import Derived.Lib.Hide
import Derived.Lib.Join
import Derived.Lib.Strings
import Derived.Maps.RangeRun
namespace Go.Proofs.YthpklagnecoilaaDoor
open Go.RowKit

abbrev Bytes := List UInt8
def mkB (l : Bytes) : ByteArray := ⟨l.toArray⟩
def strV (s : Bytes) : Value := .string (mkB s)
theorem mkB_data (l : Bytes) : (mkB l).data.toList = l := by simp [mkB]
theorem mkB_of (s : ByteArray) : mkB s.data.toList = s := by simp [mkB]
theorem data_len (s : ByteArray) : s.data.toList.length = s.size := by simp
theorem mkB_size (l : Bytes) : (mkB l).size = l.length := by rw [← data_len, mkB_data]
theorem bytes_ext {a b : ByteArray} (h : a.data.toList = b.data.toList) : a = b := by
  cases a; cases b; simp at h; rw [h]
theorem mkB_inj {a b : Bytes} (h : mkB a = mkB b) : a = b := by rw [← mkB_data a, h, mkB_data]
theorem eq_test (a b : ByteArray) : (a.toList == b.toList) = decide (a = b) := by
  rw [Lib.toList_data, Lib.toList_data, Bool.eq_iff_iff]
  simp only [beq_iff_eq, decide_eq_true_eq]
  exact ⟨bytes_ext, fun h => by rw [h]⟩
theorem eq_list (a : ByteArray) (l : Bytes) : (a.toList == l) = decide (a.data.toList = l) := by
  rw [Lib.toList_data, Bool.eq_iff_iff]
  simp only [beq_iff_eq, decide_eq_true_eq]
theorem eq_mk (a b : Bytes) : ((mkB a).toList == (mkB b).toList) = decide (a = b) := by
  rw [eq_test, Bool.eq_iff_iff]
  simp only [decide_eq_true_eq]
  exact ⟨mkB_inj, fun h => by rw [h]⟩
theorem ext_data (s : ByteArray) (p k : Nat) : (s.extract p k).data.toList = (s.data.toList.drop p).take (k - p) := by
  rw [Lib.extract_eq s p k]
theorem strV_of (s : ByteArray) : strV s.data.toList = .string s := by rw [strV, mkB_of]
theorem strV_inj {a b : Bytes} (h : strV a = strV b) : a = b := by
  unfold strV at h
  injection h with h
  exact mkB_inj h
theorem take_snoc (s : ByteArray) (k : Nat) (h : k < s.size) : s.data.toList.take (k + 1) = s.data.toList.take k ++ [s[k]] := by
  rw [List.take_succ_eq_append_getElem (by simpa using h)]; rfl
theorem take_all (s : ByteArray) (k : Nat) (h : s.size ≤ k) : s.data.toList.take k = s.data.toList := List.take_of_length_le (by simpa using h)

theorem bt {w w1 w2 : World} (h : Below w.heap.size w w1) (k : Below w1.heap.size w1 w2) : Below w.heap.size w w2 := h.trans (k.mono h.size)
theorem blk_cell {w : World} {g : Nat} {cs : Array Value} {t : TypeId} (h : w.heap[g]? = some (.cells cs t (0, 0))) (i : Nat) : w.cell? ⟨g, i, none⟩ = cs[i]? := by simp [World.cell?, h]
theorem blk_free {w : World} {g : Nat} {cs : Array Value} {t : TypeId} (h : w.heap[g]? = some (.cells cs t (0, 0))) (i : Nat) : w.frozen? ⟨g, i, none⟩ = false := by simp [World.frozen?, h]
theorem blk_lt {w : World} {g : Nat} {o : Obj} (h : w.heap[g]? = some o) : g < w.heap.size := (Array.getElem?_eq_some_iff.1 h).1
theorem drewN_below (w : World) (n : Nat) : Below w.heap.size w (w.drewN n) := ⟨rfl, rfl, rfl, Nat.le_refl _, fun _ _ => rfl⟩
theorem set_same {w : World} {g : Nat} {cs : Array Value} {t : TypeId} {v : Value} (i : Nat) (h : w.heap[g]? = some (.cells cs t (0, 0))) : (w.setCell ⟨g, i, none⟩ v).heap[g]? = some (.cells (cs.setIfInBounds i v) t (0, 0)) := heap_setCell_same w g i cs t v h
theorem set_oth (W : World) (a : Addr) (u : Value) (j : Nat) (hj : j ≠ a.block) : (W.setCell a u).heap[j]? = W.heap[j]? := Below.heap_setCell W a u j hj
theorem set_size (W : World) (a : Addr) (u : Value) : (W.setCell a u).heap.size = W.heap.size := by simp [World.setCell]

end Go.Proofs.YthpklagnecoilaaDoor
