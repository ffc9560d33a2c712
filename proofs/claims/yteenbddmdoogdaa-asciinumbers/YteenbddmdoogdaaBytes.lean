/- What '[]byte(s)' leaves in memory, for the laws' loops over it. -/
import Derived.Test.YteenbddmdoogdaaFit
import Derived.Laws.IdiomStrings
namespace Go.Proofs.Yteenbddmdoogdaa
open Go.RowKit Pl

def bsW (w : World) (s : ByteArray) (c : Nat) : World := (w.alloc (Obj.cells (bytesRow s c) 5 ((bytesRow s c).size, (bytesRow s c).size + 1))).drew
theorem bsW_below (w : World) (s : ByteArray) (c : Nat) : Below w.heap.size w (bsW w s c) := ((Below.refl _ _).alloc (Nat.le_refl _) _).drew
theorem bsW_size (w : World) (s : ByteArray) (c : Nat) : (bsW w s c).heap.size = w.heap.size + 1 := by simp [bsW]
theorem bsW_cell (w : World) (s : ByteArray) (c k : Nat) (h : k < s.size) : (bsW w s c).cell? ⟨w.heap.size, k, none⟩ = some (.int .u8 ((s[k]'h).toNat : Int)) := by
  show (w.alloc (Obj.cells (bytesRow s c) 5 _)).cell? _ = _
  rw [World.cell?_alloc_mark]
  have h1 : k < (Array.map (fun b : UInt8 => Value.int .u8 (b.toNat : Int)) s.data).size := by simpa using h
  rw [bytesRow, Array.getElem?_append_left h1, Array.getElem?_eq_getElem h1, Array.getElem_map]
  rfl

end Go.Proofs.Yteenbddmdoogdaa
