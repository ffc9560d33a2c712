/- Bytes and texts; segments in memory. -/
import Derived.Test.YtgfjkpfjajjidaaDoorPlains
import Derived.Test.YtgfjkpfjajjidaaDoorMem
import Derived.Test.YtgfjkpfjajjidaaDoorToken
import Derived.Lib.Strings
namespace Go.Proofs.YtgfjkpfjajjidaaDoor
open Go.RowKit Pl

def mkB (l : List UInt8) : ByteArray := ⟨l.toArray⟩
theorem mkB_data (l : List UInt8) : (mkB l).data.toList = l := by simp [mkB]
theorem mkB_of (s : ByteArray) : mkB s.data.toList = s := by simp [mkB]
theorem data_len (s : ByteArray) : s.data.toList.length = s.size := by simp
theorem mkB_size (l : List UInt8) : (mkB l).size = l.length := by rw [← data_len, mkB_data]
theorem bytes_ext {a b : ByteArray} (h : a.data.toList = b.data.toList) : a = b := by
  cases a; cases b; simp at h; rw [h]
theorem eq_test (a b : ByteArray) : (a.toList == b.toList) = decide (a = b) := by
  rw [Lib.toList_data, Lib.toList_data, Bool.eq_iff_iff]
  simp only [beq_iff_eq, decide_eq_true_eq]
  exact ⟨bytes_ext, fun h => by rw [h]⟩
theorem eq_list (a : ByteArray) (l : List UInt8) : (a.toList == l) = decide (a.data.toList = l) := by
  rw [Lib.toList_data, Bool.eq_iff_iff]
  simp only [beq_iff_eq, decide_eq_true_eq]
theorem ext_data (s : ByteArray) (p k : Nat) : (s.extract p k).data.toList = (s.data.toList.drop p).take (k - p) := by
  rw [Lib.extract_eq s p k]
theorem strV_mk (s : List UInt8) : strV s = .string (mkB s) := rfl

end Go.Proofs.YtgfjkpfjajjidaaDoor
