/- ChainMarks: whatever the answer. -/
import Derived.Test.YtmncchgifgjhgaaDoorMarksW
import Derived.Test.YtmncchgifgjhgaaDoorMarksV
namespace Go.Proofs.YtmncchgifgjhgaaDoor
open Go.RowKit Go.Shelf

theorem marks_walk (c : Cl) (st : Int) (A : Option Addr) (l : List Fld) (n : Nat) (b : ByteArray) (cl : Bool) (w : World) (hg : GB w) (h : c.at w) (hr : RspIn w st A l n) :
    Calls Tryd.prog 6 #[c.v, .agg #[.int .i64 st, .slice A l.length n, .string b, .bool cl]] w fun e w' => e = .returned (.bool true) ∧ Below w.heap.size w w' := by
  cases cl with
  | true => exact marks_walk_true c st A l n b w hg h hr
  | false => exact marks_walk_false c st A l n b w hg h hr
end Go.Proofs.YtmncchgifgjhgaaDoor
