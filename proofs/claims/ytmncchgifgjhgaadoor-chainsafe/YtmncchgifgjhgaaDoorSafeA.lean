/- ChainSafe: whatever how. -/
import Derived.Test.YtmncchgifgjhgaaDoorSafeW
namespace Go.Proofs.YtmncchgifgjhgaaDoor
open Go.RowKit Go.Shelf

theorem safe_any (c : Cl) (how : Int) (w : World) (hg : GB w) (h : c.at w) (_ : (Lit.int .i64 how).wf = true) :
    Calls Tryd.prog 7 #[c.v, .int .i64 how] w fun e w' => e = .returned (.bool true) ∧ Below w.heap.size w w' := by
  have hb := i64_and3 how
  have h4 : how % 4 = 0 ∨ how % 4 = 1 ∨ how % 4 = 2 ∨ how % 4 = 3 := by omega
  rcases h4 with e | e | e | e
  · exact safe_walk0 c how (hb.trans e) w hg h
  · exact safe_walk1 c how (hb.trans e) w hg h
  · exact safe_walk2 c how (hb.trans e) w hg h
  · exact safe_walk3 c how (hb.trans e) w hg h
end Go.Proofs.YtmncchgifgjhgaaDoor
