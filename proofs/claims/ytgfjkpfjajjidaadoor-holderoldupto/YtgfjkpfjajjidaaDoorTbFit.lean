/- The contracts of table.First and of the laws' fit. -/
import Derived.Test.YtgfjkpfjajjidaaDoorTbParse
namespace Go.Proofs.YtgfjkpfjajjidaaDoor
open Go.RowKit Pl

set_option maxRecDepth 100000 in
set_option maxHeartbeats 4000000 in
theorem first_any (w : World) : Calls Tryd.prog 13 #[] w fun e w' => (∃ a c, e = .returned (.slice (some a) 8 c)) ∧ Below w.heap.size w w' := by
  go_enter Tryd.func13, Tryd.ntmps13
  go_wp2_with fail
  go_ret
  exact ⟨⟨_, _, rfl⟩, (Below.refl _ _).alloc (Nat.le_refl _) _⟩

def fitText : List UInt8 := [71, 69, 84, 32, 47, 58, 97, 32, 103, 101, 116, 10, 71, 69, 84, 32, 47, 58, 98, 32, 103, 101, 116]
theorem fit_parse : parseL fitText = ([], 3) := by decide +kernel
theorem fit_tok : tokB [97] = true := by decide +kernel
theorem fit_kind : kindL [58, 97] = 1 := by decide +kernel

end Go.Proofs.YtgfjkpfjajjidaaDoor
