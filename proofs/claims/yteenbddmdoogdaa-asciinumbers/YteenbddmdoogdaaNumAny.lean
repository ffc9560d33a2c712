/- The law AsciiNumbers returns true at every input. -/
import Derived.Test.YteenbddmdoogdaaNumLaw10
import Derived.Test.YteenbddmdoogdaaNumLaw16
namespace Go.Proofs.Yteenbddmdoogdaa
open Go.RowKit Pl

theorem numbers_any (s : ByteArray) (x : Bool) (w : World) (_hm : s.size ≤ maxLen) : Calls Try.prog 4 #[.string s, .bool x] w fun e w' => e = .returned (.bool true) ∧ Below w.heap.size w w' := by
  by_cases hs : s.size ≤ 1000
  · cases x with
    | false => exact numbers10_walk s w hs
    | true => exact numbers16_walk s w hs
  · go_enter Try.func4, Try.ntmps4
    go_wp2_with fail
    refine (fit_any _).mono ?_
    rintro e w1 ⟨rfl, hb1⟩
    go_wp2_with fail
    refine (light_no _ _ hs).mono ?_
    rintro e w2 ⟨rfl, rfl⟩
    go_wp2
    go_ret
    exact ⟨rfl, hb1⟩

end Go.Proofs.Yteenbddmdoogdaa
