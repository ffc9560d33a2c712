/- The contracts of table.First and of the laws' fit. -/
import Derived.Test.YtejncdhdkdhpmaaDoorTbParse
namespace Go.Proofs.YtejncdhdkdhpmaaDoor
open Go.RowKit Pl

set_option maxRecDepth 100000 in
set_option maxHeartbeats 4000000 in
theorem first_any (w : World) : Calls Tryd.prog 20 #[] w fun e w' => (∃ a c, e = .returned (.slice (some a) 8 c)) ∧ Below w.heap.size w w' := by
  go_enter Tryd.func20, Tryd.ntmps20
  go_wp2_with fail
  go_ret
  exact ⟨⟨_, _, rfl⟩, (Below.refl _ _).alloc (Nat.le_refl _) _⟩

def fitText : List UInt8 := [71, 69, 84, 32, 47, 58, 97, 32, 103, 101, 116, 10, 71, 69, 84, 32, 47, 58, 98, 32, 103, 101, 116]
theorem fit_parse : parseL fitText = ([], 3) := by decide +kernel
theorem fit_tok : tokB [97] = true := by decide +kernel
theorem fit_kind : kindL [58, 97] = 1 := by decide +kernel

set_option maxRecDepth 100000 in
set_option maxHeartbeats 4000000 in
theorem fit_any (w : World) (hw : HB w) : Calls Tryd.prog 9 #[] w fun e w' => e = .returned (.bool true) ∧ Below w.heap.size w w' := by
  have HP := Lib.hid (parse_any ⟨fitText.toArray⟩ w hw (by decide))
  have e0 : (⟨fitText.toArray⟩ : ByteArray).data.toList = fitText := rfl
  rw [e0, fit_parse] at HP
  have HF := Lib.hid (fun w => first_any w)
  have HT := Lib.hid (fun w => tok_any ⟨#[97]⟩ w)
  have e1 : (⟨#[97]⟩ : ByteArray).data.toList = [97] := rfl
  rw [e1, fit_tok] at HT
  have HK := Lib.hid (fun w => kind_any ⟨#[58, 97]⟩ w)
  have e2 : (⟨#[58, 97]⟩ : ByteArray).data.toList = [58, 97] := rfl
  rw [e2, fit_kind] at HK
  clear e0 e1 e2 hw
  go_enter Tryd.func9, Tryd.ntmps9
  go_wp2_with fail
  refine HP.out.mono ?_
  rintro e w1 ⟨v1, rfl, ho1, hb1⟩
  obtain ⟨A1, c1, rfl, hr1⟩ := Rd.own ho1
  clear ho1 hr1
  go_wp2_with fail
  refine (HF.out _).mono ?_
  rintro e w2 ⟨⟨a, c, rfl⟩, hb2⟩
  go_wp2_with fail
  refine (HT.out _).mono ?_
  rintro e w3 ⟨rfl, hb3⟩
  go_wp2_with fail
  refine (HK.out _).mono ?_
  rintro e w4 ⟨rfl, rfl⟩
  go_wp2_with fail
  go_ret
  exact ⟨rfl, bt (bt hb1 hb2) hb3⟩

end Go.Proofs.YtejncdhdkdhpmaaDoor
