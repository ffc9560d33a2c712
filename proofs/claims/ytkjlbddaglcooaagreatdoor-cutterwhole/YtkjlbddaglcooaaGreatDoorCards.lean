/-
  DERIVED. GIVEN WITH THE SEED: THE CARDS: each row of YtkjlbddaglcooaaGreatDoorRows.lean that lists a variable, with what it lists TIED to the program's text (the seventh form; the later family's looks); each row that meets fmt, with fmt's text TOLD by the authors' own Lean function (tested against real Go, not proved from fmt's source: count such statements apart). THE CARD IS WHAT COUNTS. Prove the row's statement (the work); the ties are given (YtkjlbddaglcooaaGreatDoorTie.lean); close each card by the builder's one call (the guide's Derived/Test/ToyasCard.lean, 'card_holds'). Laid BY PROGRAM, IN A SANDBOX (cutbox-door.mjs). By AI agents, Wed Nov 11 2026. No macro, syntax, notation, axiom, sorry.
-/
import Derived.Test.YtkjlbddaglcooaaGreatDoorRows
import GoSem.ClaimSeven
namespace Go.Proofs.YtkjlbddaglcooaaGreatDoor
namespace Rows

/-- THE TIED CARD OF 'crossroadlaw04.CutterSeeds'. -/
def cutterSeedsCard : Claim7 := { stood := { row := cutterSeedsRow, standIns := [], harness := (true, "8a6fc316adb72d50466b35b2da0b9ce0fe67f3591e45ad8a6def78ce650d4369"), looks := false }, kinds := [], alts := [], laidByText := true, laidKinds := [.data, .data, .data, .data, .data, .data, .data, .pinned], laidTests := true, laidLooks := .later }
def CutterSeedsCardSaid : Prop := Claim7.holds Tryz.pinned (.plain (OpenSpec.ofChange cutterSeedsSpec)) cutterSeedsCard

/-- THE TIED CARD OF 'crossroadlaw04.CutterWhole'. -/
def cutterWholeCard : Claim7 := { stood := { row := cutterWholeRow, standIns := [], harness := (true, "8a6fc316adb72d50466b35b2da0b9ce0fe67f3591e45ad8a6def78ce650d4369"), looks := false }, kinds := [], alts := [], laidByText := true, laidKinds := [.data, .data, .data, .data, .data, .data, .data, .pinned], laidTests := true, laidLooks := .later }
def CutterWholeCardSaid : Prop := Claim7.holds Tryz.pinned (.plain (OpenSpec.ofChange cutterWholeSpec)) cutterWholeCard

/-- THE TIED CARD OF 'crossroadlaw04.CutterLines'. -/
def cutterLinesCard : Claim7 := { stood := { row := cutterLinesRow, standIns := [], harness := (true, "8a6fc316adb72d50466b35b2da0b9ce0fe67f3591e45ad8a6def78ce650d4369"), looks := false }, kinds := [], alts := [], laidByText := true, laidKinds := [.data, .data, .data, .data, .data, .data, .data, .pinned], laidTests := true, laidLooks := .later }
def CutterLinesCardSaid : Prop := Claim7.holds Tryz.pinned (.plain (OpenSpec.ofChange cutterLinesSpec)) cutterLinesCard

/-- THE TIED CARD OF 'crossroadlaw04.CutterBlank'. -/
def cutterBlankCard : Claim7 := { stood := { row := cutterBlankRow, standIns := [], harness := (true, "8a6fc316adb72d50466b35b2da0b9ce0fe67f3591e45ad8a6def78ce650d4369"), looks := false }, kinds := [], alts := [], laidByText := true, laidKinds := [.data, .data, .data, .data, .data, .data, .data, .pinned], laidTests := true, laidLooks := .later }
def CutterBlankCardSaid : Prop := Claim7.holds Tryz.pinned (.plain (OpenSpec.ofChange cutterBlankSpec)) cutterBlankCard

/-- THE TIED CARD OF 'crossroadlaw04.CutterDone'. -/
def cutterDoneCard : Claim7 := { stood := { row := cutterDoneRow, standIns := [], harness := (true, "8a6fc316adb72d50466b35b2da0b9ce0fe67f3591e45ad8a6def78ce650d4369"), looks := false }, kinds := [], alts := [], laidByText := true, laidKinds := [.data, .data, .data, .data, .data, .data, .data, .pinned], laidTests := true, laidLooks := .later }
def CutterDoneCardSaid : Prop := Claim7.holds Tryz.pinned (.plain (OpenSpec.ofChange cutterDoneSpec)) cutterDoneCard

/-- THE TIED CARD OF 'crossroadlaw04.CutterBodies'. -/
def cutterBodiesCard : Claim7 := { stood := { row := cutterBodiesRow, standIns := [], harness := (true, "8a6fc316adb72d50466b35b2da0b9ce0fe67f3591e45ad8a6def78ce650d4369"), looks := false }, kinds := [], alts := [], laidByText := true, laidKinds := [.data, .data, .data, .data, .data, .data, .data, .pinned], laidTests := true, laidLooks := .later }
def CutterBodiesCardSaid : Prop := Claim7.holds Tryz.pinned (.plain (OpenSpec.ofChange cutterBodiesSpec)) cutterBodiesCard

/-- THE SECOND FORM's CARD OF 'crossroadlaw04.CutterSeeds'. -/
def cutterSeedsUptoCard : Claim7 := { stood := { row := cutterSeedsUptoRow, standIns := [], harness := (true, "8a6fc316adb72d50466b35b2da0b9ce0fe67f3591e45ad8a6def78ce650d4369"), looks := false }, kinds := [], alts := [], laidByText := true, laidKinds := [.data, .data, .data, .data, .data, .data, .data, .pinned], laidTests := true, laidLooks := .later }
def CutterSeedsUptoCardSaid : Prop := Claim7.holds Tryz.pinned (.plain (OpenSpec.upto cutterSeedsSpec)) cutterSeedsUptoCard

/-- THE SECOND FORM's CARD OF 'crossroadlaw04.CutterWhole'. -/
def cutterWholeUptoCard : Claim7 := { stood := { row := cutterWholeUptoRow, standIns := [], harness := (true, "8a6fc316adb72d50466b35b2da0b9ce0fe67f3591e45ad8a6def78ce650d4369"), looks := false }, kinds := [], alts := [], laidByText := true, laidKinds := [.data, .data, .data, .data, .data, .data, .data, .pinned], laidTests := true, laidLooks := .later }
def CutterWholeUptoCardSaid : Prop := Claim7.holds Tryz.pinned (.plain (OpenSpec.upto cutterWholeSpec)) cutterWholeUptoCard

/-- THE SECOND FORM's CARD OF 'crossroadlaw04.CutterLines'. -/
def cutterLinesUptoCard : Claim7 := { stood := { row := cutterLinesUptoRow, standIns := [], harness := (true, "8a6fc316adb72d50466b35b2da0b9ce0fe67f3591e45ad8a6def78ce650d4369"), looks := false }, kinds := [], alts := [], laidByText := true, laidKinds := [.data, .data, .data, .data, .data, .data, .data, .pinned], laidTests := true, laidLooks := .later }
def CutterLinesUptoCardSaid : Prop := Claim7.holds Tryz.pinned (.plain (OpenSpec.upto cutterLinesSpec)) cutterLinesUptoCard

/-- THE SECOND FORM's CARD OF 'crossroadlaw04.CutterBlank'. -/
def cutterBlankUptoCard : Claim7 := { stood := { row := cutterBlankUptoRow, standIns := [], harness := (true, "8a6fc316adb72d50466b35b2da0b9ce0fe67f3591e45ad8a6def78ce650d4369"), looks := false }, kinds := [], alts := [], laidByText := true, laidKinds := [.data, .data, .data, .data, .data, .data, .data, .pinned], laidTests := true, laidLooks := .later }
def CutterBlankUptoCardSaid : Prop := Claim7.holds Tryz.pinned (.plain (OpenSpec.upto cutterBlankSpec)) cutterBlankUptoCard

/-- THE SECOND FORM's CARD OF 'crossroadlaw04.CutterDone'. -/
def cutterDoneUptoCard : Claim7 := { stood := { row := cutterDoneUptoRow, standIns := [], harness := (true, "8a6fc316adb72d50466b35b2da0b9ce0fe67f3591e45ad8a6def78ce650d4369"), looks := false }, kinds := [], alts := [], laidByText := true, laidKinds := [.data, .data, .data, .data, .data, .data, .data, .pinned], laidTests := true, laidLooks := .later }
def CutterDoneUptoCardSaid : Prop := Claim7.holds Tryz.pinned (.plain (OpenSpec.upto cutterDoneSpec)) cutterDoneUptoCard

/-- THE SECOND FORM's CARD OF 'crossroadlaw04.CutterBodies'. -/
def cutterBodiesUptoCard : Claim7 := { stood := { row := cutterBodiesUptoRow, standIns := [], harness := (true, "8a6fc316adb72d50466b35b2da0b9ce0fe67f3591e45ad8a6def78ce650d4369"), looks := false }, kinds := [], alts := [], laidByText := true, laidKinds := [.data, .data, .data, .data, .data, .data, .data, .pinned], laidTests := true, laidLooks := .later }
def CutterBodiesUptoCardSaid : Prop := Claim7.holds Tryz.pinned (.plain (OpenSpec.upto cutterBodiesSpec)) cutterBodiesUptoCard
end Rows
end Go.Proofs.YtkjlbddaglcooaaGreatDoor
