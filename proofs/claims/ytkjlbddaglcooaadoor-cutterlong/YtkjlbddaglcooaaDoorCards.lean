/-
  DERIVED. GIVEN WITH THE SEED: THE CARDS: each row of YtkjlbddaglcooaaDoorRows.lean that lists a variable, with what it lists TIED to the program's text (the seventh form; the later family's looks); each row that meets fmt, with fmt's text TOLD by the authors' own Lean function (tested against real Go, not proved from fmt's source: count such statements apart). THE CARD IS WHAT COUNTS. Prove the row's statement (the work); the ties are given (YtkjlbddaglcooaaDoorTie.lean); close each card by the builder's one call (the guide's Derived/Test/ToyasCard.lean, 'card_holds'). Laid BY PROGRAM, IN A SANDBOX (cutbox-door.mjs). By AI agents, Wed Nov 11 2026. No macro, syntax, notation, axiom, sorry.
-/
import Derived.Test.YtkjlbddaglcooaaDoorRows
import GoSem.ClaimSeven
namespace Go.Proofs.YtkjlbddaglcooaaDoor
namespace Rows

/-- THE TIED CARD OF 'crossroadlaw04.CutterParts'. -/
def cutterPartsCard : Claim7 := { stood := { row := cutterPartsRow, standIns := [], harness := (true, "beb03095fcc600199da9a2fea1da8008736d41a4bf6ad5306c7939c36e05fc74"), looks := false }, kinds := [], alts := [], laidByText := true, laidKinds := [.data, .pinned], laidTests := true, laidLooks := .later }
def CutterPartsCardSaid : Prop := Claim7.holds Tryd.pinned (.plain (OpenSpec.ofChange cutterPartsSpec)) cutterPartsCard

/-- THE TIED CARD OF 'crossroadlaw04.CutterLong'. -/
def cutterLongCard : Claim7 := { stood := { row := cutterLongRow, standIns := [], harness := (true, "beb03095fcc600199da9a2fea1da8008736d41a4bf6ad5306c7939c36e05fc74"), looks := false }, kinds := [], alts := [], laidByText := true, laidKinds := [.data, .pinned], laidTests := true, laidLooks := .later }
def CutterLongCardSaid : Prop := Claim7.holds Tryd.pinned (.plain (OpenSpec.ofChange cutterLongSpec)) cutterLongCard

/-- THE TIED CARD OF 'crossroadlaw04.CutterGrows'. -/
def cutterGrowsCard : Claim7 := { stood := { row := cutterGrowsRow, standIns := [], harness := (true, "beb03095fcc600199da9a2fea1da8008736d41a4bf6ad5306c7939c36e05fc74"), looks := false }, kinds := [], alts := [], laidByText := true, laidKinds := [.data, .pinned], laidTests := true, laidLooks := .later }
def CutterGrowsCardSaid : Prop := Claim7.holds Tryd.pinned (.plain (OpenSpec.ofChange cutterGrowsSpec)) cutterGrowsCard

/-- THE SECOND FORM's CARD OF 'crossroadlaw04.CutterParts'. -/
def cutterPartsUptoCard : Claim7 := { stood := { row := cutterPartsUptoRow, standIns := [], harness := (true, "beb03095fcc600199da9a2fea1da8008736d41a4bf6ad5306c7939c36e05fc74"), looks := false }, kinds := [], alts := [], laidByText := true, laidKinds := [.data, .pinned], laidTests := true, laidLooks := .later }
def CutterPartsUptoCardSaid : Prop := Claim7.holds Tryd.pinned (.plain (OpenSpec.upto cutterPartsSpec)) cutterPartsUptoCard

/-- THE SECOND FORM's CARD OF 'crossroadlaw04.CutterLong'. -/
def cutterLongUptoCard : Claim7 := { stood := { row := cutterLongUptoRow, standIns := [], harness := (true, "beb03095fcc600199da9a2fea1da8008736d41a4bf6ad5306c7939c36e05fc74"), looks := false }, kinds := [], alts := [], laidByText := true, laidKinds := [.data, .pinned], laidTests := true, laidLooks := .later }
def CutterLongUptoCardSaid : Prop := Claim7.holds Tryd.pinned (.plain (OpenSpec.upto cutterLongSpec)) cutterLongUptoCard

/-- THE SECOND FORM's CARD OF 'crossroadlaw04.CutterGrows'. -/
def cutterGrowsUptoCard : Claim7 := { stood := { row := cutterGrowsUptoRow, standIns := [], harness := (true, "beb03095fcc600199da9a2fea1da8008736d41a4bf6ad5306c7939c36e05fc74"), looks := false }, kinds := [], alts := [], laidByText := true, laidKinds := [.data, .pinned], laidTests := true, laidLooks := .later }
def CutterGrowsUptoCardSaid : Prop := Claim7.holds Tryd.pinned (.plain (OpenSpec.upto cutterGrowsSpec)) cutterGrowsUptoCard
end Rows
end Go.Proofs.YtkjlbddaglcooaaDoor
