/-
  DERIVED. GIVEN WITH THE SEED: THE CARDS: each row of YtihdjgjceadooaaDoorRows.lean that lists a variable, with what it lists TIED to the program's text (the seventh form; the later family's looks); each row that meets fmt, with fmt's text TOLD by the authors' own Lean function (tested against real Go, not proved from fmt's source: count such statements apart). THE CARD IS WHAT COUNTS. Prove the row's statement (the work); the ties are given (YtihdjgjceadooaaDoorTie.lean); close each card by the builder's one call (the guide's Derived/Test/ToyasCard.lean, 'card_holds'). Laid BY PROGRAM, IN A SANDBOX (cutbox-door.mjs). By AI agents, Wed Nov 11 2026. No macro, syntax, notation, axiom, sorry.
-/
import Derived.Test.YtihdjgjceadooaaDoorRows
import GoSem.ClaimSeven
namespace Go.Proofs.YtihdjgjceadooaaDoor
namespace Rows

/-- THE TIED CARD OF 'crossroadlaw02.HeadFields'. -/
def headFieldsCard : Claim7 := { stood := { row := headFieldsRow, standIns := [], harness := (true, "49d5d16ab5efc07cc9042da86447b91cb277b6b448d80bca013157102160fd26"), looks := false }, kinds := [], alts := [], laidByText := true, laidKinds := [.data, .pinned], laidTests := true, laidLooks := .later }
def HeadFieldsCardSaid : Prop := Claim7.holds Tryd.pinned (.plain (OpenSpec.ofChange headFieldsSpec)) headFieldsCard

/-- THE TIED CARD OF 'crossroadlaw02.HeadMany'. -/
def headManyCard : Claim7 := { stood := { row := headManyRow, standIns := [], harness := (true, "49d5d16ab5efc07cc9042da86447b91cb277b6b448d80bca013157102160fd26"), looks := false }, kinds := [], alts := [], laidByText := true, laidKinds := [.data, .pinned], laidTests := true, laidLooks := .later }
def HeadManyCardSaid : Prop := Claim7.holds Tryd.pinned (.plain (OpenSpec.ofChange headManySpec)) headManyCard

/-- THE TIED CARD OF 'crossroadlaw02.HeadFirst'. -/
def headFirstCard : Claim7 := { stood := { row := headFirstRow, standIns := [], harness := (true, "49d5d16ab5efc07cc9042da86447b91cb277b6b448d80bca013157102160fd26"), looks := false }, kinds := [], alts := [], laidByText := true, laidKinds := [.data, .pinned], laidTests := true, laidLooks := .later }
def HeadFirstCardSaid : Prop := Claim7.holds Tryd.pinned (.plain (OpenSpec.ofChange headFirstSpec)) headFirstCard

/-- THE TIED CARD OF 'crossroadlaw02.HeadClose'. -/
def headCloseCard : Claim7 := { stood := { row := headCloseRow, standIns := [], harness := (true, "49d5d16ab5efc07cc9042da86447b91cb277b6b448d80bca013157102160fd26"), looks := false }, kinds := [], alts := [], laidByText := true, laidKinds := [.data, .pinned], laidTests := true, laidLooks := .later }
def HeadCloseCardSaid : Prop := Claim7.holds Tryd.pinned (.plain (OpenSpec.ofChange headCloseSpec)) headCloseCard

/-- THE TIED CARD OF 'crossroadlaw02.HeadLengths'. -/
def headLengthsCard : Claim7 := { stood := { row := headLengthsRow, standIns := [], harness := (true, "49d5d16ab5efc07cc9042da86447b91cb277b6b448d80bca013157102160fd26"), looks := false }, kinds := [], alts := [], laidByText := true, laidKinds := [.data, .pinned], laidTests := true, laidLooks := .later }
def HeadLengthsCardSaid : Prop := Claim7.holds Tryd.pinned (.plain (OpenSpec.ofChange headLengthsSpec)) headLengthsCard

/-- THE TIED CARD OF 'crossroadlaw02.HeadNames'. -/
def headNamesCard : Claim7 := { stood := { row := headNamesRow, standIns := [], harness := (true, "49d5d16ab5efc07cc9042da86447b91cb277b6b448d80bca013157102160fd26"), looks := false }, kinds := [], alts := [], laidByText := true, laidKinds := [.data, .pinned], laidTests := true, laidLooks := .later }
def HeadNamesCardSaid : Prop := Claim7.holds Tryd.pinned (.plain (OpenSpec.ofChange headNamesSpec)) headNamesCard

/-- THE SECOND FORM's CARD OF 'crossroadlaw02.HeadFields'. -/
def headFieldsUptoCard : Claim7 := { stood := { row := headFieldsUptoRow, standIns := [], harness := (true, "49d5d16ab5efc07cc9042da86447b91cb277b6b448d80bca013157102160fd26"), looks := false }, kinds := [], alts := [], laidByText := true, laidKinds := [.data, .pinned], laidTests := true, laidLooks := .later }
def HeadFieldsUptoCardSaid : Prop := Claim7.holds Tryd.pinned (.plain (OpenSpec.upto headFieldsSpec)) headFieldsUptoCard

/-- THE SECOND FORM's CARD OF 'crossroadlaw02.HeadMany'. -/
def headManyUptoCard : Claim7 := { stood := { row := headManyUptoRow, standIns := [], harness := (true, "49d5d16ab5efc07cc9042da86447b91cb277b6b448d80bca013157102160fd26"), looks := false }, kinds := [], alts := [], laidByText := true, laidKinds := [.data, .pinned], laidTests := true, laidLooks := .later }
def HeadManyUptoCardSaid : Prop := Claim7.holds Tryd.pinned (.plain (OpenSpec.upto headManySpec)) headManyUptoCard

/-- THE SECOND FORM's CARD OF 'crossroadlaw02.HeadFirst'. -/
def headFirstUptoCard : Claim7 := { stood := { row := headFirstUptoRow, standIns := [], harness := (true, "49d5d16ab5efc07cc9042da86447b91cb277b6b448d80bca013157102160fd26"), looks := false }, kinds := [], alts := [], laidByText := true, laidKinds := [.data, .pinned], laidTests := true, laidLooks := .later }
def HeadFirstUptoCardSaid : Prop := Claim7.holds Tryd.pinned (.plain (OpenSpec.upto headFirstSpec)) headFirstUptoCard

/-- THE SECOND FORM's CARD OF 'crossroadlaw02.HeadClose'. -/
def headCloseUptoCard : Claim7 := { stood := { row := headCloseUptoRow, standIns := [], harness := (true, "49d5d16ab5efc07cc9042da86447b91cb277b6b448d80bca013157102160fd26"), looks := false }, kinds := [], alts := [], laidByText := true, laidKinds := [.data, .pinned], laidTests := true, laidLooks := .later }
def HeadCloseUptoCardSaid : Prop := Claim7.holds Tryd.pinned (.plain (OpenSpec.upto headCloseSpec)) headCloseUptoCard

/-- THE SECOND FORM's CARD OF 'crossroadlaw02.HeadLengths'. -/
def headLengthsUptoCard : Claim7 := { stood := { row := headLengthsUptoRow, standIns := [], harness := (true, "49d5d16ab5efc07cc9042da86447b91cb277b6b448d80bca013157102160fd26"), looks := false }, kinds := [], alts := [], laidByText := true, laidKinds := [.data, .pinned], laidTests := true, laidLooks := .later }
def HeadLengthsUptoCardSaid : Prop := Claim7.holds Tryd.pinned (.plain (OpenSpec.upto headLengthsSpec)) headLengthsUptoCard

/-- THE SECOND FORM's CARD OF 'crossroadlaw02.HeadNames'. -/
def headNamesUptoCard : Claim7 := { stood := { row := headNamesUptoRow, standIns := [], harness := (true, "49d5d16ab5efc07cc9042da86447b91cb277b6b448d80bca013157102160fd26"), looks := false }, kinds := [], alts := [], laidByText := true, laidKinds := [.data, .pinned], laidTests := true, laidLooks := .later }
def HeadNamesUptoCardSaid : Prop := Claim7.holds Tryd.pinned (.plain (OpenSpec.upto headNamesSpec)) headNamesUptoCard
end Rows
end Go.Proofs.YtihdjgjceadooaaDoor
