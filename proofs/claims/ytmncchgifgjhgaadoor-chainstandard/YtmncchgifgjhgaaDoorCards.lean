/-
  DERIVED. GIVEN WITH THE SEED: THE CARDS: each row of YtmncchgifgjhgaaDoorRows.lean that lists a variable, with what it lists TIED to the program's text (the seventh form; the later family's looks); each row that meets fmt, with fmt's text TOLD by the authors' own Lean function (tested against real Go, not proved from fmt's source: count such statements apart). THE CARD IS WHAT COUNTS. Prove the row's statement (the work); the ties are given (YtmncchgifgjhgaaDoorTie.lean); close each card by the builder's one call (the guide's Derived/Test/ToyasCard.lean, 'card_holds'). Laid BY PROGRAM, IN A SANDBOX (cutbox-door.mjs). By AI agents, Wed Nov 11 2026. No macro, syntax, notation, axiom, sorry.
-/
import Derived.Test.YtmncchgifgjhgaaDoorRows
import GoSem.ClaimSeven
namespace Go.Proofs.YtmncchgifgjhgaaDoor
namespace Rows

/-- THE TIED CARD OF 'crossroadlaw12.ChainStandard'. -/
def chainStandardCard : Claim7 := { stood := { row := chainStandardRow, standIns := [], harness := (true, "a0f128f2406c83ecbfb65fdbe19ba07906a763d3216b854e93f69ca095203ebd"), looks := false }, kinds := [], alts := [], laidByText := true, laidKinds := [.data, .data, .data], laidTests := true, laidLooks := .later }
def ChainStandardCardSaid : Prop := Claim7.holds Tryd.pinned (.plain (OpenSpec.ofChange chainStandardSpec)) chainStandardCard

/-- THE TIED CARD OF 'crossroadlaw12.ChainOrders'. -/
def chainOrdersCard : Claim7 := { stood := { row := chainOrdersRow, standIns := [], harness := (true, "a0f128f2406c83ecbfb65fdbe19ba07906a763d3216b854e93f69ca095203ebd"), looks := false }, kinds := [], alts := [], laidByText := true, laidKinds := [.data, .data, .data], laidTests := true, laidLooks := .later }
def ChainOrdersCardSaid : Prop := Claim7.holds Tryd.pinned (.plain (OpenSpec.ofChange chainOrdersSpec)) chainOrdersCard

/-- THE TIED CARD OF 'crossroadlaw12.ChainLinks'. -/
def chainLinksCard : Claim7 := { stood := { row := chainLinksRow, standIns := [], harness := (true, "a0f128f2406c83ecbfb65fdbe19ba07906a763d3216b854e93f69ca095203ebd"), looks := false }, kinds := [], alts := [], laidByText := true, laidKinds := [.data, .data, .data], laidTests := true, laidLooks := .later }
def ChainLinksCardSaid : Prop := Claim7.holds Tryd.pinned (.plain (OpenSpec.ofChange chainLinksSpec)) chainLinksCard

/-- THE TIED CARD OF 'crossroadlaw12.ChainMarks'. -/
def chainMarksCard : Claim7 := { stood := { row := chainMarksRow, standIns := [], harness := (true, "a0f128f2406c83ecbfb65fdbe19ba07906a763d3216b854e93f69ca095203ebd"), looks := false }, kinds := [], alts := [], laidByText := true, laidKinds := [.data, .data, .data], laidTests := true, laidLooks := .later }
def ChainMarksCardSaid : Prop := Claim7.holds Tryd.pinned (.plain (OpenSpec.ofChange chainMarksSpec)) chainMarksCard

/-- THE TIED CARD OF 'crossroadlaw12.ChainSafe'. -/
def chainSafeCard : Claim7 := { stood := { row := chainSafeRow, standIns := [], harness := (true, "a0f128f2406c83ecbfb65fdbe19ba07906a763d3216b854e93f69ca095203ebd"), looks := false }, kinds := [], alts := [], laidByText := true, laidKinds := [.data, .data, .data], laidTests := true, laidLooks := .later }
def ChainSafeCardSaid : Prop := Claim7.holds Tryd.pinned (.plain (OpenSpec.ofChange chainSafeSpec)) chainSafeCard

/-- THE TIED CARD OF 'crossroadlaw12.ChainAlone'. -/
def chainAloneCard : Claim7 := { stood := { row := chainAloneRow, standIns := [], harness := (true, "a0f128f2406c83ecbfb65fdbe19ba07906a763d3216b854e93f69ca095203ebd"), looks := false }, kinds := [], alts := [], laidByText := true, laidKinds := [.data, .data, .data], laidTests := true, laidLooks := .later }
def ChainAloneCardSaid : Prop := Claim7.holds Tryd.pinned (.plain (OpenSpec.ofChange chainAloneSpec)) chainAloneCard

/-- THE SECOND FORM's CARD OF 'crossroadlaw12.ChainStandard'. -/
def chainStandardUptoCard : Claim7 := { stood := { row := chainStandardUptoRow, standIns := [], harness := (true, "a0f128f2406c83ecbfb65fdbe19ba07906a763d3216b854e93f69ca095203ebd"), looks := false }, kinds := [], alts := [], laidByText := true, laidKinds := [.data, .data, .data], laidTests := true, laidLooks := .later }
def ChainStandardUptoCardSaid : Prop := Claim7.holds Tryd.pinned (.plain (OpenSpec.upto chainStandardSpec)) chainStandardUptoCard

/-- THE SECOND FORM's CARD OF 'crossroadlaw12.ChainOrders'. -/
def chainOrdersUptoCard : Claim7 := { stood := { row := chainOrdersUptoRow, standIns := [], harness := (true, "a0f128f2406c83ecbfb65fdbe19ba07906a763d3216b854e93f69ca095203ebd"), looks := false }, kinds := [], alts := [], laidByText := true, laidKinds := [.data, .data, .data], laidTests := true, laidLooks := .later }
def ChainOrdersUptoCardSaid : Prop := Claim7.holds Tryd.pinned (.plain (OpenSpec.upto chainOrdersSpec)) chainOrdersUptoCard

/-- THE SECOND FORM's CARD OF 'crossroadlaw12.ChainLinks'. -/
def chainLinksUptoCard : Claim7 := { stood := { row := chainLinksUptoRow, standIns := [], harness := (true, "a0f128f2406c83ecbfb65fdbe19ba07906a763d3216b854e93f69ca095203ebd"), looks := false }, kinds := [], alts := [], laidByText := true, laidKinds := [.data, .data, .data], laidTests := true, laidLooks := .later }
def ChainLinksUptoCardSaid : Prop := Claim7.holds Tryd.pinned (.plain (OpenSpec.upto chainLinksSpec)) chainLinksUptoCard

/-- THE SECOND FORM's CARD OF 'crossroadlaw12.ChainMarks'. -/
def chainMarksUptoCard : Claim7 := { stood := { row := chainMarksUptoRow, standIns := [], harness := (true, "a0f128f2406c83ecbfb65fdbe19ba07906a763d3216b854e93f69ca095203ebd"), looks := false }, kinds := [], alts := [], laidByText := true, laidKinds := [.data, .data, .data], laidTests := true, laidLooks := .later }
def ChainMarksUptoCardSaid : Prop := Claim7.holds Tryd.pinned (.plain (OpenSpec.upto chainMarksSpec)) chainMarksUptoCard

/-- THE SECOND FORM's CARD OF 'crossroadlaw12.ChainSafe'. -/
def chainSafeUptoCard : Claim7 := { stood := { row := chainSafeUptoRow, standIns := [], harness := (true, "a0f128f2406c83ecbfb65fdbe19ba07906a763d3216b854e93f69ca095203ebd"), looks := false }, kinds := [], alts := [], laidByText := true, laidKinds := [.data, .data, .data], laidTests := true, laidLooks := .later }
def ChainSafeUptoCardSaid : Prop := Claim7.holds Tryd.pinned (.plain (OpenSpec.upto chainSafeSpec)) chainSafeUptoCard

/-- THE SECOND FORM's CARD OF 'crossroadlaw12.ChainAlone'. -/
def chainAloneUptoCard : Claim7 := { stood := { row := chainAloneUptoRow, standIns := [], harness := (true, "a0f128f2406c83ecbfb65fdbe19ba07906a763d3216b854e93f69ca095203ebd"), looks := false }, kinds := [], alts := [], laidByText := true, laidKinds := [.data, .data, .data], laidTests := true, laidLooks := .later }
def ChainAloneUptoCardSaid : Prop := Claim7.holds Tryd.pinned (.plain (OpenSpec.upto chainAloneSpec)) chainAloneUptoCard
end Rows
end Go.Proofs.YtmncchgifgjhgaaDoor
