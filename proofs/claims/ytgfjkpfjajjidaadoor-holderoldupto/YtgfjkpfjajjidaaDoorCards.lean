/-
  DERIVED. GIVEN WITH THE SEED: THE CARDS: each row of YtgfjkpfjajjidaaDoorRows.lean that lists a variable, with what it lists TIED to the program's text (the seventh form; the later family's looks); each row that meets fmt, with fmt's text TOLD by the authors' own Lean function (tested against real Go, not proved from fmt's source: count such statements apart). THE CARD IS WHAT COUNTS. Prove the row's statement (the work); the ties are given (YtgfjkpfjajjidaaDoorTie.lean); close each card by the builder's one call (the guide's Derived/Test/ToyasCard.lean, 'card_holds'). Laid BY PROGRAM, IN A SANDBOX (cutbox-door.mjs). By AI agents, Wed Nov 11 2026. No macro, syntax, notation, axiom, sorry.
-/
import Derived.Test.YtgfjkpfjajjidaaDoorRows
import GoSem.ClaimSeven
namespace Go.Proofs.YtgfjkpfjajjidaaDoor
namespace Rows

/-- THE TIED CARD OF 'crossroadlaw08.TrieParams'. -/
def trieParamsCard : Claim7 := { stood := { row := trieParamsRow, standIns := [], harness := (true, "d14a44522640192bfb888a4948fb0ba09733c863642e7bf01053d8be875eaf61"), looks := false }, kinds := [], alts := [], laidByText := true, laidKinds := [.data], laidTests := true, laidLooks := .later }
def TrieParamsCardSaid : Prop := Claim7.holds Tryd.pinned (.plain (OpenSpec.ofChange trieParamsSpec)) trieParamsCard

/-- THE TIED CARD OF 'crossroadlaw09.HolderSwaps'. -/
def holderSwapsCard : Claim7 := { stood := { row := holderSwapsRow, standIns := [], harness := (true, "d14a44522640192bfb888a4948fb0ba09733c863642e7bf01053d8be875eaf61"), looks := false }, kinds := [], alts := [], laidByText := true, laidKinds := [.data, .data, .pinned], laidTests := true, laidLooks := .later }
def HolderSwapsCardSaid : Prop := Claim7.holds Tryd.pinned (.plain (OpenSpec.ofChange holderSwapsSpec)) holderSwapsCard

/-- THE TIED CARD OF 'crossroadlaw09.HolderVersions'. -/
def holderVersionsCard : Claim7 := { stood := { row := holderVersionsRow, standIns := [], harness := (true, "d14a44522640192bfb888a4948fb0ba09733c863642e7bf01053d8be875eaf61"), looks := false }, kinds := [], alts := [], laidByText := true, laidKinds := [.data, .data, .pinned], laidTests := true, laidLooks := .later }
def HolderVersionsCardSaid : Prop := Claim7.holds Tryd.pinned (.plain (OpenSpec.ofChange holderVersionsSpec)) holderVersionsCard

/-- THE TIED CARD OF 'crossroadlaw09.HolderOld'. -/
def holderOldCard : Claim7 := { stood := { row := holderOldRow, standIns := [], harness := (true, "d14a44522640192bfb888a4948fb0ba09733c863642e7bf01053d8be875eaf61"), looks := false }, kinds := [], alts := [], laidByText := true, laidKinds := [.data, .data, .pinned], laidTests := true, laidLooks := .later }
def HolderOldCardSaid : Prop := Claim7.holds Tryd.pinned (.plain (OpenSpec.ofChange holderOldSpec)) holderOldCard

/-- THE SECOND FORM's CARD OF 'crossroadlaw08.TrieParams'. -/
def trieParamsUptoCard : Claim7 := { stood := { row := trieParamsUptoRow, standIns := [], harness := (true, "d14a44522640192bfb888a4948fb0ba09733c863642e7bf01053d8be875eaf61"), looks := false }, kinds := [], alts := [], laidByText := true, laidKinds := [.data], laidTests := true, laidLooks := .later }
def TrieParamsUptoCardSaid : Prop := Claim7.holds Tryd.pinned (.plain (OpenSpec.upto trieParamsSpec)) trieParamsUptoCard

/-- THE SECOND FORM's CARD OF 'crossroadlaw09.HolderSwaps'. -/
def holderSwapsUptoCard : Claim7 := { stood := { row := holderSwapsUptoRow, standIns := [], harness := (true, "d14a44522640192bfb888a4948fb0ba09733c863642e7bf01053d8be875eaf61"), looks := false }, kinds := [], alts := [], laidByText := true, laidKinds := [.data, .data, .pinned], laidTests := true, laidLooks := .later }
def HolderSwapsUptoCardSaid : Prop := Claim7.holds Tryd.pinned (.plain (OpenSpec.upto holderSwapsSpec)) holderSwapsUptoCard

/-- THE SECOND FORM's CARD OF 'crossroadlaw09.HolderVersions'. -/
def holderVersionsUptoCard : Claim7 := { stood := { row := holderVersionsUptoRow, standIns := [], harness := (true, "d14a44522640192bfb888a4948fb0ba09733c863642e7bf01053d8be875eaf61"), looks := false }, kinds := [], alts := [], laidByText := true, laidKinds := [.data, .data, .pinned], laidTests := true, laidLooks := .later }
def HolderVersionsUptoCardSaid : Prop := Claim7.holds Tryd.pinned (.plain (OpenSpec.upto holderVersionsSpec)) holderVersionsUptoCard

/-- THE SECOND FORM's CARD OF 'crossroadlaw09.HolderOld'. -/
def holderOldUptoCard : Claim7 := { stood := { row := holderOldUptoRow, standIns := [], harness := (true, "d14a44522640192bfb888a4948fb0ba09733c863642e7bf01053d8be875eaf61"), looks := false }, kinds := [], alts := [], laidByText := true, laidKinds := [.data, .data, .pinned], laidTests := true, laidLooks := .later }
def HolderOldUptoCardSaid : Prop := Claim7.holds Tryd.pinned (.plain (OpenSpec.upto holderOldSpec)) holderOldUptoCard
end Rows
end Go.Proofs.YtgfjkpfjajjidaaDoor
