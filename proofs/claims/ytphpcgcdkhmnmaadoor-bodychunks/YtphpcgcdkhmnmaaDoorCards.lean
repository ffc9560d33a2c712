/-
  DERIVED. GIVEN WITH THE SEED: THE CARDS: each row of YtphpcgcdkhmnmaaDoorRows.lean that lists a variable, with what it lists TIED to the program's text (the seventh form; the later family's looks); each row that meets fmt, with fmt's text TOLD by the authors' own Lean function (tested against real Go, not proved from fmt's source: count such statements apart). THE CARD IS WHAT COUNTS. Prove the row's statement (the work); the ties are given (YtphpcgcdkhmnmaaDoorTie.lean); close each card by the builder's one call (the guide's Derived/Test/ToyasCard.lean, 'card_holds'). Laid BY PROGRAM, IN A SANDBOX (cutbox-door.mjs). By AI agents, Wed Nov 11 2026. No macro, syntax, notation, axiom, sorry.
-/
import Derived.Test.YtphpcgcdkhmnmaaDoorRows
import GoSem.ClaimSeven
namespace Go.Proofs.YtphpcgcdkhmnmaaDoor
namespace Rows

/-- THE TIED CARD OF 'crossroadlaw03.BodyChunks'. -/
def bodyChunksCard : Claim7 := { stood := { row := bodyChunksRow, standIns := [], harness := (true, "76a22467e32fee3e8b461f459b67a7503a84f85efde39a528f8d84a7e2843137"), looks := false }, kinds := [], alts := [], laidByText := true, laidKinds := [.data, .data, .data], laidTests := true, laidLooks := .later }
def BodyChunksCardSaid : Prop := Claim7.holds Tryd.pinned (.plain (OpenSpec.ofChange bodyChunksSpec)) bodyChunksCard

/-- THE TIED CARD OF 'crossroadlaw03.BodyTrailers'. -/
def bodyTrailersCard : Claim7 := { stood := { row := bodyTrailersRow, standIns := [], harness := (true, "76a22467e32fee3e8b461f459b67a7503a84f85efde39a528f8d84a7e2843137"), looks := false }, kinds := [], alts := [], laidByText := true, laidKinds := [.data, .data, .data], laidTests := true, laidLooks := .later }
def BodyTrailersCardSaid : Prop := Claim7.holds Tryd.pinned (.plain (OpenSpec.ofChange bodyTrailersSpec)) bodyTrailersCard

/-- THE SECOND FORM's CARD OF 'crossroadlaw03.BodyChunks'. -/
def bodyChunksUptoCard : Claim7 := { stood := { row := bodyChunksUptoRow, standIns := [], harness := (true, "76a22467e32fee3e8b461f459b67a7503a84f85efde39a528f8d84a7e2843137"), looks := false }, kinds := [], alts := [], laidByText := true, laidKinds := [.data, .data, .data], laidTests := true, laidLooks := .later }
def BodyChunksUptoCardSaid : Prop := Claim7.holds Tryd.pinned (.plain (OpenSpec.upto bodyChunksSpec)) bodyChunksUptoCard

/-- THE SECOND FORM's CARD OF 'crossroadlaw03.BodyTrailers'. -/
def bodyTrailersUptoCard : Claim7 := { stood := { row := bodyTrailersUptoRow, standIns := [], harness := (true, "76a22467e32fee3e8b461f459b67a7503a84f85efde39a528f8d84a7e2843137"), looks := false }, kinds := [], alts := [], laidByText := true, laidKinds := [.data, .data, .data], laidTests := true, laidLooks := .later }
def BodyTrailersUptoCardSaid : Prop := Claim7.holds Tryd.pinned (.plain (OpenSpec.upto bodyTrailersSpec)) bodyTrailersUptoCard
end Rows
end Go.Proofs.YtphpcgcdkhmnmaaDoor
