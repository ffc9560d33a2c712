/-
  NARROWER THAN 'FOR EVERY INPUT', by the rows' own cells (each row's printed sentence says how): TrieParams: laid · HolderSwaps: laid · HolderVersions: laid · HolderOld: laid.
  DERIVED. THE GIVEN ROWS OF THIS SEAT. 4 by the template 'for every input the law returns true; each argument reads behind the call as it read before'; 0 by the template 'total and deterministic' (their statements: YtgfjkpfjajjidaaDoorTotals.lean).
  GIVEN WITH THE SEED: the statements are not yours to turn. If you find one false, say at which input.
  Laid BY PROGRAM, IN A SANDBOX (cutbox-rows.mjs): the forced cells as the released guide's own fill.sh prints them over the translation b9657763d91d5d9f… (all of the seat's roots in one cut). By AI agents, Wed Nov 11 2026. No macro, syntax, notation, axiom, sorry.
-/
import Derived.Test.YtgfjkpfjajjidaaDoorChecked
import GoSem.PinnedTables
import GoSem.Claim
import GoSem.ClaimJoined
import GoSem.ClaimMapViews
import Derived.JoinedTies
import Derived.KernelRfl
namespace Go.Proofs.YtgfjkpfjajjidaaDoor
/- THE CELL 'sum', in the pinned program and in every row, IS THE sha256 OF THE DUMP (.gsa) THAT YtgfjkpfjajjidaaDoorProg.lean LOADS. Nothing in Lean hashes anything: it is a label: what it is worth is what the hold of that sum in a sandbox is worth. -/
noncomputable def Tryd.pinned : Pinned := { name := "ytgfjkpfjajjidaadoor", sum := "b9657763d91d5d9f7e37122fb63747ce479e1296b6528462b2b6f3f59c7f4005", checked := Tryd.checked }
namespace Rows
def none {H : Type} : Left H := { results := [], args := [] }

/- WHAT THE LISTED PACKAGE-LEVEL VARIABLES READ AS WHEN THE CALL BEGINS. Each datum BY PROGRAM (the guide's laid-datum.mjs) off the statement by which the dump's own 'gosem.cut.vars' lays the variable. In a bare row this is a premise. The card (YtgfjkpfjajjidaaDoorCards.lean) ties it to the program's text. -/
def laid_crossroad_table_Handlers {H : Type} : DataW H := .agg [.lit (.string [103, 101, 116]), .lit (.string [112, 117, 116]), .lit (.string [100, 101, 108, 101, 116, 101]), .lit (.string [108, 105, 115, 116]), .lit (.string [119, 97, 108, 107]), .lit (.string [104, 101, 97, 108, 116, 104]), .lit (.string [114, 101, 108, 111, 97, 100]), .lit (.string [115, 104, 117, 116, 100, 111, 119, 110])]
def laid_unicode_utf8_acceptRanges {H : Type} : DataW H := .agg [.agg [.lit (.int .u8 128), .lit (.int .u8 191)], .agg [.lit (.int .u8 160), .lit (.int .u8 191)], .agg [.lit (.int .u8 128), .lit (.int .u8 159)], .agg [.lit (.int .u8 144), .lit (.int .u8 191)], .agg [.lit (.int .u8 128), .lit (.int .u8 143)], .agg [.lit (.int .u8 0), .lit (.int .u8 0)], .agg [.lit (.int .u8 0), .lit (.int .u8 0)], .agg [.lit (.int .u8 0), .lit (.int .u8 0)], .agg [.lit (.int .u8 0), .lit (.int .u8 0)], .agg [.lit (.int .u8 0), .lit (.int .u8 0)], .agg [.lit (.int .u8 0), .lit (.int .u8 0)], .agg [.lit (.int .u8 0), .lit (.int .u8 0)], .agg [.lit (.int .u8 0), .lit (.int .u8 0)], .agg [.lit (.int .u8 0), .lit (.int .u8 0)], .agg [.lit (.int .u8 0), .lit (.int .u8 0)], .agg [.lit (.int .u8 0), .lit (.int .u8 0)]]
/-- One of Go's own tables, pinned by name: the form's constant. -/
def laid_unicode_utf8_first : DataW Unit := Go.Pinned.utf8First

/-- 'crossroadlaw08.TrieParams': WHATEVER THE INPUT: true; the input reads as it did. -/
def trieParamsSpec : ChangeSpec := { name := "trieParams", fn := fun _ => fun
  | [d1, d2] => { results := [.lit (.bool true)], args := [d1, d2] }
  | _ => none }
def trieParamsRow : OpenClaim := { program := "ytgfjkpfjajjidaadoor", sum := "b9657763d91d5d9f7e37122fb63747ce479e1296b6528462b2b6f3f59c7f4005", func := "crossroad/crossroadlaw08.TrieParams", spec := "trieParams", inPlace := ["internal/bytealg.IndexByteString", "internal/bytealg.IndexString", "internal/abi.NoEscape", "internal/bytealg.MakeNoZero"], unfollowed := true, recurses := true, named := ["internal/bytealg.MaxLen", "crossroad/table.Handlers"], apart := false, laid := [("crossroad/table.Handlers", laid_crossroad_table_Handlers)] }
def TrieParamsSaid : Prop := trieParamsRow.holds Tryd.pinned (OpenSpec.ofChange trieParamsSpec)

/-- ITS FALSE NEIGHBOUR: 'it returns false'. Refute it at one input. -/
def trieParamsWrong : ChangeSpec := { name := "trieParams", fn := fun _ => fun
  | [d1, d2] => { results := [.lit (.bool false)], args := [d1, d2] }
  | _ => none }
def TrieParamsWrongFalsely : Prop := trieParamsRow.holds Tryd.pinned (OpenSpec.ofChange trieParamsWrong)

/-- 'crossroadlaw09.HolderSwaps': WHATEVER THE INPUT: true; the input reads as it did. -/
def holderSwapsSpec : ChangeSpec := { name := "holderSwaps", fn := fun _ => fun
  | [d1, d2] => { results := [.lit (.bool true)], args := [d1, d2] }
  | _ => none }
def holderSwapsRow : OpenClaim := { program := "ytgfjkpfjajjidaadoor", sum := "b9657763d91d5d9f7e37122fb63747ce479e1296b6528462b2b6f3f59c7f4005", func := "crossroad/crossroadlaw09.HolderSwaps", spec := "holderSwaps", inPlace := ["internal/bytealg.IndexByteString", "internal/bytealg.IndexString", "internal/abi.NoEscape", "internal/bytealg.MakeNoZero"], unfollowed := true, recurses := true, named := ["internal/bytealg.MaxLen", "crossroad/table.Handlers", "unicode/utf8.first", "unicode/utf8.acceptRanges"], apart := false, laid := [("unicode/utf8.acceptRanges", laid_unicode_utf8_acceptRanges), ("crossroad/table.Handlers", laid_crossroad_table_Handlers), ("unicode/utf8.first", laid_unicode_utf8_first)] }
def HolderSwapsSaid : Prop := holderSwapsRow.holds Tryd.pinned (OpenSpec.ofChange holderSwapsSpec)

/-- ITS FALSE NEIGHBOUR: 'it returns false'. Refute it at one input. -/
def holderSwapsWrong : ChangeSpec := { name := "holderSwaps", fn := fun _ => fun
  | [d1, d2] => { results := [.lit (.bool false)], args := [d1, d2] }
  | _ => none }
def HolderSwapsWrongFalsely : Prop := holderSwapsRow.holds Tryd.pinned (OpenSpec.ofChange holderSwapsWrong)

/-- 'crossroadlaw09.HolderVersions': WHATEVER THE INPUT: true; the input reads as it did. -/
def holderVersionsSpec : ChangeSpec := { name := "holderVersions", fn := fun _ => fun
  | [d] => { results := [.lit (.bool true)], args := [d] }
  | _ => none }
def holderVersionsRow : OpenClaim := { program := "ytgfjkpfjajjidaadoor", sum := "b9657763d91d5d9f7e37122fb63747ce479e1296b6528462b2b6f3f59c7f4005", func := "crossroad/crossroadlaw09.HolderVersions", spec := "holderVersions", inPlace := ["internal/bytealg.IndexByteString", "internal/bytealg.IndexString", "internal/abi.NoEscape"], unfollowed := true, recurses := true, named := ["internal/bytealg.MaxLen", "crossroad/table.Handlers", "unicode/utf8.first", "unicode/utf8.acceptRanges"], apart := false, laid := [("unicode/utf8.acceptRanges", laid_unicode_utf8_acceptRanges), ("crossroad/table.Handlers", laid_crossroad_table_Handlers), ("unicode/utf8.first", laid_unicode_utf8_first)] }
def HolderVersionsSaid : Prop := holderVersionsRow.holds Tryd.pinned (OpenSpec.ofChange holderVersionsSpec)

/-- ITS FALSE NEIGHBOUR: 'it returns false'. Refute it at one input. -/
def holderVersionsWrong : ChangeSpec := { name := "holderVersions", fn := fun _ => fun
  | [d] => { results := [.lit (.bool false)], args := [d] }
  | _ => none }
def HolderVersionsWrongFalsely : Prop := holderVersionsRow.holds Tryd.pinned (OpenSpec.ofChange holderVersionsWrong)

/-- 'crossroadlaw09.HolderOld': WHATEVER THE INPUT: true; the input reads as it did. -/
def holderOldSpec : ChangeSpec := { name := "holderOld", fn := fun _ => fun
  | [d1, d2] => { results := [.lit (.bool true)], args := [d1, d2] }
  | _ => none }
def holderOldRow : OpenClaim := { program := "ytgfjkpfjajjidaadoor", sum := "b9657763d91d5d9f7e37122fb63747ce479e1296b6528462b2b6f3f59c7f4005", func := "crossroad/crossroadlaw09.HolderOld", spec := "holderOld", inPlace := ["internal/bytealg.IndexByteString", "internal/bytealg.IndexString", "internal/abi.NoEscape", "internal/bytealg.MakeNoZero"], unfollowed := true, recurses := true, named := ["internal/bytealg.MaxLen", "crossroad/table.Handlers", "unicode/utf8.first", "unicode/utf8.acceptRanges"], apart := false, laid := [("unicode/utf8.acceptRanges", laid_unicode_utf8_acceptRanges), ("crossroad/table.Handlers", laid_crossroad_table_Handlers), ("unicode/utf8.first", laid_unicode_utf8_first)] }
def HolderOldSaid : Prop := holderOldRow.holds Tryd.pinned (OpenSpec.ofChange holderOldSpec)

/-- ITS FALSE NEIGHBOUR: 'it returns false'. Refute it at one input. -/
def holderOldWrong : ChangeSpec := { name := "holderOld", fn := fun _ => fun
  | [d1, d2] => { results := [.lit (.bool false)], args := [d1, d2] }
  | _ => none }
def HolderOldWrongFalsely : Prop := holderOldRow.holds Tryd.pinned (OpenSpec.ofChange holderOldWrong)

/- THE SECOND FORM. 'bulk': how many values and letters a reading holds, each counted each time it is reached (what is shared counts as often as it is met; a slice's spare places count too). A statement '..UptoSaid' is the law's where the arguments, and the package variables that the reading takes, are together of bulk at most 1048576: NARROWER than '..Said'. Prove '..Said' where nothing that the law and all that it calls make is longer than what came in: it says more and counts as full. Else prove '..UptoSaid'. A law counts once. -/
mutual
def uptoBulk {H : Type} : DataW H → Nat
  | .lit (.string bytes) => bytes.length + 1
  | .lit _ => 1
  | .nil => 1
  | .ptr d => uptoBulk d + 1
  | .slice elems spare => uptoBulkAll elems + uptoBulkAll spare + 1
  | .agg parts => uptoBulkAll parts + 1
  | .iface _ d => uptoBulk d + 1
  | .map entries => uptoBulkEntries entries + 1
  | .held _ => 1
def uptoBulkAll {H : Type} : List (DataW H) → Nat
  | [] => 0
  | d :: r => uptoBulk d + uptoBulkAll r
def uptoBulkEntries {H : Type} : List (Lit × DataW H) → Nat
  | [] => 0
  | x :: r => uptoBulkEntry x + uptoBulkEntries r
def uptoBulkEntry {H : Type} : Lit × DataW H → Nat
  | (.string bytes, d) => bytes.length + uptoBulk d + 1
  | (_, d) => uptoBulk d + 1
 end
def uptoSmall : (H : Type) → List (DataW H) → Bool := fun _ ds => decide (uptoBulkAll ds ≤ 1048576)
def OpenSpec.upto (s : _root_.Go.ChangeSpec) : _root_.Go.OpenSpec := { _root_.Go.OpenSpec.ofChange s with cond := some uptoSmall }

/-- 'crossroadlaw08.TrieParams', WHERE WHAT IT READS IS OF BULK AT MOST 1048576: true; the input reads as it did. -/
def trieParamsUptoRow : OpenClaim := { program := "ytgfjkpfjajjidaadoor", sum := "b9657763d91d5d9f7e37122fb63747ce479e1296b6528462b2b6f3f59c7f4005", func := "crossroad/crossroadlaw08.TrieParams", spec := "trieParams", inPlace := ["internal/bytealg.IndexByteString", "internal/bytealg.IndexString", "internal/abi.NoEscape", "internal/bytealg.MakeNoZero"], unfollowed := true, recurses := true, named := ["internal/bytealg.MaxLen", "crossroad/table.Handlers"], apart := false, laid := [("crossroad/table.Handlers", laid_crossroad_table_Handlers)], narrowed := true }
def TrieParamsUptoSaid : Prop := trieParamsUptoRow.holds Tryd.pinned (OpenSpec.upto trieParamsSpec)

/-- 'crossroadlaw09.HolderSwaps', WHERE WHAT IT READS IS OF BULK AT MOST 1048576: true; the input reads as it did. -/
def holderSwapsUptoRow : OpenClaim := { program := "ytgfjkpfjajjidaadoor", sum := "b9657763d91d5d9f7e37122fb63747ce479e1296b6528462b2b6f3f59c7f4005", func := "crossroad/crossroadlaw09.HolderSwaps", spec := "holderSwaps", inPlace := ["internal/bytealg.IndexByteString", "internal/bytealg.IndexString", "internal/abi.NoEscape", "internal/bytealg.MakeNoZero"], unfollowed := true, recurses := true, named := ["internal/bytealg.MaxLen", "crossroad/table.Handlers", "unicode/utf8.first", "unicode/utf8.acceptRanges"], apart := false, laid := [("unicode/utf8.acceptRanges", laid_unicode_utf8_acceptRanges), ("crossroad/table.Handlers", laid_crossroad_table_Handlers), ("unicode/utf8.first", laid_unicode_utf8_first)], narrowed := true }
def HolderSwapsUptoSaid : Prop := holderSwapsUptoRow.holds Tryd.pinned (OpenSpec.upto holderSwapsSpec)

/-- 'crossroadlaw09.HolderVersions', WHERE WHAT IT READS IS OF BULK AT MOST 1048576: true; the input reads as it did. -/
def holderVersionsUptoRow : OpenClaim := { program := "ytgfjkpfjajjidaadoor", sum := "b9657763d91d5d9f7e37122fb63747ce479e1296b6528462b2b6f3f59c7f4005", func := "crossroad/crossroadlaw09.HolderVersions", spec := "holderVersions", inPlace := ["internal/bytealg.IndexByteString", "internal/bytealg.IndexString", "internal/abi.NoEscape"], unfollowed := true, recurses := true, named := ["internal/bytealg.MaxLen", "crossroad/table.Handlers", "unicode/utf8.first", "unicode/utf8.acceptRanges"], apart := false, laid := [("unicode/utf8.acceptRanges", laid_unicode_utf8_acceptRanges), ("crossroad/table.Handlers", laid_crossroad_table_Handlers), ("unicode/utf8.first", laid_unicode_utf8_first)], narrowed := true }
def HolderVersionsUptoSaid : Prop := holderVersionsUptoRow.holds Tryd.pinned (OpenSpec.upto holderVersionsSpec)

/-- 'crossroadlaw09.HolderOld', WHERE WHAT IT READS IS OF BULK AT MOST 1048576: true; the input reads as it did. -/
def holderOldUptoRow : OpenClaim := { program := "ytgfjkpfjajjidaadoor", sum := "b9657763d91d5d9f7e37122fb63747ce479e1296b6528462b2b6f3f59c7f4005", func := "crossroad/crossroadlaw09.HolderOld", spec := "holderOld", inPlace := ["internal/bytealg.IndexByteString", "internal/bytealg.IndexString", "internal/abi.NoEscape", "internal/bytealg.MakeNoZero"], unfollowed := true, recurses := true, named := ["internal/bytealg.MaxLen", "crossroad/table.Handlers", "unicode/utf8.first", "unicode/utf8.acceptRanges"], apart := false, laid := [("unicode/utf8.acceptRanges", laid_unicode_utf8_acceptRanges), ("crossroad/table.Handlers", laid_crossroad_table_Handlers), ("unicode/utf8.first", laid_unicode_utf8_first)], narrowed := true }
def HolderOldUptoSaid : Prop := holderOldUptoRow.holds Tryd.pinned (OpenSpec.upto holderOldSpec)

end Rows
end Go.Proofs.YtgfjkpfjajjidaaDoor
