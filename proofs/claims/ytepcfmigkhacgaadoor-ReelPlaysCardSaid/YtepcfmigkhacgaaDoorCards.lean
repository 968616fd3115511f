/-
  DERIVED. GIVEN WITH THE SEED: THE CARDS: each row of YtepcfmigkhacgaaDoorRows.lean that lists a variable, with what it lists TIED to the program's text (the seventh form; the later family's looks); each row that meets fmt, with fmt's text TOLD by the authors' own Lean function (tested against real Go, not proved from fmt's source: count such statements apart). THE CARD IS WHAT COUNTS. Prove the row's statement (the work); the ties are given (YtepcfmigkhacgaaDoorTie.lean); close each card by the builder's one call (the guide's Derived/Test/ToyasCard.lean, 'card_holds'). Laid BY PROGRAM, IN A SANDBOX (cutbox-door.mjs). By AI agents, Wed Nov 11 2026. No macro, syntax, notation, axiom, sorry.
-/
import Derived.Test.YtepcfmigkhacgaaDoorRows
import GoSem.ClaimSeven
namespace Go.Proofs.YtepcfmigkhacgaaDoor
namespace Rows

/-- THE TIED CARD OF 'mintagelaw12.ReelKnown'. -/
def reelKnownCard : Claim7 := { stood := { row := reelKnownRow, standIns := [], harness := (true, "666febcff091d096566a6e93315143248b193088fa0e77be286e57a06cf4a40e"), looks := false }, kinds := [], alts := [], laidByText := true, laidKinds := [.data], laidTests := true, laidLooks := .later }
def ReelKnownCardSaid : Prop := Claim7.holds Tryd.pinned (.plain (OpenSpec.ofChange reelKnownSpec)) reelKnownCard

/-- THE TIED CARD OF 'mintagelaw12.ReelPlays'. -/
def reelPlaysCard : Claim7 := { stood := { row := reelPlaysRow, standIns := [], harness := (true, "666febcff091d096566a6e93315143248b193088fa0e77be286e57a06cf4a40e"), looks := false }, kinds := [], alts := [], laidByText := true, laidKinds := [.data], laidTests := true, laidLooks := .later }
def ReelPlaysCardSaid : Prop := Claim7.holds Tryd.pinned (.plain (OpenSpec.ofChange reelPlaysSpec)) reelPlaysCard

/-- THE TIED CARD OF 'mintagelaw12.ReelMost'. -/
def reelMostCard : Claim7 := { stood := { row := reelMostRow, standIns := [], harness := (true, "666febcff091d096566a6e93315143248b193088fa0e77be286e57a06cf4a40e"), looks := false }, kinds := [], alts := [], laidByText := true, laidKinds := [.data], laidTests := true, laidLooks := .later }
def ReelMostCardSaid : Prop := Claim7.holds Tryd.pinned (.plain (OpenSpec.ofChange reelMostSpec)) reelMostCard

/-- THE TIED CARD OF 'mintagelaw12.ReelKept'. -/
def reelKeptCard : Claim7 := { stood := { row := reelKeptRow, standIns := [], harness := (true, "666febcff091d096566a6e93315143248b193088fa0e77be286e57a06cf4a40e"), looks := false }, kinds := [], alts := [], laidByText := true, laidKinds := [.data], laidTests := true, laidLooks := .later }
def ReelKeptCardSaid : Prop := Claim7.holds Tryd.pinned (.plain (OpenSpec.ofChange reelKeptSpec)) reelKeptCard

/-- THE TIED CARD OF 'mintagelaw12.ReelStill'. -/
def reelStillCard : Claim7 := { stood := { row := reelStillRow, standIns := [], harness := (true, "666febcff091d096566a6e93315143248b193088fa0e77be286e57a06cf4a40e"), looks := false }, kinds := [], alts := [], laidByText := true, laidKinds := [.data], laidTests := true, laidLooks := .later }
def ReelStillCardSaid : Prop := Claim7.holds Tryd.pinned (.plain (OpenSpec.ofChange reelStillSpec)) reelStillCard

/-- THE SECOND FORM's CARD OF 'mintagelaw12.ReelKnown'. -/
def reelKnownUptoCard : Claim7 := { stood := { row := reelKnownUptoRow, standIns := [], harness := (true, "666febcff091d096566a6e93315143248b193088fa0e77be286e57a06cf4a40e"), looks := false }, kinds := [], alts := [], laidByText := true, laidKinds := [.data], laidTests := true, laidLooks := .later }
def ReelKnownUptoCardSaid : Prop := Claim7.holds Tryd.pinned (.plain (OpenSpec.upto reelKnownSpec)) reelKnownUptoCard

/-- THE SECOND FORM's CARD OF 'mintagelaw12.ReelPlays'. -/
def reelPlaysUptoCard : Claim7 := { stood := { row := reelPlaysUptoRow, standIns := [], harness := (true, "666febcff091d096566a6e93315143248b193088fa0e77be286e57a06cf4a40e"), looks := false }, kinds := [], alts := [], laidByText := true, laidKinds := [.data], laidTests := true, laidLooks := .later }
def ReelPlaysUptoCardSaid : Prop := Claim7.holds Tryd.pinned (.plain (OpenSpec.upto reelPlaysSpec)) reelPlaysUptoCard

/-- THE SECOND FORM's CARD OF 'mintagelaw12.ReelMost'. -/
def reelMostUptoCard : Claim7 := { stood := { row := reelMostUptoRow, standIns := [], harness := (true, "666febcff091d096566a6e93315143248b193088fa0e77be286e57a06cf4a40e"), looks := false }, kinds := [], alts := [], laidByText := true, laidKinds := [.data], laidTests := true, laidLooks := .later }
def ReelMostUptoCardSaid : Prop := Claim7.holds Tryd.pinned (.plain (OpenSpec.upto reelMostSpec)) reelMostUptoCard

/-- THE SECOND FORM's CARD OF 'mintagelaw12.ReelKept'. -/
def reelKeptUptoCard : Claim7 := { stood := { row := reelKeptUptoRow, standIns := [], harness := (true, "666febcff091d096566a6e93315143248b193088fa0e77be286e57a06cf4a40e"), looks := false }, kinds := [], alts := [], laidByText := true, laidKinds := [.data], laidTests := true, laidLooks := .later }
def ReelKeptUptoCardSaid : Prop := Claim7.holds Tryd.pinned (.plain (OpenSpec.upto reelKeptSpec)) reelKeptUptoCard

/-- THE SECOND FORM's CARD OF 'mintagelaw12.ReelStill'. -/
def reelStillUptoCard : Claim7 := { stood := { row := reelStillUptoRow, standIns := [], harness := (true, "666febcff091d096566a6e93315143248b193088fa0e77be286e57a06cf4a40e"), looks := false }, kinds := [], alts := [], laidByText := true, laidKinds := [.data], laidTests := true, laidLooks := .later }
def ReelStillUptoCardSaid : Prop := Claim7.holds Tryd.pinned (.plain (OpenSpec.upto reelStillSpec)) reelStillUptoCard
end Rows
end Go.Proofs.YtepcfmigkhacgaaDoor
