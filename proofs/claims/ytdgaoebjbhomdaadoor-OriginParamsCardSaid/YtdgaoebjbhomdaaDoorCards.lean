/-
  DERIVED. GIVEN WITH THE SEED: THE CARDS: each row of YtdgaoebjbhomdaaDoorRows.lean that lists a variable, with what it lists TIED to the program's text (the seventh form; the later family's looks); each row that meets fmt, with fmt's text TOLD by the authors' own Lean function (tested against real Go, not proved from fmt's source: count such statements apart). THE CARD IS WHAT COUNTS. Prove the row's statement (the work); the ties are given (YtdgaoebjbhomdaaDoorTie.lean); close each card by the builder's one call (the guide's Derived/Test/ToyasCard.lean, 'card_holds'). Laid BY PROGRAM, IN A SANDBOX (cutbox-door.mjs). By AI agents, Wed Nov 11 2026. No macro, syntax, notation, axiom, sorry.
-/
import Derived.Test.YtdgaoebjbhomdaaDoorRows
import GoSem.ClaimSeven
namespace Go.Proofs.YtdgaoebjbhomdaaDoor
namespace Rows

/-- THE TIED CARD OF 'mintagelaw16.OriginKnown'. -/
def originKnownCard : Claim7 := { stood := { row := originKnownRow, standIns := [], harness := (true, "7d81b7f530feaf60a41f120c02844a0753bb8caea2e10b3e3b38cb4204495d7e"), looks := false }, kinds := [], alts := [], laidByText := true, laidKinds := [.data], laidTests := true, laidLooks := .later }
def OriginKnownCardSaid : Prop := Claim7.holds Tryd.pinned (.plain (OpenSpec.ofChange originKnownSpec)) originKnownCard

/-- THE TIED CARD OF 'mintagelaw16.OriginTakes'. -/
def originTakesCard : Claim7 := { stood := { row := originTakesRow, standIns := [], harness := (true, "7d81b7f530feaf60a41f120c02844a0753bb8caea2e10b3e3b38cb4204495d7e"), looks := false }, kinds := [], alts := [], laidByText := true, laidKinds := [.data], laidTests := true, laidLooks := .later }
def OriginTakesCardSaid : Prop := Claim7.holds Tryd.pinned (.plain (OpenSpec.ofChange originTakesSpec)) originTakesCard

/-- THE TIED CARD OF 'mintagelaw16.OriginParams'. -/
def originParamsCard : Claim7 := { stood := { row := originParamsRow, standIns := [], harness := (true, "7d81b7f530feaf60a41f120c02844a0753bb8caea2e10b3e3b38cb4204495d7e"), looks := false }, kinds := [], alts := [], laidByText := true, laidKinds := [.data], laidTests := true, laidLooks := .later }
def OriginParamsCardSaid : Prop := Claim7.holds Tryd.pinned (.plain (OpenSpec.ofChange originParamsSpec)) originParamsCard

/-- THE TIED CARD OF 'mintagelaw16.OriginBack'. -/
def originBackCard : Claim7 := { stood := { row := originBackRow, standIns := [], harness := (true, "7d81b7f530feaf60a41f120c02844a0753bb8caea2e10b3e3b38cb4204495d7e"), looks := false }, kinds := [], alts := [], laidByText := true, laidKinds := [.data], laidTests := true, laidLooks := .later }
def OriginBackCardSaid : Prop := Claim7.holds Tryd.pinned (.plain (OpenSpec.ofChange originBackSpec)) originBackCard

/-- THE TIED CARD OF 'mintagelaw16.OriginLess'. -/
def originLessCard : Claim7 := { stood := { row := originLessRow, standIns := [], harness := (true, "7d81b7f530feaf60a41f120c02844a0753bb8caea2e10b3e3b38cb4204495d7e"), looks := false }, kinds := [], alts := [], laidByText := true, laidKinds := [.data], laidTests := true, laidLooks := .later }
def OriginLessCardSaid : Prop := Claim7.holds Tryd.pinned (.plain (OpenSpec.ofChange originLessSpec)) originLessCard

/-- THE SECOND FORM's CARD OF 'mintagelaw16.OriginKnown'. -/
def originKnownUptoCard : Claim7 := { stood := { row := originKnownUptoRow, standIns := [], harness := (true, "7d81b7f530feaf60a41f120c02844a0753bb8caea2e10b3e3b38cb4204495d7e"), looks := false }, kinds := [], alts := [], laidByText := true, laidKinds := [.data], laidTests := true, laidLooks := .later }
def OriginKnownUptoCardSaid : Prop := Claim7.holds Tryd.pinned (.plain (OpenSpec.upto originKnownSpec)) originKnownUptoCard

/-- THE SECOND FORM's CARD OF 'mintagelaw16.OriginTakes'. -/
def originTakesUptoCard : Claim7 := { stood := { row := originTakesUptoRow, standIns := [], harness := (true, "7d81b7f530feaf60a41f120c02844a0753bb8caea2e10b3e3b38cb4204495d7e"), looks := false }, kinds := [], alts := [], laidByText := true, laidKinds := [.data], laidTests := true, laidLooks := .later }
def OriginTakesUptoCardSaid : Prop := Claim7.holds Tryd.pinned (.plain (OpenSpec.upto originTakesSpec)) originTakesUptoCard

/-- THE SECOND FORM's CARD OF 'mintagelaw16.OriginParams'. -/
def originParamsUptoCard : Claim7 := { stood := { row := originParamsUptoRow, standIns := [], harness := (true, "7d81b7f530feaf60a41f120c02844a0753bb8caea2e10b3e3b38cb4204495d7e"), looks := false }, kinds := [], alts := [], laidByText := true, laidKinds := [.data], laidTests := true, laidLooks := .later }
def OriginParamsUptoCardSaid : Prop := Claim7.holds Tryd.pinned (.plain (OpenSpec.upto originParamsSpec)) originParamsUptoCard

/-- THE SECOND FORM's CARD OF 'mintagelaw16.OriginBack'. -/
def originBackUptoCard : Claim7 := { stood := { row := originBackUptoRow, standIns := [], harness := (true, "7d81b7f530feaf60a41f120c02844a0753bb8caea2e10b3e3b38cb4204495d7e"), looks := false }, kinds := [], alts := [], laidByText := true, laidKinds := [.data], laidTests := true, laidLooks := .later }
def OriginBackUptoCardSaid : Prop := Claim7.holds Tryd.pinned (.plain (OpenSpec.upto originBackSpec)) originBackUptoCard

/-- THE SECOND FORM's CARD OF 'mintagelaw16.OriginLess'. -/
def originLessUptoCard : Claim7 := { stood := { row := originLessUptoRow, standIns := [], harness := (true, "7d81b7f530feaf60a41f120c02844a0753bb8caea2e10b3e3b38cb4204495d7e"), looks := false }, kinds := [], alts := [], laidByText := true, laidKinds := [.data], laidTests := true, laidLooks := .later }
def OriginLessUptoCardSaid : Prop := Claim7.holds Tryd.pinned (.plain (OpenSpec.upto originLessSpec)) originLessUptoCard
end Rows
end Go.Proofs.YtdgaoebjbhomdaaDoor
