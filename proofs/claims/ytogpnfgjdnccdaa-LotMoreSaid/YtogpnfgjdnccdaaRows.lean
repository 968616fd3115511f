/-
  No cell of these rows narrows 'for every input' (looked for: loops, veiled, ifaces, maps, wideKeys, modest, calm, conditions, laid).
  DERIVED. THE GIVEN ROWS OF THIS SEAT. 6 by the template 'for every input the law returns true; each argument reads behind the call as it read before'; 0 by the template 'total and deterministic' (their statements: YtogpnfgjdnccdaaTotals.lean).
  GIVEN WITH THE SEED: the statements are not yours to turn. If you find one false, say at which input.
  Laid BY PROGRAM, IN A SANDBOX (cutbox-rows.mjs): the forced cells as the released guide's own fill.sh prints them over the translation 49e016fea9661c0b… (all of the seat's roots in one cut). By AI agents, Wed Nov 11 2026. No macro, syntax, notation, axiom, sorry.
-/
import Derived.Test.YtogpnfgjdnccdaaChecked
import GoSem.Claim
import GoSem.ClaimJoined
import GoSem.ClaimMapViews
import Derived.JoinedTies
import Derived.KernelRfl
namespace Go.Proofs.Ytogpnfgjdnccdaa
/- THE CELL 'sum', in the pinned program and in every row, IS THE sha256 OF THE DUMP (.gsa) THAT YtogpnfgjdnccdaaProg.lean LOADS. Nothing in Lean hashes anything: it is a label: what it is worth is what the hold of that sum in a sandbox is worth. -/
noncomputable def Try.pinned : Pinned := { name := "ytogpnfgjdnccdaa", sum := "49e016fea9661c0b3b045c0d19d03e8cb7115169f89420f90dbe5f57e285fa12", checked := Try.checked }
namespace Rows
def none {H : Type} : Left H := { results := [], args := [] }

/-- 'mintagelaw07.LotKnown': WHATEVER THE INPUT: true; the input reads as it did. -/
def lotKnownSpec : ChangeSpec := { name := "lotKnown", fn := fun _ => fun
  | [] => { results := [.lit (.bool true)], args := [] }
  | _ => none }
def lotKnownRow : OpenClaim := { program := "ytogpnfgjdnccdaa", sum := "49e016fea9661c0b3b045c0d19d03e8cb7115169f89420f90dbe5f57e285fa12", func := "mintage/mintagelaw07.LotKnown", spec := "lotKnown", inPlace := ["math/bits.Add64"], unfollowed := true, recurses := true, apart := false }
def LotKnownSaid : Prop := lotKnownRow.holds Try.pinned (OpenSpec.ofChange lotKnownSpec)

/-- ITS FALSE NEIGHBOUR: 'it returns false'. Refute it at one input. -/
def lotKnownWrong : ChangeSpec := { name := "lotKnown", fn := fun _ => fun
  | [] => { results := [.lit (.bool false)], args := [] }
  | _ => none }
def LotKnownWrongFalsely : Prop := lotKnownRow.holds Try.pinned (OpenSpec.ofChange lotKnownWrong)

/-- 'mintagelaw07.LotValues': WHATEVER THE INPUT: true; the input reads as it did. -/
def lotValuesSpec : ChangeSpec := { name := "lotValues", fn := fun _ => fun
  | [d1, d2, d3] => { results := [.lit (.bool true)], args := [d1, d2, d3] }
  | _ => none }
def lotValuesRow : OpenClaim := { program := "ytogpnfgjdnccdaa", sum := "49e016fea9661c0b3b045c0d19d03e8cb7115169f89420f90dbe5f57e285fa12", func := "mintage/mintagelaw07.LotValues", spec := "lotValues", inPlace := ["internal/abi.NoEscape", "internal/bytealg.MakeNoZero", "math/bits.Add64"], unfollowed := true, recurses := true, apart := false }
def LotValuesSaid : Prop := lotValuesRow.holds Try.pinned (OpenSpec.ofChange lotValuesSpec)

/-- ITS FALSE NEIGHBOUR: 'it returns false'. Refute it at one input. -/
def lotValuesWrong : ChangeSpec := { name := "lotValues", fn := fun _ => fun
  | [d1, d2, d3] => { results := [.lit (.bool false)], args := [d1, d2, d3] }
  | _ => none }
def LotValuesWrongFalsely : Prop := lotValuesRow.holds Try.pinned (OpenSpec.ofChange lotValuesWrong)

/-- 'mintagelaw07.LotWins': WHATEVER THE INPUT: true; the input reads as it did. -/
def lotWinsSpec : ChangeSpec := { name := "lotWins", fn := fun _ => fun
  | [d1, d2, d3, d4, d5] => { results := [.lit (.bool true)], args := [d1, d2, d3, d4, d5] }
  | _ => none }
def lotWinsRow : OpenClaim := { program := "ytogpnfgjdnccdaa", sum := "49e016fea9661c0b3b045c0d19d03e8cb7115169f89420f90dbe5f57e285fa12", func := "mintage/mintagelaw07.LotWins", spec := "lotWins", inPlace := ["math/bits.Add64"], unfollowed := true, recurses := true, apart := false }
def LotWinsSaid : Prop := lotWinsRow.holds Try.pinned (OpenSpec.ofChange lotWinsSpec)

/-- ITS FALSE NEIGHBOUR: 'it returns false'. Refute it at one input. -/
def lotWinsWrong : ChangeSpec := { name := "lotWins", fn := fun _ => fun
  | [d1, d2, d3, d4, d5] => { results := [.lit (.bool false)], args := [d1, d2, d3, d4, d5] }
  | _ => none }
def LotWinsWrongFalsely : Prop := lotWinsRow.holds Try.pinned (OpenSpec.ofChange lotWinsWrong)

/-- 'mintagelaw07.LotMore': WHATEVER THE INPUT: true; the input reads as it did. -/
def lotMoreSpec : ChangeSpec := { name := "lotMore", fn := fun _ => fun
  | [d1, d2, d3, d4, d5, d6, d7] => { results := [.lit (.bool true)], args := [d1, d2, d3, d4, d5, d6, d7] }
  | _ => none }
def lotMoreRow : OpenClaim := { program := "ytogpnfgjdnccdaa", sum := "49e016fea9661c0b3b045c0d19d03e8cb7115169f89420f90dbe5f57e285fa12", func := "mintage/mintagelaw07.LotMore", spec := "lotMore", inPlace := ["math/bits.Add64"], unfollowed := true, recurses := true, apart := false }
def LotMoreSaid : Prop := lotMoreRow.holds Try.pinned (OpenSpec.ofChange lotMoreSpec)

/-- ITS FALSE NEIGHBOUR: 'it returns false'. Refute it at one input. -/
def lotMoreWrong : ChangeSpec := { name := "lotMore", fn := fun _ => fun
  | [d1, d2, d3, d4, d5, d6, d7] => { results := [.lit (.bool false)], args := [d1, d2, d3, d4, d5, d6, d7] }
  | _ => none }
def LotMoreWrongFalsely : Prop := lotMoreRow.holds Try.pinned (OpenSpec.ofChange lotMoreWrong)

/-- 'mintagelaw07.LotEnds': WHATEVER THE INPUT: true; the input reads as it did. -/
def lotEndsSpec : ChangeSpec := { name := "lotEnds", fn := fun _ => fun
  | [d1, d2, d3] => { results := [.lit (.bool true)], args := [d1, d2, d3] }
  | _ => none }
def lotEndsRow : OpenClaim := { program := "ytogpnfgjdnccdaa", sum := "49e016fea9661c0b3b045c0d19d03e8cb7115169f89420f90dbe5f57e285fa12", func := "mintage/mintagelaw07.LotEnds", spec := "lotEnds", inPlace := ["math/bits.Add64"], unfollowed := true, recurses := true, apart := false }
def LotEndsSaid : Prop := lotEndsRow.holds Try.pinned (OpenSpec.ofChange lotEndsSpec)

/-- ITS FALSE NEIGHBOUR: 'it returns false'. Refute it at one input. -/
def lotEndsWrong : ChangeSpec := { name := "lotEnds", fn := fun _ => fun
  | [d1, d2, d3] => { results := [.lit (.bool false)], args := [d1, d2, d3] }
  | _ => none }
def LotEndsWrongFalsely : Prop := lotEndsRow.holds Try.pinned (OpenSpec.ofChange lotEndsWrong)

/-- 'mintagelaw07.LotParts': WHATEVER THE INPUT: true; the input reads as it did. -/
def lotPartsSpec : ChangeSpec := { name := "lotParts", fn := fun _ => fun
  | [d1, d2, d3, d4, d5] => { results := [.lit (.bool true)], args := [d1, d2, d3, d4, d5] }
  | _ => none }
def lotPartsRow : OpenClaim := { program := "ytogpnfgjdnccdaa", sum := "49e016fea9661c0b3b045c0d19d03e8cb7115169f89420f90dbe5f57e285fa12", func := "mintage/mintagelaw07.LotParts", spec := "lotParts", inPlace := ["math/bits.Add64"], unfollowed := true, recurses := true, apart := false }
def LotPartsSaid : Prop := lotPartsRow.holds Try.pinned (OpenSpec.ofChange lotPartsSpec)

/-- ITS FALSE NEIGHBOUR: 'it returns false'. Refute it at one input. -/
def lotPartsWrong : ChangeSpec := { name := "lotParts", fn := fun _ => fun
  | [d1, d2, d3, d4, d5] => { results := [.lit (.bool false)], args := [d1, d2, d3, d4, d5] }
  | _ => none }
def LotPartsWrongFalsely : Prop := lotPartsRow.holds Try.pinned (OpenSpec.ofChange lotPartsWrong)

/- THE SECOND FORM. 'bulk': how many values and letters a reading holds, each counted each time it is reached (what is shared counts as often as it is met; a slice's spare places count too). A statement '..UptoSaid' is the law's where the arguments, and the package variables that the reading takes, are together of bulk at most 1048576: NARROWER than '..Said'. Prove '..Said' where nothing that the law and all that it calls make is longer than what came in: it says more and counts as full. Else prove '..UptoSaid'. A law counts once. -/
mutual
def uptoBulk {H : Type} : DataW H → Nat
  | .lit (.string bytes) => bytes.length + 1
  | .lit _ => 1
  | .nil => 1
  | .ptr d => uptoBulk d + 1
  | .slice elems spare => uptoBulkAll elems + uptoBulkAll spare + 1
  | .agg parts => uptoBulkAll parts + 1
  | .iface _ d => uptoBulk d + 1
  | .map entries => uptoBulkEntries entries + 1
  | .held _ => 1
def uptoBulkAll {H : Type} : List (DataW H) → Nat
  | [] => 0
  | d :: r => uptoBulk d + uptoBulkAll r
def uptoBulkEntries {H : Type} : List (Lit × DataW H) → Nat
  | [] => 0
  | x :: r => uptoBulkEntry x + uptoBulkEntries r
def uptoBulkEntry {H : Type} : Lit × DataW H → Nat
  | (.string bytes, d) => bytes.length + uptoBulk d + 1
  | (_, d) => uptoBulk d + 1
 end
def uptoSmall : (H : Type) → List (DataW H) → Bool := fun _ ds => decide (uptoBulkAll ds ≤ 1048576)
def OpenSpec.upto (s : _root_.Go.ChangeSpec) : _root_.Go.OpenSpec := { _root_.Go.OpenSpec.ofChange s with cond := some uptoSmall }

/-- 'mintagelaw07.LotKnown', WHERE WHAT IT READS IS OF BULK AT MOST 1048576: true; the input reads as it did. -/
def lotKnownUptoRow : OpenClaim := { program := "ytogpnfgjdnccdaa", sum := "49e016fea9661c0b3b045c0d19d03e8cb7115169f89420f90dbe5f57e285fa12", func := "mintage/mintagelaw07.LotKnown", spec := "lotKnown", inPlace := ["math/bits.Add64"], unfollowed := true, recurses := true, apart := false, narrowed := true }
def LotKnownUptoSaid : Prop := lotKnownUptoRow.holds Try.pinned (OpenSpec.upto lotKnownSpec)

/-- 'mintagelaw07.LotValues', WHERE WHAT IT READS IS OF BULK AT MOST 1048576: true; the input reads as it did. -/
def lotValuesUptoRow : OpenClaim := { program := "ytogpnfgjdnccdaa", sum := "49e016fea9661c0b3b045c0d19d03e8cb7115169f89420f90dbe5f57e285fa12", func := "mintage/mintagelaw07.LotValues", spec := "lotValues", inPlace := ["internal/abi.NoEscape", "internal/bytealg.MakeNoZero", "math/bits.Add64"], unfollowed := true, recurses := true, apart := false, narrowed := true }
def LotValuesUptoSaid : Prop := lotValuesUptoRow.holds Try.pinned (OpenSpec.upto lotValuesSpec)

/-- 'mintagelaw07.LotWins', WHERE WHAT IT READS IS OF BULK AT MOST 1048576: true; the input reads as it did. -/
def lotWinsUptoRow : OpenClaim := { program := "ytogpnfgjdnccdaa", sum := "49e016fea9661c0b3b045c0d19d03e8cb7115169f89420f90dbe5f57e285fa12", func := "mintage/mintagelaw07.LotWins", spec := "lotWins", inPlace := ["math/bits.Add64"], unfollowed := true, recurses := true, apart := false, narrowed := true }
def LotWinsUptoSaid : Prop := lotWinsUptoRow.holds Try.pinned (OpenSpec.upto lotWinsSpec)

/-- 'mintagelaw07.LotMore', WHERE WHAT IT READS IS OF BULK AT MOST 1048576: true; the input reads as it did. -/
def lotMoreUptoRow : OpenClaim := { program := "ytogpnfgjdnccdaa", sum := "49e016fea9661c0b3b045c0d19d03e8cb7115169f89420f90dbe5f57e285fa12", func := "mintage/mintagelaw07.LotMore", spec := "lotMore", inPlace := ["math/bits.Add64"], unfollowed := true, recurses := true, apart := false, narrowed := true }
def LotMoreUptoSaid : Prop := lotMoreUptoRow.holds Try.pinned (OpenSpec.upto lotMoreSpec)

/-- 'mintagelaw07.LotEnds', WHERE WHAT IT READS IS OF BULK AT MOST 1048576: true; the input reads as it did. -/
def lotEndsUptoRow : OpenClaim := { program := "ytogpnfgjdnccdaa", sum := "49e016fea9661c0b3b045c0d19d03e8cb7115169f89420f90dbe5f57e285fa12", func := "mintage/mintagelaw07.LotEnds", spec := "lotEnds", inPlace := ["math/bits.Add64"], unfollowed := true, recurses := true, apart := false, narrowed := true }
def LotEndsUptoSaid : Prop := lotEndsUptoRow.holds Try.pinned (OpenSpec.upto lotEndsSpec)

/-- 'mintagelaw07.LotParts', WHERE WHAT IT READS IS OF BULK AT MOST 1048576: true; the input reads as it did. -/
def lotPartsUptoRow : OpenClaim := { program := "ytogpnfgjdnccdaa", sum := "49e016fea9661c0b3b045c0d19d03e8cb7115169f89420f90dbe5f57e285fa12", func := "mintage/mintagelaw07.LotParts", spec := "lotParts", inPlace := ["math/bits.Add64"], unfollowed := true, recurses := true, apart := false, narrowed := true }
def LotPartsUptoSaid : Prop := lotPartsUptoRow.holds Try.pinned (OpenSpec.upto lotPartsSpec)

end Rows
end Go.Proofs.Ytogpnfgjdnccdaa
