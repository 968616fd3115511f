/-
  NARROWER THAN 'FOR EVERY INPUT', by the rows' own cells (each row's printed sentence says how): OriginKnown: laid · OriginTakes: laid · OriginParams: laid · OriginBack: laid · OriginLess: laid.
  DERIVED. THE GIVEN ROWS OF THIS SEAT. 5 by the template 'for every input the law returns true; each argument reads behind the call as it read before'; 0 by the template 'total and deterministic' (their statements: YtdgaoebjbhomdaaDoorTotals.lean).
  GIVEN WITH THE SEED: the statements are not yours to turn. If you find one false, say at which input.
  Laid BY PROGRAM, IN A SANDBOX (cutbox-rows.mjs): the forced cells as the released guide's own fill.sh prints them over the translation 509ab58a54e06bfd… (all of the seat's roots in one cut). By AI agents, Wed Nov 11 2026. No macro, syntax, notation, axiom, sorry.
-/
import Derived.Test.YtdgaoebjbhomdaaDoorChecked
import GoSem.Claim
import GoSem.ClaimJoined
import GoSem.ClaimMapViews
import Derived.JoinedTies
import Derived.KernelRfl
namespace Go.Proofs.YtdgaoebjbhomdaaDoor
/- THE CELL 'sum', in the pinned program and in every row, IS THE sha256 OF THE DUMP (.gsa) THAT YtdgaoebjbhomdaaDoorProg.lean LOADS. Nothing in Lean hashes anything: it is a label: what it is worth is what the hold of that sum in a sandbox is worth. -/
noncomputable def Tryd.pinned : Pinned := { name := "ytdgaoebjbhomdaadoor", sum := "509ab58a54e06bfd2b5fc2c13728231c381395322224781325bd73ee73af95f2", checked := Tryd.checked }
namespace Rows
def none {H : Type} : Left H := { results := [], args := [] }

/- WHAT THE LISTED PACKAGE-LEVEL VARIABLES READ AS WHEN THE CALL BEGINS. Each datum BY PROGRAM (the guide's laid-datum.mjs) off the statement by which the dump's own 'gosem.cut.vars' lays the variable. In a bare row this is a premise. The card (YtdgaoebjbhomdaaDoorCards.lean) ties it to the program's text. -/
def laid_mintage_origin_spans {H : Type} : DataW H := .agg [.agg [.lit (.int .u64 0), .lit (.int .u64 1099511627775)], .agg [.lit (.int .u64 0), .lit (.int .u64 1048575)], .agg [.lit (.int .u64 0), .lit (.int .u64 1099511627775)], .agg [.lit (.int .u64 0), .lit (.int .u64 1099511627775)], .agg [.lit (.int .u64 0), .lit (.int .u64 1000)], .agg [.lit (.int .u64 0), .lit (.int .u64 1000)], .agg [.lit (.int .u64 1), .lit (.int .u64 1000)], .agg [.lit (.int .u64 1), .lit (.int .u64 32768)]]

/-- 'mintagelaw16.OriginKnown': WHATEVER THE INPUT: true; the input reads as it did. -/
def originKnownSpec : ChangeSpec := { name := "originKnown", fn := fun _ => fun
  | [] => { results := [.lit (.bool true)], args := [] }
  | _ => none }
def originKnownRow : OpenClaim := { program := "ytdgaoebjbhomdaadoor", sum := "509ab58a54e06bfd2b5fc2c13728231c381395322224781325bd73ee73af95f2", func := "mintage/mintagelaw16.OriginKnown", spec := "originKnown", inPlace := ["math/bits.Add64", "internal/abi.NoEscape"], unfollowed := true, recurses := true, named := ["mintage/origin.spans"], apart := false, laid := [("mintage/origin.spans", laid_mintage_origin_spans)] }
def OriginKnownSaid : Prop := originKnownRow.holds Tryd.pinned (OpenSpec.ofChange originKnownSpec)

/-- ITS FALSE NEIGHBOUR: 'it returns false'. Refute it at one input. -/
def originKnownWrong : ChangeSpec := { name := "originKnown", fn := fun _ => fun
  | [] => { results := [.lit (.bool false)], args := [] }
  | _ => none }
def OriginKnownWrongFalsely : Prop := originKnownRow.holds Tryd.pinned (OpenSpec.ofChange originKnownWrong)

/-- 'mintagelaw16.OriginTakes': WHATEVER THE INPUT: true; the input reads as it did. -/
def originTakesSpec : ChangeSpec := { name := "originTakes", fn := fun _ => fun
  | [d] => { results := [.lit (.bool true)], args := [d] }
  | _ => none }
def originTakesRow : OpenClaim := { program := "ytdgaoebjbhomdaadoor", sum := "509ab58a54e06bfd2b5fc2c13728231c381395322224781325bd73ee73af95f2", func := "mintage/mintagelaw16.OriginTakes", spec := "originTakes", inPlace := ["math/bits.Add64", "internal/abi.NoEscape"], unfollowed := true, recurses := true, named := ["mintage/origin.spans"], apart := false, laid := [("mintage/origin.spans", laid_mintage_origin_spans)] }
def OriginTakesSaid : Prop := originTakesRow.holds Tryd.pinned (OpenSpec.ofChange originTakesSpec)

/-- ITS FALSE NEIGHBOUR: 'it returns false'. Refute it at one input. -/
def originTakesWrong : ChangeSpec := { name := "originTakes", fn := fun _ => fun
  | [d] => { results := [.lit (.bool false)], args := [d] }
  | _ => none }
def OriginTakesWrongFalsely : Prop := originTakesRow.holds Tryd.pinned (OpenSpec.ofChange originTakesWrong)

/-- 'mintagelaw16.OriginParams': WHATEVER THE INPUT: true; the input reads as it did. -/
def originParamsSpec : ChangeSpec := { name := "originParams", fn := fun _ => fun
  | [d1, d2, d3, d4] => { results := [.lit (.bool true)], args := [d1, d2, d3, d4] }
  | _ => none }
def originParamsRow : OpenClaim := { program := "ytdgaoebjbhomdaadoor", sum := "509ab58a54e06bfd2b5fc2c13728231c381395322224781325bd73ee73af95f2", func := "mintage/mintagelaw16.OriginParams", spec := "originParams", inPlace := ["internal/abi.NoEscape", "internal/bytealg.MakeNoZero", "math/bits.Add64"], unfollowed := true, recurses := true, named := ["mintage/origin.spans"], apart := false, laid := [("mintage/origin.spans", laid_mintage_origin_spans)] }
def OriginParamsSaid : Prop := originParamsRow.holds Tryd.pinned (OpenSpec.ofChange originParamsSpec)

/-- ITS FALSE NEIGHBOUR: 'it returns false'. Refute it at one input. -/
def originParamsWrong : ChangeSpec := { name := "originParams", fn := fun _ => fun
  | [d1, d2, d3, d4] => { results := [.lit (.bool false)], args := [d1, d2, d3, d4] }
  | _ => none }
def OriginParamsWrongFalsely : Prop := originParamsRow.holds Tryd.pinned (OpenSpec.ofChange originParamsWrong)

/-- 'mintagelaw16.OriginBack': WHATEVER THE INPUT: true; the input reads as it did. -/
def originBackSpec : ChangeSpec := { name := "originBack", fn := fun _ => fun
  | [d1, d2] => { results := [.lit (.bool true)], args := [d1, d2] }
  | _ => none }
def originBackRow : OpenClaim := { program := "ytdgaoebjbhomdaadoor", sum := "509ab58a54e06bfd2b5fc2c13728231c381395322224781325bd73ee73af95f2", func := "mintage/mintagelaw16.OriginBack", spec := "originBack", inPlace := ["math/bits.Add64", "internal/abi.NoEscape"], unfollowed := true, recurses := true, named := ["mintage/origin.spans"], apart := false, laid := [("mintage/origin.spans", laid_mintage_origin_spans)] }
def OriginBackSaid : Prop := originBackRow.holds Tryd.pinned (OpenSpec.ofChange originBackSpec)

/-- ITS FALSE NEIGHBOUR: 'it returns false'. Refute it at one input. -/
def originBackWrong : ChangeSpec := { name := "originBack", fn := fun _ => fun
  | [d1, d2] => { results := [.lit (.bool false)], args := [d1, d2] }
  | _ => none }
def OriginBackWrongFalsely : Prop := originBackRow.holds Tryd.pinned (OpenSpec.ofChange originBackWrong)

/-- 'mintagelaw16.OriginLess': WHATEVER THE INPUT: true; the input reads as it did. -/
def originLessSpec : ChangeSpec := { name := "originLess", fn := fun _ => fun
  | [d1, d2, d3, d4] => { results := [.lit (.bool true)], args := [d1, d2, d3, d4] }
  | _ => none }
def originLessRow : OpenClaim := { program := "ytdgaoebjbhomdaadoor", sum := "509ab58a54e06bfd2b5fc2c13728231c381395322224781325bd73ee73af95f2", func := "mintage/mintagelaw16.OriginLess", spec := "originLess", inPlace := ["math/bits.Add64", "internal/abi.NoEscape"], unfollowed := true, recurses := true, named := ["mintage/origin.spans"], apart := false, laid := [("mintage/origin.spans", laid_mintage_origin_spans)] }
def OriginLessSaid : Prop := originLessRow.holds Tryd.pinned (OpenSpec.ofChange originLessSpec)

/-- ITS FALSE NEIGHBOUR: 'it returns false'. Refute it at one input. -/
def originLessWrong : ChangeSpec := { name := "originLess", fn := fun _ => fun
  | [d1, d2, d3, d4] => { results := [.lit (.bool false)], args := [d1, d2, d3, d4] }
  | _ => none }
def OriginLessWrongFalsely : Prop := originLessRow.holds Tryd.pinned (OpenSpec.ofChange originLessWrong)

/- THE SECOND FORM. 'bulk': how many values and letters a reading holds, each counted each time it is reached (what is shared counts as often as it is met; a slice's spare places count too). A statement '..UptoSaid' is the law's where the arguments, and the package variables that the reading takes, are together of bulk at most 1048576: NARROWER than '..Said'. Prove '..Said' where nothing that the law and all that it calls make is longer than what came in: it says more and counts as full. Else prove '..UptoSaid'. A law counts once. -/
mutual
def uptoBulk {H : Type} : DataW H → Nat
  | .lit (.string bytes) => bytes.length + 1
  | .lit _ => 1
  | .nil => 1
  | .ptr d => uptoBulk d + 1
  | .slice elems spare => uptoBulkAll elems + uptoBulkAll spare + 1
  | .agg parts => uptoBulkAll parts + 1
  | .iface _ d => uptoBulk d + 1
  | .map entries => uptoBulkEntries entries + 1
  | .held _ => 1
def uptoBulkAll {H : Type} : List (DataW H) → Nat
  | [] => 0
  | d :: r => uptoBulk d + uptoBulkAll r
def uptoBulkEntries {H : Type} : List (Lit × DataW H) → Nat
  | [] => 0
  | x :: r => uptoBulkEntry x + uptoBulkEntries r
def uptoBulkEntry {H : Type} : Lit × DataW H → Nat
  | (.string bytes, d) => bytes.length + uptoBulk d + 1
  | (_, d) => uptoBulk d + 1
 end
def uptoSmall : (H : Type) → List (DataW H) → Bool := fun _ ds => decide (uptoBulkAll ds ≤ 1048576)
def OpenSpec.upto (s : _root_.Go.ChangeSpec) : _root_.Go.OpenSpec := { _root_.Go.OpenSpec.ofChange s with cond := some uptoSmall }

/-- 'mintagelaw16.OriginKnown', WHERE WHAT IT READS IS OF BULK AT MOST 1048576: true; the input reads as it did. -/
def originKnownUptoRow : OpenClaim := { program := "ytdgaoebjbhomdaadoor", sum := "509ab58a54e06bfd2b5fc2c13728231c381395322224781325bd73ee73af95f2", func := "mintage/mintagelaw16.OriginKnown", spec := "originKnown", inPlace := ["math/bits.Add64", "internal/abi.NoEscape"], unfollowed := true, recurses := true, named := ["mintage/origin.spans"], apart := false, laid := [("mintage/origin.spans", laid_mintage_origin_spans)], narrowed := true }
def OriginKnownUptoSaid : Prop := originKnownUptoRow.holds Tryd.pinned (OpenSpec.upto originKnownSpec)

/-- 'mintagelaw16.OriginTakes', WHERE WHAT IT READS IS OF BULK AT MOST 1048576: true; the input reads as it did. -/
def originTakesUptoRow : OpenClaim := { program := "ytdgaoebjbhomdaadoor", sum := "509ab58a54e06bfd2b5fc2c13728231c381395322224781325bd73ee73af95f2", func := "mintage/mintagelaw16.OriginTakes", spec := "originTakes", inPlace := ["math/bits.Add64", "internal/abi.NoEscape"], unfollowed := true, recurses := true, named := ["mintage/origin.spans"], apart := false, laid := [("mintage/origin.spans", laid_mintage_origin_spans)], narrowed := true }
def OriginTakesUptoSaid : Prop := originTakesUptoRow.holds Tryd.pinned (OpenSpec.upto originTakesSpec)

/-- 'mintagelaw16.OriginParams', WHERE WHAT IT READS IS OF BULK AT MOST 1048576: true; the input reads as it did. -/
def originParamsUptoRow : OpenClaim := { program := "ytdgaoebjbhomdaadoor", sum := "509ab58a54e06bfd2b5fc2c13728231c381395322224781325bd73ee73af95f2", func := "mintage/mintagelaw16.OriginParams", spec := "originParams", inPlace := ["internal/abi.NoEscape", "internal/bytealg.MakeNoZero", "math/bits.Add64"], unfollowed := true, recurses := true, named := ["mintage/origin.spans"], apart := false, laid := [("mintage/origin.spans", laid_mintage_origin_spans)], narrowed := true }
def OriginParamsUptoSaid : Prop := originParamsUptoRow.holds Tryd.pinned (OpenSpec.upto originParamsSpec)

/-- 'mintagelaw16.OriginBack', WHERE WHAT IT READS IS OF BULK AT MOST 1048576: true; the input reads as it did. -/
def originBackUptoRow : OpenClaim := { program := "ytdgaoebjbhomdaadoor", sum := "509ab58a54e06bfd2b5fc2c13728231c381395322224781325bd73ee73af95f2", func := "mintage/mintagelaw16.OriginBack", spec := "originBack", inPlace := ["math/bits.Add64", "internal/abi.NoEscape"], unfollowed := true, recurses := true, named := ["mintage/origin.spans"], apart := false, laid := [("mintage/origin.spans", laid_mintage_origin_spans)], narrowed := true }
def OriginBackUptoSaid : Prop := originBackUptoRow.holds Tryd.pinned (OpenSpec.upto originBackSpec)

/-- 'mintagelaw16.OriginLess', WHERE WHAT IT READS IS OF BULK AT MOST 1048576: true; the input reads as it did. -/
def originLessUptoRow : OpenClaim := { program := "ytdgaoebjbhomdaadoor", sum := "509ab58a54e06bfd2b5fc2c13728231c381395322224781325bd73ee73af95f2", func := "mintage/mintagelaw16.OriginLess", spec := "originLess", inPlace := ["math/bits.Add64", "internal/abi.NoEscape"], unfollowed := true, recurses := true, named := ["mintage/origin.spans"], apart := false, laid := [("mintage/origin.spans", laid_mintage_origin_spans)], narrowed := true }
def OriginLessUptoSaid : Prop := originLessUptoRow.holds Tryd.pinned (OpenSpec.upto originLessSpec)

end Rows
end Go.Proofs.YtdgaoebjbhomdaaDoor
