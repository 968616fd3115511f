/-
  No cell of these rows narrows 'for every input' (looked for: loops, veiled, ifaces, maps, wideKeys, modest, calm, conditions, laid).
  DERIVED. THE GIVEN ROWS OF THIS SEAT. 5 by the template 'for every input the law returns true; each argument reads behind the call as it read before'; 0 by the template 'total and deterministic' (their statements: YtpepijoppgbbfaaTotals.lean).
  GIVEN WITH THE SEED: the statements are not yours to turn. If you find one false, say at which input.
  Laid BY PROGRAM, IN A SANDBOX (cutbox-rows.mjs): the forced cells as the released guide's own fill.sh prints them over the translation b7334cb4e1b34ebd… (all of the seat's roots in one cut). By AI agents, Wed Nov 11 2026. No macro, syntax, notation, axiom, sorry.
-/
import Derived.Test.YtpepijoppgbbfaaChecked
import GoSem.Claim
import GoSem.ClaimJoined
import GoSem.ClaimMapViews
import Derived.JoinedTies
import Derived.KernelRfl
namespace Go.Proofs.Ytpepijoppgbbfaa
/- THE CELL 'sum', in the pinned program and in every row, IS THE sha256 OF THE DUMP (.gsa) THAT YtpepijoppgbbfaaProg.lean LOADS. Nothing in Lean hashes anything: it is a label: what it is worth is what the hold of that sum in a sandbox is worth. -/
noncomputable def Try.pinned : Pinned := { name := "ytpepijoppgbbfaa", sum := "b7334cb4e1b34ebd6ae75a6777adfbcfb9c6346509253ad93beb5da3ec28d89a", checked := Try.checked }
namespace Rows
def none {H : Type} : Left H := { results := [], args := [] }

/-- 'mintagelaw08.ShelfKnown': WHATEVER THE INPUT: true; the input reads as it did. -/
def shelfKnownSpec : ChangeSpec := { name := "shelfKnown", fn := fun _ => fun
  | [] => { results := [.lit (.bool true)], args := [] }
  | _ => none }
def shelfKnownRow : OpenClaim := { program := "ytpepijoppgbbfaa", sum := "b7334cb4e1b34ebd6ae75a6777adfbcfb9c6346509253ad93beb5da3ec28d89a", func := "mintage/mintagelaw08.ShelfKnown", spec := "shelfKnown", inPlace := ["internal/bytealg.abigen_runtime_cmpstring"], unfollowed := true, recurses := true, apart := false }
def ShelfKnownSaid : Prop := shelfKnownRow.holds Try.pinned (OpenSpec.ofChange shelfKnownSpec)

/-- ITS FALSE NEIGHBOUR: 'it returns false'. Refute it at one input. -/
def shelfKnownWrong : ChangeSpec := { name := "shelfKnown", fn := fun _ => fun
  | [] => { results := [.lit (.bool false)], args := [] }
  | _ => none }
def ShelfKnownWrongFalsely : Prop := shelfKnownRow.holds Try.pinned (OpenSpec.ofChange shelfKnownWrong)

/-- 'mintagelaw08.ShelfPlays': WHATEVER THE INPUT: true; the input reads as it did. -/
def shelfPlaysSpec : ChangeSpec := { name := "shelfPlays", fn := fun _ => fun
  | [d] => { results := [.lit (.bool true)], args := [d] }
  | _ => none }
def shelfPlaysRow : OpenClaim := { program := "ytpepijoppgbbfaa", sum := "b7334cb4e1b34ebd6ae75a6777adfbcfb9c6346509253ad93beb5da3ec28d89a", func := "mintage/mintagelaw08.ShelfPlays", spec := "shelfPlays", inPlace := ["internal/bytealg.abigen_runtime_cmpstring"], unfollowed := true, recurses := true, apart := false }
def ShelfPlaysSaid : Prop := shelfPlaysRow.holds Try.pinned (OpenSpec.ofChange shelfPlaysSpec)

/-- ITS FALSE NEIGHBOUR: 'it returns false'. Refute it at one input. -/
def shelfPlaysWrong : ChangeSpec := { name := "shelfPlays", fn := fun _ => fun
  | [d] => { results := [.lit (.bool false)], args := [d] }
  | _ => none }
def ShelfPlaysWrongFalsely : Prop := shelfPlaysRow.holds Try.pinned (OpenSpec.ofChange shelfPlaysWrong)

/-- 'mintagelaw08.ShelfOld': WHATEVER THE INPUT: true; the input reads as it did. -/
def shelfOldSpec : ChangeSpec := { name := "shelfOld", fn := fun _ => fun
  | [d] => { results := [.lit (.bool true)], args := [d] }
  | _ => none }
def shelfOldRow : OpenClaim := { program := "ytpepijoppgbbfaa", sum := "b7334cb4e1b34ebd6ae75a6777adfbcfb9c6346509253ad93beb5da3ec28d89a", func := "mintage/mintagelaw08.ShelfOld", spec := "shelfOld", inPlace := ["internal/bytealg.abigen_runtime_cmpstring"], unfollowed := true, recurses := true, apart := false }
def ShelfOldSaid : Prop := shelfOldRow.holds Try.pinned (OpenSpec.ofChange shelfOldSpec)

/-- ITS FALSE NEIGHBOUR: 'it returns false'. Refute it at one input. -/
def shelfOldWrong : ChangeSpec := { name := "shelfOld", fn := fun _ => fun
  | [d] => { results := [.lit (.bool false)], args := [d] }
  | _ => none }
def ShelfOldWrongFalsely : Prop := shelfOldRow.holds Try.pinned (OpenSpec.ofChange shelfOldWrong)

/-- 'mintagelaw08.ShelfOne': WHATEVER THE INPUT: true; the input reads as it did. -/
def shelfOneSpec : ChangeSpec := { name := "shelfOne", fn := fun _ => fun
  | [d1, d2] => { results := [.lit (.bool true)], args := [d1, d2] }
  | _ => none }
def shelfOneRow : OpenClaim := { program := "ytpepijoppgbbfaa", sum := "b7334cb4e1b34ebd6ae75a6777adfbcfb9c6346509253ad93beb5da3ec28d89a", func := "mintage/mintagelaw08.ShelfOne", spec := "shelfOne", inPlace := ["internal/bytealg.abigen_runtime_cmpstring"], unfollowed := true, recurses := true, apart := false }
def ShelfOneSaid : Prop := shelfOneRow.holds Try.pinned (OpenSpec.ofChange shelfOneSpec)

/-- ITS FALSE NEIGHBOUR: 'it returns false'. Refute it at one input. -/
def shelfOneWrong : ChangeSpec := { name := "shelfOne", fn := fun _ => fun
  | [d1, d2] => { results := [.lit (.bool false)], args := [d1, d2] }
  | _ => none }
def ShelfOneWrongFalsely : Prop := shelfOneRow.holds Try.pinned (OpenSpec.ofChange shelfOneWrong)

/-- 'mintagelaw08.ShelfEarly': WHATEVER THE INPUT: true; the input reads as it did. -/
def shelfEarlySpec : ChangeSpec := { name := "shelfEarly", fn := fun _ => fun
  | [d1, d2] => { results := [.lit (.bool true)], args := [d1, d2] }
  | _ => none }
def shelfEarlyRow : OpenClaim := { program := "ytpepijoppgbbfaa", sum := "b7334cb4e1b34ebd6ae75a6777adfbcfb9c6346509253ad93beb5da3ec28d89a", func := "mintage/mintagelaw08.ShelfEarly", spec := "shelfEarly", inPlace := ["internal/bytealg.abigen_runtime_cmpstring"], unfollowed := true, recurses := true, apart := false }
def ShelfEarlySaid : Prop := shelfEarlyRow.holds Try.pinned (OpenSpec.ofChange shelfEarlySpec)

/-- ITS FALSE NEIGHBOUR: 'it returns false'. Refute it at one input. -/
def shelfEarlyWrong : ChangeSpec := { name := "shelfEarly", fn := fun _ => fun
  | [d1, d2] => { results := [.lit (.bool false)], args := [d1, d2] }
  | _ => none }
def ShelfEarlyWrongFalsely : Prop := shelfEarlyRow.holds Try.pinned (OpenSpec.ofChange shelfEarlyWrong)

/- THE SECOND FORM. 'bulk': how many values and letters a reading holds, each counted each time it is reached (what is shared counts as often as it is met; a slice's spare places count too). A statement '..UptoSaid' is the law's where the arguments, and the package variables that the reading takes, are together of bulk at most 1048576: NARROWER than '..Said'. Prove '..Said' where nothing that the law and all that it calls make is longer than what came in: it says more and counts as full. Else prove '..UptoSaid'. A law counts once. -/
mutual
def uptoBulk {H : Type} : DataW H → Nat
  | .lit (.string bytes) => bytes.length + 1
  | .lit _ => 1
  | .nil => 1
  | .ptr d => uptoBulk d + 1
  | .slice elems spare => uptoBulkAll elems + uptoBulkAll spare + 1
  | .agg parts => uptoBulkAll parts + 1
  | .iface _ d => uptoBulk d + 1
  | .map entries => uptoBulkEntries entries + 1
  | .held _ => 1
def uptoBulkAll {H : Type} : List (DataW H) → Nat
  | [] => 0
  | d :: r => uptoBulk d + uptoBulkAll r
def uptoBulkEntries {H : Type} : List (Lit × DataW H) → Nat
  | [] => 0
  | x :: r => uptoBulkEntry x + uptoBulkEntries r
def uptoBulkEntry {H : Type} : Lit × DataW H → Nat
  | (.string bytes, d) => bytes.length + uptoBulk d + 1
  | (_, d) => uptoBulk d + 1
 end
def uptoSmall : (H : Type) → List (DataW H) → Bool := fun _ ds => decide (uptoBulkAll ds ≤ 1048576)
def OpenSpec.upto (s : _root_.Go.ChangeSpec) : _root_.Go.OpenSpec := { _root_.Go.OpenSpec.ofChange s with cond := some uptoSmall }

/-- 'mintagelaw08.ShelfKnown', WHERE WHAT IT READS IS OF BULK AT MOST 1048576: true; the input reads as it did. -/
def shelfKnownUptoRow : OpenClaim := { program := "ytpepijoppgbbfaa", sum := "b7334cb4e1b34ebd6ae75a6777adfbcfb9c6346509253ad93beb5da3ec28d89a", func := "mintage/mintagelaw08.ShelfKnown", spec := "shelfKnown", inPlace := ["internal/bytealg.abigen_runtime_cmpstring"], unfollowed := true, recurses := true, apart := false, narrowed := true }
def ShelfKnownUptoSaid : Prop := shelfKnownUptoRow.holds Try.pinned (OpenSpec.upto shelfKnownSpec)

/-- 'mintagelaw08.ShelfPlays', WHERE WHAT IT READS IS OF BULK AT MOST 1048576: true; the input reads as it did. -/
def shelfPlaysUptoRow : OpenClaim := { program := "ytpepijoppgbbfaa", sum := "b7334cb4e1b34ebd6ae75a6777adfbcfb9c6346509253ad93beb5da3ec28d89a", func := "mintage/mintagelaw08.ShelfPlays", spec := "shelfPlays", inPlace := ["internal/bytealg.abigen_runtime_cmpstring"], unfollowed := true, recurses := true, apart := false, narrowed := true }
def ShelfPlaysUptoSaid : Prop := shelfPlaysUptoRow.holds Try.pinned (OpenSpec.upto shelfPlaysSpec)

/-- 'mintagelaw08.ShelfOld', WHERE WHAT IT READS IS OF BULK AT MOST 1048576: true; the input reads as it did. -/
def shelfOldUptoRow : OpenClaim := { program := "ytpepijoppgbbfaa", sum := "b7334cb4e1b34ebd6ae75a6777adfbcfb9c6346509253ad93beb5da3ec28d89a", func := "mintage/mintagelaw08.ShelfOld", spec := "shelfOld", inPlace := ["internal/bytealg.abigen_runtime_cmpstring"], unfollowed := true, recurses := true, apart := false, narrowed := true }
def ShelfOldUptoSaid : Prop := shelfOldUptoRow.holds Try.pinned (OpenSpec.upto shelfOldSpec)

/-- 'mintagelaw08.ShelfOne', WHERE WHAT IT READS IS OF BULK AT MOST 1048576: true; the input reads as it did. -/
def shelfOneUptoRow : OpenClaim := { program := "ytpepijoppgbbfaa", sum := "b7334cb4e1b34ebd6ae75a6777adfbcfb9c6346509253ad93beb5da3ec28d89a", func := "mintage/mintagelaw08.ShelfOne", spec := "shelfOne", inPlace := ["internal/bytealg.abigen_runtime_cmpstring"], unfollowed := true, recurses := true, apart := false, narrowed := true }
def ShelfOneUptoSaid : Prop := shelfOneUptoRow.holds Try.pinned (OpenSpec.upto shelfOneSpec)

/-- 'mintagelaw08.ShelfEarly', WHERE WHAT IT READS IS OF BULK AT MOST 1048576: true; the input reads as it did. -/
def shelfEarlyUptoRow : OpenClaim := { program := "ytpepijoppgbbfaa", sum := "b7334cb4e1b34ebd6ae75a6777adfbcfb9c6346509253ad93beb5da3ec28d89a", func := "mintage/mintagelaw08.ShelfEarly", spec := "shelfEarly", inPlace := ["internal/bytealg.abigen_runtime_cmpstring"], unfollowed := true, recurses := true, apart := false, narrowed := true }
def ShelfEarlyUptoSaid : Prop := shelfEarlyUptoRow.holds Try.pinned (OpenSpec.upto shelfEarlySpec)

end Rows
end Go.Proofs.Ytpepijoppgbbfaa
