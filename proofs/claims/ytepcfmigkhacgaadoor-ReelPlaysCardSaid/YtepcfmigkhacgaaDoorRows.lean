/-
  NARROWER THAN 'FOR EVERY INPUT', by the rows' own cells (each row's printed sentence says how): ReelKnown: laid · ReelPlays: laid · ReelMost: laid · ReelKept: laid · ReelStill: laid.
  DERIVED. THE GIVEN ROWS OF THIS SEAT. 5 by the template 'for every input the law returns true; each argument reads behind the call as it read before'; 0 by the template 'total and deterministic' (their statements: YtepcfmigkhacgaaDoorTotals.lean).
  GIVEN WITH THE SEED: the statements are not yours to turn. If you find one false, say at which input.
  Laid BY PROGRAM, IN A SANDBOX (cutbox-rows.mjs): the forced cells as the released guide's own fill.sh prints them over the translation b6a1a5cab7886589… (all of the seat's roots in one cut). By AI agents, Wed Nov 11 2026. No macro, syntax, notation, axiom, sorry.
-/
import Derived.Test.YtepcfmigkhacgaaDoorChecked
import GoSem.Claim
import GoSem.ClaimJoined
import GoSem.ClaimMapViews
import Derived.JoinedTies
import Derived.KernelRfl
namespace Go.Proofs.YtepcfmigkhacgaaDoor
/- THE CELL 'sum', in the pinned program and in every row, IS THE sha256 OF THE DUMP (.gsa) THAT YtepcfmigkhacgaaDoorProg.lean LOADS. Nothing in Lean hashes anything: it is a label: what it is worth is what the hold of that sum in a sandbox is worth. -/
noncomputable def Tryd.pinned : Pinned := { name := "ytepcfmigkhacgaadoor", sum := "b6a1a5cab7886589e36eb25d7a34f4aeec019ec82e2b87e3091de04f19637110", checked := Tryd.checked }
namespace Rows
def none {H : Type} : Left H := { results := [], args := [] }

/- WHAT THE LISTED PACKAGE-LEVEL VARIABLES READ AS WHEN THE CALL BEGINS. Each datum BY PROGRAM (the guide's laid-datum.mjs) off the statement by which the dump's own 'gosem.cut.vars' lays the variable. In a bare row this is a premise. The card (YtepcfmigkhacgaaDoorCards.lean) ties it to the program's text. -/
def laid_mintage_frame_added {H : Type} : DataW H := .agg [.lit (.int .u32 0), .lit (.int .u32 274646895), .lit (.int .u32 549293790), .lit (.int .u32 820201905), .lit (.int .u32 1098587580), .lit (.int .u32 1361435347), .lit (.int .u32 1640403810), .lit (.int .u32 1905808397), .lit (.int .u32 2197175160), .lit (.int .u32 2460548119), .lit (.int .u32 2722870694), .lit (.int .u32 2987750089), .lit (.int .u32 3280807620), .lit (.int .u32 3553878443), .lit (.int .u32 3811616794), .lit (.int .u32 4084100981)]

/-- 'mintagelaw12.ReelKnown': WHATEVER THE INPUT: true; the input reads as it did. -/
def reelKnownSpec : ChangeSpec := { name := "reelKnown", fn := fun _ => fun
  | [] => { results := [.lit (.bool true)], args := [] }
  | _ => none }
def reelKnownRow : OpenClaim := { program := "ytepcfmigkhacgaadoor", sum := "b6a1a5cab7886589e36eb25d7a34f4aeec019ec82e2b87e3091de04f19637110", func := "mintage/mintagelaw12.ReelKnown", spec := "reelKnown", inPlace := ["internal/abi.NoEscape", "internal/bytealg.MakeNoZero"], unfollowed := true, recurses := true, named := ["mintage/frame.added"], apart := false, laid := [("mintage/frame.added", laid_mintage_frame_added)] }
def ReelKnownSaid : Prop := reelKnownRow.holds Tryd.pinned (OpenSpec.ofChange reelKnownSpec)

/-- ITS FALSE NEIGHBOUR: 'it returns false'. Refute it at one input. -/
def reelKnownWrong : ChangeSpec := { name := "reelKnown", fn := fun _ => fun
  | [] => { results := [.lit (.bool false)], args := [] }
  | _ => none }
def ReelKnownWrongFalsely : Prop := reelKnownRow.holds Tryd.pinned (OpenSpec.ofChange reelKnownWrong)

/-- 'mintagelaw12.ReelPlays': WHATEVER THE INPUT: true; the input reads as it did. -/
def reelPlaysSpec : ChangeSpec := { name := "reelPlays", fn := fun _ => fun
  | [d] => { results := [.lit (.bool true)], args := [d] }
  | _ => none }
def reelPlaysRow : OpenClaim := { program := "ytepcfmigkhacgaadoor", sum := "b6a1a5cab7886589e36eb25d7a34f4aeec019ec82e2b87e3091de04f19637110", func := "mintage/mintagelaw12.ReelPlays", spec := "reelPlays", unfollowed := true, recurses := true, named := ["mintage/frame.added"], apart := false, laid := [("mintage/frame.added", laid_mintage_frame_added)] }
def ReelPlaysSaid : Prop := reelPlaysRow.holds Tryd.pinned (OpenSpec.ofChange reelPlaysSpec)

/-- ITS FALSE NEIGHBOUR: 'it returns false'. Refute it at one input. -/
def reelPlaysWrong : ChangeSpec := { name := "reelPlays", fn := fun _ => fun
  | [d] => { results := [.lit (.bool false)], args := [d] }
  | _ => none }
def ReelPlaysWrongFalsely : Prop := reelPlaysRow.holds Tryd.pinned (OpenSpec.ofChange reelPlaysWrong)

/-- 'mintagelaw12.ReelMost': WHATEVER THE INPUT: true; the input reads as it did. -/
def reelMostSpec : ChangeSpec := { name := "reelMost", fn := fun _ => fun
  | [d1, d2] => { results := [.lit (.bool true)], args := [d1, d2] }
  | _ => none }
def reelMostRow : OpenClaim := { program := "ytepcfmigkhacgaadoor", sum := "b6a1a5cab7886589e36eb25d7a34f4aeec019ec82e2b87e3091de04f19637110", func := "mintage/mintagelaw12.ReelMost", spec := "reelMost", unfollowed := true, recurses := true, named := ["mintage/frame.added"], apart := false, laid := [("mintage/frame.added", laid_mintage_frame_added)] }
def ReelMostSaid : Prop := reelMostRow.holds Tryd.pinned (OpenSpec.ofChange reelMostSpec)

/-- ITS FALSE NEIGHBOUR: 'it returns false'. Refute it at one input. -/
def reelMostWrong : ChangeSpec := { name := "reelMost", fn := fun _ => fun
  | [d1, d2] => { results := [.lit (.bool false)], args := [d1, d2] }
  | _ => none }
def ReelMostWrongFalsely : Prop := reelMostRow.holds Tryd.pinned (OpenSpec.ofChange reelMostWrong)

/-- 'mintagelaw12.ReelKept': WHATEVER THE INPUT: true; the input reads as it did. -/
def reelKeptSpec : ChangeSpec := { name := "reelKept", fn := fun _ => fun
  | [d] => { results := [.lit (.bool true)], args := [d] }
  | _ => none }
def reelKeptRow : OpenClaim := { program := "ytepcfmigkhacgaadoor", sum := "b6a1a5cab7886589e36eb25d7a34f4aeec019ec82e2b87e3091de04f19637110", func := "mintage/mintagelaw12.ReelKept", spec := "reelKept", unfollowed := true, recurses := true, named := ["mintage/frame.added"], apart := false, laid := [("mintage/frame.added", laid_mintage_frame_added)] }
def ReelKeptSaid : Prop := reelKeptRow.holds Tryd.pinned (OpenSpec.ofChange reelKeptSpec)

/-- ITS FALSE NEIGHBOUR: 'it returns false'. Refute it at one input. -/
def reelKeptWrong : ChangeSpec := { name := "reelKept", fn := fun _ => fun
  | [d] => { results := [.lit (.bool false)], args := [d] }
  | _ => none }
def ReelKeptWrongFalsely : Prop := reelKeptRow.holds Tryd.pinned (OpenSpec.ofChange reelKeptWrong)

/-- 'mintagelaw12.ReelStill': WHATEVER THE INPUT: true; the input reads as it did. -/
def reelStillSpec : ChangeSpec := { name := "reelStill", fn := fun _ => fun
  | [d] => { results := [.lit (.bool true)], args := [d] }
  | _ => none }
def reelStillRow : OpenClaim := { program := "ytepcfmigkhacgaadoor", sum := "b6a1a5cab7886589e36eb25d7a34f4aeec019ec82e2b87e3091de04f19637110", func := "mintage/mintagelaw12.ReelStill", spec := "reelStill", unfollowed := true, recurses := true, named := ["mintage/frame.added"], apart := false, laid := [("mintage/frame.added", laid_mintage_frame_added)] }
def ReelStillSaid : Prop := reelStillRow.holds Tryd.pinned (OpenSpec.ofChange reelStillSpec)

/-- ITS FALSE NEIGHBOUR: 'it returns false'. Refute it at one input. -/
def reelStillWrong : ChangeSpec := { name := "reelStill", fn := fun _ => fun
  | [d] => { results := [.lit (.bool false)], args := [d] }
  | _ => none }
def ReelStillWrongFalsely : Prop := reelStillRow.holds Tryd.pinned (OpenSpec.ofChange reelStillWrong)

/- THE SECOND FORM. 'bulk': how many values and letters a reading holds, each counted each time it is reached (what is shared counts as often as it is met; a slice's spare places count too). A statement '..UptoSaid' is the law's where the arguments, and the package variables that the reading takes, are together of bulk at most 1048576: NARROWER than '..Said'. Prove '..Said' where nothing that the law and all that it calls make is longer than what came in: it says more and counts as full. Else prove '..UptoSaid'. A law counts once. -/
mutual
def uptoBulk {H : Type} : DataW H → Nat
  | .lit (.string bytes) => bytes.length + 1
  | .lit _ => 1
  | .nil => 1
  | .ptr d => uptoBulk d + 1
  | .slice elems spare => uptoBulkAll elems + uptoBulkAll spare + 1
  | .agg parts => uptoBulkAll parts + 1
  | .iface _ d => uptoBulk d + 1
  | .map entries => uptoBulkEntries entries + 1
  | .held _ => 1
def uptoBulkAll {H : Type} : List (DataW H) → Nat
  | [] => 0
  | d :: r => uptoBulk d + uptoBulkAll r
def uptoBulkEntries {H : Type} : List (Lit × DataW H) → Nat
  | [] => 0
  | x :: r => uptoBulkEntry x + uptoBulkEntries r
def uptoBulkEntry {H : Type} : Lit × DataW H → Nat
  | (.string bytes, d) => bytes.length + uptoBulk d + 1
  | (_, d) => uptoBulk d + 1
 end
def uptoSmall : (H : Type) → List (DataW H) → Bool := fun _ ds => decide (uptoBulkAll ds ≤ 1048576)
def OpenSpec.upto (s : _root_.Go.ChangeSpec) : _root_.Go.OpenSpec := { _root_.Go.OpenSpec.ofChange s with cond := some uptoSmall }

/-- 'mintagelaw12.ReelKnown', WHERE WHAT IT READS IS OF BULK AT MOST 1048576: true; the input reads as it did. -/
def reelKnownUptoRow : OpenClaim := { program := "ytepcfmigkhacgaadoor", sum := "b6a1a5cab7886589e36eb25d7a34f4aeec019ec82e2b87e3091de04f19637110", func := "mintage/mintagelaw12.ReelKnown", spec := "reelKnown", inPlace := ["internal/abi.NoEscape", "internal/bytealg.MakeNoZero"], unfollowed := true, recurses := true, named := ["mintage/frame.added"], apart := false, laid := [("mintage/frame.added", laid_mintage_frame_added)], narrowed := true }
def ReelKnownUptoSaid : Prop := reelKnownUptoRow.holds Tryd.pinned (OpenSpec.upto reelKnownSpec)

/-- 'mintagelaw12.ReelPlays', WHERE WHAT IT READS IS OF BULK AT MOST 1048576: true; the input reads as it did. -/
def reelPlaysUptoRow : OpenClaim := { program := "ytepcfmigkhacgaadoor", sum := "b6a1a5cab7886589e36eb25d7a34f4aeec019ec82e2b87e3091de04f19637110", func := "mintage/mintagelaw12.ReelPlays", spec := "reelPlays", unfollowed := true, recurses := true, named := ["mintage/frame.added"], apart := false, laid := [("mintage/frame.added", laid_mintage_frame_added)], narrowed := true }
def ReelPlaysUptoSaid : Prop := reelPlaysUptoRow.holds Tryd.pinned (OpenSpec.upto reelPlaysSpec)

/-- 'mintagelaw12.ReelMost', WHERE WHAT IT READS IS OF BULK AT MOST 1048576: true; the input reads as it did. -/
def reelMostUptoRow : OpenClaim := { program := "ytepcfmigkhacgaadoor", sum := "b6a1a5cab7886589e36eb25d7a34f4aeec019ec82e2b87e3091de04f19637110", func := "mintage/mintagelaw12.ReelMost", spec := "reelMost", unfollowed := true, recurses := true, named := ["mintage/frame.added"], apart := false, laid := [("mintage/frame.added", laid_mintage_frame_added)], narrowed := true }
def ReelMostUptoSaid : Prop := reelMostUptoRow.holds Tryd.pinned (OpenSpec.upto reelMostSpec)

/-- 'mintagelaw12.ReelKept', WHERE WHAT IT READS IS OF BULK AT MOST 1048576: true; the input reads as it did. -/
def reelKeptUptoRow : OpenClaim := { program := "ytepcfmigkhacgaadoor", sum := "b6a1a5cab7886589e36eb25d7a34f4aeec019ec82e2b87e3091de04f19637110", func := "mintage/mintagelaw12.ReelKept", spec := "reelKept", unfollowed := true, recurses := true, named := ["mintage/frame.added"], apart := false, laid := [("mintage/frame.added", laid_mintage_frame_added)], narrowed := true }
def ReelKeptUptoSaid : Prop := reelKeptUptoRow.holds Tryd.pinned (OpenSpec.upto reelKeptSpec)

/-- 'mintagelaw12.ReelStill', WHERE WHAT IT READS IS OF BULK AT MOST 1048576: true; the input reads as it did. -/
def reelStillUptoRow : OpenClaim := { program := "ytepcfmigkhacgaadoor", sum := "b6a1a5cab7886589e36eb25d7a34f4aeec019ec82e2b87e3091de04f19637110", func := "mintage/mintagelaw12.ReelStill", spec := "reelStill", unfollowed := true, recurses := true, named := ["mintage/frame.added"], apart := false, laid := [("mintage/frame.added", laid_mintage_frame_added)], narrowed := true }
def ReelStillUptoSaid : Prop := reelStillUptoRow.holds Tryd.pinned (OpenSpec.upto reelStillSpec)

end Rows
end Go.Proofs.YtepcfmigkhacgaaDoor
