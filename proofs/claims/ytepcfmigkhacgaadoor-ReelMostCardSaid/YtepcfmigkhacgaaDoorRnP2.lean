/- reel: ReelMost of the landed code. -/
import Derived.Test.YtepcfmigkhacgaaDoorG3
import Derived.Test.YtepcfmigkhacgaaDoorRnO
import Derived.Test.YtepcfmigkhacgaaDoorRmD
namespace Go.Proofs.YtepcfmigkhacgaaDoor.Rl
open Go.RowKit Go.ChangeShapes Go.WideShapes Go.Proofs.YtepcfmigkhacgaaDoor.Gr Go.Proofs.YtepcfmigkhacgaaDoor.Frame Go.Proofs.YtepcfmigkhacgaaDoor.Dk
theorem law_ReelMost (a0 : ByteArray) (a1 : Int) (w : World) (w0 : a0.size ≤ maxLen) (h : laidMetH Tryd.prog laidL w) :
    Calls Tryd.prog 5 #[.string a0, .int .i64 a1] w fun e w' => e = .returned (.bool true) ∧ Below w.heap.size w w' := most_any landed a0 a1 w w0 (of_laid h)
end Go.Proofs.YtepcfmigkhacgaaDoor.Rl
