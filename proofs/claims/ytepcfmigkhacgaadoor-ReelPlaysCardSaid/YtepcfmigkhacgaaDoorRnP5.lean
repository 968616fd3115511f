/- reel: ReelPlays of the landed code. -/
import Derived.Test.YtepcfmigkhacgaaDoorG3
import Derived.Test.YtepcfmigkhacgaaDoorRnO
import Derived.Test.YtepcfmigkhacgaaDoorRpD
namespace Go.Proofs.YtepcfmigkhacgaaDoor.Rl
open Go.RowKit Go.ChangeShapes Go.WideShapes Go.Proofs.YtepcfmigkhacgaaDoor.Gr Go.Proofs.YtepcfmigkhacgaaDoor.Frame Go.Proofs.YtepcfmigkhacgaaDoor.Dk
theorem law_ReelPlays (v0 : Value) (a0 : List OpR) (w : World) (w0 : KE.At w v0 a0) (x0 : a0.length ≤ 9223372036854775807) (y0 : ∀ y ∈ a0, OpROk w y) (h : laidMetH Tryd.prog laidL w) :
    Calls Tryd.prog 4 #[v0] w fun e w' => e = .returned (.bool true) ∧ Below w.heap.size w w' := plays_any landed v0 a0 w w0 x0 y0 (of_laid h)
end Go.Proofs.YtepcfmigkhacgaaDoor.Rl
