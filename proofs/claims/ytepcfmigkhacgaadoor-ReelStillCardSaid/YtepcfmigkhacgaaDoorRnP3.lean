/- reel: ReelStill of the landed code. -/
import Derived.Test.YtepcfmigkhacgaaDoorG3
import Derived.Test.YtepcfmigkhacgaaDoorRnO
import Derived.Test.YtepcfmigkhacgaaDoorRmF
namespace Go.Proofs.YtepcfmigkhacgaaDoor.Rl
open Go.RowKit Go.ChangeShapes Go.WideShapes Go.Proofs.YtepcfmigkhacgaaDoor.Gr Go.Proofs.YtepcfmigkhacgaaDoor.Frame Go.Proofs.YtepcfmigkhacgaaDoor.Dk
theorem law_ReelStill (v0 : Value) (a0 : List ByteArray) (w : World) (w0 : KT.At w v0 a0) (s0 : a0.length ≤ 8796093022208) (y0 : ∀ y ∈ a0, y.size ≤ 9223372036854775807) (h : laidMetH Tryd.prog laidL w) :
    Calls Tryd.prog 7 #[v0] w fun e w' => e = .returned (.bool true) ∧ Below w.heap.size w w' := still_any landed v0 a0 w w0 s0 y0 (of_laid h)
end Go.Proofs.YtepcfmigkhacgaaDoor.Rl
