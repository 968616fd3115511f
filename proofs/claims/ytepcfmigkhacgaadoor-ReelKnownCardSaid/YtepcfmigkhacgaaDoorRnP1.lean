/- reel: ReelKnown of the landed code. -/
import Derived.Test.YtepcfmigkhacgaaDoorG3
import Derived.Test.YtepcfmigkhacgaaDoorRnO
import Derived.Test.YtepcfmigkhacgaaDoorRmG
import Derived.Test.YtepcfmigkhacgaaDoorShelf
namespace Go.Proofs.YtepcfmigkhacgaaDoor.Rl
open Go.RowKit Go.ChangeShapes Go.WideShapes Go.Proofs.YtepcfmigkhacgaaDoor.Gr Go.Proofs.YtepcfmigkhacgaaDoor.Frame Go.Proofs.YtepcfmigkhacgaaDoor.Dk
theorem repeat_l (c : Nat) : Lib.repeatL [(108 : UInt8)] c = List.replicate c 108 := by
  induction c with
  | zero => rfl
  | succ n ih =>
    have h : Lib.repeatL [(108 : UInt8)] (n + 1) = [(108 : UInt8)] ++ Lib.repeatL [(108 : UInt8)] n := rfl
    rw [h, ih, List.replicate_succ]
    rfl
theorem rep_l (w : World) : Calls Tryd.prog 18 #[.string ⟨#[108]⟩, .int .i64 65537] w fun e w' => e = .returned (.string longL) ∧ Below w.heap.size w w' := by
  have h := Tryd.strings_Repeat ⟨#[108]⟩ 65537 w (by omega) (by show 1 * 65537 ≤ _; omega)
  rw [show (⟨#[108]⟩ : ByteArray).data.toList = [108] from rfl, repeat_l] at h
  exact h
theorem law_ReelKnown (w : World) (h : laidMetH Tryd.prog laidL w) :
    Calls Tryd.prog 3 #[] w fun e w' => e = .returned (.bool true) ∧ Below w.heap.size w w' := known_any landed w (of_laid h) rep_l
end Go.Proofs.YtepcfmigkhacgaaDoor.Rl
