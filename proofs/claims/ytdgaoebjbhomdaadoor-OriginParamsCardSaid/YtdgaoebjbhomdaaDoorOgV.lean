/- origin: the law of Params, as its card asks. -/
import Derived.Test.YtdgaoebjbhomdaaDoorOgU
import Derived.Test.YtdgaoebjbhomdaaDoorOgZ
namespace Go.Proofs.YtdgaoebjbhomdaaDoor.Og
open Go.RowKit Go.ChangeShapes Go.WideShapes Go.Deep Go.Proofs.YtdgaoebjbhomdaaDoor.Sha Go.Proofs.YtdgaoebjbhomdaaDoor.Gr Go.Proofs.YtdgaoebjbhomdaaDoor.Digit Go.Proofs.YtdgaoebjbhomdaaDoor.Deed Go.Proofs.YtdgaoebjbhomdaaDoor.Tree Go.Proofs.YtdgaoebjbhomdaaDoor.Ok

section
variable {H : Type} {enc : TypeId × Value → H} {w : World} {base : Nat} {spare : Nat → Bool} {held : Bool}
set_option maxRecDepth 100000 in
theorem open_hash {r : Reach} {b0 : Nat} {v : Value} {d : DataW H} {p : List MemPlace} (hv : Value.okWide Tryd.prog w r b0 29 v) (h : DataW.Trod enc Tryd.prog w base spare held 29 v d p) : ∃ b : H32, v = hV b := by
  simp only [Value.okWide, Tryd.underlying29] at hv
  obtain ⟨cs, rfl, _⟩ := hv
  obtain ⟨fuel, hf⟩ := h
  obtain ⟨b, hb⟩ := reads_h fuel _ _ hf
  have h1 : cs.toList = valsB b.1 := hb
  exact ⟨b, by unfold hV; rw [← h1]⟩
end
end Go.Proofs.YtdgaoebjbhomdaaDoor.Og
