/- origin: the law of Params, as its card asks. -/
import Derived.Test.YtdgaoebjbhomdaaDoorOgU
import Derived.Test.YtdgaoebjbhomdaaDoorOgZ
namespace Go.Proofs.YtdgaoebjbhomdaaDoor.Og
open Go.RowKit Go.ChangeShapes Go.WideShapes Go.Deep Go.Proofs.YtdgaoebjbhomdaaDoor.Sha Go.Proofs.YtdgaoebjbhomdaaDoor.Gr Go.Proofs.YtdgaoebjbhomdaaDoor.Digit Go.Proofs.YtdgaoebjbhomdaaDoor.Deed Go.Proofs.YtdgaoebjbhomdaaDoor.Tree Go.Proofs.YtdgaoebjbhomdaaDoor.Ok

section
variable {H : Type} {enc : TypeId × Value → H} {w : World} {base : Nat} {spare : Nat → Bool} {held : Bool}
set_option maxRecDepth 100000 in
theorem open_hash {r : Reach} {b0 : Nat} {v : Value} {d : DataW H} {p : List MemPlace} (hv : Value.okWide Tryd.prog w r b0 29 v) (h : DataW.Trod enc Tryd.prog w base spare held 29 v d p) : ∃ b : H32, v = hV b := by
  simp only [Value.okWide, Tryd.underlying29] at hv
  obtain ⟨cs, rfl, _⟩ := hv
  obtain ⟨fuel, hf⟩ := h
  obtain ⟨b, hb⟩ := reads_h fuel _ _ hf
  have h1 : cs.toList = valsB b.1 := hb
  exact ⟨b, by unfold hV; rw [← h1]⟩
end
theorem law_OriginParams (a0 a1 : Int) (b2 : H32) (a3 : Int) (w : World) (w0 : (Lit.int .u64 a0).wf = true) (w1 : (Lit.int .u64 a1).wf = true) (_w3 : (Lit.int .i64 a3).wf = true) (h : laidMetH Tryd.prog laidL w) :
    Calls Tryd.prog 5 #[.int .u64 a0, .int .u64 a1, hV b2, .int .i64 a3] w fun e w' => e = .returned (.bool true) ∧ Below w.heap.size w w' := by
  simp [Lit.wf, IntKind.min, IntKind.max, IntKind.signed, IntKind.bits] at w0 w1
  obtain ⟨p, rfl⟩ : ∃ p : Nat, a0 = p := ⟨a0.toNat, by omega⟩
  obtain ⟨n, rfl⟩ : ∃ n : Nat, a1 = n := ⟨a1.toNat, by omega⟩
  exact law_params p n b2 a3 w (by omega) (of_laid h)
end Go.Proofs.YtdgaoebjbhomdaaDoor.Og
