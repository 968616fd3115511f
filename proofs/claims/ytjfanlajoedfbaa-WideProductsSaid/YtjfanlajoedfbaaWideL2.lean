/- The statements of layer 2 as the rows ask them: WideParts, WideBack. -/
import Derived.Test.YtjfanlajoedfbaaWideL1
import Derived.OpenShut
namespace Go.Proofs.Ytjfanlajoedfbaa.Wide
open Go.RowKit

theorem nat_of {a : Int} (w : (Lit.int .u64 a).wf = true) : ∃ n : Nat, a = (n : Int) ∧ n < 18446744073709551616 := by
  have h := bounds_u64 w
  obtain ⟨n, rfl⟩ := Int.eq_ofNat_of_zero_le h.1
  exact ⟨n, rfl, by omega⟩

theorem law_WideParts (a0 a1 a2 : Int) (w0 : (Lit.int .u64 a0).wf = true) (w1 : (Lit.int .u64 a1).wf = true) (w2 : (Lit.int .u64 a2).wf = true) (w : World) :
    Calls Try.prog 8 #[.int .u64 a0, .int .u64 a1, .int .u64 a2] w fun e w' => e = .returned (.bool true) ∧ Below w.heap.size w w' := by
  obtain ⟨n, rfl, h0⟩ := nat_of w0
  obtain ⟨a, rfl, h1⟩ := nat_of w1
  obtain ⟨b, rfl, h2⟩ := nat_of w2
  exact parts_true n a b w h0 h1 h2

theorem law_WideBack (a0 b0 a1 : Int) (w0 : (Lit.int .u64 a0).wf = true) (x0 : (Lit.int .u64 b0).wf = true) (w1 : (Lit.int .u64 a1).wf = true) (w : World) :
    Calls Try.prog 7 #[.agg #[.int .u64 a0, .int .u64 b0], .int .u64 a1] w fun e w' => e = .returned (.bool true) ∧ Below w.heap.size w w' := by
  obtain ⟨h, rfl, h0⟩ := nat_of w0
  obtain ⟨l, rfl, h1⟩ := nat_of x0
  obtain ⟨b, rfl, h2⟩ := nat_of w1
  exact back_true h l b w h0 h1 h2

end Go.Proofs.Ytjfanlajoedfbaa.Wide
