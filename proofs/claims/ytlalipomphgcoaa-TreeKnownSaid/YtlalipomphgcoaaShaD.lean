/- The document's own answers: fits, root. -/
import Derived.Test.YtlalipomphgcoaaShaC
namespace Go.Proofs.Ytlalipomphgcoaa.Sha
open Go.RowKit

theorem kept {w w' : World} (h : Below w.heap.size w w') {p : Addr} {v : Value} (hc : w.cell? p = some v) : w'.cell? p = some v := by
  rw [h.cell (World.block_lt_of_cell? w p hc)]
  exact hc
theorem Dig.kept {w w' : World} {g : Nat} {xs : List Nat} (d : Dig w g xs) (h : Below w.heap.size w w') : Dig w' g xs := fun i x hx => Sha.kept h (d i x hx)
theorem below_alloc {w0 w : World} (h : Below w0.heap.size w0 w) (o : Obj) : Below w0.heap.size w0 (w.alloc o) :=
  h.trans (((Below.refl w.heap.size w).alloc (Nat.le_refl _) o).mono h.size)
theorem dig_one (w : World) (x : Nat) (t : TypeId) : Dig (w.alloc (.cells #[.int .u64 x] t)) w.heap.size [x] := by
  intro i v hv
  match i, hv with
  | 0, hv => simp at hv; subst hv; simp
  | i + 1, hv => simp at hv

/-- Digits that are there, and what they tell. -/
structure Tells (w : World) (g l v m : Nat) (D : List Nat) : Prop where
  dig : Dig w g D
  len : D.length = l
  val : val16 D = v
  small : ∀ x ∈ D, x < 65536
  most : l ≤ m
  pos : 0 < l
theorem Tells.kept {w w' : World} {g len v m : Nat} {D : List Nat} (t : Tells w g len v m D) (h : Below w.heap.size w w') : Tells w' g len v m D := ⟨t.dig.kept h, t.len, t.val, t.small, t.most, t.pos⟩

end Go.Proofs.Ytlalipomphgcoaa.Sha
