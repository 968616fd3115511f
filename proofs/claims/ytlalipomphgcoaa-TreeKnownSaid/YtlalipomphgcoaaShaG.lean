/- The document's own answers: the roots' words. -/
import Derived.Test.YtlalipomphgcoaaShaF
import Derived.Test.YtlalipomphgcoaaShaV
namespace Go.Proofs.Ytlalipomphgcoaa.Sha
open Go.RowKit

theorem Dig32.kept {w w' : World} {g : Nat} {xs : List Nat} (d : Dig32 w g xs) (h : Below w.heap.size w w') : Dig32 w' g xs := fun i x hx => Sha.kept h (d i x hx)
theorem own_kept {w w' : World} {B : Nat} {e : TypeId} {v : Value} {n : Nat} {xs : List Value} (h : w.ownsRow B e 1 v n xs) (hb : Below w.heap.size w w') : w'.ownsRow B e 1 v n xs :=
  h.kept (row := none) ⟨hb.os, hb.tape, hb.output, hb.size, fun k hk _ => hb.block k hk⟩ (by cases hv : v.ownBlock <;> simp)

/-- The roots' words of the first so many primes. -/
def rootsL (many p : Nat) : List Nat := (primes64.take many).map fun n => rootF n p 40 0 % 4294967296

end Go.Proofs.Ytlalipomphgcoaa.Sha
