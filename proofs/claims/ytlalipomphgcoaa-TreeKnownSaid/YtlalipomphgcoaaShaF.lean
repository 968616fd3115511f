/- The document's own answers: the first primes. -/
import Derived.Test.YtlalipomphgcoaaShaE
namespace Go.Proofs.Ytlalipomphgcoaa.Sha
open Go.RowKit

/-- The primes below m, of the table's. -/
def pb (m : Nat) : List Nat := primes64.filter fun q => decide (q < m)
theorem pb_yes : ∀ m, m < 312 → decide (m ∈ primes64) = true → pb (m + 1) = pb m ++ [m] := by decide +kernel
theorem pb_no : ∀ m, m < 312 → decide (m ∈ primes64) = false → pb (m + 1) = pb m := by decide +kernel
theorem pb_take : ∀ m, m < 313 → pb m = primes64.take (pb m).length := by decide +kernel
theorem pb_is : ∀ m, m < 312 → 2 ≤ m → ((pb m).all fun q => m % q != 0) = decide (m ∈ primes64) := by decide +kernel
theorem pb_pos : ∀ q ∈ primes64, 0 < q := by decide +kernel
theorem pb_end : (pb 312).length = 64 := by decide +kernel
theorem pb_mem (m q : Nat) (h : q ∈ pb m) : 0 < q := pb_pos q (List.mem_filter.1 h).1

theorem all_next (D : List Nat) (m t q : Nat) (h : D[t]? = some q) : ((D.take (t + 1)).all fun q => m % q != 0) = (((D.take t).all fun q => m % q != 0) && (m % q != 0)) := by
  rw [List.take_add_one, h]
  simp

end Go.Proofs.Ytlalipomphgcoaa.Sha
