/- The document's own answers: root. -/
import Derived.Test.YtlalipomphgcoaaShaD
namespace Go.Proofs.Ytlalipomphgcoaa.Sha
open Go.RowKit

/-- The root's words, bit by bit. -/
def rootF (n p : Nat) : Nat → Nat → Nat
  | 0, x => x
  | b + 1, x => rootF n p b (if (x + 2 ^ b) ^ p ≤ n * 4294967296 ^ p then x + 2 ^ b else x)

/-- The document's words of the first primes' roots are those of the table: reckoned by the kernel. -/
def primes64 : List Nat := [2, 3, 5, 7, 11, 13, 17, 19, 23, 29, 31, 37, 41, 43, 47, 53, 59, 61, 67, 71, 73, 79, 83, 89, 97, 101, 103, 107, 109, 113, 127, 131, 137, 139, 149, 151, 157, 163, 167, 173, 179, 181, 191, 193, 197, 199, 211, 223, 227, 229, 233, 239, 241, 251, 257, 263, 269, 271, 277, 281, 283, 293, 307, 311]
theorem cubes_told : primes64.map (fun n => rootF n 3 40 0 % 4294967296) = kL := by decide +kernel
theorem squares_told : (primes64.take 8).map (fun n => rootF n 2 40 0 % 4294967296) = hL := by decide +kernel

end Go.Proofs.Ytlalipomphgcoaa.Sha
