/- ShaTold's own: told, untold. -/
import Derived.Test.YtogpnfgjdnccdaaM1
import Derived.Test.YtogpnfgjdnccdaaM4
namespace Go.Proofs.Ytogpnfgjdnccdaa.Sha
open Go.RowKit

theorem ownsRow_empty (w : World) (e : TypeId) (B : Nat) (hB : B ≤ w.heap.size) : (w.alloc (.cells #[] e)).ownsRow B e 1 (.slice (some ⟨w.heap.size, 0, none⟩) 0 0) 0 [] :=
  ⟨rfl, Or.inr ⟨w.heap.size, 0, #[], rfl, hB, heap_alloc_new w _, Nat.le_refl _, Nat.zero_le _, rfl, rfl⟩⟩

theorem put_high (m N : Nat) (ys : List UInt8) (hm : 128 ≤ m) (h10 : m < 128 ^ 10) (h : ys ++ Digit.putL m = Digit.putL N) : (ys ++ [UInt8.ofNat (m % 128 + 128)]) ++ Digit.putL (m / 128) = Digit.putL N := by
  rw [← h, Digit.putL_eq m h10, if_neg (by omega)]
  simp
theorem put_low (m N : Nat) (ys : List UInt8) (hm : m < 128) (h : ys ++ Digit.putL m = Digit.putL N) : ys ++ [UInt8.ofNat m] = Digit.putL N := by
  rw [← h, Digit.putL_eq m (by omega), if_pos hm]

end Go.Proofs.Ytogpnfgjdnccdaa.Sha
