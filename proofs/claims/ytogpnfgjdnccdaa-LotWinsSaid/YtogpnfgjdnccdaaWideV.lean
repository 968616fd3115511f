/- wide.Div, wide.Part. -/
import Derived.Test.YtogpnfgjdnccdaaWideD
import Derived.Test.YtogpnfgjdnccdaaWideT
namespace Go.Proofs.Ytogpnfgjdnccdaa.Wide
open Go.RowKit

/-- A cell that was there reads on as it did. -/
theorem kept {w w' : World} (h : Below w.heap.size w w') {p : Addr} {v : Value} (hc : w.cell? p = some v) : w'.cell? p = some v := by
  rw [h.cell (World.block_lt_of_cell? w p hc)]
  exact hc
theorem keptF {w w' : World} (h : Below w.heap.size w w') {p : Addr} {v : Value} (hc : w.cell? p = some v) (hf : w.frozen? p = false) : w'.frozen? p = false := by
  rw [h.frozen (World.block_lt_of_cell? w p hc)]
  exact hf

theorem div_digits (ah al b : Nat) (hb : 0 < b) :
    (ah * 18446744073709551616 + al) / b = ah / b * 18446744073709551616 + (ah % b * 18446744073709551616 + al) / b ∧ (ah * 18446744073709551616 + al) % b = (ah % b * 18446744073709551616 + al) % b := by
  have hd := Nat.div_add_mod ah b
  have e : ah * 18446744073709551616 + al = ah % b * 18446744073709551616 + al + b * (ah / b * 18446744073709551616) := by
    rw [← Nat.mul_assoc]
    omega
  refine ⟨?_, ?_⟩
  · rw [e, Nat.add_mul_div_left _ _ hb, Nat.add_comm]
  · rw [e, Nat.add_mul_mod_self_left]

theorem div_small (r al b : Nat) (hb : r < b) (hl : al < 18446744073709551616) : (r * 18446744073709551616 + al) / b < 18446744073709551616 := by
  rw [Nat.div_lt_iff_lt_mul (by omega)]
  omega

/-- n times a, divided by b. -/
def partN (n a b : Nat) : Nat × Nat := if b = 0 then (0, 2) else if n * a / b < 18446744073709551616 then (n * a / b, 0) else (0, 9)

theorem mulTop (w : World) : Calls Try.prog 46 #[.int .u64 18446744073709551615, .int .u64 18446744073709551615] w fun e w' => e = .returned (.agg #[.int .u64 18446744073709551614, .int .u64 1]) ∧ Below w.heap.size w w' :=
  mul_any 18446744073709551615 18446744073709551615 w (by omega) (by omega)
theorem cmpTop (w : World) : Calls Try.prog 32 #[.agg #[.int .u64 1, .int .u64 0], .agg #[.int .u64 0, .int .u64 5]] w fun e w' => e = .returned (.int .i64 1) ∧ Below w.heap.size w w' :=
  compare_any 1 0 0 5 w (by omega) (by omega) (by omega) (by omega)

end Go.Proofs.Ytogpnfgjdnccdaa.Wide
