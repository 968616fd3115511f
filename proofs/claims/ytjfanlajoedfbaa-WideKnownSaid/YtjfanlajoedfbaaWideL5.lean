/- WideKnown. -/
import Derived.Test.YtjfanlajoedfbaaWideL4
namespace Go.Proofs.Ytjfanlajoedfbaa.Wide
open Go.RowKit

theorem knownAdd (w : World) : Calls Try.prog 10 #[.int .u64 18446744073709551615, .int .u64 1] w fun e w' => e = .returned (.tuple #[.int .u64 0, .int .i64 9]) ∧ w = w' :=
  add_any 18446744073709551615 1 w (by omega) (by omega)
theorem knownSub (w : World) : Calls Try.prog 11 #[.int .u64 1, .int .u64 2] w fun e w' => e = .returned (.tuple #[.int .u64 0, .int .i64 5]) ∧ w = w' :=
  sub_any 1 2 w (by omega) (by omega)
theorem knownDiv (w : World) : Calls Try.prog 13 #[.agg #[.int .u64 1, .int .u64 0], .int .u64 3] w fun e w' => e = .returned (.tuple #[.agg #[.int .u64 0, .int .u64 6148914691236517205], .int .u64 1, .int .i64 0]) ∧ Below w.heap.size w w' :=
  div_any 1 0 3 w (by omega) (by omega) (by omega) (by omega)
theorem knownPart (w : World) : Calls Try.prog 15 #[.int .u64 10, .int .u64 1, .int .u64 3] w fun e w' => e = .returned (.tuple #[.int .u64 3, .int .i64 0]) ∧ Below w.heap.size w w' :=
  part_any 10 1 3 w (by omega) (by omega) (by omega)
theorem knownPart2 (w : World) : Calls Try.prog 15 #[.int .u64 9223372036854775808, .int .u64 2, .int .u64 1] w fun e w' => e = .returned (.tuple #[.int .u64 0, .int .i64 9]) ∧ Below w.heap.size w w' :=
  part_any 9223372036854775808 2 1 w (by omega) (by omega) (by omega)
theorem knownPart3 (w : World) : Calls Try.prog 15 #[.int .u64 5, .int .u64 1, .int .u64 0] w fun e w' => e = .returned (.tuple #[.int .u64 0, .int .i64 2]) ∧ Below w.heap.size w w' :=
  part_any 5 1 0 w (by omega) (by omega) (by omega)

theorem knownSum (w : World) (t : TypeId) : Calls Try.prog 12 #[.slice (some ⟨w.heap.size, 0, none⟩) 3 3] (w.alloc (.cells #[.int .u64 1, .int .u64 2, .int .u64 3] t)) fun e w' => e = .returned (.tuple #[.int .u64 6, .int .i64 0]) ∧ w.alloc (.cells #[.int .u64 1, .int .u64 2, .int .u64 3] t) = w' := by
  refine sum_any (some ⟨w.heap.size, 0, none⟩) 3 3 [1, 2, 3] _ ⟨rfl, by omega, by unfold maxLen; omega, by simp, .inr ⟨_, rfl, ?_⟩⟩
  intro i x hx
  match i, hx with
  | 0, hx => simp at hx; subst hx; simp [Addr.add]
  | 1, hx => simp at hx; subst hx; simp [Addr.add]
  | 2, hx => simp at hx; subst hx; simp [Addr.add]
  | i + 3, hx => simp at hx

set_option maxRecDepth 100000 in
set_option maxHeartbeats 1600000 in
theorem law_WideKnown (w : World) :
    Calls Try.prog 3 #[] w fun e w' => e = .returned (.bool true) ∧ Below w.heap.size w w' := by
  go_enter Try.func3, Try.ntmps3
  go_wp2_with fail
  refine (knownAdd _).mono ?_
  rintro r w' ⟨rfl, rfl⟩
  go_wp2_with fail
  refine (knownSub _).mono ?_
  rintro r w' ⟨rfl, rfl⟩
  go_wp2_with fail
  refine (knownSum _ _).mono ?_
  rintro r w' ⟨rfl, rfl⟩
  have hb := below_alloc (Below.refl w.heap.size w) (.cells #[.int .u64 1, .int .u64 2, .int .u64 3] 22)
  go_wp2_with fail
  refine (carry (w0 := w) (knownDiv _) hb).mono ?_
  rintro r w1 ⟨rfl, hb1⟩
  have k := one_cells w1 (.int .u64 0) (.int .u64 6148914691236517205) 28
  have hb2 := below_alloc hb1 (.cells #[.int .u64 0, .int .u64 6148914691236517205] 28)
  go_wp2_with fail
  refine (works_any _).mono ?_
  rintro r w2 ⟨rfl, hb3⟩
  have k0 := kept hb3 k.1
  have k1 := kept hb3 k.2
  have hb4 := hb2.trans (hb3.mono hb2.size)
  clear k hb hb1 hb2 hb3
  go_wp2_with fail
  refine (carry (w0 := w) (knownPart _) hb4).mono ?_
  rintro r w3 ⟨rfl, hb5⟩
  go_wp2_with fail
  refine (carry (w0 := w) (knownPart2 _) hb5).mono ?_
  rintro r w4 ⟨rfl, hb6⟩
  go_wp2_with fail
  refine (carry (w0 := w) (knownPart3 _) hb6).mono ?_
  rintro r w5 ⟨rfl, hb7⟩
  go_wp2_with fail
  go_ret
  exact ⟨rfl, hb7⟩

end Go.Proofs.Ytjfanlajoedfbaa.Wide
