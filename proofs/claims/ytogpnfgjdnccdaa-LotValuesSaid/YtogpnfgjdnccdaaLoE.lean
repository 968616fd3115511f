/- lot: the statements' helpers: wins, not, works. -/
import Derived.Test.YtogpnfgjdnccdaaLoD
namespace Go.Proofs.Ytogpnfgjdnccdaa.Lot
open Go.RowKit

theorem wins_err {n s L a b : Nat} (h : mayN s L a b = false) : winsE n s L a b = false := by rw [winsE, h, Bool.false_and]
theorem wins_ok {n s L a b : Nat} (h : mayN s L a b = true) : winsE n s L a b = winsN n s L a b := by rw [winsE, h, Bool.true_and]
set_option maxHeartbeats 1600000 in
theorem wins_any (n s L a b : Nat) (hn : n < 4294967296) (w : World) :
    Calls Try.prog 12 #[.int .u32 n, .int .u64 s, .int .u64 L, .int .u64 a, .int .u64 b] w fun e w' => e = .returned (.bool (winsE n s L a b)) ∧ Below w.heap.size w w' := by
  have H := Lib.hid (fun w => code_WinsL n s L a b hn w)
  cases hm : mayN s L a b with
  | false =>
    rw [wins_err hm, hm] at H
    rw [wins_err hm]
    clear hm hn
    go_enter Try.func12, Try.ntmps12
    go_wp2_with fail
    refine (H.out _).mono ?_
    rintro e w1 ⟨rfl, hb1⟩
    go_wp2_with fail
    go_ret
    exact ⟨rfl, hb1⟩
  | true =>
    rw [wins_ok hm, hm] at H
    rw [wins_ok hm]
    obtain ⟨r, hr⟩ : ∃ r, winsN n s L a b = r := ⟨_, rfl⟩
    rw [hr] at H
    rw [hr]
    clear hm hn hr
    cases r with
    | false =>
      go_enter Try.func12, Try.ntmps12
      go_wp2_with fail
      refine (H.out _).mono ?_
      rintro e w1 ⟨rfl, hb1⟩
      go_wp2_with fail
      go_ret
      exact ⟨rfl, hb1⟩
    | true =>
      go_enter Try.func12, Try.ntmps12
      go_wp2_with fail
      refine (H.out _).mono ?_
      rintro e w1 ⟨rfl, hb1⟩
      go_wp2_with fail
      go_ret
      exact ⟨rfl, hb1⟩

set_option maxHeartbeats 1600000 in
theorem not_any (n s L a b : Nat) (hn : n < 4294967296) (w : World) :
    Calls Try.prog 13 #[.int .u32 n, .int .u64 s, .int .u64 L, .int .u64 a, .int .u64 b] w fun e w' => e = .returned (.bool (mayN s L a b && !winsN n s L a b)) ∧ Below w.heap.size w w' := by
  have H := Lib.hid (fun w => code_WinsL n s L a b hn w)
  cases hm : mayN s L a b with
  | false =>
    rw [wins_err hm, hm] at H
    clear hm hn
    go_enter Try.func13, Try.ntmps13
    go_wp2_with fail
    refine (H.out _).mono ?_
    rintro e w1 ⟨rfl, hb1⟩
    go_wp2_with fail
    go_ret
    exact ⟨rfl, hb1⟩
  | true =>
    rw [wins_ok hm, hm] at H
    obtain ⟨r, hr⟩ : ∃ r, winsN n s L a b = r := ⟨_, rfl⟩
    rw [hr] at H
    rw [hr]
    clear hm hn hr
    cases r with
    | false =>
      go_enter Try.func13, Try.ntmps13
      go_wp2_with fail
      refine (H.out _).mono ?_
      rintro e w1 ⟨rfl, hb1⟩
      go_wp2_with fail
      go_ret
      exact ⟨rfl, hb1⟩
    | true =>
      go_enter Try.func13, Try.ntmps13
      go_wp2_with fail
      refine (H.out _).mono ?_
      rintro e w1 ⟨rfl, hb1⟩
      go_wp2_with fail
      go_ret
      exact ⟨rfl, hb1⟩

set_option maxHeartbeats 1600000 in
theorem works_any (w : World) : Calls Try.prog 11 #[] w fun e w' => e = .returned (.bool true) ∧ Below w.heap.size w w' := by
  have h1 := fun w => wins_any 2147483647 1 2 1 1 (by omega) w
  have h2 := fun w => not_any 2147483648 1 2 1 1 (by omega) w
  rw [show winsE 2147483647 1 2 1 1 = true by decide] at h1
  rw [show (mayN 1 2 1 1 && !winsN 2147483648 1 2 1 1) = true by decide] at h2
  have H1 := Lib.hid (show ∀ w, Calls Try.prog 12 #[.int .u32 2147483647, .int .u64 1, .int .u64 2, .int .u64 1, .int .u64 1] w fun e w' => e = .returned (.bool true) ∧ Below w.heap.size w w' from h1)
  have H2 := Lib.hid (show ∀ w, Calls Try.prog 13 #[.int .u32 2147483648, .int .u64 1, .int .u64 2, .int .u64 1, .int .u64 1] w fun e w' => e = .returned (.bool true) ∧ Below w.heap.size w w' from h2)
  clear h1 h2
  go_enter Try.func11, Try.ntmps11
  go_wp2_with fail
  refine (H1.out _).mono ?_
  rintro e w1 ⟨rfl, hb1⟩
  go_wp2_with fail
  refine (H2.out _).mono ?_
  rintro e w2 ⟨rfl, hb2⟩
  go_wp2_with fail
  go_ret
  exact ⟨rfl, hb1.trans (hb2.mono hb1.size)⟩

end Go.Proofs.Ytogpnfgjdnccdaa.Lot
