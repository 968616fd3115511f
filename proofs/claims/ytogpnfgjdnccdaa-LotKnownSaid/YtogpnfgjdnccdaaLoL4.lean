/- lot: the law LotKnown. -/
import Derived.Test.YtogpnfgjdnccdaaLoL1
namespace Go.Proofs.Ytogpnfgjdnccdaa.Lot
open Go.RowKit Go.Proofs.Ytogpnfgjdnccdaa.Sha Go.Proofs.Ytogpnfgjdnccdaa.Tree

set_option maxHeartbeats 6400000 in
theorem law_LotKnown (w : World) :
    Calls Try.prog 3 #[] w fun e w' => e = .returned (.bool true) ∧ Below w.heap.size w w' := by
  have HK := Lib.hid works_any
  have HB0 := Lib.hid (Below.refl w.heap.size w)
  have H1 := Lib.hid (show ∀ w, Calls Try.prog 9 #[.int .u32 0, .int .u64 2, .int .u64 1, .int .u64 1, .int .u64 1] w fun e w' => e = .returned (.tuple #[.bool false, .int .i64 2]) ∧ Below w.heap.size w w' from fun w => by
    have h := code_WinsL 0 2 1 1 1 (by omega) w
    rw [show winsE 0 2 1 1 1 = false by decide, show mayN 2 1 1 1 = false by decide] at h
    exact h)
  have H2 := Lib.hid (show ∀ w, Calls Try.prog 9 #[.int .u32 0, .int .u64 1, .int .u64 1, .int .u64 2, .int .u64 1] w fun e w' => e = .returned (.tuple #[.bool false, .int .i64 2]) ∧ Below w.heap.size w w' from fun w => by
    have h := code_WinsL 0 1 1 2 1 (by omega) w
    rw [show winsE 0 1 1 2 1 = false by decide, show mayN 1 1 2 1 = false by decide] at h
    exact h)
  have H3 := Lib.hid (show ∀ w, Calls Try.prog 9 #[.int .u32 0, .int .u64 1, .int .u64 1, .int .u64 1, .int .u64 0] w fun e w' => e = .returned (.tuple #[.bool false, .int .i64 2]) ∧ Below w.heap.size w w' from fun w => by
    have h := code_WinsL 0 1 1 1 0 (by omega) w
    rw [show winsE 0 1 1 1 0 = false by decide, show mayN 1 1 1 0 = false by decide] at h
    exact h)
  have H4 := Lib.hid (show ∀ w, Calls Try.prog 10 #[.int .u64 1, .int .u64 3, .int .u64 1, .int .u64 1] w fun e w' => e = .returned (.tuple #[.int .u64 1431655766, .int .i64 0]) ∧ Below w.heap.size w w' from fun w => by
    have h := code_LeastL 1 3 1 1 w
    rw [show leastE 1 3 1 1 = 1431655766 by decide, show mayN 1 3 1 1 = true by decide] at h
    exact h)
  have H5 := Lib.hid (show ∀ w, Calls Try.prog 10 #[.int .u64 1, .int .u64 2, .int .u64 1, .int .u64 2] w fun e w' => e = .returned (.tuple #[.int .u64 1073741824, .int .i64 0]) ∧ Below w.heap.size w w' from fun w => by
    have h := code_LeastL 1 2 1 2 w
    rw [show leastE 1 2 1 2 = 1073741824 by decide, show mayN 1 2 1 2 = true by decide] at h
    exact h)
  have H6 := Lib.hid (show ∀ w, Calls Try.prog 12 #[.int .u32 0, .int .u64 1, .int .u64 2, .int .u64 1, .int .u64 1] w fun e w' => e = .returned (.bool true) ∧ Below w.heap.size w w' from fun w => by
    have h := wins_any 0 1 2 1 1 (by omega) w
    rw [show winsE 0 1 2 1 1 = true by decide] at h
    exact h)
  have H7 := Lib.hid (show ∀ w, Calls Try.prog 13 #[.int .u32 0, .int .u64 0, .int .u64 5, .int .u64 1, .int .u64 1] w fun e w' => e = .returned (.bool true) ∧ Below w.heap.size w w' from fun w => by
    have h := not_any 0 0 5 1 1 (by omega) w
    rw [show (mayN 0 5 1 1 && !winsN 0 0 5 1 1) = true by decide] at h
    exact h)
  have H8 := Lib.hid (show ∀ w, Calls Try.prog 12 #[.int .u32 4294967295, .int .u64 5, .int .u64 5, .int .u64 1, .int .u64 1] w fun e w' => e = .returned (.bool true) ∧ Below w.heap.size w w' from fun w => by
    have h := wins_any 4294967295 5 5 1 1 (by omega) w
    rw [show winsE 4294967295 5 5 1 1 = true by decide] at h
    exact h)
  have H9 := Lib.hid (show ∀ w, Calls Try.prog 13 #[.int .u32 0, .int .u64 5, .int .u64 5, .int .u64 0, .int .u64 1] w fun e w' => e = .returned (.bool true) ∧ Below w.heap.size w w' from fun w => by
    have h := not_any 0 5 5 0 1 (by omega) w
    rw [show (mayN 5 5 0 1 && !winsN 0 5 5 0 1) = true by decide] at h
    exact h)
  go_enter Try.func3, Try.ntmps3
  go_wp2_with fail
  refine (H1.out _).mono ?_
  rintro e w1 ⟨rfl, hb⟩
  have HB1 := Lib.hid (HB0.out.trans (hb.mono HB0.out.size))
  clear hb
  go_wp2_with fail
  refine (H2.out _).mono ?_
  rintro e w2 ⟨rfl, hb⟩
  have HB2 := Lib.hid (HB1.out.trans (hb.mono HB1.out.size))
  clear hb
  go_wp2_with fail
  refine (H3.out _).mono ?_
  rintro e w3 ⟨rfl, hb⟩
  have HB3 := Lib.hid (HB2.out.trans (hb.mono HB2.out.size))
  clear hb
  go_wp2_with fail
  refine (H4.out _).mono ?_
  rintro e w4 ⟨rfl, hb⟩
  have HB4 := Lib.hid (HB3.out.trans (hb.mono HB3.out.size))
  clear hb
  go_wp2_with fail
  refine (H5.out _).mono ?_
  rintro e w5 ⟨rfl, hb⟩
  have HB5 := Lib.hid (HB4.out.trans (hb.mono HB4.out.size))
  clear hb
  go_wp2_with fail
  refine (HK.out _).mono ?_
  rintro e w6 ⟨rfl, hb⟩
  have HB6 := Lib.hid (HB5.out.trans (hb.mono HB5.out.size))
  clear hb
  go_wp2_with fail
  refine (H6.out _).mono ?_
  rintro e w7 ⟨rfl, hb⟩
  have HB7 := Lib.hid (HB6.out.trans (hb.mono HB6.out.size))
  clear hb
  go_wp2_with fail
  refine (H7.out _).mono ?_
  rintro e w8 ⟨rfl, hb⟩
  have HB8 := Lib.hid (HB7.out.trans (hb.mono HB7.out.size))
  clear hb
  go_wp2_with fail
  refine (H8.out _).mono ?_
  rintro e w9 ⟨rfl, hb⟩
  have HB9 := Lib.hid (HB8.out.trans (hb.mono HB8.out.size))
  clear hb
  go_wp2_with fail
  refine (H9.out _).mono ?_
  rintro e w10 ⟨rfl, hb⟩
  have HB10 := Lib.hid (HB9.out.trans (hb.mono HB9.out.size))
  clear hb
  go_wp2_with fail
  go_ret
  exact ⟨rfl, HB10.out⟩

end Go.Proofs.Ytogpnfgjdnccdaa.Lot
