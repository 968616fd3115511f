/- mintageref01.TakeText; the statements' own 'works'. -/
import Derived.Test.YtflhffpeaddhnaaDigitF
namespace Go.Proofs.Ytflhffpeaddhnaa.Digit
open Go.RowKit

/-- A contract that turns nothing that was there, said from where the caller began. -/
theorem carry {P : Program} {f : Nat} {args : Array Value} {w0 w : World} {e0 : Ending} (h : Calls P f args w fun e w' => e = e0 ∧ Below w.heap.size w w') (hb : Below w0.heap.size w0 w) :
    Calls P f args w fun e w' => e = e0 ∧ Below w0.heap.size w0 w' :=
  h.mono fun _ _ hh => ⟨hh.1, hb.trans (hh.2.mono hb.size)⟩

theorem extract_two (s : ByteArray) (k n : Nat) : ((s.extract k s.size).extract 0 n).data.toList = (s.data.toList.drop k).take n := by
  rw [Lib.extract_data, Lib.extract_data, List.drop_zero, Nat.sub_zero, List.take_of_length_le (show (s.data.toList.drop k).length ≤ s.size - k by simp)]

set_option maxRecDepth 100000 in
set_option maxHeartbeats 400000 in
theorem refTakeText_any (s : ByteArray) (most : Int) (w : World) (hs : s.size ≤ 9223372036854775807) (hm0 : -9223372036854775808 ≤ most) (hm1 : most ≤ 9223372036854775807) :
    Calls Try.prog 23 #[.string s, .int .i64 most] w fun e w' =>
      e = .returned (.tuple #[.string ⟨(takeTextL s.data.toList most).1.toArray⟩, .int .i64 (takeTextL s.data.toList most).2.1, .int .i64 (takeTextL s.data.toList most).2.2]) ∧ Below w.heap.size w w' := by
  have hT := fun w => refTake_any s w hs
  obtain ⟨⟨n, k, e⟩, ht⟩ : ∃ t, takeL s.data.toList = t := ⟨_, rfl⟩
  have herr := takeL_err s.data.toList
  rw [ht] at hT herr
  by_cases he : e = 0
  · subst he
    have h1 := takeL_one _ _ _ ht
    have hk : k ≤ s.size := by simpa using h1.2.2.2.1
    have hk10 : k ≤ 10 := h1.2.2.1
    have hn : n < 18446744073709551616 := h1.2.2.2.2
    have HX := Lib.hid ht
    have HT := Lib.hid hT
    clear hT ht herr h1
    by_cases hneg : most < 0
    · have HR := Lib.hid (takeText_long s.data.toList most n k HX.out (Or.inl hneg))
      go_enter Try.func23, Try.ntmps23
      go_wp2_with (go_at_call 20; refine (HT.out _).mono ?_; rintro e w' ⟨rfl, hb⟩)
      go_ret3
      exact ⟨by rw [HR.out]; rfl, hb⟩
    · by_cases hlong : most < n
      · have HR := Lib.hid (takeText_long s.data.toList most n k HX.out (Or.inr hlong))
        go_enter Try.func23, Try.ntmps23
        go_wp2_with (go_at_call 20; refine (HT.out _).mono ?_; rintro e w' ⟨rfl, hb⟩)
        go_ret3
        exact ⟨by rw [HR.out]; rfl, hb⟩
      · by_cases hshort : s.size - k < n
        · have HR := Lib.hid (takeText_short s.data.toList most n k HX.out hneg hlong (by simpa using hshort))
          go_enter Try.func23, Try.ntmps23
          go_wp2_with (go_at_call 20; refine (HT.out _).mono ?_; rintro e w' ⟨rfl, hb⟩)
          go_ret3
          exact ⟨by rw [HR.out]; rfl, hb⟩
        · have HR := Lib.hid (takeText_fits s.data.toList most n k HX.out hneg hlong (by simpa using hshort))
          go_enter Try.func23, Try.ntmps23
          go_wp2_with (go_at_call 20; refine (HT.out _).mono ?_; rintro e w' ⟨rfl, hb⟩)
          go_ret3
          exact ⟨by rw [HR.out]; exact ret3_text (bytes_eq (extract_two s k n)) rfl, hb⟩
  · have HE := Lib.hid (takeText_err s.data.toList most (by rw [ht]; exact he))
    have HX := Lib.hid ht
    rcases herr with h | h | h
    · exact absurd h he
    all_goals
      simp only [Prod.mk.injEq] at h
      obtain ⟨rfl, rfl, rfl⟩ := h
      have HT := Lib.hid hT
      clear hT ht
      go_enter Try.func23, Try.ntmps23
      go_wp2_with (go_at_call 20; refine (HT.out _).mono ?_; rintro e w' ⟨rfl, hb⟩)
      go_ret3
      exact ⟨by rw [HE.out, HX.out]; rfl, hb⟩

theorem put300 (w : World) : Calls Try.prog 12 #[.int .u64 300] w fun e w' => e = .returned (.string ⟨#[172, 2]⟩) ∧ Below w.heap.size w w' := put_any 300 w (by omega)
theorem take300 (w : World) : Calls Try.prog 11 #[.string ⟨#[172, 2]⟩] w fun e w' => e = .returned (.tuple #[.int .u64 300, .int .i64 2, .int .i64 0]) ∧ w = w' :=
  take_any ⟨#[172, 2]⟩ w (by decide)

set_option maxRecDepth 100000 in
set_option maxHeartbeats 400000 in
theorem works_any (w : World) : Calls Try.prog 16 #[] w fun e w' => e = .returned (.bool true) ∧ Below w.heap.size w w' := by
  have hb := Below.refl w.heap.size w
  go_enter Try.func16, Try.ntmps16
  go_wp2_with (first
    | (go_at_call 12; refine (carry (w0 := w) (put300 _) (by assumption)).mono ?_; rintro e w' ⟨rfl, hb⟩)
    | (go_at_call 11; refine (take300 _).mono ?_; rintro e w' ⟨rfl, rfl⟩))
  go_ret
  exact ⟨rfl, by assumption⟩

end Go.Proofs.Ytflhffpeaddhnaa.Digit
