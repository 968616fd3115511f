/- digit.PutText, digit.TakeText. -/
import Derived.Test.YtflhffpeaddhnaaDigitC
namespace Go.Proofs.Ytflhffpeaddhnaa.Digit
open Go.RowKit

theorem bytes_eq {a : ByteArray} {l : List UInt8} (h : a.data.toList = l) : a = ⟨l.toArray⟩ := by
  apply ByteArray.ext
  apply Array.toList_inj.1
  rw [h]

set_option maxRecDepth 100000 in
set_option maxHeartbeats 400000 in
/-- digit.PutText -/
theorem putText_any (s : ByteArray) (w : World) (hs : s.size ≤ 70368744177664) :
    Calls Try.prog 15 #[.string s] w fun e w' => e = .returned (.string ⟨(putTextL s.data.toList).toArray⟩) ∧ Below w.heap.size w w' := by
  have hl := putL_len s.size
  go_enter Try.func15, Try.ntmps15
  go_wp2_with (go_at_call 12; refine (put_any _ _ (by omega)).mono ?_; rintro e w' ⟨rfl, hb⟩)
  go_ret
  exact ⟨ret_str (bytes_eq (by simp [putTextL])), hb⟩

theorem takeText_err (l : List UInt8) (most : Int) (h : (takeL l).2.2 ≠ 0) : takeTextL l most = ([], 0, (takeL l).2.2) := by
  unfold takeTextL
  rw [if_pos h]
theorem takeText_long (l : List UInt8) (most : Int) (n k : Nat) (ht : takeL l = (n, k, 0)) (h : most < 0 ∨ most < n) : takeTextL l most = ([], 0, 3) := by
  unfold takeTextL
  rw [ht]
  rw [if_neg (by simp), if_pos h]
theorem takeText_short (l : List UInt8) (most : Int) (n k : Nat) (ht : takeL l = (n, k, 0)) (h0 : ¬ most < 0) (h1 : ¬ most < n) (h : l.length - k < n) : takeTextL l most = ([], 0, 10) := by
  unfold takeTextL
  rw [ht]
  rw [if_neg (by simp), if_neg (by rintro (h | h) <;> contradiction), if_pos h]
theorem takeText_fits (l : List UInt8) (most : Int) (n k : Nat) (ht : takeL l = (n, k, 0)) (h0 : ¬ most < 0) (h1 : ¬ most < n) (h : ¬ l.length - k < n) : takeTextL l most = ((l.drop k).take n, k + n, 0) := by
  unfold takeTextL
  rw [ht]
  rw [if_neg (by simp), if_neg (by rintro (h | h) <;> contradiction), if_neg h]
theorem ret3_text {a b : ByteArray} {x y : Int} {k : IntKind} {c : Value} (h : a = b) (g : x = y) : Ending.returned (.tuple #[.string a, .int k x, c]) = .returned (.tuple #[.string b, .int k y, c]) := by rw [h, g]

set_option maxRecDepth 100000 in
set_option maxHeartbeats 400000 in
/-- digit.TakeText -/
theorem takeText_any (s : ByteArray) (most : Int) (w : World) (hs : s.size ≤ 9223372036854775807) (hm0 : -9223372036854775808 ≤ most) (hm1 : most ≤ 9223372036854775807) :
    Calls Try.prog 13 #[.string s, .int .i64 most] w fun e w' =>
      e = .returned (.tuple #[.string ⟨(takeTextL s.data.toList most).1.toArray⟩, .int .i64 (takeTextL s.data.toList most).2.1, .int .i64 (takeTextL s.data.toList most).2.2]) ∧ w = w' := by
  have hT := fun w => take_any s w hs
  obtain ⟨⟨n, k, e⟩, ht⟩ : ∃ t, takeL s.data.toList = t := ⟨_, rfl⟩
  have herr := takeL_err s.data.toList
  rw [ht] at hT herr
  by_cases he : e = 0
  · subst he
    have h1 := takeL_one _ _ _ ht
    have hk : k ≤ s.size := by simpa using h1.2.2.2.1
    have hk10 : k ≤ 10 := h1.2.2.1
    have hn : n < 18446744073709551616 := h1.2.2.2.2
    have HX := Lib.hid ht
    have HT := Lib.hid hT
    clear hT ht herr h1
    by_cases hneg : most < 0
    · have HR := Lib.hid (takeText_long s.data.toList most n k HX.out (Or.inl hneg))
      go_enter Try.func13, Try.ntmps13
      go_wp2_with (go_at_call 11; refine (HT.out _).mono ?_; rintro e w' ⟨rfl, rfl⟩)
      go_ret3
      exact ⟨by rw [HR.out]; rfl, rfl⟩
    · by_cases hlong : most < n
      · have HR := Lib.hid (takeText_long s.data.toList most n k HX.out (Or.inr hlong))
        go_enter Try.func13, Try.ntmps13
        go_wp2_with (go_at_call 11; refine (HT.out _).mono ?_; rintro e w' ⟨rfl, rfl⟩)
        go_ret3
        exact ⟨by rw [HR.out]; rfl, rfl⟩
      · by_cases hshort : s.size - k < n
        · have HR := Lib.hid (takeText_short s.data.toList most n k HX.out hneg hlong (by simpa using hshort))
          go_enter Try.func13, Try.ntmps13
          go_wp2_with (go_at_call 11; refine (HT.out _).mono ?_; rintro e w' ⟨rfl, rfl⟩)
          go_ret3
          exact ⟨by rw [HR.out]; rfl, rfl⟩
        · have HR := Lib.hid (takeText_fits s.data.toList most n k HX.out hneg hlong (by simpa using hshort))
          go_enter Try.func13, Try.ntmps13
          go_wp2_with (go_at_call 11; refine (HT.out _).mono ?_; rintro e w' ⟨rfl, rfl⟩)

          go_ret3
          exact ⟨by rw [HR.out]; exact ret3_text (bytes_eq (by simp)) rfl, rfl⟩
  · have HE := Lib.hid (takeText_err s.data.toList most (by rw [ht]; exact he))
    have HX := Lib.hid ht
    rcases herr with h | h | h
    · exact absurd h he
    all_goals
      simp only [Prod.mk.injEq] at h
      obtain ⟨rfl, rfl, rfl⟩ := h
      have HT := Lib.hid hT
      clear hT ht
      go_enter Try.func13, Try.ntmps13
      go_wp2_with (go_at_call 11; refine (HT.out _).mono ?_; rintro e w' ⟨rfl, rfl⟩)
      go_ret3
      exact ⟨by rw [HE.out, HX.out]; rfl, rfl⟩

end Go.Proofs.Ytflhffpeaddhnaa.Digit
