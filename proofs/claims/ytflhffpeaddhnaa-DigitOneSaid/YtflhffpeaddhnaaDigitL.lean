/- The statements of layer 1: each returns true, and turns nothing that was there. -/
import Derived.Test.YtflhffpeaddhnaaDigitG
import Derived.OpenShut
import Derived.Lib.QuietBelow
namespace Go.Proofs.Ytflhffpeaddhnaa.Digit
open Go.RowKit

set_option maxRecDepth 100000 in
set_option maxHeartbeats 400000 in
theorem law_DigitPuts (a0 : Int) (w0 : (Lit.int .u64 a0).wf = true) (w : World) :
    Calls Try.prog 4 #[.int .u64 a0] w fun e w' => e = .returned (.bool true) ∧ Below w.heap.size w w' := by
  have hbd := bounds_u64 w0
  obtain ⟨n, rfl⟩ := Int.eq_ofNat_of_zero_le hbd.1
  have h1 : n ≤ 18446744073709551615 := by omega
  clear w0 hbd
  have hb := Below.refl w.heap.size w
  go_enter Try.func4, Try.ntmps4
  go_wp2_with (first
    | (go_at_call 12; refine (carry (w0 := w) (put_any _ _ h1) (by assumption)).mono ?_; rintro e w' ⟨rfl, hb⟩)
    | (go_at_call 17; refine (carry (w0 := w) (refPut _ _ h1) (by assumption)).mono ?_; rintro e w' ⟨rfl, hb⟩)
    | (go_at_call 18; refine (size_any _ _ h1).mono ?_; rintro e w' ⟨rfl, rfl⟩)
    | (go_at_call 14; refine (carry (w0 := w) (eight_any _ _ h1) (by assumption)).mono ?_; rintro e w' ⟨rfl, hb⟩)
    | (go_at_call 19; refine (carry (w0 := w) (refEight_any _ _ h1) (by assumption)).mono ?_; rintro e w' ⟨rfl, hb⟩))
  go_ret
  exact ⟨rfl, by assumption⟩

theorem most_of (a : ByteArray) (h : ¬ 65536 < a.size) : a.size ≤ 65536 := by omega

set_option maxRecDepth 100000 in
set_option maxHeartbeats 400000 in
theorem law_DigitTakes (a0 : ByteArray) (w0 : a0.size ≤ maxLen) (w : World) :
    Calls Try.prog 5 #[.string a0] w fun e w' => e = .returned (.bool true) ∧ Below w.heap.size w w' := by
  have hs : a0.size ≤ 9223372036854775807 := w0
  clear w0
  have hb := Below.refl w.heap.size w
  by_cases h : 65536 < a0.size
  · go_enter Try.func5, Try.ntmps5
    go_wp2_with (go_at_call 16; refine (works_any _).mono ?_; rintro e w' ⟨rfl, hb⟩)
    go_ret
    exact ⟨rfl, by assumption⟩
  · go_enter Try.func5, Try.ntmps5
    go_wp2_with (first
      | (go_at_call 11; refine (take_any _ _ hs).mono ?_; rintro e w' ⟨rfl, rfl⟩)
      | (go_at_call 20; refine (carry (w0 := w) (refTake_any _ _ hs) (by assumption)).mono ?_; rintro e w' ⟨rfl, hb⟩))
    go_ret
    exact ⟨rfl, by assumption⟩

theorem takeEightL_short (l : List UInt8) (h : l.length < 8) : takeEightL l = (0, 10) := by unfold takeEightL; rw [if_pos h]
theorem takeEightL_long (l : List UInt8) (h : ¬ l.length < 8) : takeEightL l = (valB 0 (l.take 8), 0) := by unfold takeEightL; rw [if_neg h]
theorem takeEight_any (s : ByteArray) (w : World) :
    Calls Try.prog 21 #[.string s] w fun e w' => e = .returned (.tuple #[.int .u64 (takeEightL s.data.toList).1, .int .i64 (takeEightL s.data.toList).2]) ∧ w = w' := by
  by_cases h : s.size < 8
  · rw [takeEightL_short _ (by simpa using h)]
    exact takeEight_short s w h
  · rw [takeEightL_long _ (by simpa using h)]
    exact takeEight_long s w (by omega)
theorem refTakeEight_any (s : ByteArray) (w : World) :
    Calls Try.prog 22 #[.string s] w fun e w' => e = .returned (.tuple #[.int .u64 (takeEightL s.data.toList).1, .int .i64 (takeEightL s.data.toList).2]) ∧ w = w' := by
  by_cases h : s.size < 8
  · rw [takeEightL_short _ (by simpa using h)]
    exact refTakeEight_short s w h
  · rw [takeEightL_long _ (by simpa using h)]
    exact refTakeEight_long s w (by omega)

set_option maxRecDepth 100000 in
set_option maxHeartbeats 400000 in
theorem law_DigitEights (a0 : ByteArray) (_w0 : a0.size ≤ maxLen) (w : World) :
    Calls Try.prog 6 #[.string a0] w fun e w' => e = .returned (.bool true) ∧ Below w.heap.size w w' := by
  have hb := Below.refl w.heap.size w
  clear _w0
  by_cases h : 65536 < a0.size
  · go_enter Try.func6, Try.ntmps6
    go_wp2_with (go_at_call 16; refine (works_any _).mono ?_; rintro e w' ⟨rfl, hb⟩)
    go_ret
    exact ⟨rfl, by assumption⟩
  · go_enter Try.func6, Try.ntmps6
    go_wp2_with (first
      | (go_at_call 21; refine (takeEight_any _ _).mono ?_; rintro e w' ⟨rfl, rfl⟩)
      | (go_at_call 22; refine (refTakeEight_any _ _).mono ?_; rintro e w' ⟨rfl, rfl⟩)
      | (go_at_call 16; refine (carry (w0 := w) (works_any _) (by assumption)).mono ?_; rintro e w' ⟨rfl, hb⟩))
    go_ret
    exact ⟨rfl, by assumption⟩

set_option maxRecDepth 100000 in
set_option maxHeartbeats 400000 in
theorem law_DigitTexts (a0 : ByteArray) (a1 : Int) (w0 : a0.size ≤ maxLen) (w1 : (Lit.int .i64 a1).wf = true) (w : World) :
    Calls Try.prog 7 #[.string a0, .int .i64 a1] w fun e w' => e = .returned (.bool true) ∧ Below w.heap.size w w' := by
  have hs : a0.size ≤ 9223372036854775807 := w0
  obtain ⟨h0, h1⟩ := bounds_i64 w1
  clear w0 w1
  have hb := Below.refl w.heap.size w
  by_cases h : 65536 < a0.size
  · go_enter Try.func7, Try.ntmps7
    go_wp2_with (go_at_call 16; refine (works_any _).mono ?_; rintro e w' ⟨rfl, hb⟩)
    go_ret
    exact ⟨rfl, by assumption⟩
  · go_enter Try.func7, Try.ntmps7
    go_wp2_with (first
      | (go_at_call 13; refine (takeText_any _ _ _ hs h0 h1).mono ?_; rintro e w' ⟨rfl, rfl⟩)
      | (go_at_call 23; refine (carry (w0 := w) (refTakeText_any _ _ _ hs h0 h1) (by assumption)).mono ?_; rintro e w' ⟨rfl, hb⟩)
      | (go_at_call 15; refine (carry (w0 := w) (putText_any _ _ (by omega)) (by assumption)).mono ?_; rintro e w' ⟨rfl, hb⟩)
      | (go_at_call 24; refine (carry (w0 := w) (refPutText_any _ _ (by omega)) (by assumption)).mono ?_; rintro e w' ⟨rfl, hb⟩))
    go_ret
    exact ⟨rfl, by assumption⟩

/-! ### there and back -/
theorem take_put_more (n : Nat) (more : ByteArray) (w : World) (h1 : n ≤ 18446744073709551615) (hm : more.size ≤ 65536) :
    Calls Try.prog 11 #[.string (⟨(putL n).toArray⟩ ++ more)] w fun e w' => e = .returned (.tuple #[.int .u64 n, .int .i64 (putL n).length, .int .i64 0]) ∧ w = w' := by
  have hl := putL_len n
  have h := take_any (⟨(putL n).toArray⟩ ++ more) w (by rw [ByteArray.size_append]; show (putL n).toArray.size + _ ≤ _; rw [List.size_toArray]; omega)
  have e : takeL ((ByteArray.mk (putL n).toArray ++ more).data.toList) = (n, (putL n).length, 0) := by
    have := takeL_put n (by omega) more.data.toList
    simpa using this
  rw [e] at h
  exact h
theorem takeEight_put_more (n : Nat) (more : ByteArray) (w : World) (h1 : n ≤ 18446744073709551615) :
    Calls Try.prog 21 #[.string (⟨(eightL n).toArray⟩ ++ more)] w fun e w' => e = .returned (.tuple #[.int .u64 n, .int .i64 0]) ∧ w = w' := by
  have h := takeEight_any (⟨(eightL n).toArray⟩ ++ more) w
  have e : takeEightL ((ByteArray.mk (eightL n).toArray ++ more).data.toList) = (n, 0) := by
    have := takeEight_put n (by omega) more.data.toList
    simpa using this
  rw [e] at h
  exact h
theorem putTextL_len (l : List UInt8) : (putTextL l).length ≤ 10 + l.length := by
  have := putL_len l.length
  unfold putTextL
  rw [List.length_append]
  omega
theorem takeText_put_more (t more : ByteArray) (w : World) (ht : t.size ≤ 65536) (hm : more.size ≤ 65536) :
    Calls Try.prog 13 #[.string (⟨(putTextL t.data.toList).toArray⟩ ++ more), .int .i64 t.size] w fun e w' => e = .returned (.tuple #[.string t, .int .i64 (putTextL t.data.toList).length, .int .i64 0]) ∧ w = w' := by
  have hl := putTextL_len t.data.toList
  have hs : t.data.toList.length = t.size := by simp
  have h := takeText_any (⟨(putTextL t.data.toList).toArray⟩ ++ more) t.size w (by rw [ByteArray.size_append]; show (putTextL t.data.toList).toArray.size + _ ≤ _; rw [List.size_toArray]; omega) (by omega) (by omega)
  have e : takeTextL ((ByteArray.mk (putTextL t.data.toList).toArray ++ more).data.toList) (t.size : Int) = (t.data.toList, (putTextL t.data.toList).length, 0) := by
    have := takeText_put t.data.toList more.data.toList (by omega)
    rw [hs] at this
    simpa using this
  rw [e] at h
  exact h

set_option maxRecDepth 100000 in
set_option maxHeartbeats 400000 in
theorem law_DigitBack (a0 : Int) (a1 a2 : ByteArray) (w0 : (Lit.int .u64 a0).wf = true) (_w1 : a1.size ≤ maxLen) (_w2 : a2.size ≤ maxLen) (w : World) :
    Calls Try.prog 8 #[.int .u64 a0, .string a1, .string a2] w fun e w' => e = .returned (.bool true) ∧ Below w.heap.size w w' := by
  have hbd := bounds_u64 w0
  obtain ⟨n, rfl⟩ := Int.eq_ofNat_of_zero_le hbd.1
  have h1 : n ≤ 18446744073709551615 := by omega
  clear w0 hbd _w1 _w2
  have hb := Below.refl w.heap.size w
  by_cases hx : 65536 < a1.size
  · go_enter Try.func8, Try.ntmps8
    go_wp2_with (go_at_call 16; refine (works_any _).mono ?_; rintro e w' ⟨rfl, hb⟩)
    go_ret
    exact ⟨rfl, by assumption⟩
  · by_cases hy : 65536 < a2.size
    · go_enter Try.func8, Try.ntmps8
      go_wp2_with (go_at_call 16; refine (works_any _).mono ?_; rintro e w' ⟨rfl, hb⟩)
      go_ret
      exact ⟨rfl, by assumption⟩
    · have hl := putL_len n
      have hl8 := eightL_len n
      have H8 := Lib.hid hl8
      have hl8' : (eightL n).length ≤ 8 := by omega
      have hlt := putTextL_len a1.data.toList
      have hs : a1.data.toList.length ≤ a1.size := by simp
      clear hl8
      go_enter Try.func8, Try.ntmps8
      go_wp2_with (first
        | (go_at_call 12; refine (carry (w0 := w) (put_any _ _ h1) (by assumption)).mono ?_; rintro e w' ⟨rfl, hb⟩)
        | (go_at_call 11; refine (take_put_more _ _ _ h1 (by omega)).mono ?_; rintro e w' ⟨rfl, rfl⟩)
        | (go_at_call 14; refine (carry (w0 := w) (eight_any _ _ h1) (by assumption)).mono ?_; rintro e w' ⟨rfl, hb⟩)
        | (go_at_call 21; refine (takeEight_put_more _ _ _ h1).mono ?_; rintro e w' ⟨rfl, rfl⟩)
        | (go_at_call 15; refine (carry (w0 := w) (putText_any _ _ (by omega)) (by assumption)).mono ?_; rintro e w' ⟨rfl, hb⟩)
        | (go_at_call 13; refine (takeText_put_more _ _ _ (by omega) (by omega)).mono ?_; rintro e w' ⟨rfl, rfl⟩))
      go_ret
      exact ⟨rfl, by assumption⟩

/-! ### the document's examples -/
theorem known_take (s : ByteArray) (n k e : Nat) (w : World) (hs : s.size ≤ 100) (h : takeL s.data.toList = (n, k, e)) :
    Calls Try.prog 11 #[.string s] w fun r w' => r = .returned (.tuple #[.int .u64 n, .int .i64 k, .int .i64 e]) ∧ w = w' := by
  have := take_any s w (by omega)
  rwa [h] at this
theorem known_text (s t : ByteArray) (m : Int) (k e : Nat) (w : World) (hs : s.size ≤ 100) (h0 : 0 ≤ m) (h1 : m ≤ 100) (h : takeTextL s.data.toList m = (t.data.toList, k, e)) :
    Calls Try.prog 13 #[.string s, .int .i64 m] w fun r w' => r = .returned (.tuple #[.string t, .int .i64 k, .int .i64 e]) ∧ w = w' := by
  have := takeText_any s m w (by omega) (by omega) (by omega)
  rwa [h] at this
theorem known_put (n : Nat) (t : ByteArray) (w : World) (hn : n ≤ 1000) (h : putL n = t.data.toList) :
    Calls Try.prog 12 #[.int .u64 n] w fun r w' => r = .returned (.string t) ∧ Below w.heap.size w w' := by
  have := put_any n w (by omega)
  rwa [h] at this

theorem known_eight (n : Nat) (t : ByteArray) (w : World) (hn : n ≤ 1000) (h : eightL n = t.data.toList) :
    Calls Try.prog 14 #[.int .u64 n] w fun r w' => r = .returned (.string t) ∧ Below w.heap.size w w' := by
  have := eight_any n w (by omega)
  rwa [h] at this
theorem known_putText (s t : ByteArray) (w : World) (hs : s.size ≤ 1000) (h : putTextL s.data.toList = t.data.toList) :
    Calls Try.prog 15 #[.string s] w fun r w' => r = .returned (.string t) ∧ Below w.heap.size w w' := by
  have := putText_any s w (by omega)
  rwa [h] at this

set_option maxRecDepth 100000 in
set_option maxHeartbeats 1000000 in
theorem law_DigitKnown (w : World) :
    Calls Try.prog 3 #[] w fun e w' => e = .returned (.bool true) ∧ Below w.heap.size w w' := by
  have hb := Below.refl w.heap.size w
  go_enter Try.func3, Try.ntmps3
  go_wp2_with fail
  refine (known_take ⟨#[128]⟩ 0 0 10 _ (by decide) (by decide)).mono ?_; rintro e w' ⟨rfl, rfl⟩
  go_wp2_with fail
  refine (known_take ⟨#[128, 0]⟩ 0 0 6 _ (by decide) (by decide)).mono ?_; rintro e w' ⟨rfl, rfl⟩
  go_wp2_with fail
  refine (known_take ⟨#[255, 255, 255, 255, 255, 255, 255, 255, 255, 2]⟩ 0 0 6 _ (by decide) (by decide)).mono ?_; rintro e w' ⟨rfl, rfl⟩
  go_wp2_with fail
  refine (known_take ⟨#[172, 2, 7]⟩ 300 2 0 _ (by decide) (by decide)).mono ?_; rintro e w' ⟨rfl, rfl⟩
  go_wp2_with fail
  refine (known_put 0 ⟨#[0]⟩ _ (by decide) (by decide)).mono ?_; rintro e w1 ⟨rfl, hb1⟩
  go_wp2_with fail
  refine (carry (known_put 127 ⟨#[127]⟩ _ (by decide) (by decide)) hb1).mono ?_; rintro e w2 ⟨rfl, hb2⟩
  go_wp2_with fail
  refine (carry (known_put 128 ⟨#[128, 1]⟩ _ (by decide) (by decide)) hb2).mono ?_; rintro e w3 ⟨rfl, hb3⟩
  go_wp2_with fail
  refine (known_text ⟨#[2, 97, 98, 99]⟩ ⟨#[97, 98]⟩ 5 3 0 _ (by decide) (by decide) (by decide) (by decide)).mono ?_; rintro e w' ⟨rfl, rfl⟩
  go_wp2_with fail
  refine (known_text ⟨#[2, 97, 98]⟩ ⟨#[]⟩ 1 0 3 _ (by decide) (by decide) (by decide) (by decide)).mono ?_; rintro e w' ⟨rfl, rfl⟩
  go_wp2_with fail
  refine (known_text ⟨#[3, 97]⟩ ⟨#[]⟩ 9 0 10 _ (by decide) (by decide) (by decide) (by decide)).mono ?_; rintro e w' ⟨rfl, rfl⟩
  go_wp2_with fail
  refine (carry (known_eight 258 ⟨#[0, 0, 0, 0, 0, 0, 1, 2]⟩ _ (by decide) (by decide)) hb3).mono ?_; rintro e w4 ⟨rfl, hb4⟩
  go_wp2_with fail
  refine (carry (known_putText ⟨#[97, 98]⟩ ⟨#[2, 97, 98]⟩ _ (by decide) (by decide)) hb4).mono ?_; rintro e w5 ⟨rfl, hb5⟩
  go_wp2_with fail
  refine (carry (works_any _) hb5).mono ?_; rintro e w6 ⟨rfl, hb6⟩
  go_wp2_with fail
  go_ret
  exact ⟨rfl, hb6⟩

theorem take_begin (s : ByteArray) (n k j : Nat) (w : World) (ht : takeL s.data.toList = (n, k, 0)) (hj : j < k) (hs : s.size ≤ 9223372036854775807) :
    Calls Try.prog 11 #[.string (s.extract 0 j)] w fun e w' => e = .returned (.tuple #[.int .u64 0, .int .i64 0, .int .i64 10]) ∧ w = w' := by
  have h := take_any (s.extract 0 j) w (by rw [ByteArray.size_extract]; omega)
  have e : takeL (s.extract 0 j).data.toList = (0, 0, 10) := by
    rw [Lib.extract_data, List.drop_zero, Nat.sub_zero]
    exact takeL_begin _ _ _ _ ht hj
  rw [e] at h
  exact h

set_option maxRecDepth 100000 in
set_option maxHeartbeats 400000 in
theorem law_DigitOne (a0 : ByteArray) (w0 : a0.size ≤ maxLen) (w : World) :
    Calls Try.prog 9 #[.string a0] w fun e w' => e = .returned (.bool true) ∧ Below w.heap.size w w' := by
  have hs : a0.size ≤ 9223372036854775807 := w0
  clear w0
  have hb := Below.refl w.heap.size w
  by_cases h : 65536 < a0.size
  · go_enter Try.func9, Try.ntmps9
    go_wp2_with (go_at_call 16; refine (works_any _).mono ?_; rintro e w' ⟨rfl, hb⟩)
    go_ret
    exact ⟨rfl, by assumption⟩
  · have hT := fun w => take_any a0 w hs
    obtain ⟨⟨n, k, e⟩, ht⟩ : ∃ t, takeL a0.data.toList = t := ⟨_, rfl⟩
    have herr := takeL_err a0.data.toList
    rw [ht] at hT herr
    have HX := Lib.hid ht
    by_cases he : e = 0
    · subst he
      have h1 := takeL_one _ _ _ ht
      have hk : k ≤ a0.size := by simpa using h1.2.2.2.1
      have hk1 : 1 ≤ k := h1.2.1
      have hk10 : k ≤ 10 := h1.2.2.1
      have hn : n ≤ 18446744073709551615 := by have := h1.2.2.2.2; omega
      have HP := Lib.hid h1.1
      have HT := Lib.hid hT
      clear hT ht herr h1
      have hg1 : decide ((k : Int) < 1) = false := by simp; omega
      have hg2 : decide ((10 : Int) < (k : Int)) = false := by simp; omega
      have hg3 : decide (a0.size < k) = false := by simp; omega
      have hg4 : decide ((a0.size : Int) < (k : Int)) = false := by simp; omega
      have hq : (ByteArray.mk (putL n).toArray).toList = (a0.extract 0 k).toList := by
        rw [ByteArray.toList_eq, ByteArray.toList_eq, Lib.extract_data, List.drop_zero, Nat.sub_zero, ← HP.out]
      go_enter Try.func9, Try.ntmps9
      go_wp2_with (go_at_call 11; refine (HT.out _).mono ?_; rintro e w' ⟨rfl, rfl⟩)
      refine wp_region_quiet_below (by kernel_rfl) (by kernel_rfl) ?_
      repeat (quiet_step (exact Calls.regrown_of (put_any _ _ hn)))
      refine wpQuiet_nil ?_
      intro _ hw'
      obtain ⟨⟨dq, osq⟩, hw''⟩ := hw'
      subst hw''
      have hb := below_regrown w dq osq
      dsimp only
      generalize Sort.grow (redrawn w dq) osq = w1 at hb ⊢
      go_wp2
      go_loop [52] (fun i => ∃ j : Nat, j ≤ k ∧ i = .int .i64 j) (fun i => k - (intOf i).toNat)
      case atStart => exact ⟨0, by omega, rfl⟩
      case round =>
        obtain ⟨j, hj, rfl⟩ := hrel
        by_cases hlt : j < k
        · have HB := Lib.hid (fun w => take_begin a0 n k j w HX.out hlt hs)
          go_wp2_with (go_at_call 11; refine (HB.out _).mono ?_; rintro e w' ⟨rfl, rfl⟩)
          go_round
          case rel => exact ⟨j + 1, by omega, by go_num⟩
          case measure => simp [intOf]; omega
        · obtain rfl : j = k := by omega
          go_wp2
          go_ret
          exact ⟨rfl, by assumption⟩
    · rcases herr with h | h | h
      · exact absurd h he
      all_goals
        simp only [Prod.mk.injEq] at h
        obtain ⟨rfl, rfl, rfl⟩ := h
        have HT := Lib.hid hT
        clear hT ht
        go_enter Try.func9, Try.ntmps9
        go_wp2_with (first
          | (go_at_call 11; refine (HT.out _).mono ?_; rintro e w' ⟨rfl, rfl⟩)
          | (go_at_call 16; refine (works_any _).mono ?_; rintro e w' ⟨rfl, hb⟩))
        go_ret
        exact ⟨rfl, by assumption⟩

theorem compare_eights (a b : Nat) (w : World) (ha : a ≤ 18446744073709551615) (hb : b ≤ 18446744073709551615) :
    Calls Try.prog 25 #[.string ⟨(eightL a).toArray⟩, .string ⟨(eightL b).toArray⟩] w fun e w' => e = .returned (.int .i64 (if a < b then -1 else if b < a then 1 else 0)) ∧ w = w' := by
  have h := Try.strings_Compare ⟨(eightL a).toArray⟩ ⟨(eightL b).toArray⟩ w
  have e : Lib.compareBytes (ByteArray.mk (eightL a).toArray).data.toList (ByteArray.mk (eightL b).toArray).data.toList = if a < b then -1 else if b < a then 1 else 0 := by
    have := cmp_eight 8 a b (by omega) (by omega)
    simpa [eightL] using this
  rw [e] at h
  exact h.mono fun _ _ hh => ⟨hh.1, hh.2.symm⟩

theorem size_small (n : Nat) (h : n < 128) : (putL n).length = 1 := (putL_one_byte n).1 h
theorem size_more (n : Nat) (h : ¬ n < 128) : (((putL n).length : Int) == 1) = false := by
  have := mt (putL_one_byte n).2 h
  simp
  omega

set_option maxRecDepth 100000 in
set_option maxHeartbeats 400000 in
theorem law_DigitOrder (a0 a1 : Int) (w0 : (Lit.int .u64 a0).wf = true) (w1 : (Lit.int .u64 a1).wf = true) (w : World) :
    Calls Try.prog 10 #[.int .u64 a0, .int .u64 a1] w fun e w' => e = .returned (.bool true) ∧ Below w.heap.size w w' := by
  have hbd0 := bounds_u64 w0
  obtain ⟨a, rfl⟩ := Int.eq_ofNat_of_zero_le hbd0.1
  have ha : a ≤ 18446744073709551615 := by omega
  have hbd1 := bounds_u64 w1
  obtain ⟨b, rfl⟩ := Int.eq_ofNat_of_zero_le hbd1.1
  have hb' : b ≤ 18446744073709551615 := by omega
  clear w0 w1 hbd0 hbd1
  have hb := Below.refl w.heap.size w
  have hC := fun w => compare_eights a b w ha hb'
  have hl8 := eightL_len a
  by_cases h1 : a < b
  · rw [if_pos h1] at hC
    have hle : (putL a).length ≤ (putL b).length := putL_mono 9 a b (by omega)
    have HC := Lib.hid hC
    clear hC
    by_cases h128 : a < 128
    · have hs1 := size_small a h128
      go_enter Try.func10, Try.ntmps10
      go_wp2_with (first
        | (go_at_call 14; refine (carry (w0 := w) (eight_any _ _ (by omega)) (by assumption)).mono ?_; rintro e w' ⟨rfl, hb⟩)
        | (go_at_call 25; refine (HC.out _).mono ?_; rintro e w' ⟨rfl, rfl⟩)
        | (go_at_call 16; refine (carry (w0 := w) (works_any _) (by assumption)).mono ?_; rintro e w' ⟨rfl, hb⟩)
        | (go_at_call 18; refine (size_any _ _ (by omega)).mono ?_; rintro e w' ⟨rfl, rfl⟩))
      go_ret
      exact ⟨ret_bool (by simp <;> omega), by assumption⟩
    · have hs1 := size_more a h128
      have hd1 : decide ((a : Int) < 128) = false := by simp; omega
      go_enter Try.func10, Try.ntmps10
      go_wp2_with (first
        | (go_at_call 14; refine (carry (w0 := w) (eight_any _ _ (by omega)) (by assumption)).mono ?_; rintro e w' ⟨rfl, hb⟩)
        | (go_at_call 25; refine (HC.out _).mono ?_; rintro e w' ⟨rfl, rfl⟩)
        | (go_at_call 16; refine (carry (w0 := w) (works_any _) (by assumption)).mono ?_; rintro e w' ⟨rfl, hb⟩)
        | (go_at_call 18; refine (size_any _ _ (by omega)).mono ?_; rintro e w' ⟨rfl, rfl⟩))
      go_ret
      exact ⟨ret_bool (by simp <;> omega), by assumption⟩
  · by_cases h2 : b < a
    · rw [if_neg h1, if_pos h2] at hC
      have HC := Lib.hid hC
      clear hC
      by_cases h128 : a < 128
      · have hs1 := size_small a h128
        go_enter Try.func10, Try.ntmps10
        go_wp2_with (first
          | (go_at_call 14; refine (carry (w0 := w) (eight_any _ _ (by omega)) (by assumption)).mono ?_; rintro e w' ⟨rfl, hb⟩)
          | (go_at_call 25; refine (HC.out _).mono ?_; rintro e w' ⟨rfl, rfl⟩)
          | (go_at_call 16; refine (carry (w0 := w) (works_any _) (by assumption)).mono ?_; rintro e w' ⟨rfl, hb⟩)
          | (go_at_call 18; refine (size_any _ _ (by omega)).mono ?_; rintro e w' ⟨rfl, rfl⟩))
        go_ret
        exact ⟨ret_bool (by simp <;> omega), by assumption⟩
      · have hs1 := size_more a h128
        have hd1 : decide ((a : Int) < 128) = false := by simp; omega
        go_enter Try.func10, Try.ntmps10
        go_wp2_with (first
          | (go_at_call 14; refine (carry (w0 := w) (eight_any _ _ (by omega)) (by assumption)).mono ?_; rintro e w' ⟨rfl, hb⟩)
          | (go_at_call 25; refine (HC.out _).mono ?_; rintro e w' ⟨rfl, rfl⟩)
          | (go_at_call 16; refine (carry (w0 := w) (works_any _) (by assumption)).mono ?_; rintro e w' ⟨rfl, hb⟩)
          | (go_at_call 18; refine (size_any _ _ (by omega)).mono ?_; rintro e w' ⟨rfl, rfl⟩))
        go_ret
        exact ⟨ret_bool (by simp <;> omega), by assumption⟩

    · rw [if_neg h1, if_neg h2] at hC
      obtain rfl : a = b := by omega
      have HC := Lib.hid hC
      clear hC
      by_cases h128 : a < 128
      · have hs1 := size_small a h128
        go_enter Try.func10, Try.ntmps10
        go_wp2_with (first
          | (go_at_call 14; refine (carry (w0 := w) (eight_any _ _ (by omega)) (by assumption)).mono ?_; rintro e w' ⟨rfl, hb⟩)
          | (go_at_call 25; refine (HC.out _).mono ?_; rintro e w' ⟨rfl, rfl⟩)
          | (go_at_call 16; refine (carry (w0 := w) (works_any _) (by assumption)).mono ?_; rintro e w' ⟨rfl, hb⟩)
          | (go_at_call 18; refine (size_any _ _ (by omega)).mono ?_; rintro e w' ⟨rfl, rfl⟩))
        go_ret
        exact ⟨ret_bool (by simp <;> omega), by assumption⟩
      · have hs1 := size_more a h128
        have hd1 : decide ((a : Int) < 128) = false := by simp; omega
        go_enter Try.func10, Try.ntmps10
        go_wp2_with (first
          | (go_at_call 14; refine (carry (w0 := w) (eight_any _ _ (by omega)) (by assumption)).mono ?_; rintro e w' ⟨rfl, hb⟩)
          | (go_at_call 25; refine (HC.out _).mono ?_; rintro e w' ⟨rfl, rfl⟩)
          | (go_at_call 16; refine (carry (w0 := w) (works_any _) (by assumption)).mono ?_; rintro e w' ⟨rfl, hb⟩)
          | (go_at_call 18; refine (size_any _ _ (by omega)).mono ?_; rintro e w' ⟨rfl, rfl⟩))
        go_ret
        exact ⟨ret_bool (by simp <;> omega), by assumption⟩

end Go.Proofs.Ytflhffpeaddhnaa.Digit
