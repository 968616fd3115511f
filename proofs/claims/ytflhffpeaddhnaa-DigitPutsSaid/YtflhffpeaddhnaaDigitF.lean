/- The document's own answers: Eight, TakeEight, PutText, begins, Take, TakeText. -/
import Derived.Test.YtflhffpeaddhnaaDigitE
namespace Go.Proofs.Ytflhffpeaddhnaa.Digit
open Go.RowKit

theorem eight_list' (m : Nat) : [(m : Int) / 256 / 256 / 256 / 256 / 256 / 256 / 256 % 256, (m : Int) / 256 / 256 / 256 / 256 / 256 / 256 % 256,
    (m : Int) / 256 / 256 / 256 / 256 / 256 % 256, (m : Int) / 256 / 256 / 256 / 256 % 256, (m : Int) / 256 / 256 / 256 % 256,
    (m : Int) / 256 / 256 % 256, (m : Int) / 256 % 256, (m : Int) % 256].map (fun n => UInt8.ofNat n.toNat) = eightL m := by
  simp only [List.map_cons, List.map_nil, eightL, eightF, List.nil_append, List.cons_append]
  have e : ∀ x : Nat, UInt8.ofNat ((x : Int) % 256).toNat = UInt8.ofNat x := fun x => u8_mod x
  have c : ∀ {a b : UInt8} {l k : List UInt8}, a = b → l = k → a :: l = b :: k := fun h g => by rw [h, g]
  exact c (e _) (c (e _) (c (e _) (c (e _) (c (e _) (c (e _) (c (e _) (c (e _) rfl)))))))

theorem refPut (n : Nat) (w : World) (h1 : n ≤ 18446744073709551615) :
    Calls Try.prog 17 #[.int .u64 n] w fun e w' => e = .returned (.string ⟨(putL n).toArray⟩) ∧ Below w.heap.size w w' :=
  refPut_any 9 n w (by omega) h1 (by omega)

set_option maxRecDepth 100000 in
set_option maxHeartbeats 400000 in
theorem refEight_any (n : Nat) (w : World) (h1 : n ≤ 18446744073709551615) :
    Calls Try.prog 19 #[.int .u64 n] w fun e w' => e = .returned (.string ⟨(eightL n).toArray⟩) ∧ Below w.heap.size w w' := by
  go_enter Try.func19, Try.ntmps19
  go_wp2
  go_rounds 9
  go_ret
  refine ⟨ret_str (bytes_eq ?_), ?_⟩
  · have h := eight_list' n
    simpa [strOfNums] using h
  · go_grown

set_option maxHeartbeats 400000 in
theorem refTakeEight_short (s : ByteArray) (w : World) (hs : s.size < 8) :
    Calls Try.prog 22 #[.string s] w fun e w' => e = .returned (.tuple #[.int .u64 0, .int .i64 10]) ∧ w = w' := by
  go_enter Try.func22, Try.ntmps22
  go_wp2
  go_ret2
  exact ⟨rfl, rfl⟩

set_option maxHeartbeats 400000 in
theorem refTakeEight_long (s : ByteArray) (w : World) (hs : 8 ≤ s.size) :
    Calls Try.prog 22 #[.string s] w fun e w' => e = .returned (.tuple #[.int .u64 (valB 0 (s.data.toList.take 8)), .int .i64 0]) ∧ w = w' := by
  go_enter Try.func22, Try.ntmps22
  go_wp2
  go_loop [4, 5] (fun n i => ∃ k : Nat, k ≤ 8 ∧ i = .int .i64 k ∧ n = .int .u64 (valB 0 (s.data.toList.take k))) (fun _ i => 8 - (intOf i).toNat)
  case atStart => exact ⟨0, by omega, rfl, rfl⟩
  case round =>
    obtain ⟨k, hk, rfl, rfl⟩ := hrel
    by_cases hlt : k < 8
    · have hb := valB_bd s.data.toList k (by omega)
      have hc := s[k].toNat_lt
      have HS : Hid (valB 0 (s.data.toList.take (k + 1)) = valB 0 (s.data.toList.take k) * 256 + s[k].toNat) := valB_snoc s k (by omega)
      go_wp2
      go_round
      case rel => exact ⟨k + 1, by omega, by go_num, by rw [HS.out]; go_num⟩
      case measure => simp [intOf]; omega
    · obtain rfl : k = 8 := by omega
      go_wp2
      go_ret2
      exact ⟨rfl, rfl⟩

set_option maxRecDepth 100000 in
set_option maxHeartbeats 400000 in
theorem refPutText_any (s : ByteArray) (w : World) (hs : s.size ≤ 70368744177664) :
    Calls Try.prog 24 #[.string s] w fun e w' => e = .returned (.string ⟨(putTextL s.data.toList).toArray⟩) ∧ Below w.heap.size w w' := by
  have hl := putL_len s.size
  go_enter Try.func24, Try.ntmps24
  go_wp2_with (go_at_call 17; refine (refPut _ _ (by omega)).mono ?_; rintro e w' ⟨rfl, hb⟩)
  go_ret
  exact ⟨ret_str (bytes_eq (by simp [putTextL])), hb⟩

set_option maxRecDepth 100000 in
set_option maxHeartbeats 400000 in
theorem begins_any (s t : ByteArray) (w : World) :
    Calls Try.prog 28 #[.string s, .string t] w fun e w' => e = .returned (.bool (decide (s.data.toList.take t.size = t.data.toList))) ∧ w = w' := by
  by_cases h : t.size ≤ s.size
  · go_enter Try.func28, Try.ntmps28
    go_wp2
    go_ret
    refine ⟨ret_bool ?_, rfl⟩
    rw [ByteArray.toList_eq, ByteArray.toList_eq, Lib.extract_data, List.drop_zero, Nat.sub_zero]
    rw [Bool.eq_iff_iff]
    simp
  · have hne : ¬ s.data.toList.take t.size = t.data.toList := fun e => by
      have := congrArg List.length e
      simp at this
      omega
    go_enter Try.func28, Try.ntmps28
    go_wp2
    go_ret
    exact ⟨ret_bool (by rw [decide_eq_false hne]), rfl⟩

/-! ### Take: the facts of a round -/
/-- A byte's part of the number, in 64 bits. -/
def prodP (c k : Nat) : Nat := c % 128 * 128 ^ k % 18446744073709551616

theorem step_prod (acc c k : Nat) : stepP acc c k = acc + prodP c k := rfl

theorem pow9 : (128 : Nat) ^ 9 = 9223372036854775808 := by decide

theorem prod_big (c : Nat) : prodP c 9 = c % 128 % 2 * 9223372036854775808 := by
  unfold prodP
  rw [pow9]
  omega

theorem prod_fits (c k : Nat) (hk : k ≤ 9) (h : ¬ (k = 9 ∧ 2 ≤ c % 128)) : prodP c k = c % 128 * 128 ^ k ∧ prodP c k ≤ 9223372036854775808 := by
  by_cases h9 : k = 9
  · subst h9
    have h2 : c % 128 = 0 ∨ c % 128 = 1 := by omega
    unfold prodP
    rw [pow9]
    omega
  · have hp := pow_le8 k (by omega)
    have h3 : c % 128 * 128 ^ k ≤ 127 * 72057594037927936 := Nat.mul_le_mul (by omega) hp
    unfold prodP
    rw [Nat.mod_eq_of_lt (by omega)]
    omega

theorem prod_wrap (c k T : Nat) (hT : 128 ^ k = T) : IntKind.u64.wrap ((c : Int) % 128 * (T : Int)) = (prodP c k : Int) := by
  subst hT
  rw [IntKind.wrap_u64]
  unfold prodP
  have e : (c : Int) % 128 * ((128 ^ k : Nat) : Int) = ((c % 128 * 128 ^ k : Nat) : Int) := by
    rw [Int.natCast_mul]
    rfl
  rw [e]
  rfl

theorem quo_fits (c k T : Nat) (hk : k ≤ 9) (hT : 128 ^ k = T) (h : ¬ (k = 9 ∧ 2 ≤ c % 128)) : ((prodP c k : Nat) : Int) / (T : Int) = ((c % 128 : Nat) : Int) := by
  rw [(prod_fits c k hk h).1, hT]
  have hp : 0 < T := by rw [← hT]; exact Nat.pow_pos (by omega)
  have e : c % 128 * T / T = c % 128 := Nat.mul_div_cancel _ hp
  rw [← Int.natCast_ediv, e]

theorem quo_big (c T : Nat) (hT : T = 9223372036854775808) : ((prodP c 9 : Nat) : Int) / (T : Int) = ((c % 128 % 2 : Nat) : Int) := by
  subst hT
  rw [prod_big, ← Int.natCast_ediv, Nat.mul_div_cancel _ (by omega)]

theorem take_big (s : ByteArray) (acc : Nat) (h : 9 < s.size) (hb : 2 ≤ s[9].toNat % 128) : takeF (10 - 9) 9 acc (s.data.toList.drop 9) = (0, 0, 6) := by
  by_cases hc : s[9].toNat < 128
  · refine take_no s 9 acc (by omega) h hc ?_
    unfold endsB
    rw [if_pos rfl]
    simp
    omega
  · rw [take_on s 9 acc (by omega) h hc]
    rfl

theorem bne_false (a b : Nat) (h : a = b) : ((a : Int) != (b : Int)) = false := by simp [h]

set_option maxRecDepth 100000 in
set_option maxHeartbeats 800000 in
theorem refTake_any (s : ByteArray) (w : World) (hs : s.size ≤ 9223372036854775807) :
    Calls Try.prog 20 #[.string s] w fun e w' => e = .returned (.tuple #[.int .u64 (takeL s.data.toList).1, .int .i64 (takeL s.data.toList).2.1, .int .i64 (takeL s.data.toList).2.2]) ∧ Below w.heap.size w w' := by
  go_enter Try.func20, Try.ntmps20
  go_wp2
  go_loop [5, 6, 7] (fun n t i => ∃ k acc : Nat, k ≤ 9 ∧ k ≤ s.size ∧ i = .int .i64 k ∧ n = .int .u64 acc ∧ t = .int .u64 (128 ^ k : Nat) ∧ takeL s.data.toList = takeF (10 - k) k acc (s.data.toList.drop k) ∧ acc < 128 ^ k) (fun _ _ i => 10 - (intOf i).toNat)
  case atStart => exact ⟨0, 0, by omega, by omega, rfl, rfl, rfl, rfl, by omega⟩
  case round =>
    obtain ⟨k, acc, hk, hks0, rfl, rfl, rfl, htk, hacc⟩ := hrel
    have HT := Lib.hid htk
    have HA := Lib.hid hacc
    have hpow := pow_le9 k hk
    have hpos : 0 < 128 ^ k := Nat.pow_pos (by omega)
    have hacc' : acc ≤ 9223372036854775807 := by omega
    obtain ⟨T, hT⟩ : ∃ T : Nat, 128 ^ k = T := ⟨_, rfl⟩
    rw [hT] at hpow hpos ⊢
    have HTT := Lib.hid hT
    clear hT htk hacc
    by_cases hend : s.size = k
    · have HE := Lib.hid (take_end s.data.toList k acc (by omega) (by simpa using hend))
      subst hend
      go_wp2
      go_ret3
      exact ⟨by rw [HT.out, HE.out]; rfl, Below.refl _ _⟩
    · have hks : k < s.size := by omega
      have hc8 := s[k].toNat_lt
      have hmul := prod_wrap s[k].toNat k T HTT.out
      by_cases hbig : k = 9 ∧ 2 ≤ s[k].toNat % 128
      · obtain ⟨rfl, hb2⟩ := hbig
        have hq := quo_big s[9].toNat T (by rw [← HTT.out, pow9])
        have HR := Lib.hid (take_big s acc hks hb2)
        have hP : prodP s[9].toNat 9 ≤ 9223372036854775808 := by rw [prod_big]; omega
        have hne : (((s[9].toNat % 128 % 2 : Nat) : Int) != (s[9].toNat : Int) % 128) = true := by simp; omega
        go_wp2_with fail
        go_ret3
        exact ⟨by rw [HT.out, HR.out]; rfl, Below.refl _ _⟩
      · have hfit := prod_fits s[k].toNat k hk hbig
        have HF := Lib.hid hfit.1
        have hP := hfit.2
        clear hfit
        have hq := quo_fits s[k].toNat k T hk HTT.out hbig
        have hne : (((s[k].toNat % 128 : Nat) : Int) != (s[k].toNat : Int) % 128) = false := bne_false (s[k].toNat % 128) (s[k].toNat % 128) rfl
        have hN : stepP acc s[k].toNat k ≤ 18446744073709551615 := by rw [step_prod]; omega
        have hsum : (acc : Int) + ((prodP s[k].toNat k : Nat) : Int) = ((stepP acc s[k].toNat k : Nat) : Int) := rfl
        by_cases hc : s[k].toNat < 128
        · by_cases he : endsB k s[k].toNat = true
          · have hR := take_ok s k acc (by omega) hks hc he
            have hone := takeL_one _ _ _ (HT.out.trans hR)
            have HR := Lib.hid hR
            have hlen : (putL (stepP acc s[k].toNat k)).length = k + 1 := by
              rw [hone.1, List.length_take]
              simp
              omega
            have hB := fun w => begins_any s ⟨(putL (stepP acc s[k].toNat k)).toArray⟩ w
            have ht : s.data.toList.take (ByteArray.size ⟨(putL (stepP acc s[k].toNat k)).toArray⟩) = putL (stepP acc s[k].toNat k) := by
              show s.data.toList.take (putL (stepP acc s[k].toNat k)).toArray.size = _
              rw [List.size_toArray, hlen, ← hone.1]
            rw [decide_eq_true ht] at hB
            have HB := Lib.hid hB
            have hne2 : (((putL (stepP acc s[k].toNat k)).length : Int) != (k : Int) + 1) = false := by rw [hlen]; simp
            clear he hR hone hlen hB ht
            go_wp2_with fail
            refine (refPut _ _ (by omega)).mono ?_
            rintro e w1 ⟨rfl, hb1⟩
            go_wp2_with fail
            refine (HB.out _).mono ?_
            rintro e w2 ⟨rfl, rfl⟩
            go_wp2_with fail
            refine (refPut _ _ (by omega)).mono ?_
            rintro e w3 ⟨rfl, hb3⟩
            go_wp2_with fail
            go_ret3
            exact ⟨by rw [HT.out, HR.out]; rfl, hb1.trans (hb3.mono hb1.size)⟩
          · rw [Bool.not_eq_true] at he
            have HR := Lib.hid (take_no s k acc (by omega) hks hc he)
            have h0 : s[k].toNat = 0 ∧ 1 ≤ k := by
              unfold endsB at he
              split at he
              · have : ¬ s[k].toNat = 1 := by simpa using he
                omega
              · simp at he
                omega
            have hlen : (putL (stepP acc s[k].toNat k)).length ≤ k := by
              obtain ⟨j, rfl⟩ : ∃ j, k = j + 1 := ⟨k - 1, by omega⟩
              refine putL_len_lt _ j ?_ (by omega)
              unfold stepP
              rw [h0.1]
              simpa using HA.out
            have hne2 : (((putL (stepP acc s[k].toNat k)).length : Int) != (k : Int) + 1) = true := by simp; omega
            have hB := fun w => begins_any s ⟨(putL (stepP acc s[k].toNat k)).toArray⟩ w
            clear he h0 hlen
            by_cases ht : s.data.toList.take (ByteArray.size ⟨(putL (stepP acc s[k].toNat k)).toArray⟩) = putL (stepP acc s[k].toNat k)
            · rw [decide_eq_true ht] at hB
              have HB := Lib.hid hB
              clear hB ht
              go_wp2_with fail
              refine (refPut _ _ (by omega)).mono ?_
              rintro e w1 ⟨rfl, hb1⟩
              go_wp2_with fail
              refine (HB.out _).mono ?_
              rintro e w2 ⟨rfl, rfl⟩
              go_wp2_with fail
              refine (refPut _ _ (by omega)).mono ?_
              rintro e w3 ⟨rfl, hb3⟩
              go_wp2_with fail
              go_ret3
              exact ⟨by rw [HT.out, HR.out]; rfl, hb1.trans (hb3.mono hb1.size)⟩
            · rw [decide_eq_false ht] at hB
              have HB := Lib.hid hB
              clear hB ht
              go_wp2_with fail
              refine (refPut _ _ (by omega)).mono ?_
              rintro e w1 ⟨rfl, hb1⟩
              go_wp2_with fail
              refine (HB.out _).mono ?_
              rintro e w2 ⟨rfl, rfl⟩
              go_wp2_with fail
              go_ret3
              exact ⟨by rw [HT.out, HR.out]; rfl, hb1⟩
        · have HR := Lib.hid (take_on s k acc (by omega) hks hc)
          by_cases h9 : k = 9
          · subst h9
            go_wp2_with fail
            go_ret3
            exact ⟨by rw [HT.out, HR.out]; rfl, Below.refl _ _⟩
          · have h9' : ((k : Int) == 9) = false := by simp; omega
            have hT8 : T ≤ 72057594037927936 := by rw [← HTT.out]; exact pow_le8 k (by omega)
            go_wp2_with fail
            go_round
            case rel =>
              refine ⟨k + 1, stepP acc s[k].toNat k, by omega, by omega, by go_num, rfl, ?_, HT.out.trans HR.out, step_bd _ _ _ (by omega) HA.out⟩
              rw [Nat.pow_succ, HTT.out]
              rfl
            case measure => simp [intOf]; omega

end Go.Proofs.Ytflhffpeaddhnaa.Digit
