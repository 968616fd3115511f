/- digit.Take. -/
import Derived.Test.YtlalipomphgcoaaDigitB
namespace Go.Proofs.Ytlalipomphgcoaa.Digit
open Go.RowKit

/-- What is gathered behind one byte more. -/
def stepP (acc c k : Nat) : Nat := acc + c % 128 * 128 ^ k % 18446744073709551616

theorem pow128 (k : Nat) : (128 : Nat) ^ k = 2 ^ (7 * k) := by
  rw [Nat.pow_mul]

theorem pow_le9 (k : Nat) (h : k ≤ 9) : (128 : Nat) ^ k ≤ 9223372036854775808 := by
  have h1 : (128 : Nat) ^ k ≤ 128 ^ 9 := Nat.pow_le_pow_right (by omega) h
  have h2 : (128 : Nat) ^ 9 = 9223372036854775808 := by decide
  omega

theorem pow_le8 (k : Nat) (h : k ≤ 8) : (128 : Nat) ^ k ≤ 72057594037927936 := by
  have h1 : (128 : Nat) ^ k ≤ 128 ^ 8 := Nat.pow_le_pow_right (by omega) h
  have h2 : (128 : Nat) ^ 8 = 72057594037927936 := by decide
  omega

theorem u8_and127 (c : Nat) (h : c < 256) : bits .and .u8 (c : Int) 127 = ((c % 128 : Nat) : Int) := by
  have h1 := u8_and_nat c 127 h (by omega)
  rw [nat_mask7] at h1
  exact h1

theorem u64_nat (n : Nat) (h : n < 18446744073709551616) : IntKind.u64.wrap (n : Int) = (n : Int) := IntWalk.u64_in _ ⟨by omega, by omega⟩

theorem step_or (acc c k : Nat) (hc : c < 256) (hk : k ≤ 9) (ha : acc < 128 ^ k) :
    bits .or .u64 (acc : Int) (IntKind.u64.wrap (IntKind.u64.wrap (bits .and .u8 (c : Int) 127) * 2 ^ (7 * k))) = (stepP acc c k : Int) := by
  rw [u8_and127 c hc, u64_nat (c % 128) (by omega)]
  have e1 : ((c % 128 : Nat) : Int) * 2 ^ (7 * k) = ((c % 128 * 128 ^ k : Nat) : Int) := by
    rw [pow128, Int.natCast_mul, Int.natCast_pow]
    rfl
  have e2 : IntKind.u64.wrap ((c % 128 * 128 ^ k : Nat) : Int) = ((c % 128 * 128 ^ k % 18446744073709551616 : Nat) : Int) := by
    rw [IntKind.wrap_u64]
    rfl
  have hp := pow_le9 k hk
  have hm : c % 128 * 128 ^ k % 18446744073709551616 < 18446744073709551616 := Nat.mod_lt _ (by omega)
  rw [e1, e2, u64_or_nat acc _ (by omega) hm, Nat.or_comm]
  have hd : c % 128 * 128 ^ k % 18446744073709551616 % 2 ^ (7 * k) = 0 := by
    have h64 : 18446744073709551616 = 2 ^ (7 * k) * 2 ^ (64 - 7 * k) := by
      rw [← Nat.pow_add, show 7 * k + (64 - 7 * k) = 64 by omega]
    rw [h64, Nat.mod_mul_right_mod, pow128]
    exact Nat.mul_mod_left _ _
  rw [nat_join (7 * k) _ acc hd (by rw [← pow128]; exact ha), Nat.add_comm]
  rfl

theorem step_small (acc c k : Nat) (hk : k ≤ 8) : stepP acc c k = acc + c % 128 * 128 ^ k := by
  have hp := pow_le8 k hk
  have : c % 128 * 128 ^ k ≤ 127 * 72057594037927936 := Nat.mul_le_mul (by omega) hp
  unfold stepP
  rw [Nat.mod_eq_of_lt (by omega)]

theorem step_bd (acc c k : Nat) (hk : k ≤ 8) (ha : acc < 128 ^ k) : stepP acc c k < 128 ^ (k + 1) := by
  rw [step_small acc c k hk, Nat.pow_succ, Nat.mul_comm (128 ^ k) 128]
  have : c % 128 * 128 ^ k ≤ 127 * 128 ^ k := Nat.mul_le_mul_right _ (by omega)
  omega

theorem take_at (s : ByteArray) (k : Nat) (h : k < s.size) : s.data.toList.drop k = s[k] :: s.data.toList.drop (k + 1) := by
  rw [List.drop_eq_getElem_cons (by simpa using h)]
  rfl

theorem take_end (l : List UInt8) (k acc : Nat) (hk : k < 10) (h : l.length = k) : takeF (10 - k) k acc (l.drop k) = (0, 0, 10) := by
  rw [List.drop_eq_nil_of_le (by omega), show 10 - k = (9 - k) + 1 by omega]
  rfl

theorem take_ok (s : ByteArray) (k acc : Nat) (hk : k < 10) (h : k < s.size) (hc : s[k].toNat < 128) (he : endsB k s[k].toNat = true) :
    takeF (10 - k) k acc (s.data.toList.drop k) = (stepP acc s[k].toNat k, k + 1, 0) := by
  rw [take_at s k h, show 10 - k = (9 - k) + 1 by omega, takeF, if_pos hc, he]
  simp only [if_true, Prod.mk.injEq, and_true]
  unfold stepP
  rw [Nat.mod_eq_of_lt hc]
  by_cases h9 : k = 9
  · subst h9
    have : s[9].toNat = 1 := by simpa [endsB] using he
    rw [this]
  · have hp := pow_le8 k (by omega)
    have : s[k].toNat * 128 ^ k ≤ 127 * 72057594037927936 := Nat.mul_le_mul (by omega) hp
    rw [Nat.mod_eq_of_lt (by omega)]

theorem take_no (s : ByteArray) (k acc : Nat) (hk : k < 10) (h : k < s.size) (hc : s[k].toNat < 128) (he : endsB k s[k].toNat = false) :
    takeF (10 - k) k acc (s.data.toList.drop k) = (0, 0, 6) := by
  rw [take_at s k h, show 10 - k = (9 - k) + 1 by omega, takeF, if_pos hc, he]
  rfl

theorem take_on (s : ByteArray) (k acc : Nat) (hk : k < 10) (h : k < s.size) (hc : ¬ s[k].toNat < 128) :
    takeF (10 - k) k acc (s.data.toList.drop k) = takeF (10 - (k + 1)) (k + 1) (stepP acc s[k].toNat k) (s.data.toList.drop (k + 1)) := by
  rw [take_at s k h, show 10 - k = (10 - (k + 1)) + 1 by omega, takeF, if_neg hc]
  by_cases h9 : k = 9
  · subst h9
    simp only [Nat.reduceSub, Nat.reduceAdd, takeF]
  · have hlt := s[k].toNat_lt
    rw [step_small _ _ _ (by omega), show s[k].toNat % 128 = s[k].toNat - 128 by omega]

end Go.Proofs.Ytlalipomphgcoaa.Digit
