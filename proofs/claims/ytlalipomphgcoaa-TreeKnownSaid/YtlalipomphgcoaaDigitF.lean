/- The document's own answers: Eight, TakeEight, PutText, begins, Take, TakeText. -/
import Derived.Test.YtlalipomphgcoaaDigitE
namespace Go.Proofs.Ytlalipomphgcoaa.Digit
open Go.RowKit

theorem eight_list' (m : Nat) : [(m : Int) / 256 / 256 / 256 / 256 / 256 / 256 / 256 % 256, (m : Int) / 256 / 256 / 256 / 256 / 256 / 256 % 256,
    (m : Int) / 256 / 256 / 256 / 256 / 256 % 256, (m : Int) / 256 / 256 / 256 / 256 % 256, (m : Int) / 256 / 256 / 256 % 256,
    (m : Int) / 256 / 256 % 256, (m : Int) / 256 % 256, (m : Int) % 256].map (fun n => UInt8.ofNat n.toNat) = eightL m := by
  simp only [List.map_cons, List.map_nil, eightL, eightF, List.nil_append, List.cons_append]
  have e : ∀ x : Nat, UInt8.ofNat ((x : Int) % 256).toNat = UInt8.ofNat x := fun x => u8_mod x
  have c : ∀ {a b : UInt8} {l k : List UInt8}, a = b → l = k → a :: l = b :: k := fun h g => by rw [h, g]
  exact c (e _) (c (e _) (c (e _) (c (e _) (c (e _) (c (e _) (c (e _) (c (e _) rfl)))))))

theorem refPut (n : Nat) (w : World) (h1 : n ≤ 18446744073709551615) :
    Calls Try.prog 89 #[.int .u64 n] w fun e w' => e = .returned (.string ⟨(putL n).toArray⟩) ∧ Below w.heap.size w w' :=
  refPut_any 9 n w (by omega) h1 (by omega)

set_option maxRecDepth 100000 in
set_option maxHeartbeats 400000 in
theorem refEight_any (n : Nat) (w : World) (h1 : n ≤ 18446744073709551615) :
    Calls Try.prog 84 #[.int .u64 n] w fun e w' => e = .returned (.string ⟨(eightL n).toArray⟩) ∧ Below w.heap.size w w' := by
  go_enter Try.func84, Try.ntmps84
  go_wp2
  go_rounds 9
  go_ret
  refine ⟨ret_str (bytes_eq ?_), ?_⟩
  · have h := eight_list' n
    simpa [strOfNums] using h
  · go_grown

set_option maxRecDepth 100000 in
set_option maxHeartbeats 400000 in
theorem refPutText_any (s : ByteArray) (w : World) (hs : s.size ≤ 70368744177664) :
    Calls Try.prog 86 #[.string s] w fun e w' => e = .returned (.string ⟨(putTextL s.data.toList).toArray⟩) ∧ Below w.heap.size w w' := by
  have hl := putL_len s.size
  go_enter Try.func86, Try.ntmps86
  go_wp2_with (go_at_call 89; refine (refPut _ _ (by omega)).mono ?_; rintro e w' ⟨rfl, hb⟩)
  go_ret
  exact ⟨ret_str (bytes_eq (by simp [putTextL])), hb⟩

/-- A byte's part of the number, in 64 bits. -/
def prodP (c k : Nat) : Nat := c % 128 * 128 ^ k % 18446744073709551616

theorem step_prod (acc c k : Nat) : stepP acc c k = acc + prodP c k := rfl

theorem pow9 : (128 : Nat) ^ 9 = 9223372036854775808 := by decide

theorem prod_big (c : Nat) : prodP c 9 = c % 128 % 2 * 9223372036854775808 := by
  unfold prodP
  rw [pow9]
  omega

theorem prod_fits (c k : Nat) (hk : k ≤ 9) (h : ¬ (k = 9 ∧ 2 ≤ c % 128)) : prodP c k = c % 128 * 128 ^ k ∧ prodP c k ≤ 9223372036854775808 := by
  by_cases h9 : k = 9
  · subst h9
    have h2 : c % 128 = 0 ∨ c % 128 = 1 := by omega
    unfold prodP
    rw [pow9]
    omega
  · have hp := pow_le8 k (by omega)
    have h3 : c % 128 * 128 ^ k ≤ 127 * 72057594037927936 := Nat.mul_le_mul (by omega) hp
    unfold prodP
    rw [Nat.mod_eq_of_lt (by omega)]
    omega

theorem prod_wrap (c k T : Nat) (hT : 128 ^ k = T) : IntKind.u64.wrap ((c : Int) % 128 * (T : Int)) = (prodP c k : Int) := by
  subst hT
  rw [IntKind.wrap_u64]
  unfold prodP
  have e : (c : Int) % 128 * ((128 ^ k : Nat) : Int) = ((c % 128 * 128 ^ k : Nat) : Int) := by
    rw [Int.natCast_mul]
    rfl
  rw [e]
  rfl

theorem quo_fits (c k T : Nat) (hk : k ≤ 9) (hT : 128 ^ k = T) (h : ¬ (k = 9 ∧ 2 ≤ c % 128)) : ((prodP c k : Nat) : Int) / (T : Int) = ((c % 128 : Nat) : Int) := by
  rw [(prod_fits c k hk h).1, hT]
  have hp : 0 < T := by rw [← hT]; exact Nat.pow_pos (by omega)
  have e : c % 128 * T / T = c % 128 := Nat.mul_div_cancel _ hp
  rw [← Int.natCast_ediv, e]

theorem quo_big (c T : Nat) (hT : T = 9223372036854775808) : ((prodP c 9 : Nat) : Int) / (T : Int) = ((c % 128 % 2 : Nat) : Int) := by
  subst hT
  rw [prod_big, ← Int.natCast_ediv, Nat.mul_div_cancel _ (by omega)]

theorem take_big (s : ByteArray) (acc : Nat) (h : 9 < s.size) (hb : 2 ≤ s[9].toNat % 128) : takeF (10 - 9) 9 acc (s.data.toList.drop 9) = (0, 0, 6) := by
  by_cases hc : s[9].toNat < 128
  · refine take_no s 9 acc (by omega) h hc ?_
    unfold endsB
    rw [if_pos rfl]
    simp
    omega
  · rw [take_on s 9 acc (by omega) h hc]
    rfl

theorem bne_false (a b : Nat) (h : a = b) : ((a : Int) != (b : Int)) = false := by simp [h]

end Go.Proofs.Ytlalipomphgcoaa.Digit
