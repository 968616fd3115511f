/- The document's own answers: Div, bit by bit. -/
import Derived.Test.YtogpnfgjdnccdaaWideQ
namespace Go.Proofs.Ytogpnfgjdnccdaa.Wide
open Go.RowKit

theorem low_bit (x : Nat) (h : x < 18446744073709551616) : bits .and .u64 (x : Int) 1 = ((x % 2 : Nat) : Int) := by
  have e := u64_and_nat x 1 h (by omega)
  rw [nat_mask1] at e
  exact e

theorem bit_low (ah al k : Nat) (hk : k < 64) : (ah * 18446744073709551616 + al) / 2 ^ k % 2 = al / 2 ^ k % 2 := by
  have e : ah * 18446744073709551616 + al = al + 2 ^ k * (ah * 2 ^ (63 - k) * 2) := by
    have : 2 ^ k * (ah * 2 ^ (63 - k) * 2) = ah * (2 ^ k * 2 ^ (63 - k) * 2) := by
      rw [← Nat.mul_assoc, ← Nat.mul_assoc, Nat.mul_comm (2 ^ k) ah, Nat.mul_assoc, Nat.mul_assoc, Nat.mul_assoc]
    rw [this, ← Nat.pow_add, show k + (63 - k) = 63 by omega]
    omega
  rw [e, Nat.add_mul_div_left _ _ (Nat.pow_pos (by omega)), Nat.add_mul_mod_self_right]

theorem bit_high (ah al k : Nat) (hk : 64 ≤ k) (hl : al < 18446744073709551616) : (ah * 18446744073709551616 + al) / 2 ^ k % 2 = ah / 2 ^ (k - 64) % 2 := by
  have e : 2 ^ k = 18446744073709551616 * 2 ^ (k - 64) := by
    rw [show (18446744073709551616 : Nat) = 2 ^ 64 by rfl, ← Nat.pow_add, show 64 + (k - 64) = k by omega]
  rw [e, ← Nat.div_div_eq_div_mul, show (ah * 18446744073709551616 + al) / 18446744073709551616 = ah by omega]

/-- One bit more. -/
theorem next_bits (A k c : Nat) (hc : A / 2 ^ k % 2 = c) : A / 2 ^ k = 2 * (A / 2 ^ (k + 1)) + c := by
  rw [Nat.pow_succ, ← Nat.div_div_eq_div_mul]
  omega

/-- The two numbers of a round. -/
structure Round (A b k Q R : Nat) : Prop where
  sum : A / 2 ^ k = Q * b + R
  less : R < b

theorem round_yes {A b k Q R c : Nat} (r : Round A b (k + 1) Q R) (hc : A / 2 ^ k % 2 = c) (h : b ≤ 2 * R + c) : Round A b k (2 * Q + 1) (2 * R + c - b) := by
  have h1 := next_bits A k c hc
  have h2 := r.sum
  have h3 := r.less
  refine ⟨?_, by omega⟩
  rw [h1, h2, Nat.add_mul, Nat.one_mul, Nat.mul_assoc]
  omega
theorem round_no {A b k Q R c : Nat} (r : Round A b (k + 1) Q R) (hc : A / 2 ^ k % 2 = c) (h : ¬ b ≤ 2 * R + c) : Round A b k (2 * Q) (2 * R + c) := by
  have h1 := next_bits A k c hc
  have h2 := r.sum
  refine ⟨?_, by omega⟩
  rw [h1, h2, Nat.mul_assoc]
  omega
theorem round_small {A b k Q R : Nat} (r : Round A b k Q R) (hb : 0 < b) : Q ≤ A := by
  have h1 := r.sum
  have h2 : A / 2 ^ k ≤ A := Nat.div_le_self _ _
  have h3 : Q * 1 ≤ Q * b := Nat.mul_le_mul_left Q hb
  omega

theorem shifted_bit (x k : Nat) (h : x < 18446744073709551616) : bits .and .u64 ((x : Int) / 2 ^ k) 1 = ((x / 2 ^ k % 2 : Nat) : Int) := by
  have e : (x : Int) / 2 ^ k = ((x / 2 ^ k : Nat) : Int) := by
    rw [Int.natCast_ediv, Int.natCast_pow]
    rfl
  rw [e, low_bit _ (Nat.lt_of_le_of_lt (Nat.div_le_self _ _) h)]

set_option maxRecDepth 100000 in
set_option maxHeartbeats 800000 in
theorem refDiv_zero (ah al : Nat) (w : World) :
    Calls Try.prog 29 #[.agg #[.int .u64 ah, .int .u64 al], .int .u64 0] w fun e w' =>
      e = .returned (.tuple #[.agg #[.int .u64 0, .int .u64 0], .int .u64 0, .int .i64 2]) ∧ Below w.heap.size w w' := by
  go_enter Try.func29, Try.ntmps29
  go_wp2
  refine bodyPost_ret (v := .tuple #[.agg #[.int .u64 0, .int .u64 0], .int .u64 0, .int .i64 2]) (by simp [results, Try.results29, go_sem]) rfl ⟨rfl, below_alloc (below_alloc (Below.refl _ _) _) _⟩

set_option maxRecDepth 100000 in
set_option maxHeartbeats 4000000 in
theorem refDiv_any (ah al b : Nat) (w : World) (h1 : ah < 18446744073709551616) (h2 : al < 18446744073709551616) (h3 : b < 18446744073709551616) (h0 : 0 < b) :
    Calls Try.prog 29 #[.agg #[.int .u64 ah, .int .u64 al], .int .u64 b] w fun e w' =>
      e = .returned (.tuple #[.agg #[.int .u64 (hiN ((ah * 18446744073709551616 + al) / b)), .int .u64 (loN ((ah * 18446744073709551616 + al) / b))], .int .u64 ((ah * 18446744073709551616 + al) % b : Nat), .int .i64 0]) ∧ Below w.heap.size w w' := by
  have hne : ((b : Int) == 0) = false := by rw [beq_eq_false_iff_ne]; omega
  have hA : ah * 18446744073709551616 + al < 340282366920938463463374607431768211456 := by omega
  have hlow := fun k hk => bit_low ah al k hk
  have hhigh := fun k hk => bit_high ah al k hk h2
  obtain ⟨A, hAA⟩ : ∃ A, ah * 18446744073709551616 + al = A := ⟨_, rfl⟩
  rw [hAA] at hA
  simp only [hAA] at hlow hhigh
  simp only [hAA]
  obtain ⟨xh, hxh⟩ : ∃ t, hiN (A / b) = t := ⟨_, rfl⟩
  obtain ⟨xl, hxl⟩ : ∃ t, loN (A / b) = t := ⟨_, rfl⟩
  obtain ⟨xr, hxr⟩ : ∃ t, A % b = t := ⟨_, rfl⟩
  rw [hxh, hxl, hxr]
  have HXH := Lib.hid hxh
  have HXL := Lib.hid hxl
  have HXR := Lib.hid hxr
  have HA := Lib.hid hA
  have HLOW := Lib.hid hlow
  have HHIGH := Lib.hid hhigh
  clear hAA hxh hxl hxr hA hlow hhigh
  go_enter Try.func29, Try.ntmps29
  go_wp2_with fail
  go_loopw [8, 9] (fun r i wr => ∃ (k R Q qh ql : Nat) (iv : Int), k ≤ 128 ∧ iv = (k : Int) - 1 ∧ i = .int .i64 iv ∧ r = .int .u64 R ∧ Round A b k Q R ∧ hiN Q = qh ∧ loN Q = ql ∧
      wr = ((w.alloc (.cells #[.int .u64 ah, .int .u64 al] 48)).alloc (.cells #[.int .u64 0, .int .u64 0] 48)).alloc (.cells #[.int .u64 qh, .int .u64 ql] 48)) (fun _ i _ => (intOf i + 1).toNat)
  case atStart =>
    refine ⟨128, 0, 0, 0, 0, 127, by omega, by omega, rfl, rfl, ⟨?_, h0⟩, rfl, rfl, rfl⟩
    rw [Nat.zero_mul]
    exact Nat.div_eq_of_lt HA.out
  case round =>
    obtain ⟨k, R, Q, qh, ql, iv, hk, hiv, rfl, rfl, hrd, hqh, hql, rfl⟩ := hrel
    cases k with
    | zero =>
      obtain rfl : iv = -1 := by omega
      have hs := hrd.sum
      rw [Nat.pow_zero, Nat.div_one, Nat.mul_comm, Nat.add_comm] at hs
      have hq : A / b = Q := by rw [hs, Nat.add_mul_div_left _ _ h0, Nat.div_eq_of_lt hrd.less, Nat.zero_add]
      have hr : A % b = R := by rw [hs, Nat.add_mul_mod_self_left, Nat.mod_eq_of_lt hrd.less]
      obtain rfl : xh = qh := by rw [← HXH.out, hq, hqh]
      obtain rfl : xl = ql := by rw [← HXL.out, hq, hql]
      obtain rfl : xr = R := by rw [← HXR.out, hr]
      clear hiv hs hq hr hqh hql hrd hk
      go_wp2_with fail
      refine bodyPost_ret (v := .tuple #[.agg #[.int .u64 xh, .int .u64 xl], .int .u64 xr, .int .i64 0]) (by simp [results, Try.results29, go_sem]) rfl ⟨rfl, below_alloc (below_alloc (below_alloc (Below.refl _ _) _) _) _⟩
    | succ j =>
      obtain rfl : iv = (j : Int) := by omega
      clear hiv
      by_cases h64 : j < 64
      · obtain ⟨c, hcc⟩ : ∃ c, A / 2 ^ j % 2 = c := ⟨_, rfl⟩
        have zb1 := shifted_bit al j h2
        rw [← HLOW.out j h64, hcc] at zb1
        have zb0 : (j : Int) % 64 = (j : Int) := by omega
        have hj63 : j ≤ 63 := by omega
        have hn64 : ¬ (64 : Int) ≤ (j : Int) := by omega
        have hn64' : ¬ 64 ≤ j := by omega
        clear h64
        have hcb : c < 2 := by rw [← hcc]; omega
        have hRb := hrd.less
        have hQ := round_small hrd h0
        have hAm := HA.out
        have hqh2 : qh < 18446744073709551616 := by rw [← hqh]; exact hiN_lt (by omega)
        have hql2 : ql < 18446744073709551616 := by rw [← hql]; exact loN_lt Q
        have zr2 : IntKind.u64.wrap ((R : Int) * 2) = ((R * 2 % 18446744073709551616 : Nat) : Int) := by rw [IntKind.wrap_u64]; omega
        obtain ⟨t1, ht1⟩ : ∃ t, R * 2 % 18446744073709551616 = t := ⟨_, rfl⟩
        rw [ht1] at zr2
        have zr1 : IntKind.u64.wrap ((t1 : Int) + (c : Int)) = ((t1 + c : Nat) : Int) := by rw [IntWalk.u64_in _ ⟨by omega, by omega⟩]; omega
        obtain ⟨r1, hr1⟩ : ∃ t, t1 + c = t := ⟨_, rfl⟩
        rw [hr1] at zr1
        have zq0 : IntKind.u64.wrap ((qh : Int) * 2) = ((qh * 2 % 18446744073709551616 : Nat) : Int) := by rw [IntKind.wrap_u64]; omega
        obtain ⟨u0, hu0⟩ : ∃ t, qh * 2 % 18446744073709551616 = t := ⟨_, rfl⟩
        rw [hu0] at zq0
        have zq1 : (ql : Int) / 9223372036854775808 = ((ql / 9223372036854775808 : Nat) : Int) := by omega
        obtain ⟨u1, hu1⟩ : ∃ t, ql / 9223372036854775808 = t := ⟨_, rfl⟩
        rw [hu1] at zq1
        have zq3 : IntKind.u64.wrap ((ql : Int) * 2) = ((ql * 2 % 18446744073709551616 : Nat) : Int) := by rw [IntKind.wrap_u64]; omega
        obtain ⟨u2, hu2⟩ : ∃ t, ql * 2 % 18446744073709551616 = t := ⟨_, rfl⟩
        rw [hu2] at zq3
        have zq2 : IntKind.u64.wrap ((u0 : Int) + (u1 : Int)) = (((u0 + u1) % 18446744073709551616 : Nat) : Int) := by rw [IntKind.wrap_u64]; omega
        obtain ⟨qh', hqh'⟩ : ∃ t, (u0 + u1) % 18446744073709551616 = t := ⟨_, rfl⟩
        rw [hqh'] at zq2
        have hQj := join_N Q
        rw [hqh, hql] at hQj
        have HRD := Lib.hid hrd
        have HCC := Lib.hid hcc
        clear hrd
        have hcase : 9223372036854775808 ≤ R ∨ R < 9223372036854775808 ∧ b ≤ r1 ∨ R < 9223372036854775808 ∧ ¬ b ≤ r1 := by omega
        rcases hcase with hh | ⟨hh, hle⟩ | ⟨hh, hle⟩
        · have zh : (R : Int) / 9223372036854775808 = 1 := by omega
          have hle2 : b ≤ 2 * R + c := by omega
          have hnew := round_yes HRD.out HCC.out hle2
          have zs : IntKind.u64.wrap ((r1 : Int) - (b : Int)) = ((2 * R + c - b : Nat) : Int) := by rw [IntKind.wrap_u64]; omega
          have zq4 : IntKind.u64.wrap ((u2 : Int) + 1) = ((u2 + 1 : Nat) : Int) := by rw [IntWalk.u64_in _ ⟨by omega, by omega⟩]; omega
          have hsm := round_small hnew h0
          have hhi := Lib.hid (show hiN (2 * Q + 1) = qh' by unfold hiN; omega)
          have hlo := Lib.hid (show loN (2 * Q + 1) = u2 + 1 by unfold loN; omega)
          obtain ⟨R2, hR2⟩ : ∃ t, 2 * R + c - b = t := ⟨_, rfl⟩
          obtain ⟨ql', hql'⟩ : ∃ t, u2 + 1 = t := ⟨_, rfl⟩
          rw [hR2] at zs hnew
          rw [hql'] at zq4 hlo
          have HNEW := Lib.hid hnew
          clear hR2 hql'
          clear hnew hle2 hsm hQj hqh hql hqh2 hql2 hQ hAm hRb hcb hcc ht1 hr1 hu0 hu1 hu2 hqh' hh
          go_wp2_with fail
          go_roundw
          case rel => exact ⟨j, R2, 2 * Q + 1, qh', ql', (j : Int) - 1, by omega, rfl, by go_num, rfl, HNEW.out, hhi.out, hlo.out, rfl⟩
          case measure => simp [intOf]
        · have zh : (R : Int) / 9223372036854775808 = 0 := by omega
          have hle2 : b ≤ 2 * R + c := by omega
          have hnew := round_yes HRD.out HCC.out hle2
          have zs : IntKind.u64.wrap ((r1 : Int) - (b : Int)) = ((2 * R + c - b : Nat) : Int) := by rw [IntKind.wrap_u64]; omega
          have zq4 : IntKind.u64.wrap ((u2 : Int) + 1) = ((u2 + 1 : Nat) : Int) := by rw [IntWalk.u64_in _ ⟨by omega, by omega⟩]; omega
          have hsm := round_small hnew h0
          have hhi := Lib.hid (show hiN (2 * Q + 1) = qh' by unfold hiN; omega)
          have hlo := Lib.hid (show loN (2 * Q + 1) = u2 + 1 by unfold loN; omega)
          obtain ⟨R2, hR2⟩ : ∃ t, 2 * R + c - b = t := ⟨_, rfl⟩
          obtain ⟨ql', hql'⟩ : ∃ t, u2 + 1 = t := ⟨_, rfl⟩
          rw [hR2] at zs hnew
          rw [hql'] at zq4 hlo
          have HNEW := Lib.hid hnew
          clear hR2 hql'
          clear hnew hle2 hsm hQj hqh hql hqh2 hql2 hQ hAm hRb hcb hcc ht1 hr1 hu0 hu1 hu2 hqh' hh
          go_wp2_with fail
          go_roundw
          case rel => exact ⟨j, R2, 2 * Q + 1, qh', ql', (j : Int) - 1, by omega, rfl, by go_num, rfl, HNEW.out, hhi.out, hlo.out, rfl⟩
          case measure => simp [intOf]
        · have zh : (R : Int) / 9223372036854775808 = 0 := by omega
          have hle2 : ¬ b ≤ 2 * R + c := by omega
          have hnew := round_no HRD.out HCC.out hle2
          have zq4 : IntKind.u64.wrap (u2 : Int) = (u2 : Int) := by rw [IntWalk.u64_in _ ⟨by omega, by omega⟩]
          have hsm := round_small hnew h0
          have hhi := Lib.hid (show hiN (2 * Q) = qh' by unfold hiN; omega)
          have hlo := Lib.hid (show loN (2 * Q) = u2 by unfold loN; omega)
          have hR2 := Lib.hid (show 2 * R + c = r1 by omega)
          rw [hR2.out] at hnew
          have HNEW := Lib.hid hnew
          clear hnew hle2 hsm hQj hqh hql hqh2 hql2 hQ hAm hRb hcb hcc ht1 hr1 hu0 hu1 hu2 hqh' hh
          go_wp2_with fail
          go_roundw
          case rel => exact ⟨j, r1, 2 * Q, qh', u2, (j : Int) - 1, by omega, rfl, by go_num, rfl, HNEW.out, hhi.out, hlo.out, rfl⟩
          case measure => simp [intOf]
      · obtain ⟨c, hcc⟩ : ∃ c, A / 2 ^ j % 2 = c := ⟨_, rfl⟩
        have hge : 64 ≤ j := by omega
        have zb3 := shifted_bit ah (j - 64) h1
        rw [← HHIGH.out j hge, hcc] at zb3
        have zb0 : (j : Int) % 64 = ((j - 64 : Nat) : Int) := by omega
        have zb2 : IntKind.i64.wrap ((j : Int) - 64) = ((j - 64 : Nat) : Int) := by rw [IntWalk.i64_in _ ⟨by omega, by omega⟩]; omega
        have zb1 := shifted_bit al (j - 64) h2
        obtain ⟨s, hs⟩ : ∃ s, j - 64 = s := ⟨_, rfl⟩
        rw [hs] at zb0 zb1 zb2 zb3
        obtain ⟨c0, hc0⟩ : ∃ c, al / 2 ^ s % 2 = c := ⟨_, rfl⟩
        rw [hc0] at zb1
        have hs63 : s ≤ 63 := by omega
        have hge' : (64 : Int) ≤ (j : Int) := by omega
        clear h64 hs hc0
        have hcb : c < 2 := by rw [← hcc]; omega
        have hRb := hrd.less
        have hQ := round_small hrd h0
        have hAm := HA.out
        have hqh2 : qh < 18446744073709551616 := by rw [← hqh]; exact hiN_lt (by omega)
        have hql2 : ql < 18446744073709551616 := by rw [← hql]; exact loN_lt Q
        have zr2 : IntKind.u64.wrap ((R : Int) * 2) = ((R * 2 % 18446744073709551616 : Nat) : Int) := by rw [IntKind.wrap_u64]; omega
        obtain ⟨t1, ht1⟩ : ∃ t, R * 2 % 18446744073709551616 = t := ⟨_, rfl⟩
        rw [ht1] at zr2
        have zr1 : IntKind.u64.wrap ((t1 : Int) + (c : Int)) = ((t1 + c : Nat) : Int) := by rw [IntWalk.u64_in _ ⟨by omega, by omega⟩]; omega
        obtain ⟨r1, hr1⟩ : ∃ t, t1 + c = t := ⟨_, rfl⟩
        rw [hr1] at zr1
        have zq0 : IntKind.u64.wrap ((qh : Int) * 2) = ((qh * 2 % 18446744073709551616 : Nat) : Int) := by rw [IntKind.wrap_u64]; omega
        obtain ⟨u0, hu0⟩ : ∃ t, qh * 2 % 18446744073709551616 = t := ⟨_, rfl⟩
        rw [hu0] at zq0
        have zq1 : (ql : Int) / 9223372036854775808 = ((ql / 9223372036854775808 : Nat) : Int) := by omega
        obtain ⟨u1, hu1⟩ : ∃ t, ql / 9223372036854775808 = t := ⟨_, rfl⟩
        rw [hu1] at zq1
        have zq3 : IntKind.u64.wrap ((ql : Int) * 2) = ((ql * 2 % 18446744073709551616 : Nat) : Int) := by rw [IntKind.wrap_u64]; omega
        obtain ⟨u2, hu2⟩ : ∃ t, ql * 2 % 18446744073709551616 = t := ⟨_, rfl⟩
        rw [hu2] at zq3
        have zq2 : IntKind.u64.wrap ((u0 : Int) + (u1 : Int)) = (((u0 + u1) % 18446744073709551616 : Nat) : Int) := by rw [IntKind.wrap_u64]; omega
        obtain ⟨qh', hqh'⟩ : ∃ t, (u0 + u1) % 18446744073709551616 = t := ⟨_, rfl⟩
        rw [hqh'] at zq2
        have hQj := join_N Q
        rw [hqh, hql] at hQj
        have HRD := Lib.hid hrd
        have HCC := Lib.hid hcc
        clear hrd
        have hcase : 9223372036854775808 ≤ R ∨ R < 9223372036854775808 ∧ b ≤ r1 ∨ R < 9223372036854775808 ∧ ¬ b ≤ r1 := by omega
        rcases hcase with hh | ⟨hh, hle⟩ | ⟨hh, hle⟩
        · have zh : (R : Int) / 9223372036854775808 = 1 := by omega
          have hle2 : b ≤ 2 * R + c := by omega
          have hnew := round_yes HRD.out HCC.out hle2
          have zs : IntKind.u64.wrap ((r1 : Int) - (b : Int)) = ((2 * R + c - b : Nat) : Int) := by rw [IntKind.wrap_u64]; omega
          have zq4 : IntKind.u64.wrap ((u2 : Int) + 1) = ((u2 + 1 : Nat) : Int) := by rw [IntWalk.u64_in _ ⟨by omega, by omega⟩]; omega
          have hsm := round_small hnew h0
          have hhi := Lib.hid (show hiN (2 * Q + 1) = qh' by unfold hiN; omega)
          have hlo := Lib.hid (show loN (2 * Q + 1) = u2 + 1 by unfold loN; omega)
          obtain ⟨R2, hR2⟩ : ∃ t, 2 * R + c - b = t := ⟨_, rfl⟩
          obtain ⟨ql', hql'⟩ : ∃ t, u2 + 1 = t := ⟨_, rfl⟩
          rw [hR2] at zs hnew
          rw [hql'] at zq4 hlo
          have HNEW := Lib.hid hnew
          clear hR2 hql'
          clear hnew hle2 hsm hQj hqh hql hqh2 hql2 hQ hAm hRb hcb hcc ht1 hr1 hu0 hu1 hu2 hqh' hh
          go_wp2_with fail
          go_roundw
          case rel => exact ⟨j, R2, 2 * Q + 1, qh', ql', (j : Int) - 1, by omega, rfl, by go_num, rfl, HNEW.out, hhi.out, hlo.out, rfl⟩
          case measure => simp [intOf]
        · have zh : (R : Int) / 9223372036854775808 = 0 := by omega
          have hle2 : b ≤ 2 * R + c := by omega
          have hnew := round_yes HRD.out HCC.out hle2
          have zs : IntKind.u64.wrap ((r1 : Int) - (b : Int)) = ((2 * R + c - b : Nat) : Int) := by rw [IntKind.wrap_u64]; omega
          have zq4 : IntKind.u64.wrap ((u2 : Int) + 1) = ((u2 + 1 : Nat) : Int) := by rw [IntWalk.u64_in _ ⟨by omega, by omega⟩]; omega
          have hsm := round_small hnew h0
          have hhi := Lib.hid (show hiN (2 * Q + 1) = qh' by unfold hiN; omega)
          have hlo := Lib.hid (show loN (2 * Q + 1) = u2 + 1 by unfold loN; omega)
          obtain ⟨R2, hR2⟩ : ∃ t, 2 * R + c - b = t := ⟨_, rfl⟩
          obtain ⟨ql', hql'⟩ : ∃ t, u2 + 1 = t := ⟨_, rfl⟩
          rw [hR2] at zs hnew
          rw [hql'] at zq4 hlo
          have HNEW := Lib.hid hnew
          clear hR2 hql'
          clear hnew hle2 hsm hQj hqh hql hqh2 hql2 hQ hAm hRb hcb hcc ht1 hr1 hu0 hu1 hu2 hqh' hh
          go_wp2_with fail
          go_roundw
          case rel => exact ⟨j, R2, 2 * Q + 1, qh', ql', (j : Int) - 1, by omega, rfl, by go_num, rfl, HNEW.out, hhi.out, hlo.out, rfl⟩
          case measure => simp [intOf]
        · have zh : (R : Int) / 9223372036854775808 = 0 := by omega
          have hle2 : ¬ b ≤ 2 * R + c := by omega
          have hnew := round_no HRD.out HCC.out hle2
          have zq4 : IntKind.u64.wrap (u2 : Int) = (u2 : Int) := by rw [IntWalk.u64_in _ ⟨by omega, by omega⟩]
          have hsm := round_small hnew h0
          have hhi := Lib.hid (show hiN (2 * Q) = qh' by unfold hiN; omega)
          have hlo := Lib.hid (show loN (2 * Q) = u2 by unfold loN; omega)
          have hR2 := Lib.hid (show 2 * R + c = r1 by omega)
          rw [hR2.out] at hnew
          have HNEW := Lib.hid hnew
          clear hnew hle2 hsm hQj hqh hql hqh2 hql2 hQ hAm hRb hcb hcc ht1 hr1 hu0 hu1 hu2 hqh' hh
          go_wp2_with fail
          go_roundw
          case rel => exact ⟨j, r1, 2 * Q, qh', u2, (j : Int) - 1, by omega, rfl, by go_num, rfl, HNEW.out, hhi.out, hlo.out, rfl⟩
          case measure => simp [intOf]

end Go.Proofs.Ytogpnfgjdnccdaa.Wide
