/- Plain mathematics under bits.Div64: the school's long division by a number of two digits, each of 32 bits. -/
namespace Go.Proofs.Ytogpnfgjdnccdaa.Wide

/-- One round of the school's correction: the guess is at least the quotient, and the rest that goes with it. -/
structure Guess (u v1 v0 u1 q r : Nat) : Prop where
  sum : q * v1 + r = u
  least : (u * 4294967296 + u1) / (v1 * 4294967296 + v0) ≤ q
  most : q ≤ 4294967297
  rest : r < 4294967296

theorem guess_prod {u v1 v0 u1 q r : Nat} (g : Guess u v1 v0 u1 q r) (h0 : v0 < 4294967296) : q * v0 < 18446744073709551616 := by
  have h1 : q * v0 ≤ 4294967297 * 4294967295 := Nat.mul_le_mul g.most (by omega)
  omega

/-- The product of the guess, by digits. -/
theorem guess_split {u v1 v0 q r : Nat} (hs : q * v1 + r = u) : q * (v1 * 4294967296 + v0) + r * 4294967296 = u * 4294967296 + q * v0 := by
  have e1 : q * (v1 * 4294967296 + v0) = q * v1 * 4294967296 + q * v0 := by rw [Nat.mul_add, Nat.mul_assoc]
  rw [e1, ← hs]
  omega

/-- The quotient has one digit. -/
theorem quot_digit {u v1 v0 u1 : Nat} (hu : u < v1 * 4294967296 + v0) (h1 : u1 < 4294967296) : (u * 4294967296 + u1) / (v1 * 4294967296 + v0) < 4294967296 := by
  rw [Nat.div_lt_iff_lt_mul (by omega)]
  omega

/-- The first guess. -/
theorem guess_first {u v1 v0 u1 : Nat} (hv : 2147483648 ≤ v1) (h1 : v1 < 4294967296) (h0 : v0 < 4294967296) (hu : u < v1 * 4294967296 + v0) (hu1 : u1 < 4294967296) :
    Guess u v1 v0 u1 (u / v1) (u % v1) := by
  have hd := Nat.div_add_mod u v1
  have hm := Nat.mod_lt u (show v1 > 0 by omega)
  refine ⟨by rw [Nat.mul_comm]; exact hd, ?_, ?_, by omega⟩
  · rw [Nat.div_le_iff_le_mul_add_pred (by omega)]
    have e1 : u < (u / v1 + 1) * v1 := by rw [Nat.add_mul, Nat.mul_comm (u / v1)]; omega
    have e2 : (u + 1) * 4294967296 ≤ (u / v1 + 1) * v1 * 4294967296 := Nat.mul_le_mul_right _ e1
    have e3 : (v1 * 4294967296 + v0) * (u / v1) = (u / v1) * v1 * 4294967296 + v0 * (u / v1) := by
      rw [Nat.add_mul, Nat.mul_right_comm, Nat.mul_comm v1]
    have e4 : (u / v1 + 1) * v1 * 4294967296 = (u / v1) * v1 * 4294967296 + v1 * 4294967296 := by rw [Nat.add_mul, Nat.add_mul, Nat.one_mul]
    have e5 : 0 ≤ v0 * (u / v1) := Nat.zero_le _
    omega
  · have : u / v1 < 4294967298 := by
      rw [Nat.div_lt_iff_lt_mul (by omega)]
      omega
    omega

/-- The guess is too great: the next one. -/
theorem guess_more {u v1 v0 u1 q r : Nat} (g : Guess u v1 v0 u1 q r) (hu : u < v1 * 4294967296 + v0) (hu1 : u1 < 4294967296)
    (hc : 4294967296 ≤ q ∨ 4294967296 * r + u1 < q * v0) : 1 ≤ q ∧ (q - 1) * v1 + (r + v1) = u ∧ (u * 4294967296 + u1) / (v1 * 4294967296 + v0) ≤ q - 1 := by
  have hq := quot_digit (v1 := v1) (v0 := v0) hu hu1
  have hlt : (u * 4294967296 + u1) / (v1 * 4294967296 + v0) < q := by
    rcases hc with hc | hc
    · omega
    · rw [Nat.div_lt_iff_lt_mul (by omega)]
      have := guess_split (v0 := v0) g.sum
      omega
  have h1 : 1 ≤ q := Nat.lt_of_le_of_lt (Nat.zero_le _) hlt
  refine ⟨h1, ?_, by omega⟩
  have e : (q - 1) * v1 + v1 = q * v1 := by
    obtain ⟨k, rfl⟩ : ∃ k, q = k + 1 := ⟨q - 1, by omega⟩
    rw [Nat.add_sub_cancel, Nat.add_mul, Nat.one_mul]
  have := g.sum
  omega

/-- The guess fits: it is the quotient. -/
theorem guess_done {u v1 v0 u1 q r : Nat} (g : Guess u v1 v0 u1 q r) (hv : 2147483648 ≤ v1) (hc : q * v0 ≤ 4294967296 * r + u1) :
    q = (u * 4294967296 + u1) / (v1 * 4294967296 + v0) := by
  refine Nat.le_antisymm ?_ g.least
  rw [Nat.le_div_iff_mul_le (by omega)]
  have := guess_split (v0 := v0) g.sum
  omega

/-- The guess fits, for its rest is great. -/
theorem guess_great {u v1 v0 u1 q r : Nat} (hs : q * v1 + r = u) (hl : (u * 4294967296 + u1) / (v1 * 4294967296 + v0) ≤ q) (hv : 2147483648 ≤ v1) (h0 : v0 < 4294967296) (hq : q ≤ 4294967296) (hr : 4294967296 ≤ r) :
    q = (u * 4294967296 + u1) / (v1 * 4294967296 + v0) := by
  refine Nat.le_antisymm ?_ hl
  rw [Nat.le_div_iff_mul_le (by omega)]
  have h1 := guess_split (v0 := v0) hs
  have h2 : q * v0 ≤ 4294967296 * 4294967295 := Nat.mul_le_mul hq (by omega)
  omega

/-- Two digits of a quotient, and what is left, out of one digit at a time. -/
theorem two_digits (u u1 u0 Y : Nat) (hY : 0 < Y) :
    (u * 18446744073709551616 + (u1 * 4294967296 + u0)) / Y = (u * 4294967296 + u1) / Y * 4294967296 + ((u * 4294967296 + u1) % Y * 4294967296 + u0) / Y ∧
    (u * 18446744073709551616 + (u1 * 4294967296 + u0)) % Y = ((u * 4294967296 + u1) % Y * 4294967296 + u0) % Y := by
  have hd := Nat.div_add_mod (u * 4294967296 + u1) Y
  have e : u * 18446744073709551616 + (u1 * 4294967296 + u0) = (u * 4294967296 + u1) % Y * 4294967296 + u0 + Y * ((u * 4294967296 + u1) / Y * 4294967296) := by
    rw [← Nat.mul_assoc]
    omega
  refine ⟨?_, ?_⟩
  · rw [e, Nat.add_mul_div_left _ _ hY, Nat.add_comm]
  · rw [e, Nat.add_mul_mod_self_left]

/-- The divisor moved up till its first bit stands. -/
structure Norm (hi lo y s : Nat) : Prop where
  s63 : s ≤ 63
  up : 9223372036854775808 ≤ y * 2 ^ s
  fits : y * 2 ^ s < 18446744073709551616
  u32 : hi * 2 ^ s + lo / 2 ^ (64 - s) < y * 2 ^ s
  whole : (hi * 2 ^ s + lo / 2 ^ (64 - s)) * 18446744073709551616 + lo * 2 ^ s % 18446744073709551616 = (hi * 18446744073709551616 + lo) * 2 ^ s
  small : lo / 2 ^ (64 - s) < 2 ^ s

theorem pow64 (s : Nat) (h : s ≤ 63) : 2 ^ s * 2 ^ (64 - s) = 18446744073709551616 := by
  rw [← Nat.pow_add, show s + (64 - s) = 64 by omega]

theorem norm_of (hi lo y s : Nat) (hs : s ≤ 63) (hh : hi < y) (hl : lo < 18446744073709551616) (h1 : 9223372036854775808 ≤ y * 2 ^ s) (h2 : y * 2 ^ s < 18446744073709551616) : Norm hi lo y s := by
  have hp := pow64 s hs
  have hpos : 0 < 2 ^ (64 - s) := Nat.pow_pos (by omega)
  have hsmall : lo / 2 ^ (64 - s) < 2 ^ s := by
    rw [Nat.div_lt_iff_lt_mul hpos, hp]
    exact hl
  have hup : (hi + 1) * 2 ^ s ≤ y * 2 ^ s := Nat.mul_le_mul_right _ hh
  rw [Nat.add_mul, Nat.one_mul] at hup
  refine ⟨hs, h1, h2, by omega, ?_, hsmall⟩
  have e : lo * 2 ^ s = lo / 2 ^ (64 - s) * 18446744073709551616 + lo * 2 ^ s % 18446744073709551616 := by
    have e1 : lo * 2 ^ s / 18446744073709551616 = lo / 2 ^ (64 - s) := by
      rw [← hp, Nat.mul_comm (2 ^ s) (2 ^ (64 - s))]
      exact Nat.mul_div_mul_right _ _ (Nat.pow_pos (by omega))
    have := Nat.div_add_mod (lo * 2 ^ s) 18446744073709551616
    rw [e1] at this
    omega
  rw [Nat.add_mul, Nat.add_mul, Nat.mul_right_comm hi]
  omega

/-- Out of the moved numbers the quotient and what is left of those that came in. -/
theorem norm_quot {hi lo y s : Nat} (_n : Norm hi lo y s) :
    (hi * 18446744073709551616 + lo) * 2 ^ s / (y * 2 ^ s) = (hi * 18446744073709551616 + lo) / y ∧ (hi * 18446744073709551616 + lo) * 2 ^ s % (y * 2 ^ s) / 2 ^ s = (hi * 18446744073709551616 + lo) % y := by
  have hpos : 0 < 2 ^ s := Nat.pow_pos (by omega)
  refine ⟨Nat.mul_div_mul_right _ _ hpos, ?_⟩
  rw [Nat.mul_mod_mul_right, Nat.mul_div_cancel _ hpos]

end Go.Proofs.Ytogpnfgjdnccdaa.Wide
