/- bits.Div64. -/
import Derived.Test.YtogpnfgjdnccdaaWideA
import Derived.Test.YtogpnfgjdnccdaaWideMath
import Derived.RegionTactic
import Derived.Deep.CutBlock
namespace Go.Proofs.Ytogpnfgjdnccdaa.Wide
open Go.RowKit

theorem u64_nat (n : Nat) (h : n < 18446744073709551616) : IntKind.u64.wrap (n : Int) = (n : Int) := IntWalk.u64_in _ ⟨by omega, by omega⟩
theorem u64_mod (n : Nat) : IntKind.u64.wrap (n : Int) = ((n % 18446744073709551616 : Nat) : Int) := by rw [IntKind.wrap_u64]; omega

/-- What the walk reckons ahead of the first loop, number by number. -/
structure Reck (hi lo y s t Y u l v1 v0 u1 u0 : Nat) : Prop where
  e0 : IntKind.u64.wrap (s : Int) = (s : Int)
  e1 : IntKind.u64.wrap ((y : Int) * 2 ^ s) = (Y : Int)
  e2 : (Y : Int) / 4294967296 = (v1 : Int)
  e3 : bits .and .u64 (Y : Int) 4294967295 = (v0 : Int)
  e4 : bits .or .u64 (IntKind.u64.wrap ((hi : Int) * 2 ^ s)) ((lo : Int) / 2 ^ t) = (u : Int)
  e5 : IntKind.u64.wrap (64 - (s : Int)) = (t : Int)
  e8 : IntKind.u64.wrap ((lo : Int) * 2 ^ s) = (l : Int)
  e9 : (l : Int) / 4294967296 = (u1 : Int)
  e10 : bits .and .u64 (l : Int) 4294967295 = (u0 : Int)

theorem mask32 (a : Nat) (ha : a < 18446744073709551616) : bits .and .u64 (a : Int) 4294967295 = ((a % 4294967296 : Nat) : Int) := by
  have h := u64_and_nat a 4294967295 ha (by omega)
  rw [nat_mask32] at h
  exact h

theorem reck_of (hi lo y s : Nat) (n : Norm hi lo y s) (hh : hi < y) :
    Reck hi lo y s (64 - s) (y * 2 ^ s) (hi * 2 ^ s + lo / 2 ^ (64 - s)) (lo * 2 ^ s % 18446744073709551616) (y * 2 ^ s / 4294967296) (y * 2 ^ s % 4294967296) (lo * 2 ^ s % 18446744073709551616 / 4294967296) (lo * 2 ^ s % 18446744073709551616 % 4294967296) := by
  have hs := n.s63
  have hlt := n.fits
  have c (x : Nat) : (x : Int) * 2 ^ s = ((x * 2 ^ s : Nat) : Int) := by rw [Int.natCast_mul, Int.natCast_pow]; rfl
  have c2 : (lo : Int) / 2 ^ (64 - s) = ((lo / 2 ^ (64 - s) : Nat) : Int) := by rw [Int.natCast_ediv, Int.natCast_pow]; rfl
  have hhi : hi * 2 ^ s ≤ y * 2 ^ s := Nat.mul_le_mul_right _ (by omega)
  have hlm : lo * 2 ^ s % 18446744073709551616 < 18446744073709551616 := Nat.mod_lt _ (by omega)
  have hp : (2 : Nat) ^ s ≤ 18446744073709551616 := by
    have := Nat.pow_le_pow_right (n := 2) (by omega) (show s ≤ 64 by omega)
    simpa using this
  refine ⟨u64_nat _ (by omega), ?_, by omega, mask32 _ hlt, ?_, ?_, ?_, by omega, mask32 _ hlm⟩
  · rw [c, u64_nat _ hlt]
  · rw [c, c2, u64_nat _ (by omega), u64_or_nat _ _ (by omega) (by have := n.small; omega), nat_join s _ _ (Nat.mul_mod_left _ _) n.small]
  · rw [IntWalk.u64_in _ ⟨by omega, by omega⟩]
    omega
  · rw [c, u64_mod]

/-- What stands behind a loop: what is left of one digit. -/
theorem rest_wrap (u u1 q Y R : Nat) (h : q * Y + R = u * 4294967296 + u1) (hR : R < 18446744073709551616) :
    IntKind.u64.wrap (IntKind.u64.wrap (IntKind.u64.wrap ((u : Int) * 4294967296) + (u1 : Int)) - IntKind.u64.wrap ((q : Int) * (Y : Int))) = (R : Int) := by
  have e : (q : Int) * (Y : Int) = ((q * Y : Nat) : Int) := (Int.natCast_mul q Y).symm
  rw [e]
  generalize q * Y = P at h ⊢
  simp only [IntKind.wrap_u64]
  omega

theorem first_wrap (u v : Nat) (hu : u < 18446744073709551616) : IntKind.u64.wrap ((u : Int) / (v : Int)) = ((u / v : Nat) : Int) := by
  rw [← Int.natCast_ediv, u64_nat _ (Nat.lt_of_le_of_lt (Nat.div_le_self _ _) hu)]

theorem first_rest (u v : Nat) (hu : u < 18446744073709551616) : IntKind.u64.wrap ((u : Int) - IntKind.u64.wrap (((u / v : Nat) : Int) * (v : Int))) = ((u % v : Nat) : Int) := by
  have hd := Nat.div_add_mod u v
  rw [Nat.mul_comm] at hd
  rw [← Int.natCast_mul]
  generalize u / v * v = P at hd ⊢
  generalize u % v = R at hd ⊢
  simp only [IntKind.wrap_u64]
  omega

/-- How many places the divisor moves up. -/
theorem norm_places (y : Nat) (h0 : 0 < y) (hy : y < 18446744073709551616) : ∃ s : Nat, s ≤ 63 ∧ (64 - (Lib.bitLen y : Int)) = (s : Int) ∧ 9223372036854775808 ≤ y * 2 ^ s ∧ y * 2 ^ s < 18446744073709551616 := by
  obtain ⟨k, hk1, hk2⟩ : ∃ k, 2 ^ k ≤ y ∧ y < 2 ^ (k + 1) := ⟨y.log2, Nat.log2_self_le (by omega), Nat.lt_log2_self⟩
  have hk : k ≤ 63 := by
    rcases Nat.lt_or_ge k 64 with h | h
    · omega
    · have := Nat.pow_le_pow_right (n := 2) (by omega) h
      omega
  have hp : 0 < 2 ^ k := Nat.pow_pos (by omega)
  have e : y / 2 ^ k = 1 := by
    rw [Nat.pow_succ] at hk2
    exact Nat.div_eq_of_lt_le (by omega) (by omega)
  have hb : Lib.bitLen y = k + 1 := by
    rw [Lib.bitLen_shift k y hk1 hy, e]
    rfl
  have hpp : (2 : Nat) ^ k * 2 ^ (63 - k) = 9223372036854775808 := by
    rw [← Nat.pow_add, show k + (63 - k) = 63 by omega]
  refine ⟨63 - k, by omega, by rw [hb]; omega, ?_, ?_⟩
  · rw [← hpp]
    exact Nat.mul_le_mul_right _ hk1
  · have hlt : y * 2 ^ (63 - k) < 2 ^ (k + 1) * 2 ^ (63 - k) := Nat.mul_lt_mul_of_pos_right hk2 (Nat.pow_pos (by omega))
    rw [Nat.pow_succ, Nat.mul_right_comm, hpp] at hlt
    exact hlt

end Go.Proofs.Ytogpnfgjdnccdaa.Wide
