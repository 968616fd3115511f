/- Leaf functions of wide: what each call returns. -/
import Derived.Test.YtdgaoebjbhomdaaDoorProg
import Derived.Test.YtdgaoebjbhomdaaDoorShelf
import Derived.WalkKit
import Derived.WalkSpells
import Derived.Handy
import Derived.Below
import Derived.Laws.BitsAllLaws
import Derived.Laws.Externs
import Derived.Laws.StructEq
import Derived.Lib.Hide
import Derived.RegionTactic
import Derived.Deep.CutBlock
import Derived.Deep.RegionHeld3
import Derived.Deep.CutRange
namespace Go.Proofs.YtdgaoebjbhomdaaDoor.Wide
open Go.RowKit

/-- A contract that turns nothing that was there, said from where the caller began. -/
theorem carry {P : Program} {f : Nat} {args : Array Value} {w0 w : World} {e0 : Ending} (h : Calls P f args w fun e w' => e = e0 ∧ Below w.heap.size w w') (hb : Below w0.heap.size w0 w) :
    Calls P f args w fun e w' => e = e0 ∧ Below w0.heap.size w0 w' :=
  h.mono fun _ _ hh => ⟨hh.1, hb.trans (hh.2.mono hb.size)⟩

theorem below_alloc {w0 w : World} (h : Below w0.heap.size w0 w) (o : Obj) : Below w0.heap.size w0 (w.alloc o) :=
  h.trans (((Below.refl w.heap.size w).alloc (Nat.le_refl _) o).mono h.size)

/-- A sum of numbers, or that it is none. -/
def addN (a b : Nat) : Nat × Nat := if a + b < 18446744073709551616 then (a + b, 0) else (0, 9)
/-- A sum of wide numbers. -/
def plusN (a b : Nat) : Nat × Nat := if a + b < 340282366920938463463374607431768211456 then (a + b, 0) else (0, 9)
/-- A product of a wide number and a number. -/
def timesN (a b : Nat) : Nat × Nat := if a * b < 340282366920938463463374607431768211456 then (a * b, 0) else (0, 9)

/-- A wide number's upper word, its lower word. -/
def hiN (n : Nat) : Nat := n / 18446744073709551616
def loN (n : Nat) : Nat := n % 18446744073709551616
theorem loN_lt (n : Nat) : loN n < 18446744073709551616 := Nat.mod_lt _ (by omega)
theorem hiN_lt {n : Nat} (h : n < 340282366920938463463374607431768211456) : hiN n < 18446744073709551616 := by
  unfold hiN
  omega
theorem join_N (n : Nat) : hiN n * 18446744073709551616 + loN n = n := by
  unfold hiN loN
  omega
theorem hiN_join (h l : Nat) (hl : l < 18446744073709551616) : hiN (h * 18446744073709551616 + l) = h := by
  unfold hiN
  omega
theorem loN_join (h l : Nat) (hl : l < 18446744073709551616) : loN (h * 18446744073709551616 + l) = l := by
  unfold loN
  omega

theorem add64 (x y c : Nat) (hc : c ≤ 1) (w : World) :
    (callFunc 95 #[.int .u64 x, .int .u64 y, .int .u64 c]).run Tryd.prog w =
      .ok (.value (.tuple #[.int .u64 (((x + y + c) % 18446744073709551616 : Nat) : Int), .int .u64 (((x + y + c) / 18446744073709551616 : Nat) : Int)])) w := by
  rw [run_callFunc_extern Tryd.func95 (by kernel_rfl) (by kernel_rfl) (by kernel_rfl) (e := add64Entry) (by kernel_rfl), run_add64 x y c (by omega) (by omega) (by omega) (by omega)]
  simp only [Result.andThen]
  congr 5 <;> omega

theorem add64_0 (x y : Nat) (w : World) :
    (callFunc 95 #[.int .u64 x, .int .u64 y, .int .u64 0]).run Tryd.prog w =
      .ok (.value (.tuple #[.int .u64 (((x + y) % 18446744073709551616 : Nat) : Int), .int .u64 (((x + y) / 18446744073709551616 : Nat) : Int)])) w := by
  have := add64 x y 0 (by omega) w
  simpa using this

set_option maxHeartbeats 400000 in
theorem add_any (a b : Nat) (w : World) (ha : a < 18446744073709551616) (hb : b < 18446744073709551616) :
    Calls Tryd.prog 78 #[.int .u64 a, .int .u64 b] w fun e w' => e = .returned (.tuple #[.int .u64 (addN a b).1, .int .i64 (addN a b).2]) ∧ w = w' := by
  have hA := fun w => add64_0 a b w
  unfold addN
  by_cases h : a + b < 18446744073709551616
  · rw [if_pos h]
    rw [show (a + b) % 18446744073709551616 = a + b by omega, show (a + b) / 18446744073709551616 = 0 by omega] at hA
    generalize a + b = s at hA
    go_enter Tryd.func78, Tryd.ntmps78
    go_wp2_with (simp only [hA])
    go_ret2
    exact ⟨rfl, rfl⟩
  · rw [if_neg h]
    rw [show (a + b) / 18446744073709551616 = 1 by omega] at hA
    generalize (a + b) % 18446744073709551616 = s at hA
    go_enter Tryd.func78, Tryd.ntmps78
    go_wp2_with (simp only [hA])
    go_ret2
    exact ⟨rfl, rfl⟩

/-- A difference, or that there is none. -/
def subN (a b : Nat) : Nat × Nat := if a < b then (0, 5) else (a - b, 0)

/-- -1, 0 or 1. -/
def cmpN (a b : Nat) : Int := if a < b then -1 else if a = b then 0 else 1

theorem int_beq_false (a b : Nat) (h : a ≠ b) : ((a : Int) == (b : Int)) = false := by rw [beq_eq_false_iff_ne]; omega

end Go.Proofs.YtdgaoebjbhomdaaDoor.Wide

namespace Go.Proofs.YtdgaoebjbhomdaaDoor.Wide

/-- One round of the school's correction: the guess is at least the quotient, and the rest that goes with it. -/
structure Guess (u v1 v0 u1 q r : Nat) : Prop where
  sum : q * v1 + r = u
  least : (u * 4294967296 + u1) / (v1 * 4294967296 + v0) ≤ q
  most : q ≤ 4294967297
  rest : r < 4294967296

theorem guess_prod {u v1 v0 u1 q r : Nat} (g : Guess u v1 v0 u1 q r) (h0 : v0 < 4294967296) : q * v0 < 18446744073709551616 := by
  have h1 : q * v0 ≤ 4294967297 * 4294967295 := Nat.mul_le_mul g.most (by omega)
  omega

/-- The product of the guess, by digits. -/
theorem guess_split {u v1 v0 q r : Nat} (hs : q * v1 + r = u) : q * (v1 * 4294967296 + v0) + r * 4294967296 = u * 4294967296 + q * v0 := by
  have e1 : q * (v1 * 4294967296 + v0) = q * v1 * 4294967296 + q * v0 := by rw [Nat.mul_add, Nat.mul_assoc]
  rw [e1, ← hs]
  omega

/-- The quotient has one digit. -/
theorem quot_digit {u v1 v0 u1 : Nat} (hu : u < v1 * 4294967296 + v0) (h1 : u1 < 4294967296) : (u * 4294967296 + u1) / (v1 * 4294967296 + v0) < 4294967296 := by
  rw [Nat.div_lt_iff_lt_mul (by omega)]
  omega

/-- The first guess. -/
theorem guess_first {u v1 v0 u1 : Nat} (hv : 2147483648 ≤ v1) (h1 : v1 < 4294967296) (h0 : v0 < 4294967296) (hu : u < v1 * 4294967296 + v0) (hu1 : u1 < 4294967296) :
    Guess u v1 v0 u1 (u / v1) (u % v1) := by
  have hd := Nat.div_add_mod u v1
  have hm := Nat.mod_lt u (show v1 > 0 by omega)
  refine ⟨by rw [Nat.mul_comm]; exact hd, ?_, ?_, by omega⟩
  · rw [Nat.div_le_iff_le_mul_add_pred (by omega)]
    have e1 : u < (u / v1 + 1) * v1 := by rw [Nat.add_mul, Nat.mul_comm (u / v1)]; omega
    have e2 : (u + 1) * 4294967296 ≤ (u / v1 + 1) * v1 * 4294967296 := Nat.mul_le_mul_right _ e1
    have e3 : (v1 * 4294967296 + v0) * (u / v1) = (u / v1) * v1 * 4294967296 + v0 * (u / v1) := by
      rw [Nat.add_mul, Nat.mul_right_comm, Nat.mul_comm v1]
    have e4 : (u / v1 + 1) * v1 * 4294967296 = (u / v1) * v1 * 4294967296 + v1 * 4294967296 := by rw [Nat.add_mul, Nat.add_mul, Nat.one_mul]
    have e5 : 0 ≤ v0 * (u / v1) := Nat.zero_le _
    omega
  · have : u / v1 < 4294967298 := by
      rw [Nat.div_lt_iff_lt_mul (by omega)]
      omega
    omega

/-- The guess is too great: the next one. -/
theorem guess_more {u v1 v0 u1 q r : Nat} (g : Guess u v1 v0 u1 q r) (hu : u < v1 * 4294967296 + v0) (hu1 : u1 < 4294967296)
    (hc : 4294967296 ≤ q ∨ 4294967296 * r + u1 < q * v0) : 1 ≤ q ∧ (q - 1) * v1 + (r + v1) = u ∧ (u * 4294967296 + u1) / (v1 * 4294967296 + v0) ≤ q - 1 := by
  have hq := quot_digit (v1 := v1) (v0 := v0) hu hu1
  have hlt : (u * 4294967296 + u1) / (v1 * 4294967296 + v0) < q := by
    rcases hc with hc | hc
    · omega
    · rw [Nat.div_lt_iff_lt_mul (by omega)]
      have := guess_split (v0 := v0) g.sum
      omega
  have h1 : 1 ≤ q := Nat.lt_of_le_of_lt (Nat.zero_le _) hlt
  refine ⟨h1, ?_, by omega⟩
  have e : (q - 1) * v1 + v1 = q * v1 := by
    obtain ⟨k, rfl⟩ : ∃ k, q = k + 1 := ⟨q - 1, by omega⟩
    rw [Nat.add_sub_cancel, Nat.add_mul, Nat.one_mul]
  have := g.sum
  omega

/-- The guess fits: it is the quotient. -/
theorem guess_done {u v1 v0 u1 q r : Nat} (g : Guess u v1 v0 u1 q r) (hv : 2147483648 ≤ v1) (hc : q * v0 ≤ 4294967296 * r + u1) :
    q = (u * 4294967296 + u1) / (v1 * 4294967296 + v0) := by
  refine Nat.le_antisymm ?_ g.least
  rw [Nat.le_div_iff_mul_le (by omega)]
  have := guess_split (v0 := v0) g.sum
  omega

/-- The guess fits, for its rest is great. -/
theorem guess_great {u v1 v0 u1 q r : Nat} (hs : q * v1 + r = u) (hl : (u * 4294967296 + u1) / (v1 * 4294967296 + v0) ≤ q) (hv : 2147483648 ≤ v1) (h0 : v0 < 4294967296) (hq : q ≤ 4294967296) (hr : 4294967296 ≤ r) :
    q = (u * 4294967296 + u1) / (v1 * 4294967296 + v0) := by
  refine Nat.le_antisymm ?_ hl
  rw [Nat.le_div_iff_mul_le (by omega)]
  have h1 := guess_split (v0 := v0) hs
  have h2 : q * v0 ≤ 4294967296 * 4294967295 := Nat.mul_le_mul hq (by omega)
  omega

/-- Two digits of a quotient, and what is left, out of one digit at a time. -/
theorem two_digits (u u1 u0 Y : Nat) (hY : 0 < Y) :
    (u * 18446744073709551616 + (u1 * 4294967296 + u0)) / Y = (u * 4294967296 + u1) / Y * 4294967296 + ((u * 4294967296 + u1) % Y * 4294967296 + u0) / Y ∧
    (u * 18446744073709551616 + (u1 * 4294967296 + u0)) % Y = ((u * 4294967296 + u1) % Y * 4294967296 + u0) % Y := by
  have hd := Nat.div_add_mod (u * 4294967296 + u1) Y
  have e : u * 18446744073709551616 + (u1 * 4294967296 + u0) = (u * 4294967296 + u1) % Y * 4294967296 + u0 + Y * ((u * 4294967296 + u1) / Y * 4294967296) := by
    rw [← Nat.mul_assoc]
    omega
  refine ⟨?_, ?_⟩
  · rw [e, Nat.add_mul_div_left _ _ hY, Nat.add_comm]
  · rw [e, Nat.add_mul_mod_self_left]

/-- The divisor moved up till its first bit stands. -/
structure Norm (hi lo y s : Nat) : Prop where
  s63 : s ≤ 63
  up : 9223372036854775808 ≤ y * 2 ^ s
  fits : y * 2 ^ s < 18446744073709551616
  u32 : hi * 2 ^ s + lo / 2 ^ (64 - s) < y * 2 ^ s
  whole : (hi * 2 ^ s + lo / 2 ^ (64 - s)) * 18446744073709551616 + lo * 2 ^ s % 18446744073709551616 = (hi * 18446744073709551616 + lo) * 2 ^ s
  small : lo / 2 ^ (64 - s) < 2 ^ s

theorem pow64 (s : Nat) (h : s ≤ 63) : 2 ^ s * 2 ^ (64 - s) = 18446744073709551616 := by
  rw [← Nat.pow_add, show s + (64 - s) = 64 by omega]

theorem norm_of (hi lo y s : Nat) (hs : s ≤ 63) (hh : hi < y) (hl : lo < 18446744073709551616) (h1 : 9223372036854775808 ≤ y * 2 ^ s) (h2 : y * 2 ^ s < 18446744073709551616) : Norm hi lo y s := by
  have hp := pow64 s hs
  have hpos : 0 < 2 ^ (64 - s) := Nat.pow_pos (by omega)
  have hsmall : lo / 2 ^ (64 - s) < 2 ^ s := by
    rw [Nat.div_lt_iff_lt_mul hpos, hp]
    exact hl
  have hup : (hi + 1) * 2 ^ s ≤ y * 2 ^ s := Nat.mul_le_mul_right _ hh
  rw [Nat.add_mul, Nat.one_mul] at hup
  refine ⟨hs, h1, h2, by omega, ?_, hsmall⟩
  have e : lo * 2 ^ s = lo / 2 ^ (64 - s) * 18446744073709551616 + lo * 2 ^ s % 18446744073709551616 := by
    have e1 : lo * 2 ^ s / 18446744073709551616 = lo / 2 ^ (64 - s) := by
      rw [← hp, Nat.mul_comm (2 ^ s) (2 ^ (64 - s))]
      exact Nat.mul_div_mul_right _ _ (Nat.pow_pos (by omega))
    have := Nat.div_add_mod (lo * 2 ^ s) 18446744073709551616
    rw [e1] at this
    omega
  rw [Nat.add_mul, Nat.add_mul, Nat.mul_right_comm hi]
  omega

/-- Out of the moved numbers the quotient and what is left of those that came in. -/
theorem norm_quot {hi lo y s : Nat} (_n : Norm hi lo y s) :
    (hi * 18446744073709551616 + lo) * 2 ^ s / (y * 2 ^ s) = (hi * 18446744073709551616 + lo) / y ∧ (hi * 18446744073709551616 + lo) * 2 ^ s % (y * 2 ^ s) / 2 ^ s = (hi * 18446744073709551616 + lo) % y := by
  have hpos : 0 < 2 ^ s := Nat.pow_pos (by omega)
  refine ⟨Nat.mul_div_mul_right _ _ hpos, ?_⟩
  rw [Nat.mul_mod_mul_right, Nat.mul_div_cancel _ hpos]

end Go.Proofs.YtdgaoebjbhomdaaDoor.Wide

namespace Go.Proofs.YtdgaoebjbhomdaaDoor.Wide
open Go.RowKit

theorem u64_nat (n : Nat) (h : n < 18446744073709551616) : IntKind.u64.wrap (n : Int) = (n : Int) := IntWalk.u64_in _ ⟨by omega, by omega⟩
theorem u64_mod (n : Nat) : IntKind.u64.wrap (n : Int) = ((n % 18446744073709551616 : Nat) : Int) := by rw [IntKind.wrap_u64]; omega

/-- What the walk reckons ahead of the first loop, number by number. -/
structure Reck (hi lo y s t Y u l v1 v0 u1 u0 : Nat) : Prop where
  e0 : IntKind.u64.wrap (s : Int) = (s : Int)
  e1 : IntKind.u64.wrap ((y : Int) * 2 ^ s) = (Y : Int)
  e2 : (Y : Int) / 4294967296 = (v1 : Int)
  e3 : bits .and .u64 (Y : Int) 4294967295 = (v0 : Int)
  e4 : bits .or .u64 (IntKind.u64.wrap ((hi : Int) * 2 ^ s)) ((lo : Int) / 2 ^ t) = (u : Int)
  e5 : IntKind.u64.wrap (64 - (s : Int)) = (t : Int)
  e8 : IntKind.u64.wrap ((lo : Int) * 2 ^ s) = (l : Int)
  e9 : (l : Int) / 4294967296 = (u1 : Int)
  e10 : bits .and .u64 (l : Int) 4294967295 = (u0 : Int)

theorem mask32 (a : Nat) (ha : a < 18446744073709551616) : bits .and .u64 (a : Int) 4294967295 = ((a % 4294967296 : Nat) : Int) := by
  have h := u64_and_nat a 4294967295 ha (by omega)
  rw [nat_mask32] at h
  exact h

theorem reck_of (hi lo y s : Nat) (n : Norm hi lo y s) (hh : hi < y) :
    Reck hi lo y s (64 - s) (y * 2 ^ s) (hi * 2 ^ s + lo / 2 ^ (64 - s)) (lo * 2 ^ s % 18446744073709551616) (y * 2 ^ s / 4294967296) (y * 2 ^ s % 4294967296) (lo * 2 ^ s % 18446744073709551616 / 4294967296) (lo * 2 ^ s % 18446744073709551616 % 4294967296) := by
  have hs := n.s63
  have hlt := n.fits
  have c (x : Nat) : (x : Int) * 2 ^ s = ((x * 2 ^ s : Nat) : Int) := by rw [Int.natCast_mul, Int.natCast_pow]; rfl
  have c2 : (lo : Int) / 2 ^ (64 - s) = ((lo / 2 ^ (64 - s) : Nat) : Int) := by rw [Int.natCast_ediv, Int.natCast_pow]; rfl
  have hhi : hi * 2 ^ s ≤ y * 2 ^ s := Nat.mul_le_mul_right _ (by omega)
  have hlm : lo * 2 ^ s % 18446744073709551616 < 18446744073709551616 := Nat.mod_lt _ (by omega)
  have hp : (2 : Nat) ^ s ≤ 18446744073709551616 := by
    have := Nat.pow_le_pow_right (n := 2) (by omega) (show s ≤ 64 by omega)
    simpa using this
  refine ⟨u64_nat _ (by omega), ?_, by omega, mask32 _ hlt, ?_, ?_, ?_, by omega, mask32 _ hlm⟩
  · rw [c, u64_nat _ hlt]
  · rw [c, c2, u64_nat _ (by omega), u64_or_nat _ _ (by omega) (by have := n.small; omega), nat_join s _ _ (Nat.mul_mod_left _ _) n.small]
  · rw [IntWalk.u64_in _ ⟨by omega, by omega⟩]
    omega
  · rw [c, u64_mod]

/-- What stands behind a loop: what is left of one digit. -/
theorem rest_wrap (u u1 q Y R : Nat) (h : q * Y + R = u * 4294967296 + u1) (hR : R < 18446744073709551616) :
    IntKind.u64.wrap (IntKind.u64.wrap (IntKind.u64.wrap ((u : Int) * 4294967296) + (u1 : Int)) - IntKind.u64.wrap ((q : Int) * (Y : Int))) = (R : Int) := by
  have e : (q : Int) * (Y : Int) = ((q * Y : Nat) : Int) := (Int.natCast_mul q Y).symm
  rw [e]
  generalize q * Y = P at h ⊢
  simp only [IntKind.wrap_u64]
  omega

theorem first_wrap (u v : Nat) (hu : u < 18446744073709551616) : IntKind.u64.wrap ((u : Int) / (v : Int)) = ((u / v : Nat) : Int) := by
  rw [← Int.natCast_ediv, u64_nat _ (Nat.lt_of_le_of_lt (Nat.div_le_self _ _) hu)]

theorem first_rest (u v : Nat) (hu : u < 18446744073709551616) : IntKind.u64.wrap ((u : Int) - IntKind.u64.wrap (((u / v : Nat) : Int) * (v : Int))) = ((u % v : Nat) : Int) := by
  have hd := Nat.div_add_mod u v
  rw [Nat.mul_comm] at hd
  rw [← Int.natCast_mul]
  generalize u / v * v = P at hd ⊢
  generalize u % v = R at hd ⊢
  simp only [IntKind.wrap_u64]
  omega

/-- How many places the divisor moves up. -/
theorem norm_places (y : Nat) (h0 : 0 < y) (hy : y < 18446744073709551616) : ∃ s : Nat, s ≤ 63 ∧ (64 - (Lib.bitLen y : Int)) = (s : Int) ∧ 9223372036854775808 ≤ y * 2 ^ s ∧ y * 2 ^ s < 18446744073709551616 := by
  obtain ⟨k, hk1, hk2⟩ : ∃ k, 2 ^ k ≤ y ∧ y < 2 ^ (k + 1) := ⟨y.log2, Nat.log2_self_le (by omega), Nat.lt_log2_self⟩
  have hk : k ≤ 63 := by
    rcases Nat.lt_or_ge k 64 with h | h
    · omega
    · have := Nat.pow_le_pow_right (n := 2) (by omega) h
      omega
  have hp : 0 < 2 ^ k := Nat.pow_pos (by omega)
  have e : y / 2 ^ k = 1 := by
    rw [Nat.pow_succ] at hk2
    exact Nat.div_eq_of_lt_le (by omega) (by omega)
  have hb : Lib.bitLen y = k + 1 := by
    rw [Lib.bitLen_shift k y hk1 hy, e]
    rfl
  have hpp : (2 : Nat) ^ k * 2 ^ (63 - k) = 9223372036854775808 := by
    rw [← Nat.pow_add, show k + (63 - k) = 63 by omega]
  refine ⟨63 - k, by omega, by rw [hb]; omega, ?_, ?_⟩
  · rw [← hpp]
    exact Nat.mul_le_mul_right _ hk1
  · have hlt : y * 2 ^ (63 - k) < 2 ^ (k + 1) * 2 ^ (63 - k) := Nat.mul_lt_mul_of_pos_right hk2 (Nat.pow_pos (by omega))
    rw [Nat.pow_succ, Nat.mul_right_comm, hpp] at hlt
    exact hlt

end Go.Proofs.YtdgaoebjbhomdaaDoor.Wide

namespace Go.Proofs.YtdgaoebjbhomdaaDoor.Wide
open Go.RowKit

theorem keep_alloc {w : World} {a : Addr} {v : Value} {o : Obj} (h : w.cell? a = some v) : (w.alloc o).cell? a = some v := by
  rw [World.cell?_alloc_some w a o (by rw [h]; rfl), h]
theorem keep_drew {w : World} {a : Addr} {v : Value} (h : w.cell? a = some v) : w.drew.cell? a = some v := h

theorem two_cells (w : World) (x y : Value) (t : TypeId) (o : Obj) :
    ((w.alloc (.cells #[x, y] t)).alloc o).cell? ⟨w.heap.size, 0, none⟩ = some x ∧ ((w.alloc (.cells #[x, y] t)).alloc o).cell? ⟨w.heap.size, 1, none⟩ = some y := by
  constructor <;> go_simp

theorem two_set {w : World} {b : Nat} {u v : Value} (x y : Value) (h0 : w.cell? ⟨b, 0, none⟩ = some u) (h1 : w.cell? ⟨b, 1, none⟩ = some v) :
    ((w.setCell ⟨b, 0, none⟩ x).setCell ⟨b, 1, none⟩ y).cell? ⟨b, 0, none⟩ = some x ∧ ((w.setCell ⟨b, 0, none⟩ x).setCell ⟨b, 1, none⟩ y).cell? ⟨b, 1, none⟩ = some y := by
  constructor
  · rw [World.cell?_setCell_other _ _ _ _ (by simp), World.cell?_setCell_same _ _ _ h0]
  · refine World.cell?_setCell_same _ _ _ (u := v) ?_
    rw [World.cell?_setCell_other _ _ _ _ (by simp), h1]

theorem mul_lt (a b : Nat) (ha : a < 18446744073709551616) (hb : b < 18446744073709551616) : a * b < 340282366920938463463374607431768211456 := by
  have : a * b ≤ 18446744073709551615 * 18446744073709551615 := Nat.mul_le_mul (by omega) (by omega)
  omega
theorem times_split (ah al b : Nat) : (ah * 18446744073709551616 + al) * b = ah * b * 18446744073709551616 + al * b := by
  rw [Nat.add_mul, Nat.mul_right_comm]
theorem times_over (ah al b : Nat) (h : ¬ hiN (ah * b) = 0) : timesN (ah * 18446744073709551616 + al) b = (0, 9) := by
  unfold timesN
  unfold hiN at h
  rw [times_split, if_neg (by omega)]
theorem plus_times (ah al b : Nat) (h : hiN (ah * b) = 0) : plusN (hiN (al * b) * 18446744073709551616 + loN (al * b)) (loN (ah * b) * 18446744073709551616 + 0) = timesN (ah * 18446744073709551616 + al) b := by
  rw [join_N]
  unfold plusN timesN loN
  unfold hiN at h
  rw [times_split, show al * b + (ah * b % 18446744073709551616 * 18446744073709551616 + 0) = ah * b * 18446744073709551616 + al * b by omega]

theorem keep_below {B : Nat} {a w : World} (h : Below B a w) (o : Obj) (hB : B ≤ a.heap.size) : Below B a (w.alloc o) := h.alloc (Nat.le_trans hB h.size) o

end Go.Proofs.YtdgaoebjbhomdaaDoor.Wide

namespace Go.Proofs.YtdgaoebjbhomdaaDoor.Wide
open Go.RowKit

/-- A cell that was there reads on as it did. -/
theorem kept {w w' : World} (h : Below w.heap.size w w') {p : Addr} {v : Value} (hc : w.cell? p = some v) : w'.cell? p = some v := by
  rw [h.cell (World.block_lt_of_cell? w p hc)]
  exact hc
theorem keptF {w w' : World} (h : Below w.heap.size w w') {p : Addr} {v : Value} (hc : w.cell? p = some v) (hf : w.frozen? p = false) : w'.frozen? p = false := by
  rw [h.frozen (World.block_lt_of_cell? w p hc)]
  exact hf

theorem div_digits (ah al b : Nat) (hb : 0 < b) :
    (ah * 18446744073709551616 + al) / b = ah / b * 18446744073709551616 + (ah % b * 18446744073709551616 + al) / b ∧ (ah * 18446744073709551616 + al) % b = (ah % b * 18446744073709551616 + al) % b := by
  have hd := Nat.div_add_mod ah b
  have e : ah * 18446744073709551616 + al = ah % b * 18446744073709551616 + al + b * (ah / b * 18446744073709551616) := by
    rw [← Nat.mul_assoc]
    omega
  refine ⟨?_, ?_⟩
  · rw [e, Nat.add_mul_div_left _ _ hb, Nat.add_comm]
  · rw [e, Nat.add_mul_mod_self_left]

theorem div_small (r al b : Nat) (hb : r < b) (hl : al < 18446744073709551616) : (r * 18446744073709551616 + al) / b < 18446744073709551616 := by
  rw [Nat.div_lt_iff_lt_mul (by omega)]
  omega

/-- n times a, divided by b. -/
def partN (n a b : Nat) : Nat × Nat := if b = 0 then (0, 2) else if n * a / b < 18446744073709551616 then (n * a / b, 0) else (0, 9)

end Go.Proofs.YtdgaoebjbhomdaaDoor.Wide

namespace Go.Proofs.YtdgaoebjbhomdaaDoor.Wide
open Go.RowKit

theorem two_far {w : World} {b c o : Nat} {v : Value} (x y : Value) (hne : b ≠ c) (h : w.cell? ⟨c, o, none⟩ = some v) :
    ((w.setCell ⟨b, 0, none⟩ x).setCell ⟨b, 1, none⟩ y).cell? ⟨c, o, none⟩ = some v := by
  rw [World.cell?_setCell_far _ _ _ _ hne, World.cell?_setCell_far _ _ _ _ hne, h]

/-- Three boxes in a row, and what each cell of them holds. -/
theorem six_cells (w : World) (a b c d e f : Value) (t : TypeId) :
    let W := ((w.alloc (.cells #[a, b] t)).alloc (.cells #[c, d] t)).alloc (.cells #[e, f] t)
    W.cell? ⟨w.heap.size, 0, none⟩ = some a ∧ W.cell? ⟨w.heap.size, 1, none⟩ = some b ∧ W.cell? ⟨w.heap.size + 1, 0, none⟩ = some c ∧ W.cell? ⟨w.heap.size + 1, 1, none⟩ = some d ∧
      W.cell? ⟨w.heap.size + 2, 0, none⟩ = some e ∧ W.cell? ⟨w.heap.size + 2, 1, none⟩ = some f := by
  refine ⟨?_, ?_, ?_, ?_, ?_, ?_⟩ <;> go_simp

/-- What is known of the six cells goes along. -/
structure Six (w : World) (n : Nat) (a b c d e f : Value) : Prop where
  k0 : w.cell? ⟨n, 0, none⟩ = some a
  k1 : w.cell? ⟨n, 1, none⟩ = some b
  k2 : w.cell? ⟨n + 1, 0, none⟩ = some c
  k3 : w.cell? ⟨n + 1, 1, none⟩ = some d
  k4 : w.cell? ⟨n + 2, 0, none⟩ = some e
  k5 : w.cell? ⟨n + 2, 1, none⟩ = some f

theorem Six.kept {w w' : World} {n : Nat} {a b c d e f : Value} (s : Six w n a b c d e f) (h : Below w.heap.size w w') : Six w' n a b c d e f :=
  ⟨Wide.kept h s.k0, Wide.kept h s.k1, Wide.kept h s.k2, Wide.kept h s.k3, Wide.kept h s.k4, Wide.kept h s.k5⟩
theorem Six.alloc {w : World} {n : Nat} {a b c d e f : Value} (s : Six w n a b c d e f) (o : Obj) : Six (w.alloc o) n a b c d e f :=
  ⟨keep_alloc s.k0, keep_alloc s.k1, keep_alloc s.k2, keep_alloc s.k3, keep_alloc s.k4, keep_alloc s.k5⟩
theorem Six.size {w : World} {n : Nat} {a b c d e f : Value} (s : Six w n a b c d e f) : n + 2 < w.heap.size := World.block_lt_of_cell? _ _ s.k4

theorem keep_allocF {w : World} {p : Addr} {v : Value} {o : Obj} (h : w.cell? p = some v) (hf : w.frozen? p = false) : (w.alloc o).frozen? p = false := by
  rw [World.frozen?_alloc_old _ _ _ (Nat.ne_of_lt (World.block_lt_of_cell? _ _ h)), hf]

theorem parts_math (n a b : Nat) (h0 : 0 < b) (ha : a ≤ b) : n * a / b ≤ n ∧ n * (b - a) / b ≤ n ∧ (n * a / b + n * (b - a) / b = n ∨ n * a / b + n * (b - a) / b + 1 = n) := by
  have h1 := Nat.div_add_mod (n * a) b
  have h2 := Nat.div_add_mod (n * (b - a)) b
  have r1 := Nat.mod_lt (n * a) h0
  have r2 := Nat.mod_lt (n * (b - a)) h0
  have hs : n * a + n * (b - a) = n * b := by rw [← Nat.mul_add, Nat.add_sub_cancel' ha]
  generalize n * a / b = x at h1 ⊢
  generalize n * (b - a) / b = y at h2 ⊢
  have hb : b * (x + y) + (n * a % b + n * (b - a) % b) = b * n := by rw [Nat.mul_add, Nat.mul_comm b n]; omega
  have hle : x + y ≤ n := Nat.le_of_mul_le_mul_left (by omega) h0
  obtain ⟨k, rfl⟩ : ∃ k, n = x + y + k := ⟨n - (x + y), by omega⟩
  rw [Nat.mul_add b (x + y) k] at hb
  have hk : k < 2 := by
    rcases Nat.lt_or_ge k 2 with h | h
    · exact h
    · have := Nat.mul_le_mul_left b h
      omega
  omega

theorem partN_of (n a b : Nat) (hn : n < 18446744073709551616) (h0 : 0 < b) (h : n * a / b ≤ n) : partN n a b = (n * a / b, 0) := by
  unfold partN
  rw [if_neg (by omega), if_pos (by omega)]

theorem one_cells (w : World) (x y : Value) (t : TypeId) :
    (w.alloc (.cells #[x, y] t)).cell? ⟨w.heap.size, 0, none⟩ = some x ∧ (w.alloc (.cells #[x, y] t)).cell? ⟨w.heap.size, 1, none⟩ = some y := by
  constructor <;> go_simp

end Go.Proofs.YtdgaoebjbhomdaaDoor.Wide
