/- The document's own answers: products of wide numbers. -/
import Derived.Test.YtogpnfgjdnccdaaWideP
namespace Go.Proofs.Ytogpnfgjdnccdaa.Wide
open Go.RowKit

/-- What digits times one digit tell. -/
theorem by_told (n x0 x1 x2 x3 : Nat) (hn : n < 4294967296) (h0 : x0 < 4294967296) (h1 : x1 < 4294967296) (h2 : x2 < 4294967296) (h3 : x3 < 4294967296) :
    ∃ l0 l1 l2 l3 l4, byL n 0 [x0, x1, x2, x3] = [l0, l1, l2, l3, l4] ∧ l0 < 4294967296 ∧ l1 < 4294967296 ∧ l2 < 4294967296 ∧ l3 < 4294967296 ∧ l4 < 4294967296 ∧
      l0 + l1 * 4294967296 + l2 * 18446744073709551616 + l3 * 79228162514264337593543950336 + l4 * 340282366920938463463374607431768211456 = x0 * n + x1 * n * 4294967296 + x2 * n * 18446744073709551616 + x3 * n * 79228162514264337593543950336 := by
  have p0 : x0 * n ≤ 4294967295 * 4294967295 := Nat.mul_le_mul (by omega) (by omega)
  have p1 : x1 * n ≤ 4294967295 * 4294967295 := Nat.mul_le_mul (by omega) (by omega)
  have p2 : x2 * n ≤ 4294967295 * 4294967295 := Nat.mul_le_mul (by omega) (by omega)
  have p3 : x3 * n ≤ 4294967295 * 4294967295 := Nat.mul_le_mul (by omega) (by omega)
  refine ⟨_, _, _, _, _, rfl, Nat.mod_lt _ (by omega), Nat.mod_lt _ (by omega), Nat.mod_lt _ (by omega), Nat.mod_lt _ (by omega), ?_, ?_⟩
  · generalize x0 * n = q0 at *
    generalize x1 * n = q1 at *
    generalize x2 * n = q2 at *
    generalize x3 * n = q3 at *
    omega
  · generalize x0 * n = q0 at *
    generalize x1 * n = q1 at *
    generalize x2 * n = q2 at *
    generalize x3 * n = q3 at *
    omega

theorem ofL_value (h l n : Nat) : (h * 18446744073709551616 + l) * n = l % 4294967296 * n + l / 4294967296 * n * 4294967296 + h % 4294967296 * n * 18446744073709551616 + h / 4294967296 * n * 79228162514264337593543950336 := by
  have e : h * 18446744073709551616 + l = l % 4294967296 + l / 4294967296 * 4294967296 + h % 4294967296 * 18446744073709551616 + h / 4294967296 * 79228162514264337593543950336 := by omega
  rw [e, Nat.add_mul, Nat.add_mul, Nat.add_mul, Nat.mul_right_comm (l / 4294967296), Nat.mul_right_comm (h % 4294967296), Nat.mul_right_comm (h / 4294967296)]

theorem split_times (A b : Nat) : A * b = A * (b % 4294967296) + A * (b / 4294967296) * 4294967296 := by
  have := Nat.mod_add_div b 4294967296
  rw [Nat.mul_assoc, ← Nat.mul_add, Nat.mul_comm (b / 4294967296), this]

/-- What the carried rows tell. -/
theorem rows_told (l0 l1 l2 l3 l4 h0 h1 h2 h3 h4 : Nat) :
    ∃ s0 s1 s2 s3 s4 s5 s6, carryL 0 [l0, l1 + h0, l2 + h1, l3 + h2, l4 + h3, h4] = [s0, s1, s2, s3, s4, s5, s6] ∧ s0 < 4294967296 ∧ s1 < 4294967296 ∧ s2 < 4294967296 ∧ s3 < 4294967296 ∧
      (s3 * 4294967296 + s2) * 18446744073709551616 + (s1 * 4294967296 + s0) + s4 * 340282366920938463463374607431768211456 + s5 * 1461501637330902918203684832716283019655932542976 + s6 * 6277101735386680763835789423207666416102355444464034512896 =
        l0 + l1 * 4294967296 + l2 * 18446744073709551616 + l3 * 79228162514264337593543950336 + l4 * 340282366920938463463374607431768211456 +
          (h0 + h1 * 4294967296 + h2 * 18446744073709551616 + h3 * 79228162514264337593543950336 + h4 * 340282366920938463463374607431768211456) * 4294967296 := by
  refine ⟨_, _, _, _, _, _, _, rfl, Nat.mod_lt _ (by omega), Nat.mod_lt _ (by omega), Nat.mod_lt _ (by omega), Nat.mod_lt _ (by omega), ?_⟩
  omega

/-- All that is known of the product's digits. -/
theorem times_told (h l b : Nat) (hh : h < 18446744073709551616) (hl : l < 18446744073709551616) (hb : b < 18446744073709551616) :
    ∃ l0 l1 l2 l3 l4 h0 h1 h2 h3 h4 s0 s1 s2 s3 s4 s5 s6, byL (b % 4294967296) 0 (ofL h l) = [l0, l1, l2, l3, l4] ∧ byL (b / 4294967296) 0 (ofL h l) = [h0, h1, h2, h3, h4] ∧
      (l0 < 4294967296 ∧ l1 < 4294967296 ∧ l2 < 4294967296 ∧ l3 < 4294967296 ∧ l4 < 4294967296) ∧ (h0 < 4294967296 ∧ h1 < 4294967296 ∧ h2 < 4294967296 ∧ h3 < 4294967296 ∧ h4 < 4294967296) ∧
      carryL 0 [l0, l1 + h0, l2 + h1, l3 + h2, l4 + h3, h4] = [s0, s1, s2, s3, s4, s5, s6] ∧ (s0 < 4294967296 ∧ s1 < 4294967296 ∧ s2 < 4294967296 ∧ s3 < 4294967296) ∧
      (s3 * 4294967296 + s2) * 18446744073709551616 + (s1 * 4294967296 + s0) + s4 * 340282366920938463463374607431768211456 + s5 * 1461501637330902918203684832716283019655932542976 + s6 * 6277101735386680763835789423207666416102355444464034512896 = (h * 18446744073709551616 + l) * b := by
  obtain ⟨l0, l1, l2, l3, l4, hlo, b0, b1, b2, b3, b4, hv⟩ := by_told (b % 4294967296) (l % 4294967296) (l / 4294967296) (h % 4294967296) (h / 4294967296) (by omega) (by omega) (by omega) (by omega) (by omega)
  obtain ⟨h0, h1, h2, h3, h4, hhi, c0, c1, c2, c3, c4, hw⟩ := by_told (b / 4294967296) (l % 4294967296) (l / 4294967296) (h % 4294967296) (h / 4294967296) (by omega) (by omega) (by omega) (by omega) (by omega)
  obtain ⟨s0, s1, s2, s3, s4, s5, s6, hs, d0, d1, d2, d3, hval⟩ := rows_told l0 l1 l2 l3 l4 h0 h1 h2 h3 h4
  refine ⟨l0, l1, l2, l3, l4, h0, h1, h2, h3, h4, s0, s1, s2, s3, s4, s5, s6, hlo, hhi, ⟨b0, b1, b2, b3, b4⟩, ⟨c0, c1, c2, c3, c4⟩, hs, ⟨d0, d1, d2, d3⟩, ?_⟩
  rw [split_times (h * 18446744073709551616 + l) b, ofL_value h l (b % 4294967296), ofL_value h l (b / 4294967296), ← hv, ← hw]
  exact hval

theorem by_of (g n h l : Nat) (w : World) (hd : Dig w g (ofL h l)) (hh : h < 18446744073709551616) (hl : l < 18446744073709551616) (hn : n < 4294967296) :
    Calls Try.prog 40 #[.slice (some ⟨g, 0, none⟩) 4 4, .int .u64 n] w fun e w' => ∃ g' cap', e = .returned (.slice (some ⟨g', 0, none⟩) 5 cap') ∧ Dig w' g' (byL n 0 (ofL h l)) ∧ Below w.heap.size w w' :=
  by_digits g 4 n (ofL h l) w hd (by simp [ofL]) (by simp [ofL]) (by
    intro x hx
    simp [ofL] at hx
    omega) hn

/-- Two boxes, what they hold, and that the second may be written. -/
structure Quad (w : World) (n : Nat) (a b c d : Value) : Prop where
  k0 : w.cell? ⟨n, 0, none⟩ = some a
  k1 : w.cell? ⟨n, 1, none⟩ = some b
  z0 : w.cell? ⟨n + 1, 0, none⟩ = some c
  z1 : w.cell? ⟨n + 1, 1, none⟩ = some d
  f0 : w.frozen? ⟨n + 1, 0, none⟩ = false
  f1 : w.frozen? ⟨n + 1, 1, none⟩ = false
theorem Quad.kept {w w' : World} {n : Nat} {a b c d : Value} (q : Quad w n a b c d) (h : Below w.heap.size w w') : Quad w' n a b c d :=
  ⟨Wide.kept h q.k0, Wide.kept h q.k1, Wide.kept h q.z0, Wide.kept h q.z1, keptF h q.z0 q.f0, keptF h q.z1 q.f1⟩
theorem quad_new (w : World) (a b c d : Value) (t : TypeId) : Quad ((w.alloc (.cells #[a, b] t)).alloc (.cells #[c, d] t)) w.heap.size a b c d := by
  refine ⟨?_, ?_, ?_, ?_, ?_, ?_⟩ <;> go_simp

theorem wide_rows (g cap s0 s1 s2 s3 s4 s5 s6 S X e : Nat) (w : World) (hd : Dig w g [s0, s1, s2, s3, s4, s5, s6]) (b0 : s0 < 4294967296) (b1 : s1 < 4294967296) (b2 : s2 < 4294967296) (b3 : s3 < 4294967296)
    (hval : (s3 * 4294967296 + s2) * 18446744073709551616 + (s1 * 4294967296 + s0) + s4 * 340282366920938463463374607431768211456 + s5 * 1461501637330902918203684832716283019655932542976 + s6 * 6277101735386680763835789423207666416102355444464034512896 = S)
    (hX : (if S < 340282366920938463463374607431768211456 then (S, 0) else (0, 9)) = (X, e)) :
    ∃ ok : Bool, Calls Try.prog 42 #[.slice (some ⟨g, 0, none⟩) 7 cap] w (fun r w' =>
      r = .returned (.tuple #[.agg #[.int .u64 (hiN X), .int .u64 (loN X)], .bool ok]) ∧ Below w.heap.size w w') ∧ (ok = true → e = 0) ∧ (ok = false → e = 9 ∧ hiN X = 0 ∧ loN X = 0) := by
  refine wide_told g cap 7 [s0, s1, s2, s3, s4, s5, s6] s0 s1 s2 s3 S X e w hd rfl (by omega) rfl rfl rfl rfl b0 b1 b2 b3 ?_ ?_ hX
  · intro hS
    refine ⟨?_, by omega⟩
    intro i x hi hx
    match i, hi, hx with
    | 4, _, hx => simp at hx; omega
    | 5, _, hx => simp at hx; omega
    | 6, _, hx => simp at hx; omega
    | i + 7, _, hx => simp at hx
  · intro hS
    by_cases h4 : s4 = 0
    · by_cases h5 : s5 = 0
      · exact ⟨6, s6, by omega, rfl, by omega⟩
      · exact ⟨5, s5, by omega, rfl, h5⟩
    · exact ⟨4, s4, by omega, rfl, h4⟩

theorem carry_rows (g cap d0 d1 d2 d3 d4 d5 : Nat) (w : World) (hd : Dig w g [d0, d1, d2, d3, d4, d5]) (h : d0 ≤ 8589934592 ∧ d1 ≤ 8589934592 ∧ d2 ≤ 8589934592 ∧ d3 ≤ 8589934592 ∧ d4 ≤ 8589934592 ∧ d5 ≤ 8589934592) :
    Calls Try.prog 43 #[.slice (some ⟨g, 0, none⟩) 6 cap] w fun e w' => ∃ g' cap', e = .returned (.slice (some ⟨g', 0, none⟩) 7 cap') ∧ Dig w' g' (carryL 0 [d0, d1, d2, d3, d4, d5]) ∧ Below w.heap.size w w' :=
  carry_digits g cap [d0, d1, d2, d3, d4, d5] w hd (by simp) (by
    intro x hx
    simp at hx
    omega)

end Go.Proofs.Ytogpnfgjdnccdaa.Wide
