/- The document's own answers: a word turned. -/
import Derived.Test.YtlalipomphgcoaaProg
import Derived.Test.YtlalipomphgcoaaShaMath
import Derived.WalkKit
import Derived.WalkSpells
import Derived.Handy
import Derived.Below
import Derived.RegionTactic
import Derived.Laws.BitsAllLaws
import Derived.Lib.Hide
namespace Go.Proofs.Ytlalipomphgcoaa.Sha
open Go.RowKit

theorem turn_or (x n : Nat) (hx : x < 4294967296) (hn : n ≤ 31) : bits .or .u32 ((x : Int) / 2 ^ n) ((x : Int) * 2 ^ (32 - n) % 4294967296) = (turnN x n : Int) := by
  have e1 : (x : Int) / 2 ^ n = ((x / 2 ^ n : Nat) : Int) := by
    rw [Int.natCast_ediv, Int.natCast_pow]
    rfl
  have e2 : (x : Int) * 2 ^ (32 - n) = ((x * 2 ^ (32 - n) : Nat) : Int) := by
    rw [Int.natCast_mul, Int.natCast_pow]
    rfl
  have e3 : ((x * 2 ^ (32 - n) : Nat) : Int) % 4294967296 = ((x * 2 ^ (32 - n) % 4294967296 : Nat) : Int) := by omega
  have hp : (2 : Nat) ^ n * 2 ^ (32 - n) = 4294967296 := by
    rw [← Nat.pow_add, show n + (32 - n) = 32 by omega]
  have hl : x / 2 ^ n < 2 ^ (32 - n) := by
    rw [Nat.div_lt_iff_lt_mul (Nat.pow_pos (by omega)), Nat.mul_comm, hp]
    exact hx
  have hz : x * 2 ^ (32 - n) % 4294967296 % 2 ^ (32 - n) = 0 := by
    rw [← hp, Nat.mul_comm (2 ^ n) (2 ^ (32 - n)), Nat.mod_mul_right_mod]
    exact Nat.mul_mod_left _ _
  rw [e1, e2, e3, u32_or_nat _ _ (Nat.lt_of_le_of_lt (Nat.div_le_self _ _) hx) (Nat.mod_lt _ (by omega)), Nat.or_comm, nat_join (32 - n) _ _ hz hl, Nat.add_comm]
  rfl

set_option maxRecDepth 100000 in
set_option maxHeartbeats 800000 in
theorem turn_any (x n : Nat) (w : World) (hx : x < 4294967296) (hn : n ≤ 31) :
    Calls Try.prog 91 #[.int .u32 x, .int .i64 n] w fun e w' => e = .returned (.int .u32 (turnN x n)) ∧ Below w.heap.size w w' := by
  have ho := turn_or x n hx hn
  have hs : IntKind.i64.wrap (32 - (n : Int)) = ((32 - n : Nat) : Int) := by rw [IntWalk.i64_in _ ⟨by omega, by omega⟩]; omega
  obtain ⟨m, hm⟩ : ∃ m, 32 - n = m := ⟨_, rfl⟩
  rw [hm] at ho hs
  have hn0 : (0 : Int) ≤ (n : Int) := by omega
  have hm0 : (0 : Int) ≤ (m : Int) := by omega
  have hm32 : m ≤ 32 := by omega
  have hn32 : n ≤ 32 := by omega
  clear hm
  go_enter Try.func91, Try.ntmps91
  go_wp2
  go_region
  all_goals
    go_wp2
    go_ret
    exact ⟨rfl, (Below.refl _ _).drew⟩

theorem turnN_lt (x n : Nat) (hx : x < 4294967296) (hn : n ≤ 31) : turnN x n < 4294967296 := by
  have hp : (2 : Nat) ^ n * 2 ^ (32 - n) = 4294967296 := by
    rw [← Nat.pow_add, show n + (32 - n) = 32 by omega]
  have hl : x / 2 ^ n < 2 ^ (32 - n) := by
    rw [Nat.div_lt_iff_lt_mul (Nat.pow_pos (by omega)), Nat.mul_comm, hp]
    exact hx
  have hz : x * 2 ^ (32 - n) % 4294967296 % 2 ^ (32 - n) = 0 := by
    rw [← hp, Nat.mul_comm (2 ^ n) (2 ^ (32 - n)), Nat.mod_mul_right_mod]
    exact Nat.mul_mod_left _ _
  have hm : x * 2 ^ (32 - n) % 4294967296 < 4294967296 := Nat.mod_lt _ (by omega)
  have e : turnN x n = x * 2 ^ (32 - n) % 4294967296 ||| x / 2 ^ n := by
    rw [nat_join (32 - n) _ _ hz hl, Nat.add_comm]
    rfl
  rw [e]
  exact Nat.or_lt_two_pow (n := 32) hm (Nat.lt_of_le_of_lt (Nat.div_le_self _ _) hx)

/-- The four mixtures, as the words' walk spells them. -/
theorem xor3 (a b c : Nat) (ha : a < 4294967296) (hb : b < 4294967296) (hc : c < 4294967296) : bits .xor .u32 (bits .xor .u32 (a : Int) (b : Int)) (c : Int) = ((a ^^^ b ^^^ c : Nat) : Int) := by
  rw [u32_xor_nat a b ha hb, u32_xor_nat _ c (Nat.xor_lt_two_pow (n := 32) ha hb) hc]

theorem ch_walk (e f g : Nat) (he : e < 4294967296) (hf : f < 4294967296) (hg : g < 4294967296) :
    bits .or .u32 (bits .and .u32 (e : Int) (f : Int)) (bits .and .u32 (bits .xor .u32 (e : Int) 4294967295) (g : Int)) = ((e &&& f ||| (e ^^^ 4294967295) &&& g : Nat) : Int) := by
  have h1 := u32_xor_nat e 4294967295 he (by omega)
  have hx : e ^^^ 4294967295 < 4294967296 := Nat.xor_lt_two_pow (n := 32) he (by omega)
  have h2 : bits .xor .u32 (e : Int) 4294967295 = ((e ^^^ 4294967295 : Nat) : Int) := h1
  rw [h2, u32_and_nat e f he hf, u32_and_nat _ g hx hg, u32_or_nat _ _ (Nat.and_lt_two_pow (n := 32) _ hf) (Nat.and_lt_two_pow (n := 32) _ hg)]

theorem maj_walk (a b c : Nat) (ha : a < 4294967296) (hb : b < 4294967296) (hc : c < 4294967296) :
    bits .or .u32 (bits .or .u32 (bits .and .u32 (a : Int) (b : Int)) (bits .and .u32 (a : Int) (c : Int))) (bits .and .u32 (b : Int) (c : Int)) = ((a &&& b ||| a &&& c ||| b &&& c : Nat) : Int) := by
  rw [u32_and_nat a b ha hb, u32_and_nat a c ha hc, u32_and_nat b c hb hc, u32_or_nat _ _ (Nat.and_lt_two_pow (n := 32) _ hb) (Nat.and_lt_two_pow (n := 32) _ hc),
    u32_or_nat _ _ (Nat.or_lt_two_pow (n := 32) (Nat.and_lt_two_pow (n := 32) _ hb) (Nat.and_lt_two_pow (n := 32) _ hc)) (Nat.and_lt_two_pow (n := 32) _ hc)]

end Go.Proofs.Ytlalipomphgcoaa.Sha
