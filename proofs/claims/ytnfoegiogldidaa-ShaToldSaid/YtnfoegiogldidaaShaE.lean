/- The document's own answers: root. -/
import Derived.Test.YtnfoegiogldidaaShaD
namespace Go.Proofs.Ytnfoegiogldidaa.Sha
open Go.RowKit

/-- The root's words, bit by bit. -/
def rootF (n p : Nat) : Nat → Nat → Nat
  | 0, x => x
  | b + 1, x => rootF n p b (if (x + 2 ^ b) ^ p ≤ n * 4294967296 ^ p then x + 2 ^ b else x)

/-- The document's words of the first primes' roots are those of the table: reckoned by the kernel. -/
def primes64 : List Nat := [2, 3, 5, 7, 11, 13, 17, 19, 23, 29, 31, 37, 41, 43, 47, 53, 59, 61, 67, 71, 73, 79, 83, 89, 97, 101, 103, 107, 109, 113, 127, 131, 137, 139, 149, 151, 157, 163, 167, 173, 179, 181, 191, 193, 197, 199, 211, 223, 227, 229, 233, 239, 241, 251, 257, 263, 269, 271, 277, 281, 283, 293, 307, 311]
theorem cubes_told : primes64.map (fun n => rootF n 3 40 0 % 4294967296) = kL := by decide +kernel
theorem squares_told : (primes64.take 8).map (fun n => rootF n 2 40 0 % 4294967296) = hL := by decide +kernel

set_option maxRecDepth 100000 in
set_option maxHeartbeats 1600000 in
theorem root_any (n p : Nat) (w : World) (hn : n < 65536) (hp : p ≤ 3) :
    Calls Try.prog 56 #[.int .u64 n, .int .u64 p] w fun e w' => e = .returned (.int .u32 (rootF n p 40 0 % 4294967296 : Nat)) ∧ Below w.heap.size w w' := by
  obtain ⟨R, hR⟩ : ∃ R, rootF n p 40 0 = R := ⟨_, rfl⟩
  rw [hR]
  have HR := Lib.hid hR
  clear hR
  obtain ⟨T, hT⟩ : ∃ T, R % 4294967296 = T := ⟨_, rfl⟩
  rw [hT]
  have HT := Lib.hid hT
  clear hT
  go_enter Try.func56, Try.ntmps56
  go_wp2_with fail
  go_loopw [5, 6] (fun x b wr => ∃ (k y : Nat) (iv : Int), k ≤ 40 ∧ iv = (k : Int) - 1 ∧ b = .int .i64 iv ∧ x = .int .u64 y ∧ y + 2 ^ k ≤ 1099511627776 ∧ rootF n p k y = R ∧ Below w.heap.size w wr) (fun _ b _ => (intOf b + 1).toNat)
  case atStart => exact ⟨40, 0, 39, by omega, by omega, rfl, rfl, by decide, HR.out, Below.refl _ _⟩
  case round =>
    obtain ⟨k, y, iv, hk, hiv, rfl, rfl, hy, hr, hb⟩ := hrel
    have HRR := Lib.hid hr
    clear hr
    cases k with
    | zero =>
      obtain rfl : iv = -1 := by omega
      obtain rfl : y = R := HRR.out
      have he : (y : Int) % 4294967296 = (T : Int) := by rw [← HT.out]; omega
      clear hiv hk hy
      go_wp2_with fail
      go_ret
      exact ⟨by show Ending.returned (Value.int .u32 ((y : Int) % 4294967296)) = _; rw [he], hb⟩
    | succ j =>
      obtain rfl : iv = (j : Int) := by omega
      clear hiv
      have hpow : (2 : Nat) ^ (j + 1) = 2 ^ j + 2 ^ j := by rw [Nat.pow_succ]; omega
      rw [hpow] at hy
      have hF := fun w => fits_any (y + 2 ^ j) n p w (by have : 0 < 2 ^ j := Nat.pow_pos (by omega); omega) hn hp
      have hstep : rootF n p (j + 1) y = rootF n p j (if (y + 2 ^ j) ^ p ≤ n * 4294967296 ^ p then y + 2 ^ j else y) := rfl
      have hst := Lib.hid (hstep.symm.trans HRR.out)
      have hj0 : (0 : Int) ≤ (j : Int) := by omega
      have hj63 : j ≤ 63 := by omega
      have hcast : (2 : Int) ^ j = ((2 ^ j : Nat) : Int) := by rw [Int.natCast_pow]; rfl
      obtain ⟨P, hP⟩ : ∃ P, 2 ^ j = P := ⟨_, rfl⟩
      rw [hP] at hF hst hy hcast
      have hsh : IntKind.u64.wrap ((2 : Int) ^ j) = (P : Int) := by rw [hcast, IntWalk.u64_in _ ⟨by omega, by omega⟩]
      have hadd : IntKind.u64.wrap ((y : Int) + (P : Int)) = ((y + P : Nat) : Int) := by rw [IntWalk.u64_in _ ⟨by omega, by omega⟩]; omega
      obtain ⟨z, hz⟩ : ∃ z, y + P = z := ⟨_, rfl⟩
      rw [hz] at hF hadd hst
      have HP := Lib.hid hP
      have HZ := Lib.hid hz
      have HY := Lib.hid hy
      clear hcast hpow hP hstep hz hy
      by_cases hfit : z ^ p ≤ n * 4294967296 ^ p
      · rw [if_pos hfit] at hst
        rw [decide_eq_true hfit] at hF
        clear hfit
        go_wp2_with fail
        refine (hF _).mono ?_
        rintro e w1 ⟨rfl, hb1⟩
        go_wp2_with fail
        go_roundw
        case rel => exact ⟨j, z, (j : Int) - 1, by omega, rfl, by go_num, rfl, by rw [HP.out]; have := HZ.out; have := HY.out; omega, hst.out, hb.trans (hb1.mono hb.size)⟩
        case measure => simp [intOf]
      · rw [if_neg hfit] at hst
        rw [decide_eq_false hfit] at hF
        clear hfit
        go_wp2_with fail
        refine (hF _).mono ?_
        rintro e w1 ⟨rfl, hb1⟩
        go_wp2_with fail
        go_roundw
        case rel => exact ⟨j, y, (j : Int) - 1, by omega, rfl, by go_num, rfl, by rw [HP.out]; have := HZ.out; have := HY.out; omega, hst.out, hb.trans (hb1.mono hb.size)⟩
        case measure => simp [intOf]

end Go.Proofs.Ytnfoegiogldidaa.Sha
