/- The document's own answers: which of two rows of digits is less. -/
import Derived.Test.YtlalipomphgcoaaShaB
namespace Go.Proofs.Ytlalipomphgcoaa.Sha
open Go.RowKit

/-- What the first k digits tell. -/
def lowV (xs : List Nat) : Nat → Nat
  | 0 => 0
  | k + 1 => lowV xs k + 65536 ^ k * xs.getD k 0

theorem lowV_cons (x : Nat) (xs : List Nat) (k : Nat) : lowV (x :: xs) (k + 1) = x + 65536 * lowV xs k := by
  induction k with
  | zero => simp [lowV]
  | succ k ih =>
    rw [lowV, ih, lowV, List.getD_cons_succ, Nat.pow_succ, Nat.mul_add, Nat.mul_comm (65536 ^ k) 65536, Nat.mul_assoc]
    omega

theorem lowV_all (xs : List Nat) (k : Nat) (h : xs.length ≤ k) : lowV xs k = val16 xs := by
  induction xs generalizing k with
  | nil =>
    have : ∀ k, lowV [] k = 0 := by
      intro k
      induction k with
      | zero => rfl
      | succ k ih => simp [lowV, ih]
    rw [this]
    rfl
  | cons x xs ih =>
    cases k with
    | zero => simp at h
    | succ k => rw [lowV_cons, ih k (by simpa using h), val16]

theorem lowV_lt (xs : List Nat) (hx : ∀ x ∈ xs, x < 65536) (k : Nat) : lowV xs k < 65536 ^ k := by
  induction k with
  | zero => simp [lowV]
  | succ k ih =>
    have hd : xs.getD k 0 ≤ 65535 := by
      rw [List.getD_eq_getElem?_getD]
      cases hq : xs[k]? with
      | none => simp
      | some v =>
        have := hx v (List.mem_of_getElem? hq)
        simp
        omega
    have h2 : 65536 ^ k * xs.getD k 0 ≤ 65536 ^ k * 65535 := Nat.mul_le_mul_left _ hd
    rw [lowV, Nat.pow_succ]
    omega

theorem lowV_less (a b : List Nat) (ha : ∀ x ∈ a, x < 65536) (k x y : Nat) (hx : a.getD k 0 = x) (hy : b.getD k 0 = y) (h : x < y) : lowV a (k + 1) < lowV b (k + 1) := by
  have h1 := lowV_lt a ha k
  have h2 : 65536 ^ k * (x + 1) ≤ 65536 ^ k * y := Nat.mul_le_mul_left _ h
  rw [lowV, lowV, hx, hy]
  rw [Nat.mul_add, Nat.mul_one] at h2
  omega

/-- A digit, or nought behind the last one. -/
theorem digit_of (xs : List Nat) (k : Nat) : (k < xs.length ∧ ∃ x, xs[k]? = some x ∧ xs.getD k 0 = x) ∨ (¬ k < xs.length ∧ xs.getD k 0 = 0) := by
  by_cases h : k < xs.length
  · refine .inl ⟨h, xs[k], List.getElem?_eq_getElem h, ?_⟩
    rw [List.getD_eq_getElem?_getD, List.getElem?_eq_getElem h]
    rfl
  · refine .inr ⟨h, ?_⟩
    rw [List.getD_eq_getElem?_getD, List.getElem?_eq_none (by omega)]
    rfl

end Go.Proofs.Ytlalipomphgcoaa.Sha
