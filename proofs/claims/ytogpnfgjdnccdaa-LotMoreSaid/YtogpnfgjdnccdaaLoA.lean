/- lot: mathematics: who wins, how many lots do. -/
import Derived.WalkKit
namespace Go.Proofs.Ytogpnfgjdnccdaa.Lot

/-- May these be asked? -/
def mayN (s L a b : Nat) : Bool := decide (s ≤ L) && decide (1 ≤ L) && decide (L < 9223372036854775808) && decide (a ≤ b) && decide (1 ≤ b) && decide (b ≤ 65536)
/-- Whether a lot wins. -/
def winsN (n s L a b : Nat) : Bool := decide (L * b * n < s * a * 4294967296)
/-- A division, rounded up. -/
def upN (M N : Nat) : Nat := if N % M = 0 then N / M else N / M + 1
def leastN (s L a b : Nat) : Nat := upN (L * b) (s * a * 4294967296)
def errN (s L a b : Nat) : Nat := if mayN s L a b then 0 else 2
def winsE (n s L a b : Nat) : Bool := mayN s L a b && winsN n s L a b
def leastE (s L a b : Nat) : Nat := if mayN s L a b then leastN s L a b else 0

theorem may_iff {s L a b : Nat} : mayN s L a b = true ↔ s ≤ L ∧ 1 ≤ L ∧ L < 9223372036854775808 ∧ a ≤ b ∧ 1 ≤ b ∧ b ≤ 65536 := by
  simp only [mayN, Bool.and_eq_true, decide_eq_true_eq]
  omega
theorem lt_up (M N n : Nat) (hM : 0 < M) : n < upN M N ↔ M * n < N := by
  have h1 := Nat.div_add_mod N M
  have h5 : n ≤ N / M ↔ M * n ≤ N := by rw [Nat.le_div_iff_mul_le hM, Nat.mul_comm]
  unfold upN
  split
  · have h6 : n < N / M ↔ M * n < M * (N / M) := (Nat.mul_lt_mul_left hM).symm
    rw [h6]
    omega
  · rename_i h2
    have h3 : n < N / M + 1 ↔ n ≤ N / M := by omega
    have h4 : M * n ≠ N := fun h => h2 (by rw [← h]; exact Nat.mul_mod_right M n)
    rw [h3, h5]
    omega
theorem up_le (M N k : Nat) (hM : 0 < M) (h : N ≤ M * k) : upN M N ≤ k := by
  rcases Nat.lt_or_ge k (upN M N) with h1 | h1
  · have := (lt_up M N k hM).1 h1
    omega
  · exact h1
theorem up_eq (M N k : Nat) (hM : 0 < M) (h1 : N ≤ M * k) (h2 : ∀ j, j < k → M * j < N) : upN M N = k := by
  have h3 := up_le M N k hM h1
  rcases Nat.lt_or_ge (upN M N) k with h4 | h4
  · have h5 := (lt_up M N (upN M N) hM).2 (h2 _ h4)
    omega
  · omega
theorem up_most (M N : Nat) (hM : 0 < M) : N ≤ M * upN M N := by
  rcases Nat.lt_or_ge (M * upN M N) N with h | h
  · have := (lt_up M N _ hM).2 h
    omega
  · exact h
/-- Rounded up apart: the sum, or one more. -/
theorem up_parts (M X Y : Nat) (hM : 0 < M) : upN M (X + Y) = upN M X + upN M Y ∨ upN M (X + Y) + 1 = upN M X + upN M Y := by
  have hx := up_most M X hM
  have hy := up_most M Y hM
  have hxy := up_most M (X + Y) hM
  have h1 : upN M (X + Y) ≤ upN M X + upN M Y := up_le M _ _ hM (by rw [Nat.mul_add]; omega)
  have lx := fun j => (lt_up M X j hM).1
  have ly := fun j => (lt_up M Y j hM).1
  obtain ⟨U, hU⟩ : ∃ u, upN M (X + Y) = u := ⟨_, rfl⟩
  obtain ⟨P, hP⟩ : ∃ u, upN M X = u := ⟨_, rfl⟩
  obtain ⟨Q, hQ⟩ : ∃ u, upN M Y = u := ⟨_, rfl⟩
  rw [hU] at hxy h1
  rw [hP] at lx h1
  rw [hQ] at ly h1
  rw [hU, hP, hQ]
  clear hx hy hU hP hQ
  rcases Nat.lt_or_ge (U + 1) (P + Q) with h | h
  · exfalso
    cases P with
    | zero => have := ly U (by omega); omega
    | succ p =>
      cases Q with
      | zero => have := lx U (by omega); omega
      | succ q =>
        have h2 := lx p (by omega)
        have h3 := ly q (by omega)
        have h4 := Nat.mul_le_mul_left M (show U ≤ p + q by omega)
        rw [Nat.mul_add] at h4
        omega
  · omega
section
variable {n s L a b : Nat}
theorem wins_least (h : mayN s L a b = true) : (decide (n < leastN s L a b)) = winsN n s L a b := by
  have hm := may_iff.1 h
  have hM : 0 < L * b := Nat.mul_pos (by omega) (by omega)
  simp only [winsN, leastN, lt_up _ _ _ hM]
theorem least_top (h : mayN s L a b = true) : leastN s L a b ≤ 4294967296 := by
  have hm := may_iff.1 h
  exact up_le _ _ _ (Nat.mul_pos (by omega) (by omega)) (Nat.mul_le_mul_right _ (Nat.mul_le_mul (by omega) (by omega)))
theorem wins_less {m : Nat} (hmn : m ≤ n) (h : winsN n s L a b = true) : winsN m s L a b = true := by
  simp only [winsN, decide_eq_true_eq] at h ⊢
  exact Nat.lt_of_le_of_lt (Nat.mul_le_mul_left _ hmn) h
theorem wins_more {t : Nat} (hst : s ≤ t) (h : winsN n s L a b = true) : winsN n t L a b = true := by
  simp only [winsN, decide_eq_true_eq] at h ⊢
  exact Nat.lt_of_lt_of_le h (Nat.mul_le_mul_right _ (Nat.mul_le_mul_right _ hst))
theorem wins_rate {c : Nat} (hac : a ≤ c) (h : winsN n s L a b = true) : winsN n s L c b = true := by
  simp only [winsN, decide_eq_true_eq] at h ⊢
  exact Nat.lt_of_lt_of_le h (Nat.mul_le_mul_right _ (Nat.mul_le_mul_left _ hac))
theorem wins_none : winsN n 0 L a b = false := by simp [winsN]
theorem wins_rate0 : winsN n s L 0 b = false := by simp [winsN]
theorem wins_all (hn : n < 4294967296) (hL : 0 < L) (hb : 0 < b) : winsN n L L b b = true := by
  simp only [winsN, decide_eq_true_eq]
  exact (Nat.mul_lt_mul_left (Nat.mul_pos hL hb)).2 hn
theorem least_parts {t : Nat} (hL : 0 < L) (hb : 0 < b) : leastN (s + t) L a b = leastN s L a b + leastN t L a b ∨ leastN (s + t) L a b + 1 = leastN s L a b + leastN t L a b := by
  unfold leastN
  rw [Nat.add_mul, Nat.add_mul]
  exact up_parts _ _ _ (Nat.mul_pos hL hb)
/-- By two divisions. -/
theorem least_two (hL : 0 < L) : leastN s L a b = if s * a * 4294967296 % L = 0 ∧ s * a * 4294967296 / L % b = 0 then s * a * 4294967296 / L / b else s * a * 4294967296 / L / b + 1 := by
  unfold leastN upN
  rw [Nat.div_div_eq_div_mul, Nat.mod_mul]
  have : (s * a * 4294967296 % L + L * (s * a * 4294967296 / L % b) = 0) ↔ (s * a * 4294967296 % L = 0 ∧ s * a * 4294967296 / L % b = 0) := by
    constructor
    · intro h
      have h1 : L * (s * a * 4294967296 / L % b) = 0 := by omega
      rcases Nat.mul_eq_zero.1 h1 with h2 | h2
      · omega
      · exact ⟨by omega, h2⟩
    · rintro ⟨h1, h2⟩
      rw [h1, h2]
      rfl
  simp only [this]
end
end Go.Proofs.Ytogpnfgjdnccdaa.Lot
