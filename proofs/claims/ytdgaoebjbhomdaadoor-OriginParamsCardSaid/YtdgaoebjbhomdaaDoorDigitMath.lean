/-
  Plain mathematics of layer 1 (numbers and texts as bytes): no program is named here.
-/
import Derived.Lib.BitFns
import Derived.Lib.Bytealg
namespace Go.Proofs.YtdgaoebjbhomdaaDoor.Digit

/-! ### The short form -/
def putF : Nat → Nat → List UInt8
  | 0, _ => []
  | f + 1, n => if n < 128 then [UInt8.ofNat n] else UInt8.ofNat (n % 128 + 128) :: putF f (n / 128)
def putL (n : Nat) : List UInt8 := putF 10 n

theorem putF_more : ∀ (f n : Nat), n < 128 ^ (f + 1) → ∀ g, f + 1 ≤ g → putF g n = putF (f + 1) n
  | 0, n, h, g, hg => by
    obtain ⟨g', rfl⟩ : ∃ g', g = g' + 1 := ⟨g - 1, by omega⟩
    have h' : n < 128 := by simpa using h
    simp [putF, h']
  | f + 1, n, h, g, hg => by
    obtain ⟨g', rfl⟩ : ∃ g', g = g' + 1 := ⟨g - 1, by omega⟩
    rw [putF, putF]
    split
    · rfl
    · rw [putF_more f (n / 128) (by rw [Nat.pow_succ] at h; omega) g' (by omega)]

theorem putL_eq (n : Nat) (h : n < 128 ^ 10) : putL n = if n < 128 then [UInt8.ofNat n] else UInt8.ofNat (n % 128 + 128) :: putL (n / 128) := by
  unfold putL
  rw [putF]
  split
  · rfl
  · rw [putF_more 8 (n / 128) (by rw [Nat.pow_succ] at h; omega) 10 (by omega)]

theorem putF_len : ∀ (f n : Nat), (putF f n).length ≤ f
  | 0, _ => by simp [putF]
  | f + 1, n => by
    rw [putF]
    split
    · simp
    · have := putF_len f (n / 128)
      simp only [List.length_cons]
      omega

theorem putF_pos : ∀ (f n : Nat), 1 ≤ (putF (f + 1) n).length
  | f, n => by
    rw [putF]
    split <;> simp

theorem putL_len (n : Nat) : (putL n).length ≤ 10 := putF_len 10 n
theorem putL_pos (n : Nat) : 1 ≤ (putL n).length := putF_pos 9 n

theorem putL_len_lt (n k : Nat) (h : n < 128 ^ (k + 1)) (hk : k + 1 ≤ 10) : (putL n).length ≤ k + 1 := by
  unfold putL
  rw [putF_more k n h 10 hk]
  exact putF_len _ _

theorem or_one_half (n : Nat) : (n ||| 1) / 2 = n / 2 := by
  rw [Nat.or_div_two]
  simp

theorem or_one_ne (n : Nat) : n ||| 1 ≠ 0 := by
  intro h
  have := Nat.right_le_or (n := n) (m := 1)
  omega

theorem bitLen_or (n : Nat) (h : n < 2 ^ 64) (h0 : n ≠ 0) : Lib.bitLen (n ||| 1) = Lib.bitLen n := by
  rw [Lib.bitLen_half _ (or_one_ne n) (Nat.or_lt_two_pow h (by omega)), Lib.bitLen_half n h0 h, or_one_half]

theorem putL_size (f : Nat) : ∀ n : Nat, n < 2 ^ 64 → n < 128 ^ (f + 1) → (putF (f + 1) n).length = (Lib.bitLen (n ||| 1) + 6) / 7 := by
  induction f with
  | zero =>
    intro n hn h
    have h' : n < 128 := by simpa using h
    have hlt : n ||| 1 < 2 ^ 7 := Nat.or_lt_two_pow (by omega) (by omega)
    have hle := Lib.bitLen_le (n ||| 1) 7 (by omega) hlt
    have hhalf := Lib.bitLen_half (n ||| 1) (or_one_ne n) (by omega)
    rw [putF, if_pos h']
    simp only [List.length_singleton]
    omega
  | succ f ih =>
    intro n hn h
    rw [putF]
    by_cases h' : n < 128
    · have hlt : n ||| 1 < 2 ^ 7 := Nat.or_lt_two_pow (by omega) (by omega)
      have hle := Lib.bitLen_le (n ||| 1) 7 (by omega) hlt
      have hhalf := Lib.bitLen_half (n ||| 1) (or_one_ne n) (by omega)
      rw [if_pos h']
      simp only [List.length_singleton]
      omega
    · rw [if_neg h', List.length_cons, ih (n / 128) (by omega) (by rw [Nat.pow_succ] at h; omega)]
      have h2 : n / 2 ^ 7 ≠ 0 := by
        show n / 128 ≠ 0
        omega
      rw [bitLen_or (n / 128) (by omega) (by omega), bitLen_or n hn (by omega), Lib.bitLen_shift 7 n (by omega) hn]
      show _ = (7 + Lib.bitLen (n / 128) + 6) / 7
      omega

theorem putL_size10 (n : Nat) (h : n < 2 ^ 64) : (putL n).length = (Lib.bitLen (n ||| 1) + 6) / 7 := putL_size 9 n h (by omega)

/-- Byte j of a short form of k bytes. -/
theorem putF_get : ∀ (f n j : Nat), j + 1 < (putF f n).length → (putF f n)[j]? = some (UInt8.ofNat (n / 128 ^ j % 128 + 128))
  | 0, n, j, h => by simp [putF] at h
  | f + 1, n, j, h => by
    rw [putF] at h ⊢
    split at h
    · simp at h
    · rename_i hn
      rw [if_neg hn]
      cases j with
      | zero => simp
      | succ j =>
        simp only [List.length_cons] at h
        rw [List.getElem?_cons_succ, putF_get f (n / 128) j (by omega), Nat.div_div_eq_div_mul, Nat.pow_succ, Nat.mul_comm 128]

theorem putF_last : ∀ (f n j : Nat), n < 128 ^ f → j + 1 = (putF f n).length → (putF f n)[j]? = some (UInt8.ofNat (n / 128 ^ j)) ∧ n / 128 ^ j < 128
  | 0, n, j, _, h => by simp [putF] at h
  | f + 1, n, j, hn, h => by
    rw [putF] at h ⊢
    split at h
    · rename_i hlt
      simp at h
      subst h
      rw [if_pos hlt]
      simp [hlt]
    · rename_i hlt
      rw [if_neg hlt]
      cases j with
      | zero =>
        simp only [List.length_cons] at h
        have hp : 1 ≤ (putF f (n / 128)).length := by
          cases f with
          | zero =>
            simp at hn
            omega
          | succ f => exact putF_pos f _
        omega
      | succ j =>
        simp only [List.length_cons] at h
        have ih := putF_last f (n / 128) j (by rw [Nat.pow_succ] at hn; omega) (by omega)
        rw [List.getElem?_cons_succ, ih.1, Nat.div_div_eq_div_mul, Nat.pow_succ, Nat.mul_comm 128]
        refine ⟨rfl, ?_⟩
        have h2 := ih.2
        rw [Nat.div_div_eq_div_mul] at h2
        rwa [Nat.mul_comm (128 ^ j)]

/-! ### A short form is taken -/
def endsB (i c : Nat) : Bool := if i = 9 then c == 1 else i == 0 || c != 0

def takeF : Nat → Nat → Nat → List UInt8 → Nat × Nat × Nat
  | 0, _, _, _ => (0, 0, 6)
  | _ + 1, _, _, [] => (0, 0, 10)
  | f + 1, i, a, c :: r => if c.toNat < 128 then (if endsB i c.toNat then (a + c.toNat * 128 ^ i, i + 1, 0) else (0, 0, 6)) else takeF f (i + 1) (a + (c.toNat - 128) * 128 ^ i) r
def takeL (l : List UInt8) : Nat × Nat × Nat := takeF 10 0 0 l

theorem ofNat_small (n : Nat) (h : n < 256) : (UInt8.ofNat n).toNat = n := by
  simp [UInt8.toNat_ofNat', Nat.mod_eq_of_lt h]

theorem pow_split (n i : Nat) : n % 128 * 128 ^ i + n / 128 * 128 ^ (i + 1) = n * 128 ^ i := by
  rw [Nat.pow_succ, Nat.mul_comm (128 ^ i) 128, ← Nat.mul_assoc, ← Nat.add_mul]
  congr 1
  omega

theorem takeF_put : ∀ (f i a n : Nat) (r : List UInt8), f + i = 10 → n * 128 ^ i < 2 ^ 64 → (i = 0 ∨ n ≠ 0) →
    takeF f i a (putF f n ++ r) = (a + n * 128 ^ i, i + (putF f n).length, 0)
  | 0, i, a, n, r, hf, hn, h0 => by
    have hi : i = 10 := by omega
    subst hi
    exfalso
    have : n = 0 := by
      have h1 : n * 128 ^ 10 < 2 ^ 64 := hn
      have h2 : (128 : Nat) ^ 10 = 1180591620717411303424 := by decide
      rw [h2] at h1
      omega
    omega
  | f + 1, i, a, n, r, hf, hn, h0 => by
    rw [putF]
    by_cases hlt : n < 128
    · rw [if_pos hlt]
      simp only [List.cons_append, List.nil_append, takeF, ofNat_small n (by omega), hlt, if_true, List.length_singleton]
      have he : endsB i n = true := by
        unfold endsB
        split
        · rename_i hi
          subst hi
          have h2 : (128 : Nat) ^ 9 = 9223372036854775808 := by decide
          rw [h2] at hn
          have : n = 1 := by omega
          simp [this]
        · simp only [Bool.or_eq_true, beq_iff_eq, bne_iff_ne]
          exact h0
      rw [he]
      rfl
    · rw [if_neg hlt]
      simp only [List.cons_append, takeF, ofNat_small (n % 128 + 128) (by omega), List.length_cons]
      rw [if_neg (by omega)]
      have hp : n / 128 * 128 ^ (i + 1) ≤ n * 128 ^ i := by
        have := pow_split n i
        omega
      rw [takeF_put f (i + 1) _ (n / 128) r (by omega) (by omega) (by omega), show n % 128 + 128 - 128 = n % 128 by omega, Nat.add_assoc, pow_split]
      congr 2
      omega

theorem takeL_put (n : Nat) (h : n < 2 ^ 64) (r : List UInt8) : takeL (putL n ++ r) = (n, (putL n).length, 0) := by
  unfold takeL putL
  rw [takeF_put 10 0 0 n r (by omega) (by simpa using h) (Or.inl rfl)]
  simp

/-- What is taken is what is put for it. -/
theorem takeF_one : ∀ (f i a : Nat) (l : List UInt8) (n k : Nat), f + i = 10 → takeF f i a l = (n, k, 0) →
    ∃ m, n = a + m * 128 ^ i ∧ putF f m = l.take (k - i) ∧ i < k ∧ k ≤ i + l.length ∧ k ≤ 10 ∧ m * 128 ^ i < 2 ^ 64 ∧ (i = 0 ∨ m ≠ 0)
  | 0, i, a, l, n, k, hf, h => by simp [takeF] at h
  | f + 1, i, a, [], n, k, hf, h => by simp [takeF] at h
  | f + 1, i, a, c :: r, n, k, hf, h => by
    rw [takeF] at h
    by_cases hc : c.toNat < 128
    · rw [if_pos hc] at h
      by_cases he : endsB i c.toNat = true
      · rw [if_pos he] at h
        simp only [Prod.mk.injEq, and_true] at h
        obtain ⟨h1, h2⟩ := h
        subst h2
        refine ⟨c.toNat, h1.symm, ?_, by omega, by simp, by omega, ?_, ?_⟩
        · rw [putF, if_pos hc, show i + 1 - i = 1 by omega]
          simp
        · unfold endsB at he
          split at he
          · rename_i hi
            subst hi
            have : c.toNat = 1 := by simpa using he
            rw [this]
            decide
          · rename_i hi
            have hp : 128 ^ i ≤ 128 ^ 8 := Nat.pow_le_pow_right (by omega) (by omega)
            have h8 : (128 : Nat) ^ 8 = 72057594037927936 := by decide
            have : c.toNat * 128 ^ i ≤ 127 * 128 ^ 8 := Nat.mul_le_mul (by omega) hp
            rw [h8] at this
            omega
        · unfold endsB at he
          split at he
          · right
            have : c.toNat = 1 := by simpa using he
            omega
          · simp only [Bool.or_eq_true, beq_iff_eq, bne_iff_ne] at he
            exact he
      · rw [if_neg he] at h
        simp at h
    · rw [if_neg hc] at h
      obtain ⟨m, h1, h2, h3, h4, h5, h6, h7⟩ := takeF_one f (i + 1) _ r n k (by omega) h
      have hc2 : c.toNat < 256 := c.toNat_lt
      have hm : m ≠ 0 := by omega
      have e1 : (c.toNat - 128 + 128 * m) % 128 = c.toNat - 128 := by omega
      have e2 : (c.toNat - 128 + 128 * m) / 128 = m := by omega
      have es := pow_split (c.toNat - 128 + 128 * m) i
      rw [e1, e2] at es
      have hf1 : 1 ≤ f := by omega
      refine ⟨c.toNat - 128 + 128 * m, by omega, ?_, by omega, by simp only [List.length_cons]; omega, h5, ?_, Or.inr (by omega)⟩
      · have ec : UInt8.ofNat (c.toNat - 128 + 128) = c := by
          rw [show c.toNat - 128 + 128 = c.toNat by omega]
          simp
        rw [putF, if_neg (by omega), e1, e2, h2, show k - i = (k - (i + 1)) + 1 by omega, List.take_succ_cons, ec]
      · rw [← es]
        have hp : 128 ^ i ≤ 128 ^ 8 := Nat.pow_le_pow_right (by omega) (by omega)
        have hd : (c.toNat - 128) * 128 ^ i < 128 ^ (i + 1) := by
          rw [Nat.pow_succ, Nat.mul_comm (128 ^ i) 128]
          exact Nat.mul_lt_mul_of_pos_right (by omega) (Nat.pow_pos (by omega))
        obtain ⟨q, hq⟩ : ∃ q, 2 ^ 64 = q * 128 ^ (i + 1) := ⟨2 ^ (64 - 7 * (i + 1)), by
          rw [show (128 : Nat) = 2 ^ 7 by decide, ← Nat.pow_mul, ← Nat.pow_add]
          congr 1
          omega⟩
        have hmq : m < q := Nat.lt_of_mul_lt_mul_right (Nat.lt_of_lt_of_eq h6 hq)
        have hle : (m + 1) * 128 ^ (i + 1) ≤ q * 128 ^ (i + 1) := Nat.mul_le_mul_right _ hmq
        rw [Nat.add_mul, Nat.one_mul, Nat.add_comm] at hle
        exact Nat.lt_of_lt_of_eq (Nat.lt_of_lt_of_le (Nat.add_lt_add_right hd _) hle) hq.symm

theorem takeL_one (l : List UInt8) (n k : Nat) (h : takeL l = (n, k, 0)) : putL n = l.take k ∧ 1 ≤ k ∧ k ≤ 10 ∧ k ≤ l.length ∧ n < 2 ^ 64 := by
  obtain ⟨m, h1, h2, h3, h4, h5, h6, _⟩ := takeF_one 10 0 0 l n k (by omega) h
  have : n = m := by simpa using h1
  subst this
  refine ⟨by simpa [putL] using h2, by omega, h5, by omega, by simpa using h6⟩

theorem takeF_err : ∀ (f i a : Nat) (l : List UInt8), (takeF f i a l).2.2 = 0 ∨ takeF f i a l = (0, 0, 6) ∨ takeF f i a l = (0, 0, 10)
  | 0, i, a, l => by simp [takeF]
  | f + 1, i, a, [] => by simp [takeF]
  | f + 1, i, a, c :: r => by
    rw [takeF]
    split
    · split <;> simp
    · exact takeF_err f _ _ r

theorem takeL_err (l : List UInt8) : (takeL l).2.2 = 0 ∨ takeL l = (0, 0, 6) ∨ takeL l = (0, 0, 10) := takeF_err 10 0 0 l

/-- A beginning of what was taken is none. -/
theorem takeF_begin : ∀ (f i a : Nat) (l : List UInt8) (n k j : Nat), takeF f i a l = (n, k, 0) → i + j < k → takeF f i a (l.take j) = (0, 0, 10)
  | 0, i, a, l, n, k, j, h, _ => by simp [takeF] at h
  | f + 1, i, a, [], n, k, j, h, _ => by simp [takeF] at h
  | f + 1, i, a, c :: r, n, k, j, h, hj => by
    rw [takeF] at h
    cases j with
    | zero => simp [takeF]
    | succ j =>
      rw [List.take_succ_cons, takeF]
      by_cases hc : c.toNat < 128
      · rw [if_pos hc] at h
        split at h
        · simp at h
          omega
        · simp at h
      · rw [if_neg hc] at h ⊢
        exact takeF_begin f (i + 1) _ r n k j h (by omega)

theorem takeL_begin (l : List UInt8) (n k j : Nat) (h : takeL l = (n, k, 0)) (hj : j < k) : takeL (l.take j) = (0, 0, 10) :=
  takeF_begin 10 0 0 l n k j h (by omega)

/-! ### Eight bytes -/
def eightF : Nat → Nat → List UInt8
  | 0, _ => []
  | k + 1, n => eightF k (n / 256) ++ [UInt8.ofNat n]
def eightL (n : Nat) : List UInt8 := eightF 8 n

theorem eightF_len : ∀ (k n : Nat), (eightF k n).length = k
  | 0, _ => rfl
  | k + 1, n => by simp [eightF, eightF_len k]

theorem eightL_len (n : Nat) : (eightL n).length = 8 := eightF_len 8 n

def valB : Nat → List UInt8 → Nat
  | a, [] => a
  | a, c :: r => valB (a * 256 + c.toNat) r

theorem valB_append : ∀ (l m : List UInt8) (a : Nat), valB a (l ++ m) = valB (valB a l) m
  | [], m, a => rfl
  | c :: l, m, a => by
    rw [List.cons_append, valB, valB_append l m, valB]

theorem valB_eight : ∀ (k n a : Nat), valB a (eightF k n) = a * 256 ^ k + n % 256 ^ k
  | 0, n, a => by simp [eightF, valB, Nat.mod_one]
  | k + 1, n, a => by
    rw [eightF, valB_append, valB_eight k, valB, valB, UInt8.toNat_ofNat']
    rw [Nat.add_mul, Nat.mul_assoc, ← Nat.pow_succ]
    have : n % 256 ^ (k + 1) = n / 256 % 256 ^ k * 256 + n % 256 := by
      rw [Nat.pow_succ, Nat.mul_comm (256 ^ k) 256, Nat.mod_mul]
      omega
    rw [this]
    generalize n / 256 % 256 ^ k = q
    generalize a * 256 ^ (k + 1) = p
    omega

/-- The number whose eight bytes a text begins with. -/
def takeEightL (l : List UInt8) : Nat × Nat := if l.length < 8 then (0, 10) else (valB 0 (l.take 8), 0)

theorem takeEight_put (n : Nat) (h : n < 2 ^ 64) (r : List UInt8) : takeEightL (eightL n ++ r) = (n, 0) := by
  unfold takeEightL
  rw [if_neg (by simp [eightL_len]), List.take_append_of_le_length (by simp [eightL_len]), List.take_of_length_le (by simp [eightL_len])]
  have := valB_eight 8 n 0
  rw [Nat.mod_eq_of_lt (by omega)] at this
  simpa [eightL] using this

theorem valB_lt : ∀ (l : List UInt8) (a : Nat), valB a l < (a + 1) * 256 ^ l.length
  | [], a => by simp [valB]
  | c :: r, a => by
    have h := valB_lt r (a * 256 + c.toNat)
    have hc := c.toNat_lt
    rw [valB, List.length_cons, Nat.pow_succ, Nat.mul_comm (256 ^ r.length) 256, ← Nat.mul_assoc]
    refine Nat.lt_of_lt_of_le h (Nat.mul_le_mul_right _ ?_)
    omega

theorem takeEightL_lt (l : List UInt8) : (takeEightL l).1 < 2 ^ 64 := by
  unfold takeEightL
  split
  · simp
  · have := valB_lt (l.take 8) 0
    rw [List.length_take, Nat.min_eq_left (by omega)] at this
    exact Nat.lt_of_lt_of_le this (by decide)

/-! ### Order -/
theorem cmp_append : ∀ (l m : List UInt8) (x y : UInt8), l.length = m.length →
    Lib.compareBytes (l ++ [x]) (m ++ [y]) = if Lib.compareBytes l m = 0 then (if x < y then -1 else if y < x then 1 else 0) else Lib.compareBytes l m
  | [], [], x, y, _ => by simp [Lib.compareBytes]
  | [], _ :: _, x, y, h => by simp at h
  | _ :: _, [], x, y, h => by simp at h
  | a :: l, b :: m, x, y, h => by
    have ih := cmp_append l m x y (by simpa using h)
    simp only [List.cons_append, Lib.compareBytes]
    split
    · simp
    · split
      · simp
      · exact ih

theorem cmp_eight : ∀ (k a b : Nat), a < 256 ^ k → b < 256 ^ k →
    Lib.compareBytes (eightF k a) (eightF k b) = if a < b then -1 else if b < a then 1 else 0
  | 0, a, b, ha, hb => by
    have h1 : a = 0 := by simpa using ha
    have h2 : b = 0 := by simpa using hb
    subst h1 h2
    simp [eightF, Lib.compareBytes]
  | k + 1, a, b, ha, hb => by
    rw [Nat.pow_succ] at ha hb
    rw [eightF, eightF, cmp_append _ _ _ _ (by rw [eightF_len, eightF_len]), cmp_eight k (a / 256) (b / 256) (by omega) (by omega)]
    have e1 : (UInt8.ofNat a).toNat = a % 256 := by simp [UInt8.toNat_ofNat']
    have e2 : (UInt8.ofNat b).toNat = b % 256 := by simp [UInt8.toNat_ofNat']
    simp only [UInt8.lt_iff_toNat_lt, e1, e2]
    by_cases h1 : a / 256 < b / 256
    · simp only [h1, if_true]
      rw [if_neg (by decide), if_pos (by omega)]
    · by_cases h2 : b / 256 < a / 256
      · simp only [h1, h2, if_true, if_false]
        rw [if_neg (by decide), if_neg (by omega), if_pos (by omega)]
      · simp only [h1, h2, if_false, if_true]
        have : a / 256 = b / 256 := by omega
        by_cases h3 : a % 256 < b % 256
        · rw [if_pos h3, if_pos (by omega)]
        · rw [if_neg h3]
          by_cases h4 : b % 256 < a % 256
          · rw [if_pos h4, if_neg (by omega), if_pos (by omega)]
          · rw [if_neg h4, if_neg (by omega), if_neg (by omega)]

theorem putL_mono : ∀ (f a b : Nat), a ≤ b → (putF (f + 1) a).length ≤ (putF (f + 1) b).length
  | 0, a, b, h => by
    simp only [putF]
    split <;> split <;> simp
  | f + 1, a, b, h => by
    rw [putF.eq_2 a (f + 1), putF.eq_2 b (f + 1)]
    by_cases h1 : b < 128
    · rw [if_pos h1, if_pos (by omega)]
      simp
    · rw [if_neg h1]
      by_cases h2 : a < 128
      · rw [if_pos h2]
        simp
      · rw [if_neg h2]
        have := putL_mono f (a / 128) (b / 128) (by omega)
        simp only [List.length_cons]
        omega

theorem putL_one_byte (n : Nat) : n < 128 ↔ (putL n).length = 1 := by
  unfold putL
  rw [putF]
  constructor
  · intro h
    rw [if_pos h]
    rfl
  · intro h
    by_cases hn : n < 128
    · exact hn
    · rw [if_neg hn, List.length_cons] at h
      have h2 : 1 ≤ (putF 9 (n / 128)).length := putF_pos 8 (n / 128)
      omega

/-! ### Told texts -/
def putTextL (l : List UInt8) : List UInt8 := putL l.length ++ l
/-- The text, its size, the error. -/
def takeTextL (l : List UInt8) (most : Int) : List UInt8 × Nat × Nat :=
  if (takeL l).2.2 ≠ 0 then ([], 0, (takeL l).2.2)
  else if most < 0 ∨ most < (takeL l).1 then ([], 0, 3)
  else if l.length - (takeL l).2.1 < (takeL l).1 then ([], 0, 10)
  else ((l.drop (takeL l).2.1).take (takeL l).1, (takeL l).2.1 + (takeL l).1, 0)

theorem takeText_put (l r : List UInt8) (h : l.length < 2 ^ 64) : takeTextL (putTextL l ++ r) l.length = (l, (putTextL l).length, 0) := by
  unfold takeTextL putTextL
  rw [List.append_assoc, takeL_put l.length h]
  simp only [ne_eq, not_true_eq_false, if_false]
  rw [if_neg (by omega), if_neg (by simp only [List.length_append]; omega), List.drop_left, List.take_left, List.length_append]

end Go.Proofs.YtdgaoebjbhomdaaDoor.Digit
