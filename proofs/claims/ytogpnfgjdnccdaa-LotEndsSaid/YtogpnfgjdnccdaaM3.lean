/-
  Plain mathematics of layer 1 (numbers and texts as bytes): no program is named here.
-/
import Derived.Lib.BitFns
import Derived.Lib.Bytealg
import Derived.Test.YtogpnfgjdnccdaaProg
import Derived.Test.YtogpnfgjdnccdaaShelf
import Derived.WalkKit
import Derived.WalkSpells
import Derived.Handy
import Derived.Laws.BytesArg
import Derived.Laws.BitsAllLaws
import Derived.Lib.Hide
import Derived.Deep.RegionWith
namespace Go.Proofs.Ytogpnfgjdnccdaa.Digit

/-! ### The short form -/
def putF : Nat → Nat → List UInt8
  | 0, _ => []
  | f + 1, n => if n < 128 then [UInt8.ofNat n] else UInt8.ofNat (n % 128 + 128) :: putF f (n / 128)
def putL (n : Nat) : List UInt8 := putF 10 n

theorem putF_more : ∀ (f n : Nat), n < 128 ^ (f + 1) → ∀ g, f + 1 ≤ g → putF g n = putF (f + 1) n
  | 0, n, h, g, hg => by
    obtain ⟨g', rfl⟩ : ∃ g', g = g' + 1 := ⟨g - 1, by omega⟩
    have h' : n < 128 := by simpa using h
    simp [putF, h']
  | f + 1, n, h, g, hg => by
    obtain ⟨g', rfl⟩ : ∃ g', g = g' + 1 := ⟨g - 1, by omega⟩
    rw [putF, putF]
    split
    · rfl
    · rw [putF_more f (n / 128) (by rw [Nat.pow_succ] at h; omega) g' (by omega)]

theorem putL_eq (n : Nat) (h : n < 128 ^ 10) : putL n = if n < 128 then [UInt8.ofNat n] else UInt8.ofNat (n % 128 + 128) :: putL (n / 128) := by
  unfold putL
  rw [putF]
  split
  · rfl
  · rw [putF_more 8 (n / 128) (by rw [Nat.pow_succ] at h; omega) 10 (by omega)]

theorem putF_len : ∀ (f n : Nat), (putF f n).length ≤ f
  | 0, _ => by simp [putF]
  | f + 1, n => by
    rw [putF]
    split
    · simp
    · have := putF_len f (n / 128)
      simp only [List.length_cons]
      omega

theorem putF_pos : ∀ (f n : Nat), 1 ≤ (putF (f + 1) n).length
  | f, n => by
    rw [putF]
    split <;> simp

theorem putL_len (n : Nat) : (putL n).length ≤ 10 := putF_len 10 n
theorem putL_pos (n : Nat) : 1 ≤ (putL n).length := putF_pos 9 n

theorem putL_len_lt (n k : Nat) (h : n < 128 ^ (k + 1)) (hk : k + 1 ≤ 10) : (putL n).length ≤ k + 1 := by
  unfold putL
  rw [putF_more k n h 10 hk]
  exact putF_len _ _

theorem or_one_half (n : Nat) : (n ||| 1) / 2 = n / 2 := by
  rw [Nat.or_div_two]
  simp

theorem or_one_ne (n : Nat) : n ||| 1 ≠ 0 := by
  intro h
  have := Nat.right_le_or (n := n) (m := 1)
  omega

theorem bitLen_or (n : Nat) (h : n < 2 ^ 64) (h0 : n ≠ 0) : Lib.bitLen (n ||| 1) = Lib.bitLen n := by
  rw [Lib.bitLen_half _ (or_one_ne n) (Nat.or_lt_two_pow h (by omega)), Lib.bitLen_half n h0 h, or_one_half]

theorem putL_size (f : Nat) : ∀ n : Nat, n < 2 ^ 64 → n < 128 ^ (f + 1) → (putF (f + 1) n).length = (Lib.bitLen (n ||| 1) + 6) / 7 := by
  induction f with
  | zero =>
    intro n hn h
    have h' : n < 128 := by simpa using h
    have hlt : n ||| 1 < 2 ^ 7 := Nat.or_lt_two_pow (by omega) (by omega)
    have hle := Lib.bitLen_le (n ||| 1) 7 (by omega) hlt
    have hhalf := Lib.bitLen_half (n ||| 1) (or_one_ne n) (by omega)
    rw [putF, if_pos h']
    simp only [List.length_singleton]
    omega
  | succ f ih =>
    intro n hn h
    rw [putF]
    by_cases h' : n < 128
    · have hlt : n ||| 1 < 2 ^ 7 := Nat.or_lt_two_pow (by omega) (by omega)
      have hle := Lib.bitLen_le (n ||| 1) 7 (by omega) hlt
      have hhalf := Lib.bitLen_half (n ||| 1) (or_one_ne n) (by omega)
      rw [if_pos h']
      simp only [List.length_singleton]
      omega
    · rw [if_neg h', List.length_cons, ih (n / 128) (by omega) (by rw [Nat.pow_succ] at h; omega)]
      have h2 : n / 2 ^ 7 ≠ 0 := by
        show n / 128 ≠ 0
        omega
      rw [bitLen_or (n / 128) (by omega) (by omega), bitLen_or n hn (by omega), Lib.bitLen_shift 7 n (by omega) hn]
      show _ = (7 + Lib.bitLen (n / 128) + 6) / 7
      omega

theorem putL_size10 (n : Nat) (h : n < 2 ^ 64) : (putL n).length = (Lib.bitLen (n ||| 1) + 6) / 7 := putL_size 9 n h (by omega)

/-- Byte j of a short form of k bytes. -/
theorem putF_get : ∀ (f n j : Nat), j + 1 < (putF f n).length → (putF f n)[j]? = some (UInt8.ofNat (n / 128 ^ j % 128 + 128))
  | 0, n, j, h => by simp [putF] at h
  | f + 1, n, j, h => by
    rw [putF] at h ⊢
    split at h
    · simp at h
    · rename_i hn
      rw [if_neg hn]
      cases j with
      | zero => simp
      | succ j =>
        simp only [List.length_cons] at h
        rw [List.getElem?_cons_succ, putF_get f (n / 128) j (by omega), Nat.div_div_eq_div_mul, Nat.pow_succ, Nat.mul_comm 128]

theorem putF_last : ∀ (f n j : Nat), n < 128 ^ f → j + 1 = (putF f n).length → (putF f n)[j]? = some (UInt8.ofNat (n / 128 ^ j)) ∧ n / 128 ^ j < 128
  | 0, n, j, _, h => by simp [putF] at h
  | f + 1, n, j, hn, h => by
    rw [putF] at h ⊢
    split at h
    · rename_i hlt
      simp at h
      subst h
      rw [if_pos hlt]
      simp [hlt]
    · rename_i hlt
      rw [if_neg hlt]
      cases j with
      | zero =>
        simp only [List.length_cons] at h
        have hp : 1 ≤ (putF f (n / 128)).length := by
          cases f with
          | zero =>
            simp at hn
            omega
          | succ f => exact putF_pos f _
        omega
      | succ j =>
        simp only [List.length_cons] at h
        have ih := putF_last f (n / 128) j (by rw [Nat.pow_succ] at hn; omega) (by omega)
        rw [List.getElem?_cons_succ, ih.1, Nat.div_div_eq_div_mul, Nat.pow_succ, Nat.mul_comm 128]
        refine ⟨rfl, ?_⟩
        have h2 := ih.2
        rw [Nat.div_div_eq_div_mul] at h2
        rwa [Nat.mul_comm (128 ^ j)]

/-! ### A short form is taken -/
def endsB (i c : Nat) : Bool := if i = 9 then c == 1 else i == 0 || c != 0

def takeF : Nat → Nat → Nat → List UInt8 → Nat × Nat × Nat
  | 0, _, _, _ => (0, 0, 6)
  | _ + 1, _, _, [] => (0, 0, 10)
  | f + 1, i, a, c :: r => if c.toNat < 128 then (if endsB i c.toNat then (a + c.toNat * 128 ^ i, i + 1, 0) else (0, 0, 6)) else takeF f (i + 1) (a + (c.toNat - 128) * 128 ^ i) r
def takeL (l : List UInt8) : Nat × Nat × Nat := takeF 10 0 0 l

theorem ofNat_small (n : Nat) (h : n < 256) : (UInt8.ofNat n).toNat = n := by
  simp [UInt8.toNat_ofNat', Nat.mod_eq_of_lt h]

theorem pow_split (n i : Nat) : n % 128 * 128 ^ i + n / 128 * 128 ^ (i + 1) = n * 128 ^ i := by
  rw [Nat.pow_succ, Nat.mul_comm (128 ^ i) 128, ← Nat.mul_assoc, ← Nat.add_mul]
  congr 1
  omega

theorem takeF_put : ∀ (f i a n : Nat) (r : List UInt8), f + i = 10 → n * 128 ^ i < 2 ^ 64 → (i = 0 ∨ n ≠ 0) →
    takeF f i a (putF f n ++ r) = (a + n * 128 ^ i, i + (putF f n).length, 0)
  | 0, i, a, n, r, hf, hn, h0 => by
    have hi : i = 10 := by omega
    subst hi
    exfalso
    have : n = 0 := by
      have h1 : n * 128 ^ 10 < 2 ^ 64 := hn
      have h2 : (128 : Nat) ^ 10 = 1180591620717411303424 := by decide
      rw [h2] at h1
      omega
    omega
  | f + 1, i, a, n, r, hf, hn, h0 => by
    rw [putF]
    by_cases hlt : n < 128
    · rw [if_pos hlt]
      simp only [List.cons_append, List.nil_append, takeF, ofNat_small n (by omega), hlt, if_true, List.length_singleton]
      have he : endsB i n = true := by
        unfold endsB
        split
        · rename_i hi
          subst hi
          have h2 : (128 : Nat) ^ 9 = 9223372036854775808 := by decide
          rw [h2] at hn
          have : n = 1 := by omega
          simp [this]
        · simp only [Bool.or_eq_true, beq_iff_eq, bne_iff_ne]
          exact h0
      rw [he]
      rfl
    · rw [if_neg hlt]
      simp only [List.cons_append, takeF, ofNat_small (n % 128 + 128) (by omega), List.length_cons]
      rw [if_neg (by omega)]
      have hp : n / 128 * 128 ^ (i + 1) ≤ n * 128 ^ i := by
        have := pow_split n i
        omega
      rw [takeF_put f (i + 1) _ (n / 128) r (by omega) (by omega) (by omega), show n % 128 + 128 - 128 = n % 128 by omega, Nat.add_assoc, pow_split]
      congr 2
      omega

theorem takeL_put (n : Nat) (h : n < 2 ^ 64) (r : List UInt8) : takeL (putL n ++ r) = (n, (putL n).length, 0) := by
  unfold takeL putL
  rw [takeF_put 10 0 0 n r (by omega) (by simpa using h) (Or.inl rfl)]
  simp

/-- What is taken is what is put for it. -/
theorem takeF_one : ∀ (f i a : Nat) (l : List UInt8) (n k : Nat), f + i = 10 → takeF f i a l = (n, k, 0) →
    ∃ m, n = a + m * 128 ^ i ∧ putF f m = l.take (k - i) ∧ i < k ∧ k ≤ i + l.length ∧ k ≤ 10 ∧ m * 128 ^ i < 2 ^ 64 ∧ (i = 0 ∨ m ≠ 0)
  | 0, i, a, l, n, k, hf, h => by simp [takeF] at h
  | f + 1, i, a, [], n, k, hf, h => by simp [takeF] at h
  | f + 1, i, a, c :: r, n, k, hf, h => by
    rw [takeF] at h
    by_cases hc : c.toNat < 128
    · rw [if_pos hc] at h
      by_cases he : endsB i c.toNat = true
      · rw [if_pos he] at h
        simp only [Prod.mk.injEq, and_true] at h
        obtain ⟨h1, h2⟩ := h
        subst h2
        refine ⟨c.toNat, h1.symm, ?_, by omega, by simp, by omega, ?_, ?_⟩
        · rw [putF, if_pos hc, show i + 1 - i = 1 by omega]
          simp
        · unfold endsB at he
          split at he
          · rename_i hi
            subst hi
            have : c.toNat = 1 := by simpa using he
            rw [this]
            decide
          · rename_i hi
            have hp : 128 ^ i ≤ 128 ^ 8 := Nat.pow_le_pow_right (by omega) (by omega)
            have h8 : (128 : Nat) ^ 8 = 72057594037927936 := by decide
            have : c.toNat * 128 ^ i ≤ 127 * 128 ^ 8 := Nat.mul_le_mul (by omega) hp
            rw [h8] at this
            omega
        · unfold endsB at he
          split at he
          · right
            have : c.toNat = 1 := by simpa using he
            omega
          · simp only [Bool.or_eq_true, beq_iff_eq, bne_iff_ne] at he
            exact he
      · rw [if_neg he] at h
        simp at h
    · rw [if_neg hc] at h
      obtain ⟨m, h1, h2, h3, h4, h5, h6, h7⟩ := takeF_one f (i + 1) _ r n k (by omega) h
      have hc2 : c.toNat < 256 := c.toNat_lt
      have hm : m ≠ 0 := by omega
      have e1 : (c.toNat - 128 + 128 * m) % 128 = c.toNat - 128 := by omega
      have e2 : (c.toNat - 128 + 128 * m) / 128 = m := by omega
      have es := pow_split (c.toNat - 128 + 128 * m) i
      rw [e1, e2] at es
      have hf1 : 1 ≤ f := by omega
      refine ⟨c.toNat - 128 + 128 * m, by omega, ?_, by omega, by simp only [List.length_cons]; omega, h5, ?_, Or.inr (by omega)⟩
      · have ec : UInt8.ofNat (c.toNat - 128 + 128) = c := by
          rw [show c.toNat - 128 + 128 = c.toNat by omega]
          simp
        rw [putF, if_neg (by omega), e1, e2, h2, show k - i = (k - (i + 1)) + 1 by omega, List.take_succ_cons, ec]
      · rw [← es]
        have hp : 128 ^ i ≤ 128 ^ 8 := Nat.pow_le_pow_right (by omega) (by omega)
        have hd : (c.toNat - 128) * 128 ^ i < 128 ^ (i + 1) := by
          rw [Nat.pow_succ, Nat.mul_comm (128 ^ i) 128]
          exact Nat.mul_lt_mul_of_pos_right (by omega) (Nat.pow_pos (by omega))
        obtain ⟨q, hq⟩ : ∃ q, 2 ^ 64 = q * 128 ^ (i + 1) := ⟨2 ^ (64 - 7 * (i + 1)), by
          rw [show (128 : Nat) = 2 ^ 7 by decide, ← Nat.pow_mul, ← Nat.pow_add]
          congr 1
          omega⟩
        have hmq : m < q := Nat.lt_of_mul_lt_mul_right (Nat.lt_of_lt_of_eq h6 hq)
        have hle : (m + 1) * 128 ^ (i + 1) ≤ q * 128 ^ (i + 1) := Nat.mul_le_mul_right _ hmq
        rw [Nat.add_mul, Nat.one_mul, Nat.add_comm] at hle
        exact Nat.lt_of_lt_of_eq (Nat.lt_of_lt_of_le (Nat.add_lt_add_right hd _) hle) hq.symm

theorem takeL_one (l : List UInt8) (n k : Nat) (h : takeL l = (n, k, 0)) : putL n = l.take k ∧ 1 ≤ k ∧ k ≤ 10 ∧ k ≤ l.length ∧ n < 2 ^ 64 := by
  obtain ⟨m, h1, h2, h3, h4, h5, h6, _⟩ := takeF_one 10 0 0 l n k (by omega) h
  have : n = m := by simpa using h1
  subst this
  refine ⟨by simpa [putL] using h2, by omega, h5, by omega, by simpa using h6⟩

theorem takeF_err : ∀ (f i a : Nat) (l : List UInt8), (takeF f i a l).2.2 = 0 ∨ takeF f i a l = (0, 0, 6) ∨ takeF f i a l = (0, 0, 10)
  | 0, i, a, l => by simp [takeF]
  | f + 1, i, a, [] => by simp [takeF]
  | f + 1, i, a, c :: r => by
    rw [takeF]
    split
    · split <;> simp
    · exact takeF_err f _ _ r

theorem takeL_err (l : List UInt8) : (takeL l).2.2 = 0 ∨ takeL l = (0, 0, 6) ∨ takeL l = (0, 0, 10) := takeF_err 10 0 0 l

/-- A beginning of what was taken is none. -/
theorem takeF_begin : ∀ (f i a : Nat) (l : List UInt8) (n k j : Nat), takeF f i a l = (n, k, 0) → i + j < k → takeF f i a (l.take j) = (0, 0, 10)
  | 0, i, a, l, n, k, j, h, _ => by simp [takeF] at h
  | f + 1, i, a, [], n, k, j, h, _ => by simp [takeF] at h
  | f + 1, i, a, c :: r, n, k, j, h, hj => by
    rw [takeF] at h
    cases j with
    | zero => simp [takeF]
    | succ j =>
      rw [List.take_succ_cons, takeF]
      by_cases hc : c.toNat < 128
      · rw [if_pos hc] at h
        split at h
        · simp at h
          omega
        · simp at h
      · rw [if_neg hc] at h ⊢
        exact takeF_begin f (i + 1) _ r n k j h (by omega)

theorem takeL_begin (l : List UInt8) (n k j : Nat) (h : takeL l = (n, k, 0)) (hj : j < k) : takeL (l.take j) = (0, 0, 10) :=
  takeF_begin 10 0 0 l n k j h (by omega)

/-! ### Eight bytes -/
def eightF : Nat → Nat → List UInt8
  | 0, _ => []
  | k + 1, n => eightF k (n / 256) ++ [UInt8.ofNat n]
def eightL (n : Nat) : List UInt8 := eightF 8 n

theorem eightF_len : ∀ (k n : Nat), (eightF k n).length = k
  | 0, _ => rfl
  | k + 1, n => by simp [eightF, eightF_len k]

theorem eightL_len (n : Nat) : (eightL n).length = 8 := eightF_len 8 n

def valB : Nat → List UInt8 → Nat
  | a, [] => a
  | a, c :: r => valB (a * 256 + c.toNat) r

theorem valB_append : ∀ (l m : List UInt8) (a : Nat), valB a (l ++ m) = valB (valB a l) m
  | [], m, a => rfl
  | c :: l, m, a => by
    rw [List.cons_append, valB, valB_append l m, valB]

theorem valB_eight : ∀ (k n a : Nat), valB a (eightF k n) = a * 256 ^ k + n % 256 ^ k
  | 0, n, a => by simp [eightF, valB, Nat.mod_one]
  | k + 1, n, a => by
    rw [eightF, valB_append, valB_eight k, valB, valB, UInt8.toNat_ofNat']
    rw [Nat.add_mul, Nat.mul_assoc, ← Nat.pow_succ]
    have : n % 256 ^ (k + 1) = n / 256 % 256 ^ k * 256 + n % 256 := by
      rw [Nat.pow_succ, Nat.mul_comm (256 ^ k) 256, Nat.mod_mul]
      omega
    rw [this]
    generalize n / 256 % 256 ^ k = q
    generalize a * 256 ^ (k + 1) = p
    omega

/-- The number whose eight bytes a text begins with. -/
def takeEightL (l : List UInt8) : Nat × Nat := if l.length < 8 then (0, 10) else (valB 0 (l.take 8), 0)

theorem takeEight_put (n : Nat) (h : n < 2 ^ 64) (r : List UInt8) : takeEightL (eightL n ++ r) = (n, 0) := by
  unfold takeEightL
  rw [if_neg (by simp [eightL_len]), List.take_append_of_le_length (by simp [eightL_len]), List.take_of_length_le (by simp [eightL_len])]
  have := valB_eight 8 n 0
  rw [Nat.mod_eq_of_lt (by omega)] at this
  simpa [eightL] using this

theorem valB_lt : ∀ (l : List UInt8) (a : Nat), valB a l < (a + 1) * 256 ^ l.length
  | [], a => by simp [valB]
  | c :: r, a => by
    have h := valB_lt r (a * 256 + c.toNat)
    have hc := c.toNat_lt
    rw [valB, List.length_cons, Nat.pow_succ, Nat.mul_comm (256 ^ r.length) 256, ← Nat.mul_assoc]
    refine Nat.lt_of_lt_of_le h (Nat.mul_le_mul_right _ ?_)
    omega

theorem takeEightL_lt (l : List UInt8) : (takeEightL l).1 < 2 ^ 64 := by
  unfold takeEightL
  split
  · simp
  · have := valB_lt (l.take 8) 0
    rw [List.length_take, Nat.min_eq_left (by omega)] at this
    exact Nat.lt_of_lt_of_le this (by decide)

/-! ### Order -/
theorem cmp_append : ∀ (l m : List UInt8) (x y : UInt8), l.length = m.length →
    Lib.compareBytes (l ++ [x]) (m ++ [y]) = if Lib.compareBytes l m = 0 then (if x < y then -1 else if y < x then 1 else 0) else Lib.compareBytes l m
  | [], [], x, y, _ => by simp [Lib.compareBytes]
  | [], _ :: _, x, y, h => by simp at h
  | _ :: _, [], x, y, h => by simp at h
  | a :: l, b :: m, x, y, h => by
    have ih := cmp_append l m x y (by simpa using h)
    simp only [List.cons_append, Lib.compareBytes]
    split
    · simp
    · split
      · simp
      · exact ih

theorem cmp_eight : ∀ (k a b : Nat), a < 256 ^ k → b < 256 ^ k →
    Lib.compareBytes (eightF k a) (eightF k b) = if a < b then -1 else if b < a then 1 else 0
  | 0, a, b, ha, hb => by
    have h1 : a = 0 := by simpa using ha
    have h2 : b = 0 := by simpa using hb
    subst h1 h2
    simp [eightF, Lib.compareBytes]
  | k + 1, a, b, ha, hb => by
    rw [Nat.pow_succ] at ha hb
    rw [eightF, eightF, cmp_append _ _ _ _ (by rw [eightF_len, eightF_len]), cmp_eight k (a / 256) (b / 256) (by omega) (by omega)]
    have e1 : (UInt8.ofNat a).toNat = a % 256 := by simp [UInt8.toNat_ofNat']
    have e2 : (UInt8.ofNat b).toNat = b % 256 := by simp [UInt8.toNat_ofNat']
    simp only [UInt8.lt_iff_toNat_lt, e1, e2]
    by_cases h1 : a / 256 < b / 256
    · simp only [h1, if_true]
      rw [if_neg (by decide), if_pos (by omega)]
    · by_cases h2 : b / 256 < a / 256
      · simp only [h1, h2, if_true, if_false]
        rw [if_neg (by decide), if_neg (by omega), if_pos (by omega)]
      · simp only [h1, h2, if_false, if_true]
        have : a / 256 = b / 256 := by omega
        by_cases h3 : a % 256 < b % 256
        · rw [if_pos h3, if_pos (by omega)]
        · rw [if_neg h3]
          by_cases h4 : b % 256 < a % 256
          · rw [if_pos h4, if_neg (by omega), if_pos (by omega)]
          · rw [if_neg h4, if_neg (by omega), if_neg (by omega)]

theorem putL_mono : ∀ (f a b : Nat), a ≤ b → (putF (f + 1) a).length ≤ (putF (f + 1) b).length
  | 0, a, b, h => by
    simp only [putF]
    split <;> split <;> simp
  | f + 1, a, b, h => by
    rw [putF.eq_2 a (f + 1), putF.eq_2 b (f + 1)]
    by_cases h1 : b < 128
    · rw [if_pos h1, if_pos (by omega)]
      simp
    · rw [if_neg h1]
      by_cases h2 : a < 128
      · rw [if_pos h2]
        simp
      · rw [if_neg h2]
        have := putL_mono f (a / 128) (b / 128) (by omega)
        simp only [List.length_cons]
        omega

theorem putL_one_byte (n : Nat) : n < 128 ↔ (putL n).length = 1 := by
  unfold putL
  rw [putF]
  constructor
  · intro h
    rw [if_pos h]
    rfl
  · intro h
    by_cases hn : n < 128
    · exact hn
    · rw [if_neg hn, List.length_cons] at h
      have h2 : 1 ≤ (putF 9 (n / 128)).length := putF_pos 8 (n / 128)
      omega

/-! ### Told texts -/
def putTextL (l : List UInt8) : List UInt8 := putL l.length ++ l
/-- The text, its size, the error. -/
def takeTextL (l : List UInt8) (most : Int) : List UInt8 × Nat × Nat :=
  if (takeL l).2.2 ≠ 0 then ([], 0, (takeL l).2.2)
  else if most < 0 ∨ most < (takeL l).1 then ([], 0, 3)
  else if l.length - (takeL l).2.1 < (takeL l).1 then ([], 0, 10)
  else ((l.drop (takeL l).2.1).take (takeL l).1, (takeL l).2.1 + (takeL l).1, 0)

theorem takeText_put (l r : List UInt8) (h : l.length < 2 ^ 64) : takeTextL (putTextL l ++ r) l.length = (l, (putTextL l).length, 0) := by
  unfold takeTextL putTextL
  rw [List.append_assoc, takeL_put l.length h]
  simp only [ne_eq, not_true_eq_false, if_false]
  rw [if_neg (by omega), if_neg (by simp only [List.length_append]; omega), List.drop_left, List.take_left, List.length_append]

end Go.Proofs.Ytogpnfgjdnccdaa.Digit

namespace Go.Proofs.Ytogpnfgjdnccdaa.Digit
open Go.RowKit

/-- What a slice's cells tell as a text. -/
theorem conv_row (w : World) (b len cap : Nat) (xs : List Int) (hlen : xs.length = len)
    (hcell : ∀ i, i < len → w.cell? ⟨b, i, none⟩ = some (.int .u8 (xs.getD i 0))) :
    (convert 70 9 (.slice (some ⟨b, 0, none⟩) len cap)).run Try.prog w = .ok (.string (strOfNums xs)) w :=
  run_convert_bytes_arg w 70 5 Try.underlying70 Try.underlying5 b 0 len cap xs hlen (fun i hi => by rw [Nat.zero_add]; exact hcell i hi) 9 Try.underlying9

theorem conv_new (w : World) (xs : List Int) (t : TypeId) (len cap : Nat) (hlen : xs.length = len) :
    (convert 70 9 (.slice (some ⟨w.heap.size, 0, none⟩) len cap)).run Try.prog (w.alloc (.cells ((xs.map (Value.int .u8)).toArray) t)) = .ok (.string (strOfNums xs)) (w.alloc (.cells ((xs.map (Value.int .u8)).toArray) t)) :=
  conv_row _ _ len cap xs hlen fun i hi => by
    rw [World.cell?_alloc_mark]
    simp [List.getElem?_eq_getElem (show i < xs.length by omega), List.getD]

theorem str_eq {l : List Int} {m : List UInt8} (h : l.map (fun n => UInt8.ofNat n.toNat) = m) : strOfNums l = ⟨m.toArray⟩ := by
  unfold strOfNums
  rw [h]

theorem u8_mod (x : Nat) : UInt8.ofNat (x % 256) = UInt8.ofNat x := by
  apply UInt8.toNat_inj.1
  simp [UInt8.toNat_ofNat']

theorem ret_str {a b : ByteArray} (h : a = b) : Ending.returned (.string a) = .returned (.string b) := by rw [h]
theorem ret_bool {a b : Bool} (h : a = b) : Ending.returned (.bool a) = .returned (.bool b) := by rw [h]
theorem ret_int {k : IntKind} {a b : Int} (h : a = b) : Ending.returned (.int k a) = .returned (.int k b) := by rw [h]

theorem int_beq (a b : Nat) : ((a : Int) == (b : Int)) = (a == b) := by
  rw [Bool.eq_iff_iff]
  simp only [beq_iff_eq]
  omega
theorem orEq {a b c d : Bool} (h : a = b) (k : c = d) : (a || c) = (b || d) := by rw [h, k]

theorem eight_list (m : Nat) : [(m : Int) / 256 / 256 / 256 / 256 / 256 / 256 / 256, (m : Int) / 256 / 256 / 256 / 256 / 256 / 256 % 256,
    (m : Int) / 256 / 256 / 256 / 256 / 256 % 256, (m : Int) / 256 / 256 / 256 / 256 % 256, (m : Int) / 256 / 256 / 256 % 256,
    (m : Int) / 256 / 256 % 256, (m : Int) / 256 % 256, (m : Int) % 256].map (fun n => UInt8.ofNat n.toNat) = eightL m := by
  simp only [List.map_cons, List.map_nil, eightL, eightF, List.nil_append, List.cons_append]
  have e : ∀ x : Nat, UInt8.ofNat ((x : Int) % 256).toNat = UInt8.ofNat x := fun x => u8_mod x
  have c : ∀ {a b : UInt8} {l k : List UInt8}, a = b → l = k → a :: l = b :: k := fun h g => by rw [h, g]
  exact c rfl (c (e _) (c (e _) (c (e _) (c (e _) (c (e _) (c (e _) (c (e _) rfl)))))))

set_option maxHeartbeats 400000 in
/-- digit.Eight -/
theorem eight_any (n : Nat) (w : World) (h1 : n ≤ 18446744073709551615) :
    Calls Try.prog 35 #[.int .u64 n] w fun e w' => e = .returned (.string ⟨(eightL n).toArray⟩) ∧ Below w.heap.size w w' := by
  have hk : ∀ (a b c d e f g h : Int), (convert 70 9 (.slice (some ⟨w.heap.size, 0, none⟩) 8 8)).run Try.prog (w.alloc (.cells #[.int .u8 a, .int .u8 b, .int .u8 c, .int .u8 d, .int .u8 e, .int .u8 f, .int .u8 g, .int .u8 h] 78)) = .ok (.string (strOfNums [a, b, c, d, e, f, g, h])) (w.alloc (.cells #[.int .u8 a, .int .u8 b, .int .u8 c, .int .u8 d, .int .u8 e, .int .u8 f, .int .u8 g, .int .u8 h] 78)) :=
    fun a b c d e f g h => conv_new w [a, b, c, d, e, f, g, h] _ 8 8 rfl
  go_enter Try.func35, Try.ntmps35
  go_wp2
  go_rounds 9
  go_ret
  exact ⟨ret_str (str_eq (eight_list n)), (Below.refl _ _).alloc (Nat.le_refl _) _⟩

theorem take_snoc (s : ByteArray) (k : Nat) (h : k < s.size) : s.data.toList.take (k + 1) = s.data.toList.take k ++ [s[k]] := by
  rw [List.take_succ_eq_append_getElem (by simpa using h)]; rfl

theorem valB_snoc (s : ByteArray) (k : Nat) (h : k < s.size) : valB 0 (s.data.toList.take (k + 1)) = valB 0 (s.data.toList.take k) * 256 + s[k].toNat := by
  rw [take_snoc s k h, valB_append]
  rfl

theorem valB_bd (l : List UInt8) (k : Nat) (h : k ≤ 7) : valB 0 (l.take k) < 72057594037927936 := by
  have := valB_lt (l.take k) 0
  have hp : 256 ^ (l.take k).length ≤ 256 ^ 7 := Nat.pow_le_pow_right (by omega) (Nat.le_trans (List.length_take_le _ _) h)
  have h7 : (256 : Nat) ^ 7 = 72057594037927936 := by decide
  omega

theorem or_byte (x c : Nat) (hx : x < 72057594037927936) (hc : c < 256) : bits .or .u64 ((x : Int) * 256) (c : Int) = (x : Int) * 256 + (c : Int) := by
  have h1 := Go.u64_or_nat (x * 256) c (by omega) (by omega)
  rw [Go.nat_join 8 (x * 256) c (by omega) (by omega)] at h1
  simpa using h1

set_option maxHeartbeats 400000 in
theorem size_any (n : Nat) (w : World) (h1 : n ≤ 18446744073709551615) :
    Calls Try.prog 65 #[.int .u64 n] w fun e w' => e = .returned (.int .i64 (putL n).length) ∧ w = w' := by
  have ho : bits .or .u64 (n : Int) 1 = ((n ||| 1 : Nat) : Int) := Go.u64_or_nat n 1 (by omega) (by omega)
  have hlt : n ||| 1 < 18446744073709551616 := Nat.or_lt_two_pow (n := 64) (by omega) (by omega)
  have hb := Lib.bitLen_le (n ||| 1) 64 (by omega) hlt
  have hp := putL_size10 n (by omega)
  have HP := Lib.hid hp
  clear hp
  go_enter Try.func65, Try.ntmps65
  go_wp2_with (go_at_call 69; refine (Try.bits_Len64 _ _ (by omega) (by omega)).mono ?_; rintro e w' ⟨rfl, rfl⟩)
  go_ret
  exact ⟨ret_int (by rw [HP.out]; omega), rfl⟩

end Go.Proofs.Ytogpnfgjdnccdaa.Digit

namespace Go.Proofs.Ytogpnfgjdnccdaa.Digit
open Go.RowKit

/-- What is left of a number behind k bytes; byte j, with its mark. -/
def quoP (m k : Nat) : Nat := m / 128 ^ k
def byteP (m j : Nat) : Nat := m / 128 ^ j % 128 + 128
def rowP (m k : Nat) : Array Value := ((List.range 10).map fun j => Value.int .u8 (if j < k then (byteP m j : Int) else 0)).toArray

theorem rowP_size (m k : Nat) : (rowP m k).size = 10 := by simp [rowP]
theorem rowP_get (m k j : Nat) (hj : j < 10) : (rowP m k)[j]? = some (.int .u8 (if j < k then (byteP m j : Int) else 0)) := by
  simp [rowP, hj]
theorem rowP_zero (m : Nat) : rowP m 0 = #[.int .u8 0, .int .u8 0, .int .u8 0, .int .u8 0, .int .u8 0, .int .u8 0, .int .u8 0, .int .u8 0, .int .u8 0, .int .u8 0] := rfl
theorem rowP_set (m k : Nat) (hk : k < 10) : (rowP m k).setIfInBounds k (.int .u8 (byteP m k)) = rowP m (k + 1) := by
  apply Array.ext_getElem?
  intro j
  rw [Array.getElem?_setIfInBounds, rowP_size]
  by_cases hj : j < 10
  · rw [rowP_get m (k + 1) j hj]
    by_cases h : k = j
    · subst h
      rw [if_pos rfl, if_pos hj, if_pos (by omega)]
    · rw [if_neg h, rowP_get m k j hj]
      by_cases hlt : j < k
      · rw [if_pos hlt, if_pos (by omega)]
      · rw [if_neg hlt, if_neg (by omega)]
  · rw [if_neg (by omega), Array.getElem?_eq_none (by rw [rowP_size]; omega), Array.getElem?_eq_none (by rw [rowP_size]; omega)]

theorem byte_or : ∀ y : Nat, y < 256 → y ||| 128 = y % 128 + 128 := by decide +kernel
theorem or_mark (x m k : Nat) (hx : x = quoP m k) : bits .or .u8 ((x : Int) % 256) 128 = (byteP m k : Int) := by
  have h := u8_or_nat (x % 256) 128 (by omega) (by omega)
  rw [byte_or _ (by omega)] at h
  have e : x % 256 % 128 + 128 = byteP m k := by
    subst hx
    unfold quoP byteP
    omega
  rw [e] at h
  exact h

theorem byteP_bd (m j : Nat) : 128 ≤ byteP m j ∧ byteP m j ≤ 255 := by unfold byteP; omega
theorem quoP_bd (m k : Nat) : quoP m k ≤ m := Nat.div_le_self _ _
theorem quoP_next (m k : Nat) : quoP m k / 128 = quoP m (k + 1) := by
  unfold quoP
  rw [Nat.div_div_eq_div_mul, Nat.pow_succ]

theorem put_list (m L : Nat) (hm : m < 128 ^ 10) (hL : (putL m).length = L) :
    ((List.range L).map fun j => if j + 1 = L then (byteP m j : Int) - 128 else (byteP m j : Int)).map (fun n => UInt8.ofNat n.toNat) = putL m := by
  apply List.ext_getElem?
  intro j
  rw [List.map_map, List.getElem?_map]
  by_cases hj : j < L
  · rw [List.getElem?_range hj]
    simp only [Option.map_some, Function.comp]
    by_cases hlast : j + 1 = L
    · rw [if_pos hlast]
      have h := putF_last 10 m j hm (by unfold putL at hL; omega)
      unfold putL
      have h2 := h.2
      have e : ((byteP m j : Int) - 128).toNat = m / 128 ^ j := by
        unfold byteP
        generalize m / 128 ^ j = q at h2 ⊢
        omega
      rw [h.1, e]
    · rw [if_neg hlast]
      unfold putL
      rw [putF_get 10 m j (by unfold putL at hL; omega)]
      rfl
  · rw [List.getElem?_eq_none (by simp; omega), List.getElem?_eq_none (by omega)]
    rfl

theorem put_conv (m L : Nat) (w : World) (hm : m < 128 ^ 10) (hL : (putL m).length = L) (h1 : 1 ≤ L) (h10 : L ≤ 10) :
    (convert 70 9 (.slice (some ⟨w.heap.size, 0, none⟩) L 10)).run Try.prog (w.alloc (.cells ((rowP m L).setIfInBounds (L - 1) (.int .u8 ((byteP m (L - 1) : Int) - 128))) 98)) =
      .ok (.string ⟨(putL m).toArray⟩) (w.alloc (.cells ((rowP m L).setIfInBounds (L - 1) (.int .u8 ((byteP m (L - 1) : Int) - 128))) 98)) := by
  rw [← str_eq (put_list m L hm hL)]
  refine conv_row _ _ L 10 _ (by simp) fun i hi => ?_
  rw [World.cell?_alloc_mark, Array.getElem?_setIfInBounds, rowP_size]
  have e : ((List.range L).map fun j => if j + 1 = L then (byteP m j : Int) - 128 else (byteP m j : Int)).getD i 0 = if i + 1 = L then (byteP m i : Int) - 128 else (byteP m i : Int) := by
    simp [List.getD, hi]
  rw [e]
  by_cases h : L - 1 = i
  · rw [if_pos h, if_pos (by omega), if_pos (by omega), h]
  · rw [if_neg h, if_neg (by omega), rowP_get m L i (by omega), if_pos hi]

theorem slice10 (b L : Nat) (h : L ≤ 10) (w : World) : (Instr.sliceAt 98 (.pointer (some ⟨b, 0, none⟩)) none (some (.int .i64 (L : Int))) none).run Try.prog w = .ok (.slice (some ⟨b, 0, none⟩) L 10) w := by
  have ht : Try.prog.underlying 98 = some (.array 10 5) := Try.underlying98
  have e : Try.prog.elem 98 = 5 := by simp [Program.elem, ht]
  have e2 : Try.prog.arrayLen 98 = 10 := by simp [Program.arrayLen, ht]
  rw [run_sliceAt_array_h w 98 _ (by rw [e, e2]; exact ht) .i64 (L : Int) (by omega) (by rw [e2]; omega), e, e2, Try.sizeOf5]
  simp [Result.andThen, slicedAt, Addr.add]

set_option maxHeartbeats 400000 in
/-- digit.Put -/
theorem put_any (m : Nat) (w : World) (h1 : m ≤ 18446744073709551615) :
    Calls Try.prog 57 #[.int .u64 m] w fun e w' => e = .returned (.string ⟨(putL m).toArray⟩) ∧ Below w.heap.size w w' := by
  obtain ⟨L, hL⟩ : ∃ L, (putL m).length = L := ⟨_, rfl⟩
  have hL1 : 1 ≤ L := by have := putL_pos m; omega
  have hL10 : L ≤ 10 := by have := putL_len m; omega
  have hsz := fun w => size_any m w h1
  rw [hL] at hsz
  have hconv := put_conv m L w (by omega) hL hL1 hL10
  have HL := Lib.hid hL
  have HS := Lib.hid hsz
  clear hL hsz
  go_enter Try.func57, Try.ntmps57
  go_wp2_with (go_at_call 65; refine (HS.out _).mono ?_; rintro e w' ⟨rfl, rfl⟩)
  go_loopw [0, 9] (fun n i wr => ∃ k : Nat, k ≤ L ∧ i = .int .i64 k ∧ n = .int .u64 (quoP m k) ∧ wr = w.alloc (.cells (rowP m k) 98)) (fun _ i _ => L - (intOf i).toNat)
  case atStart => exact ⟨0, by omega, rfl, by simp [quoP], rfl⟩
  case round =>
    obtain ⟨k, hk, rfl, rfl, rfl⟩ := hrel
    by_cases hlt : k < L
    · have hq := quoP_bd m k
      have ho := or_mark _ m k rfl
      have hb := byteP_bd m k
      have hg := rowP_get m k k (by omega)
      have hs := rowP_set m k (by omega)
      go_wp2
      go_roundw
      case rel => exact ⟨k + 1, by omega, by go_num, by rw [← quoP_next]; rfl, rfl⟩
      case measure => simp [intOf]; omega
    · obtain rfl : k = L := by omega
      have hb := byteP_bd m (k - 1)
      have hg := rowP_get m k (k - 1) (by omega)
      rw [if_pos (by omega)] at hg
      have hsl := slice10 w.heap.size k hL10
      go_wp2
      go_ret
      exact ⟨rfl, (Below.refl _ _).alloc (Nat.le_refl _) _⟩

end Go.Proofs.Ytogpnfgjdnccdaa.Digit

namespace Go.Proofs.Ytogpnfgjdnccdaa.Digit
open Go.RowKit

/-- What is gathered behind one byte more. -/
def stepP (acc c k : Nat) : Nat := acc + c % 128 * 128 ^ k % 18446744073709551616

theorem pow128 (k : Nat) : (128 : Nat) ^ k = 2 ^ (7 * k) := by
  rw [Nat.pow_mul]

theorem pow_le9 (k : Nat) (h : k ≤ 9) : (128 : Nat) ^ k ≤ 9223372036854775808 := by
  have h1 : (128 : Nat) ^ k ≤ 128 ^ 9 := Nat.pow_le_pow_right (by omega) h
  have h2 : (128 : Nat) ^ 9 = 9223372036854775808 := by decide
  omega

theorem pow_le8 (k : Nat) (h : k ≤ 8) : (128 : Nat) ^ k ≤ 72057594037927936 := by
  have h1 : (128 : Nat) ^ k ≤ 128 ^ 8 := Nat.pow_le_pow_right (by omega) h
  have h2 : (128 : Nat) ^ 8 = 72057594037927936 := by decide
  omega

theorem u8_and127 (c : Nat) (h : c < 256) : bits .and .u8 (c : Int) 127 = ((c % 128 : Nat) : Int) := by
  have h1 := u8_and_nat c 127 h (by omega)
  rw [nat_mask7] at h1
  exact h1

theorem u64_nat (n : Nat) (h : n < 18446744073709551616) : IntKind.u64.wrap (n : Int) = (n : Int) := IntWalk.u64_in _ ⟨by omega, by omega⟩

theorem step_or (acc c k : Nat) (hc : c < 256) (hk : k ≤ 9) (ha : acc < 128 ^ k) :
    bits .or .u64 (acc : Int) (IntKind.u64.wrap (IntKind.u64.wrap (bits .and .u8 (c : Int) 127) * 2 ^ (7 * k))) = (stepP acc c k : Int) := by
  rw [u8_and127 c hc, u64_nat (c % 128) (by omega)]
  have e1 : ((c % 128 : Nat) : Int) * 2 ^ (7 * k) = ((c % 128 * 128 ^ k : Nat) : Int) := by
    rw [pow128, Int.natCast_mul, Int.natCast_pow]
    rfl
  have e2 : IntKind.u64.wrap ((c % 128 * 128 ^ k : Nat) : Int) = ((c % 128 * 128 ^ k % 18446744073709551616 : Nat) : Int) := by
    rw [IntKind.wrap_u64]
    rfl
  have hp := pow_le9 k hk
  have hm : c % 128 * 128 ^ k % 18446744073709551616 < 18446744073709551616 := Nat.mod_lt _ (by omega)
  rw [e1, e2, u64_or_nat acc _ (by omega) hm, Nat.or_comm]
  have hd : c % 128 * 128 ^ k % 18446744073709551616 % 2 ^ (7 * k) = 0 := by
    have h64 : 18446744073709551616 = 2 ^ (7 * k) * 2 ^ (64 - 7 * k) := by
      rw [← Nat.pow_add, show 7 * k + (64 - 7 * k) = 64 by omega]
    rw [h64, Nat.mod_mul_right_mod, pow128]
    exact Nat.mul_mod_left _ _
  rw [nat_join (7 * k) _ acc hd (by rw [← pow128]; exact ha), Nat.add_comm]
  rfl

theorem step_small (acc c k : Nat) (hk : k ≤ 8) : stepP acc c k = acc + c % 128 * 128 ^ k := by
  have hp := pow_le8 k hk
  have : c % 128 * 128 ^ k ≤ 127 * 72057594037927936 := Nat.mul_le_mul (by omega) hp
  unfold stepP
  rw [Nat.mod_eq_of_lt (by omega)]

theorem step_bd (acc c k : Nat) (hk : k ≤ 8) (ha : acc < 128 ^ k) : stepP acc c k < 128 ^ (k + 1) := by
  rw [step_small acc c k hk, Nat.pow_succ, Nat.mul_comm (128 ^ k) 128]
  have : c % 128 * 128 ^ k ≤ 127 * 128 ^ k := Nat.mul_le_mul_right _ (by omega)
  omega

theorem take_at (s : ByteArray) (k : Nat) (h : k < s.size) : s.data.toList.drop k = s[k] :: s.data.toList.drop (k + 1) := by
  rw [List.drop_eq_getElem_cons (by simpa using h)]
  rfl

theorem take_end (l : List UInt8) (k acc : Nat) (hk : k < 10) (h : l.length = k) : takeF (10 - k) k acc (l.drop k) = (0, 0, 10) := by
  rw [List.drop_eq_nil_of_le (by omega), show 10 - k = (9 - k) + 1 by omega]
  rfl

theorem take_ok (s : ByteArray) (k acc : Nat) (hk : k < 10) (h : k < s.size) (hc : s[k].toNat < 128) (he : endsB k s[k].toNat = true) :
    takeF (10 - k) k acc (s.data.toList.drop k) = (stepP acc s[k].toNat k, k + 1, 0) := by
  rw [take_at s k h, show 10 - k = (9 - k) + 1 by omega, takeF, if_pos hc, he]
  simp only [if_true, Prod.mk.injEq, and_true]
  unfold stepP
  rw [Nat.mod_eq_of_lt hc]
  by_cases h9 : k = 9
  · subst h9
    have : s[9].toNat = 1 := by simpa [endsB] using he
    rw [this]
  · have hp := pow_le8 k (by omega)
    have : s[k].toNat * 128 ^ k ≤ 127 * 72057594037927936 := Nat.mul_le_mul (by omega) hp
    rw [Nat.mod_eq_of_lt (by omega)]

theorem take_no (s : ByteArray) (k acc : Nat) (hk : k < 10) (h : k < s.size) (hc : s[k].toNat < 128) (he : endsB k s[k].toNat = false) :
    takeF (10 - k) k acc (s.data.toList.drop k) = (0, 0, 6) := by
  rw [take_at s k h, show 10 - k = (9 - k) + 1 by omega, takeF, if_pos hc, he]
  rfl

theorem take_on (s : ByteArray) (k acc : Nat) (hk : k < 10) (h : k < s.size) (hc : ¬ s[k].toNat < 128) :
    takeF (10 - k) k acc (s.data.toList.drop k) = takeF (10 - (k + 1)) (k + 1) (stepP acc s[k].toNat k) (s.data.toList.drop (k + 1)) := by
  rw [take_at s k h, show 10 - k = (10 - (k + 1)) + 1 by omega, takeF, if_neg hc]
  by_cases h9 : k = 9
  · subst h9
    simp only [Nat.reduceSub, Nat.reduceAdd, takeF]
  · have hlt := s[k].toNat_lt
    rw [step_small _ _ _ (by omega), show s[k].toNat % 128 = s[k].toNat - 128 by omega]

end Go.Proofs.Ytogpnfgjdnccdaa.Digit

namespace Go.Proofs.Ytogpnfgjdnccdaa.Digit
open Go.RowKit

theorem bytes_eq {a : ByteArray} {l : List UInt8} (h : a.data.toList = l) : a = ⟨l.toArray⟩ := by
  apply ByteArray.ext
  apply Array.toList_inj.1
  rw [h]

set_option maxRecDepth 100000 in
set_option maxHeartbeats 400000 in
/-- digit.PutText -/
theorem putText_any (s : ByteArray) (w : World) (hs : s.size ≤ 70368744177664) :
    Calls Try.prog 48 #[.string s] w fun e w' => e = .returned (.string ⟨(putTextL s.data.toList).toArray⟩) ∧ Below w.heap.size w w' := by
  have hl := putL_len s.size
  go_enter Try.func48, Try.ntmps48
  go_wp2_with (go_at_call 57; refine (put_any _ _ (by omega)).mono ?_; rintro e w' ⟨rfl, hb⟩)
  go_ret
  exact ⟨ret_str (bytes_eq (by simp [putTextL])), hb⟩

theorem takeText_err (l : List UInt8) (most : Int) (h : (takeL l).2.2 ≠ 0) : takeTextL l most = ([], 0, (takeL l).2.2) := by
  unfold takeTextL
  rw [if_pos h]
theorem takeText_long (l : List UInt8) (most : Int) (n k : Nat) (ht : takeL l = (n, k, 0)) (h : most < 0 ∨ most < n) : takeTextL l most = ([], 0, 3) := by
  unfold takeTextL
  rw [ht]
  rw [if_neg (by simp), if_pos h]
theorem takeText_short (l : List UInt8) (most : Int) (n k : Nat) (ht : takeL l = (n, k, 0)) (h0 : ¬ most < 0) (h1 : ¬ most < n) (h : l.length - k < n) : takeTextL l most = ([], 0, 10) := by
  unfold takeTextL
  rw [ht]
  rw [if_neg (by simp), if_neg (by rintro (h | h) <;> contradiction), if_pos h]
theorem takeText_fits (l : List UInt8) (most : Int) (n k : Nat) (ht : takeL l = (n, k, 0)) (h0 : ¬ most < 0) (h1 : ¬ most < n) (h : ¬ l.length - k < n) : takeTextL l most = ((l.drop k).take n, k + n, 0) := by
  unfold takeTextL
  rw [ht]
  rw [if_neg (by simp), if_neg (by rintro (h | h) <;> contradiction), if_neg h]
theorem ret3_text {a b : ByteArray} {x y : Int} {k : IntKind} {c : Value} (h : a = b) (g : x = y) : Ending.returned (.tuple #[.string a, .int k x, c]) = .returned (.tuple #[.string b, .int k y, c]) := by rw [h, g]

end Go.Proofs.Ytogpnfgjdnccdaa.Digit

namespace Go.Proofs.Ytogpnfgjdnccdaa.Digit
open Go.RowKit

def byteIn : Option Value → Int
  | some (.int _ x) => x
  | _ => 0
def isByte : Option Value → Bool
  | some (.int .u8 _) => true
  | _ => false

@[go_sem] theorem isByte_int (x : Int) : isByte (some (.int .u8 x)) = true := rfl
@[go_sem] theorem byteIn_int (x : Int) : byteIn (some (.int .u8 x)) = x := rfl

@[go_sem] theorem strOne_size (x : Int) : (strOfNums [x]).size = 1 := rfl

@[go_sem] theorem conv_one (wx : World) (b : Nat) (h : isByte (wx.cell? ⟨b, 0, none⟩) = true) :
    (convert 70 9 (.slice (some ⟨b, 0, none⟩) 1 1)).run Try.prog wx = .ok (.string (strOfNums [byteIn (wx.cell? ⟨b, 0, none⟩)])) wx := by
  unfold isByte at h
  split at h
  · rename_i x hx
    refine conv_row wx b 1 1 _ rfl fun i hi => ?_
    obtain rfl : i = 0 := by omega
    rw [hx]
    rfl
  · simp at h

theorem cast128 (n : Nat) : ((n : Int) % 128 + 128).toNat = n % 128 + 128 := by omega

theorem bcell {W w1 : World} (hb : Below W.heap.size W w1) : (∀ b o, b < W.heap.size → w1.cell? ⟨b, o, none⟩ = W.cell? ⟨b, o, none⟩) ∧ (∀ b o, b < W.heap.size → w1.frozen? ⟨b, o, none⟩ = W.frozen? ⟨b, o, none⟩) :=
  ⟨fun b o h => hb.cell (p := ⟨b, o, none⟩) h, fun b o h => hb.frozen (p := ⟨b, o, none⟩) h⟩

set_option maxRecDepth 100000 in
set_option maxHeartbeats 400000 in
theorem refPut_low (n : Nat) (w : World) (h : n < 128) :
    Calls Try.prog 51 #[.int .u64 n] w fun e w' => e = .returned (.string ⟨#[UInt8.ofNat n]⟩) ∧ Below w.heap.size w w' := by
  go_enter Try.func51, Try.ntmps51
  go_wp2_with fail
  go_ret
  exact ⟨ret_str (by simp [strOfNums]), (Below.refl _ _).alloc (Nat.le_refl _) _⟩

set_option maxRecDepth 100000 in
set_option maxHeartbeats 400000 in
theorem refPut_any (f : Nat) : ∀ (n : Nat) (w : World), n < 128 ^ (f + 1) → n ≤ 18446744073709551615 → f ≤ 9 →
    Calls Try.prog 51 #[.int .u64 n] w fun e w' => e = .returned (.string ⟨(putF (f + 1) n).toArray⟩) ∧ Below w.heap.size w w' := by
  induction f with
  | zero =>
    intro n w h _ _
    have h' : n < 128 := by simpa using h
    refine (refPut_low n w h').mono fun e w' hh => ?_
    rw [putF, if_pos h']
    exact hh
  | succ f ih =>
    intro n w h h64 hf
    rw [putF]
    by_cases h' : n < 128
    · rw [if_pos h']
      exact refPut_low n w h'
    · rw [if_neg h']
      have IH := Lib.hid (fun w => ih (n / 128) w (by rw [Nat.pow_succ] at h; omega) (by omega) (by omega))
      clear h
      have hr : ((n : Int)).tmod 128 = ((n % 128 : Nat) : Int) := Int.tmod_eq_emod_of_nonneg (by omega)
      have hw : IntKind.u64.wrap (((n % 128 : Nat) : Int) + 128) = ((n % 128 + 128 : Nat) : Int) := by rw [IntWalk.u64_in _ ⟨by omega, by omega⟩]; rfl
      have hw8 : IntKind.u8.wrap ((n % 128 + 128 : Nat) : Int) = ((n % 128 + 128 : Nat) : Int) := IntWalk.u8_in _ ⟨by omega, by omega⟩
      have hq : IntKind.u64.wrap ((n : Int) / 128) = ((n / 128 : Nat) : Int) := by rw [IntWalk.u64_in _ ⟨by omega, by omega⟩]; rfl
      have hlen := putF_len (f + 1) (n / 128)
      go_enter Try.func51, Try.ntmps51
      go_wp2_with fail
      go_region_with ((go_at_call 51; refine (IH.out _).mono ?_; rintro e w' ⟨rfl, hb⟩; obtain ⟨hc, hf⟩ := bcell hb))
      all_goals
        go_wp2
        go_ret
        refine ⟨ret_str (bytes_eq (by simp [strOfNums, cast128])), ?_⟩
        first
          | exact (((Below.refl _ _).alloc (Nat.le_refl _) _).drew).trans (hb.mono (by simp))
          | exact ((Below.refl _ _).drew.trans (hb.mono (Nat.le_refl _))).alloc hb.size _

end Go.Proofs.Ytogpnfgjdnccdaa.Digit

namespace Go.Proofs.Ytogpnfgjdnccdaa.Digit
open Go.RowKit

theorem eight_list' (m : Nat) : [(m : Int) / 256 / 256 / 256 / 256 / 256 / 256 / 256 % 256, (m : Int) / 256 / 256 / 256 / 256 / 256 / 256 % 256,
    (m : Int) / 256 / 256 / 256 / 256 / 256 % 256, (m : Int) / 256 / 256 / 256 / 256 % 256, (m : Int) / 256 / 256 / 256 % 256,
    (m : Int) / 256 / 256 % 256, (m : Int) / 256 % 256, (m : Int) % 256].map (fun n => UInt8.ofNat n.toNat) = eightL m := by
  simp only [List.map_cons, List.map_nil, eightL, eightF, List.nil_append, List.cons_append]
  have e : ∀ x : Nat, UInt8.ofNat ((x : Int) % 256).toNat = UInt8.ofNat x := fun x => u8_mod x
  have c : ∀ {a b : UInt8} {l k : List UInt8}, a = b → l = k → a :: l = b :: k := fun h g => by rw [h, g]
  exact c (e _) (c (e _) (c (e _) (c (e _) (c (e _) (c (e _) (c (e _) (c (e _) rfl)))))))

theorem refPut (n : Nat) (w : World) (h1 : n ≤ 18446744073709551615) :
    Calls Try.prog 51 #[.int .u64 n] w fun e w' => e = .returned (.string ⟨(putL n).toArray⟩) ∧ Below w.heap.size w w' :=
  refPut_any 9 n w (by omega) h1 (by omega)

set_option maxRecDepth 100000 in
set_option maxHeartbeats 400000 in
theorem refEight_any (n : Nat) (w : World) (h1 : n ≤ 18446744073709551615) :
    Calls Try.prog 39 #[.int .u64 n] w fun e w' => e = .returned (.string ⟨(eightL n).toArray⟩) ∧ Below w.heap.size w w' := by
  go_enter Try.func39, Try.ntmps39
  go_wp2
  go_rounds 9
  go_ret
  refine ⟨ret_str (bytes_eq ?_), ?_⟩
  · have h := eight_list' n
    simpa [strOfNums] using h
  · go_grown

set_option maxRecDepth 100000 in
set_option maxHeartbeats 400000 in
theorem refPutText_any (s : ByteArray) (w : World) (hs : s.size ≤ 70368744177664) :
    Calls Try.prog 36 #[.string s] w fun e w' => e = .returned (.string ⟨(putTextL s.data.toList).toArray⟩) ∧ Below w.heap.size w w' := by
  have hl := putL_len s.size
  go_enter Try.func36, Try.ntmps36
  go_wp2_with (go_at_call 51; refine (refPut _ _ (by omega)).mono ?_; rintro e w' ⟨rfl, hb⟩)
  go_ret
  exact ⟨ret_str (bytes_eq (by simp [putTextL])), hb⟩

/-- A byte's part of the number, in 64 bits. -/
def prodP (c k : Nat) : Nat := c % 128 * 128 ^ k % 18446744073709551616

theorem step_prod (acc c k : Nat) : stepP acc c k = acc + prodP c k := rfl

theorem pow9 : (128 : Nat) ^ 9 = 9223372036854775808 := by decide

theorem prod_big (c : Nat) : prodP c 9 = c % 128 % 2 * 9223372036854775808 := by
  unfold prodP
  rw [pow9]
  omega

theorem prod_fits (c k : Nat) (hk : k ≤ 9) (h : ¬ (k = 9 ∧ 2 ≤ c % 128)) : prodP c k = c % 128 * 128 ^ k ∧ prodP c k ≤ 9223372036854775808 := by
  by_cases h9 : k = 9
  · subst h9
    have h2 : c % 128 = 0 ∨ c % 128 = 1 := by omega
    unfold prodP
    rw [pow9]
    omega
  · have hp := pow_le8 k (by omega)
    have h3 : c % 128 * 128 ^ k ≤ 127 * 72057594037927936 := Nat.mul_le_mul (by omega) hp
    unfold prodP
    rw [Nat.mod_eq_of_lt (by omega)]
    omega

theorem prod_wrap (c k T : Nat) (hT : 128 ^ k = T) : IntKind.u64.wrap ((c : Int) % 128 * (T : Int)) = (prodP c k : Int) := by
  subst hT
  rw [IntKind.wrap_u64]
  unfold prodP
  have e : (c : Int) % 128 * ((128 ^ k : Nat) : Int) = ((c % 128 * 128 ^ k : Nat) : Int) := by
    rw [Int.natCast_mul]
    rfl
  rw [e]
  rfl

theorem quo_fits (c k T : Nat) (hk : k ≤ 9) (hT : 128 ^ k = T) (h : ¬ (k = 9 ∧ 2 ≤ c % 128)) : ((prodP c k : Nat) : Int) / (T : Int) = ((c % 128 : Nat) : Int) := by
  rw [(prod_fits c k hk h).1, hT]
  have hp : 0 < T := by rw [← hT]; exact Nat.pow_pos (by omega)
  have e : c % 128 * T / T = c % 128 := Nat.mul_div_cancel _ hp
  rw [← Int.natCast_ediv, e]

theorem quo_big (c T : Nat) (hT : T = 9223372036854775808) : ((prodP c 9 : Nat) : Int) / (T : Int) = ((c % 128 % 2 : Nat) : Int) := by
  subst hT
  rw [prod_big, ← Int.natCast_ediv, Nat.mul_div_cancel _ (by omega)]

theorem take_big (s : ByteArray) (acc : Nat) (h : 9 < s.size) (hb : 2 ≤ s[9].toNat % 128) : takeF (10 - 9) 9 acc (s.data.toList.drop 9) = (0, 0, 6) := by
  by_cases hc : s[9].toNat < 128
  · refine take_no s 9 acc (by omega) h hc ?_
    unfold endsB
    rw [if_pos rfl]
    simp
    omega
  · rw [take_on s 9 acc (by omega) h hc]
    rfl

theorem bne_false (a b : Nat) (h : a = b) : ((a : Int) != (b : Int)) = false := by simp [h]

end Go.Proofs.Ytogpnfgjdnccdaa.Digit
