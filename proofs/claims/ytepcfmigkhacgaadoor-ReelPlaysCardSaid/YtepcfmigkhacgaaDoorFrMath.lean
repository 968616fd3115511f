/- frame: plain mathematics of the check, of frames, of what is taken. -/
namespace Go.Proofs.YtepcfmigkhacgaaDoor.Frame

def polyN : Nat := 2197175160
def tN (x : Nat) : Nat := x / 2 ^^^ (if x % 2 = 1 then polyN else 0)
def tk : Nat → Nat → Nat
  | 0, x => x
  | k + 1, x => tk k (tN x)
def byteN (r c : Nat) : Nat := tk 8 (r ^^^ c)
def crcN (r : Nat) (l : List UInt8) : Nat := l.foldl (fun r c => byteN r c.toNat) r
def checkN (l : List UInt8) : Nat := crcN 4294967295 l ^^^ 4294967295

theorem xor_swap (a b c d : Nat) : (a ^^^ b) ^^^ (c ^^^ d) = (a ^^^ c) ^^^ (b ^^^ d) := by
  rw [Nat.xor_assoc, ← Nat.xor_assoc b c d, Nat.xor_comm b c, Nat.xor_assoc c b d, ← Nat.xor_assoc]
theorem xor_back (a b : Nat) : a ^^^ b ^^^ b = a := by rw [Nat.xor_assoc, Nat.xor_self, Nat.xor_zero]
theorem xor_of_zero {a b : Nat} (h : a ^^^ b = 0) : a = b := by
  have := xor_back a b
  rw [h, Nat.zero_xor] at this
  exact this.symm
theorem xor_lt32 {a b : Nat} (ha : a < 4294967296) (hb : b < 4294967296) : a ^^^ b < 4294967296 := Nat.xor_lt_two_pow (n := 32) ha hb

theorem tN_xor (a b : Nat) : tN (a ^^^ b) = tN a ^^^ tN b := by
  unfold tN
  rw [xor_swap, Nat.xor_div_two]
  congr 1
  have h := Nat.xor_mod_two_eq_one (a := a) (b := b)
  by_cases ha : a % 2 = 1 <;> by_cases hb : b % 2 = 1 <;> by_cases hc : (a ^^^ b) % 2 = 1 <;> simp [ha, hb, hc] at h ⊢
theorem tk_xor (k : Nat) : ∀ a b, tk k (a ^^^ b) = tk k a ^^^ tk k b := by
  induction k with
  | zero => intro a b; rfl
  | succ k ih =>
    intro a b
    simp only [tk]
    rw [tN_xor, ih]
theorem tN_lt {x : Nat} (h : x < 4294967296) : tN x < 4294967296 := by
  unfold tN
  refine xor_lt32 (by omega) ?_
  split
  · decide
  · decide
theorem tk_lt (k : Nat) : ∀ {x : Nat}, x < 4294967296 → tk k x < 4294967296 := by
  induction k with
  | zero => intro x h; exact h
  | succ k ih => intro x h; exact ih (tN_lt h)
theorem tk_succ (k : Nat) : ∀ x, tk (k + 1) x = tN (tk k x) := by
  induction k with
  | zero => intro x; rfl
  | succ k ih => intro x; exact ih (tN x)
theorem tk_add (j k : Nat) : ∀ x, tk (j + k) x = tk k (tk j x) := by
  induction j with
  | zero => intro x; rw [Nat.zero_add]; rfl
  | succ j ih => intro x; rw [Nat.succ_add]; exact ih (tN x)
theorem byte_lt (c : UInt8) : c.toNat < 4294967296 := by have := c.toNat_lt; omega
theorem byteN_lt {r : Nat} (c : UInt8) (h : r < 4294967296) : byteN r c.toNat < 4294967296 := tk_lt 8 (xor_lt32 h (byte_lt c))
theorem crcN_lt (l : List UInt8) : ∀ {r : Nat}, r < 4294967296 → crcN r l < 4294967296 := by
  induction l with
  | nil => intro r h; exact h
  | cons c l ih => intro r h; exact ih (byteN_lt c h)
theorem crcN_append (r : Nat) (a b : List UInt8) : crcN r (a ++ b) = crcN (crcN r a) b := by unfold crcN; rw [List.foldl_append]
theorem checkN_lt (l : List UInt8) : checkN l < 4294967296 := xor_lt32 (crcN_lt l (by decide)) (by decide)

/-- The table by which a check goes over four bits. -/
def tabN : List Nat := [0x00000000, 0x105ec76f, 0x20bd8ede, 0x30e349b1, 0x417b1dbc, 0x5125dad3, 0x61c69362, 0x7198540d,
  0x82f63b78, 0x92a8fc17, 0xa24bb5a6, 0xb21572c9, 0xc38d26c4, 0xd3d3e1ab, 0xe330a81a, 0xf36e6f75]
theorem split16 (x : Nat) : x = (x / 16 * 16) ^^^ (x % 16) := by
  apply Nat.eq_of_testBit_eq
  intro i
  have h16 : (16 : Nat) = 2 ^ 4 := rfl
  rw [Nat.testBit_xor, h16, Nat.testBit_mul_two_pow, Nat.testBit_div_two_pow, Nat.testBit_mod_two_pow]
  by_cases h : 4 ≤ i
  · rw [show i - 4 + 4 = i by omega]
    simp [h, show ¬ i < 4 by omega]
  · simp [h, show i < 4 by omega]
theorem tN_even (x : Nat) : tN (2 * x) = x := by
  unfold tN
  rw [if_neg (by omega), Nat.xor_zero]
  omega
theorem tk4_high (y : Nat) : tk 4 (y * 16) = y := by
  show tN (tN (tN (tN (y * 16)))) = y
  rw [show y * 16 = 2 * (2 * (2 * (2 * y))) by omega, tN_even, tN_even, tN_even, tN_even]
theorem tk4_low : ∀ c, c < 16 → tk 4 c = tabN.getD c 0 := by decide +kernel
theorem tab_lt : ∀ c, c < 16 → tabN.getD c 0 < 4294967296 := by decide +kernel
theorem tk4 (x : Nat) : tk 4 x = x / 16 ^^^ tabN.getD (x % 16) 0 := by
  have h := tk_xor 4 (x / 16 * 16) (x % 16)
  have e := split16 x
  have hm : x % 16 < 16 := by omega
  rw [tk4_high, tk4_low (x % 16) hm] at h
  rw [← h, ← e]
theorem byteN_two (r c : Nat) : byteN r c = tk 4 (tk 4 (r ^^^ c)) := tk_add 4 4 _

/-- The document's way, a bit at a time. -/
theorem bit_step (S q : Nat) : ((S ^^^ q) / 2 ^^^ (if q % 2 = (S ^^^ q) % 2 then 0 else polyN)) = tN S ^^^ q / 2 := by
  unfold tN
  rw [Nat.xor_div_two, Nat.xor_assoc, Nat.xor_assoc, Nat.xor_comm (q / 2)]
  congr 2
  have h := Nat.xor_mod_two_eq_one (a := S) (b := q)
  have h1 : (S ^^^ q) % 2 = 0 ∨ (S ^^^ q) % 2 = 1 := by omega
  have h2 : S % 2 = 0 ∨ S % 2 = 1 := by omega
  have h3 : q % 2 = 0 ∨ q % 2 = 1 := by omega
  rcases h1 with h1 | h1 <;> rcases h2 with h2 | h2 <;> rcases h3 with h3 | h3 <;> simp [h1, h2, h3] at h ⊢
/-- The register behind k bits of a byte. -/
def regN (r c k : Nat) : Nat := tk k (r ^^^ c) ^^^ c / 2 ^ k
theorem regN_zero (r c : Nat) : regN r c 0 = r := by
  unfold regN
  rw [Nat.pow_zero, Nat.div_one]
  exact xor_back r c
theorem regN_eight (r c : Nat) (h : c < 256) : regN r c 8 = byteN r c := by
  unfold regN byteN
  rw [show c / 2 ^ 8 = 0 by omega, Nat.xor_zero]
theorem regN_succ (r c k : Nat) : regN r c (k + 1) = (regN r c k / 2 ^^^ (if c / 2 ^ k % 2 = regN r c k % 2 then 0 else polyN)) := by
  unfold regN
  rw [tk_succ, bit_step, Nat.pow_succ, ← Nat.div_div_eq_div_mul]
theorem regN_lt (r c k : Nat) (hr : r < 4294967296) (hc : c < 256) : regN r c k < 4294967296 :=
  xor_lt32 (tk_lt k (xor_lt32 hr (by omega))) (Nat.lt_of_le_of_lt (Nat.div_le_self _ _) (by omega))

/-- Bytes that stand behind one another are told by the state. -/
theorem tN_odd {x : Nat} (h : x < 4294967296) (ho : x % 2 = 1) : 2147483648 ≤ tN x := by
  unfold tN
  rw [if_pos ho]
  refine Nat.ge_two_pow_of_testBit (i := 31) ?_
  rw [Nat.testBit_xor, Nat.testBit_lt_two_pow (show x / 2 < 2 ^ 31 by omega)]
  decide
theorem tN_small {x : Nat} (h : x < 4294967296) (hs : tN x < 2147483648) : x = 2 * tN x := by
  by_cases ho : x % 2 = 1
  · have := tN_odd h ho
    omega
  · unfold tN
    rw [if_neg ho, Nat.xor_zero]
    omega
theorem tk_small (k : Nat) : ∀ {x : Nat}, k ≤ 32 → x < 4294967296 → tk k x < 2 ^ (32 - k) → x = tk k x * 2 ^ k := by
  induction k with
  | zero => intro x _ _ _; simp [tk]
  | succ k ih =>
    intro x hk h hs
    have hp : 2 ^ (32 - k) = 2 * 2 ^ (32 - (k + 1)) := by
      rw [show 32 - k = 32 - (k + 1) + 1 by omega, Nat.pow_succ, Nat.mul_comm]
    have h1 := ih (x := tN x) (by omega) (tN_lt h) (by simp only [tk] at hs; omega)
    have hq : 2 ^ (32 - (k + 1)) * 2 ^ k = 2147483648 := by
      rw [← Nat.pow_add, show 32 - (k + 1) + k = 31 by omega]
    have h2 : tk k (tN x) * 2 ^ k < 2147483648 := by
      rw [← hq]
      exact Nat.mul_lt_mul_of_pos_right hs (Nat.pow_pos (by omega))
    have h3 := tN_small h (by omega)
    show x = tk k (tN x) * 2 ^ (k + 1)
    rw [Nat.pow_succ, ← Nat.mul_assoc, ← h1]
    omega
theorem tk_zero {k x : Nat} (hk : k ≤ 32) (h : x < 4294967296) (hz : tk k x = 0) : x = 0 := by
  have := tk_small k hk h (by rw [hz]; exact Nat.pow_pos (by omega))
  rw [hz, Nat.zero_mul] at this
  exact this

def diffL : List UInt8 → List UInt8 → Nat
  | x :: a, y :: b => (x.toNat ^^^ y.toNat) ^^^ diffL a b * 256
  | _, _ => 0
theorem diffL_lt (a : List UInt8) : ∀ b : List UInt8, diffL a b < 256 ^ a.length := by
  induction a with
  | nil => intro b; simp [diffL]
  | cons x a ih =>
    intro b
    cases b with
    | nil => simp only [diffL]; exact Nat.pow_pos (by omega)
    | cons y b =>
      simp only [diffL]
      have h := ih b
      have h1 : (256 : Nat) ^ (x :: a).length = 2 ^ (8 * (a.length + 1)) := by
        rw [List.length_cons, Nat.pow_mul]
      have hx := x.toNat_lt
      have hy := y.toNat_lt
      rw [h1]
      refine Nat.xor_lt_two_pow ?_ ?_
      · refine Nat.lt_of_lt_of_le (Nat.xor_lt_two_pow (n := 8) hx hy) (Nat.pow_le_pow_right (by omega) (by omega))
      · rw [show 8 * (a.length + 1) = 8 * a.length + 8 by omega, Nat.pow_add, Nat.pow_mul]
        exact Nat.mul_lt_mul_of_pos_right h (by decide)
theorem crc_diff (a : List UInt8) : ∀ (b : List UInt8) (r s : Nat), a.length = b.length → a.length ≤ 4 → r < 4294967296 → s < 4294967296 → crcN r a = crcN s b → r ^^^ s = diffL a b := by
  induction a with
  | nil =>
    intro b r s hl _ _ _ h
    cases b with
    | nil =>
      have : r = s := h
      rw [this, Nat.xor_self]; rfl
    | cons y b => simp at hl
  | cons x a ih =>
    intro b r s hl h4 hr hs h
    cases b with
    | nil => simp at hl
    | cons y b =>
      have hl' : a.length = b.length := by simpa using hl
      have h4' : a.length ≤ 3 := by simpa using h4
      have e := ih b (byteN r x.toNat) (byteN s y.toNat) hl' (by omega) (byteN_lt x hr) (byteN_lt y hs) h
      have hd := diffL_lt a b
      have hp : 256 ^ a.length ≤ 256 ^ 3 := Nat.pow_le_pow_right (by omega) h4'
      unfold byteN at e
      rw [← tk_xor] at e
      have hX : r ^^^ x.toNat ^^^ (s ^^^ y.toNat) < 4294967296 := xor_lt32 (xor_lt32 hr (byte_lt x)) (xor_lt32 hs (byte_lt y))
      have h2 := tk_small 8 (by omega) hX (by rw [e]; omega)
      rw [e, xor_swap] at h2
      simp only [diffL]
      have h3 : r ^^^ s = (r ^^^ s ^^^ (x.toNat ^^^ y.toNat)) ^^^ (x.toNat ^^^ y.toNat) := (xor_back _ _).symm
      rw [h3, h2, Nat.xor_comm]
theorem low_zero {a b : Nat} (ha : a < 256) (h : a ^^^ b * 256 = 0) : a = 0 ∧ b = 0 := by
  have := xor_of_zero h
  omega
theorem diff_zero (a : List UInt8) : ∀ b : List UInt8, a.length = b.length → diffL a b = 0 → a = b := by
  induction a with
  | nil => intro b hl _; cases b with | nil => rfl | cons y b => simp at hl
  | cons x a ih =>
    intro b hl h
    cases b with
    | nil => simp at hl
    | cons y b =>
      simp only [diffL] at h
      have h1 := low_zero (Nat.xor_lt_two_pow (n := 8) x.toNat_lt y.toNat_lt) h
      rw [ih b (by simpa using hl) h1.2, UInt8.toNat_inj.1 (xor_of_zero h1.1)]
theorem crc_inj (l : List UInt8) : ∀ {r s : Nat}, r < 4294967296 → s < 4294967296 → crcN r l = crcN s l → r = s := by
  induction l with
  | nil => intro r s _ _ h; exact h
  | cons c l ih =>
    intro r s hr hs h
    have h1 := ih (byteN_lt c hr) (byteN_lt c hs) h
    unfold byteN at h1
    have h2 : tk 8 ((r ^^^ c.toNat) ^^^ (s ^^^ c.toNat)) = 0 := by rw [tk_xor, h1, Nat.xor_self]
    have h3 := tk_zero (by omega) (xor_lt32 (xor_lt32 hr (byte_lt c)) (xor_lt32 hs (byte_lt c))) h2
    rw [xor_swap, Nat.xor_self, Nat.xor_zero] at h3
    exact xor_of_zero h3
/-- Texts of one length that are otherwise within four bytes alone have unlike checks. -/
theorem check_burst (p a b q : List UInt8) (hl : a.length = b.length) (h4 : a.length ≤ 4) (h : checkN (p ++ a ++ q) = checkN (p ++ b ++ q)) : a = b := by
  unfold checkN at h
  have h1 : crcN 4294967295 (p ++ a ++ q) = crcN 4294967295 (p ++ b ++ q) := by
    have := congrArg (· ^^^ 4294967295) h
    simpa only [xor_back] using this
  simp only [crcN_append] at h1
  have hp : crcN 4294967295 p < 4294967296 := crcN_lt p (by decide)
  have h2 := crc_inj q (crcN_lt a hp) (crcN_lt b hp) h1
  have h3 := crc_diff a b _ _ hl h4 hp hp h2
  rw [Nat.xor_self] at h3
  exact diff_zero a b hl h3.symm

/-- Four bytes of a number, the highest first; and back. -/
def fourL (n : Nat) : List UInt8 := [UInt8.ofNat (n / 16777216), UInt8.ofNat (n / 65536), UInt8.ofNat (n / 256), UInt8.ofNat n]
def valL (l : List UInt8) : Nat := l.foldl (fun r c => r * 256 + c.toNat) 0
theorem fourL_len (n : Nat) : (fourL n).length = 4 := rfl
theorem val_four {n : Nat} (h : n < 4294967296) : valL (fourL n) = n := by
  simp only [valL, fourL, List.foldl_cons, List.foldl_nil, UInt8.toNat_ofNat', Nat.reducePow]
  omega
theorem valL_snoc (l : List UInt8) (c : UInt8) : valL (l ++ [c]) = valL l * 256 + c.toNat := by simp [valL, List.foldl_append]
theorem valL_lt (l : List UInt8) : valL l < 256 ^ l.length := by
  suffices ∀ r, l.foldl (fun r c => r * 256 + c.toNat) r < (r + 1) * 256 ^ l.length by
    have := this 0
    simpa [valL] using this
  induction l with
  | nil => intro r; simp
  | cons c l ih =>
    intro r
    have h := ih (r * 256 + c.toNat)
    have hc := c.toNat_lt
    rw [List.foldl_cons, List.length_cons, Nat.pow_succ]
    refine Nat.lt_of_lt_of_le h ?_
    rw [Nat.mul_comm (256 ^ l.length) 256, ← Nat.mul_assoc]
    exact Nat.mul_le_mul_right _ (by omega)
theorem four_val (l : List UInt8) (h : l.length = 4) : fourL (valL l) = l := by
  match l, h with
  | [a, b, c, d], _ =>
    have ha := a.toNat_lt
    have hb := b.toNat_lt
    have hc := c.toNat_lt
    have hd := d.toNat_lt
    simp only [valL, fourL, List.foldl_cons, List.foldl_nil]
    have e : ∀ (n : Nat) (x : UInt8), n % 256 = x.toNat → UInt8.ofNat n = x := by
      intro n x hn
      apply UInt8.toNat_inj.1
      rw [UInt8.toNat_ofNat']
      exact hn
    rw [e _ a (by omega), e _ b (by omega), e _ c (by omega), e _ d (by omega)]

/-- A text's frame; what is taken of bytes (the text, the frame's size, the errno); what is scanned. -/
def frameL (l : List UInt8) : List UInt8 := fourL l.length ++ fourL (checkN (fourL l.length ++ l)) ++ l ++ [90]
def takeL (l : List UInt8) : List UInt8 × Nat × Nat :=
  if l.length < 9 then ([], 0, 10)
  else if 65536 < valL (l.take 4) then ([], 0, 3)
  else if l.length < valL (l.take 4) + 9 then ([], 0, 10)
  else if l.getD (valL (l.take 4) + 8) 0 ≠ 90 then ([], 0, 6)
  else if checkN (l.take 4 ++ (l.drop 8).take (valL (l.take 4))) ≠ valL ((l.drop 4).take 4) then ([], 0, 110)
  else ((l.drop 8).take (valL (l.take 4)), valL (l.take 4) + 9, 0)
def scanL : Nat → List UInt8 → List (List UInt8) × Nat
  | 0, _ => ([], 0)
  | m + 1, l =>
    if (takeL l).2.2 = 0 then ((takeL l).1 :: (scanL m (l.drop (takeL l).2.1)).1, (takeL l).2.1 + (scanL m (l.drop (takeL l).2.1)).2)
    else ([], 0)
theorem frameL_len (l : List UInt8) : (frameL l).length = l.length + 9 := by
  simp only [frameL, List.length_append, fourL_len, List.length_cons, List.length_nil]
  omega
theorem frame_parts (l m : List UInt8) : (frameL l ++ m).take 4 = fourL l.length ∧ ((frameL l ++ m).drop 4).take 4 = fourL (checkN (fourL l.length ++ l)) ∧ ((frameL l ++ m).drop 8).take l.length = l ∧ (frameL l ++ m).getD (l.length + 8) 0 = 90 := by
  have h4 := fourL_len l.length
  have k4 := fourL_len (checkN (fourL l.length ++ l))
  refine ⟨?_, ?_, ?_, ?_⟩
  · unfold frameL
    rw [List.append_assoc, List.append_assoc, List.append_assoc, List.take_append_of_le_length (by omega), List.take_of_length_le (by omega)]
  · unfold frameL
    rw [List.append_assoc, List.append_assoc, List.append_assoc, List.drop_append_of_le_length (by omega), List.drop_of_length_le (by omega), List.nil_append, List.take_append_of_le_length (by omega), List.take_of_length_le (by omega)]
  · unfold frameL
    generalize fourL l.length = A at *
    generalize fourL (checkN (A ++ l)) = B at *
    rw [show A ++ B ++ l ++ [90] ++ m = (A ++ B) ++ (l ++ ([90] ++ m)) by simp, List.drop_append_of_le_length (by rw [List.length_append]; omega), List.drop_of_length_le (by rw [List.length_append]; omega), List.nil_append, List.take_append_of_le_length (by omega), List.take_of_length_le (by omega)]
  · unfold frameL
    generalize fourL l.length = A at *
    generalize fourL (checkN (A ++ l)) = B at *
    rw [List.getD, List.append_assoc, List.getElem?_append_right (by simp only [List.length_append]; omega), List.length_append, List.length_append, show l.length + 8 - (A.length + B.length + l.length) = 0 by omega]
    rfl
theorem take_frame (l m : List UInt8) (h : l.length ≤ 65536) : takeL (frameL l ++ m) = (l, l.length + 9, 0) := by
  obtain ⟨h1, h2, h3, h4⟩ := frame_parts l m
  have hv : valL ((frameL l ++ m).take 4) = l.length := by rw [h1, val_four (by omega)]
  have hc : valL (((frameL l ++ m).drop 4).take 4) = checkN (fourL l.length ++ l) := by rw [h2, val_four (checkN_lt _)]
  have hl : (frameL l ++ m).length = l.length + 9 + m.length := by rw [List.length_append, frameL_len]
  unfold takeL
  rw [hv, hc, h1, h3, if_neg (by omega), if_neg (by omega), if_neg (by omega), if_neg (by rw [h4]; simp), if_neg (by simp)]
theorem takeL_size (l : List UInt8) : (takeL l).2.1 ≤ l.length ∧ ((takeL l).2.2 = 0 → 9 ≤ (takeL l).2.1 ∧ (takeL l).1.length + 9 = (takeL l).2.1) := by
  unfold takeL
  split
  · simp
  split
  · simp
  split
  · simp
  split
  · simp
  split
  · simp
  · refine ⟨?_, fun _ => ⟨?_, ?_⟩⟩
    · show valL (l.take 4) + 9 ≤ l.length
      omega
    · show 9 ≤ valL (l.take 4) + 9
      omega
    · show ((l.drop 8).take (valL (l.take 4))).length + 9 = valL (l.take 4) + 9
      rw [List.length_take, List.length_drop]
      omega
theorem scan_frames (L : List (List UInt8)) (m : List UInt8) (h : ∀ l ∈ L, l.length ≤ 65536) : scanL L.length ((L.map frameL).flatten ++ m) = (L, (L.map frameL).flatten.length) := by
  induction L with
  | nil => rfl
  | cons l L ih =>
    have e : ((l :: L).map frameL).flatten ++ m = frameL l ++ ((L.map frameL).flatten ++ m) := by simp
    have hd : (frameL l ++ ((L.map frameL).flatten ++ m)).drop (l.length + 9) = (L.map frameL).flatten ++ m := by
      rw [← frameL_len, List.drop_append_of_le_length (Nat.le_refl _), List.drop_of_length_le (Nat.le_refl _), List.nil_append]
    rw [e, List.length_cons, scanL, take_frame l _ (h l (by simp)), if_pos rfl]
    simp only []
    rw [hd, ih (fun x hx => h x (by simp [hx]))]
    simp only [List.map_cons, List.flatten_cons, List.length_append, frameL_len]
/-- Scanning in steps: what is taken, then the rest. -/
theorem scanL_size (m : Nat) : ∀ l : List UInt8, (scanL m l).2 ≤ l.length := by
  induction m with
  | zero => intro l; simp [scanL]
  | succ m ih =>
    intro l
    rw [scanL]
    have h := takeL_size l
    split
    · have := ih (l.drop (takeL l).2.1)
      rw [List.length_drop] at this
      show (takeL l).2.1 + (scanL m (l.drop (takeL l).2.1)).2 ≤ l.length
      omega
    · simp
theorem scanL_none {l : List UInt8} (m : Nat) (h : (takeL l).2.2 ≠ 0) : scanL m l = ([], 0) := by
  cases m with
  | zero => rfl
  | succ m => rw [scanL, if_neg h]

theorem take_bad {l : List UInt8} (h : ∀ n, n = valL (l.take 4) → n + 9 ≤ l.length → l.getD (n + 8) 0 ≠ 90) : (takeL l).2.2 ≠ 0 := by
  unfold takeL
  split
  · simp
  split
  · simp
  split
  · simp
  split
  · simp
  · rename_i h1 h2 h3 h4
    exact absurd (Decidable.of_not_not h4) (h _ rfl (by omega))
/-- The length that a beginning tells is no more than the true one. -/
theorem val_head (n j : Nat) (hn : n < 4294967296) (X : List UInt8) (hX : X.length = 4) (h : ∀ i, i < 4 → X.getD i 0 = if i < j then (fourL n).getD i 0 else 0) : valL X ≤ n := by
  match X, hX with
  | [a, b, c, d], _ =>
    have h0 := h 0 (by omega)
    have h1 := h 1 (by omega)
    have h2 := h 2 (by omega)
    have h3 := h 3 (by omega)
    simp only [fourL, List.getD_cons_zero, List.getD_cons_succ] at h0 h1 h2 h3
    have e : ∀ x : Nat, (UInt8.ofNat x).toNat = x % 256 := fun x => UInt8.toNat_ofNat'
    have z : (0 : UInt8).toNat = 0 := rfl
    simp only [valL, List.foldl_cons, List.foldl_nil, h0, h1, h2, h3]
    by_cases g0 : 0 < j <;> by_cases g1 : 1 < j <;> by_cases g2 : 2 < j <;> by_cases g3 : 3 < j <;> simp only [g0, g1, g2, g3, if_true, if_false, e, z] <;> omega
theorem take_torn (l T : List UInt8) (k : Nat) (hl : l.length ≤ 65536) (hk : k < l.length + 9) (hT : ∀ i, i < l.length + 9 → i < T.length → T.getD i 0 = if i < k then (frameL l).getD i 0 else 0) : (takeL T).2.2 ≠ 0 := by
  refine take_bad fun n hn hle => ?_
  have hf4 : ∀ i, i < 4 → (frameL l).getD i 0 = (fourL l.length).getD i 0 := by
    intro i hi
    unfold frameL
    rw [List.append_assoc, List.append_assoc, List.getD, List.getD, List.getElem?_append_left (by rw [fourL_len]; exact hi)]
  have hX : ∀ i, i < 4 → (T.take 4).getD i 0 = if i < k then (fourL l.length).getD i 0 else 0 := by
    intro i hi
    rw [← hf4 i hi, ← hT i (by omega) (by omega), List.getD, List.getD, List.getElem?_take, if_pos hi]
  have hv := val_head l.length k (by omega) (T.take 4) (by rw [List.length_take]; omega) hX
  rw [← hn] at hv
  rw [hT (n + 8) (by omega) (by omega)]
  by_cases h4 : 4 ≤ k
  · have hn' : n = l.length := by
      rw [hn]
      have : T.take 4 = fourL l.length := by
        apply List.ext_getElem?
        intro i
        by_cases hi : i < 4
        · have := hX i hi
          rw [if_pos (by omega), List.getD, List.getD] at this
          have a1 : i < (T.take 4).length := by rw [List.length_take]; omega
          have a2 : i < (fourL l.length).length := by rw [fourL_len]; exact hi
          rw [List.getElem?_eq_getElem a1, List.getElem?_eq_getElem a2] at this ⊢
          simpa using this
        · rw [List.getElem?_eq_none (by rw [List.length_take]; omega), List.getElem?_eq_none (by rw [fourL_len]; omega)]
      rw [this, val_four (by omega)]
    rw [if_neg (by omega)]
    decide
  · rw [if_neg (by omega)]
    decide
end Go.Proofs.YtepcfmigkhacgaaDoor.Frame
