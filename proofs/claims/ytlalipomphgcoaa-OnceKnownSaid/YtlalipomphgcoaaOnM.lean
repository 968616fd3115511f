/- once: plain mathematics of secrets, marks, bits, signatures. -/
import Derived.Test.YtlalipomphgcoaaTrA
namespace Go.Proofs.Ytlalipomphgcoaa.Once
open Go.RowKit Go.Proofs.Ytlalipomphgcoaa.Sha Go.Proofs.Ytlalipomphgcoaa.Tree

abbrev secretT : ByteArray := ⟨#[115, 101, 99, 114, 101, 116]⟩
abbrev markT : ByteArray := ⟨#[109, 97, 114, 107]⟩
abbrev onceT : ByteArray := ⟨#[111, 110, 99, 101]⟩
def secF (seed : List UInt8) (j : Nat) : List UInt8 := ofT secretT [⟨seed.toArray⟩, ⟨[UInt8.ofNat j].toArray⟩]
def markF (s : List UInt8) : List UInt8 := ofT markT [⟨s.toArray⟩]
def onceF (s : List UInt8) : List UInt8 := ofT onceT [⟨s.toArray⟩]
theorem secF_len (seed : List UInt8) (j : Nat) : (secF seed j).length = 32 := rfl
theorem markF_len (s : List UInt8) : (markF s).length = 32 := rfl
theorem onceF_len (s : List UInt8) : (onceF s).length = 32 := rfl

/-- The message's bit at a place: of its first two bytes as one number. -/
def bitF (m : List UInt8) (i : Nat) : Nat := ((m.getD 0 0).toNat * 256 + (m.getD 1 0).toNat) / 2 ^ (15 - i) % 2
theorem bitF_lt (m : List UInt8) (i : Nat) : bitF m i < 2 := Nat.mod_lt _ (by decide)
theorem bitF_byte (m : List UInt8) (i : Nat) (hi : i < 16) : bitF m i = (m.getD (i / 8) 0).toNat / 2 ^ (7 - i % 8) % 2 := by
  unfold bitF
  have h0 := (m.getD 0 0).toNat_lt
  have h1 := (m.getD 1 0).toNat_lt
  have h : i = 0 ∨ i = 1 ∨ i = 2 ∨ i = 3 ∨ i = 4 ∨ i = 5 ∨ i = 6 ∨ i = 7 ∨ i = 8 ∨ i = 9 ∨ i = 10 ∨ i = 11 ∨ i = 12 ∨ i = 13 ∨ i = 14 ∨ i = 15 := by omega
  rcases h with rfl | rfl | rfl | rfl | rfl | rfl | rfl | rfl | rfl | rfl | rfl | rfl | rfl | rfl | rfl | rfl <;> (simp only [Nat.reduceDiv, Nat.reduceMod, Nat.reduceSub, Nat.reducePow]; omega)

/-- Pairs of pieces, one behind the other. -/
def keyA (f : Nat → List UInt8 × List UInt8) : Nat → List UInt8
  | 0 => []
  | k + 1 => keyA f k ++ ((f k).1 ++ (f k).2)
theorem keyA_len (f : Nat → List UInt8 × List UInt8) (hf : ∀ i, (f i).1.length = 32 ∧ (f i).2.length = 32) (k : Nat) : (keyA f k).length = 64 * k := by
  induction k with
  | zero => rfl
  | succ k ih =>
    have := hf k
    simp only [keyA, List.length_append, ih, this.1, this.2]
    omega
theorem keyA_len_le (f : Nat → List UInt8 × List UInt8) (n : Nat) (hf : ∀ i, i < n → (f i).1.length = 32 ∧ (f i).2.length = 32) (k : Nat) (hk : k ≤ n) : (keyA f k).length = 64 * k := by
  induction k with
  | zero => rfl
  | succ k ih =>
    have := hf k (by omega)
    simp only [keyA, List.length_append, ih (by omega), this.1, this.2]
    omega
theorem keyA_congr (f g : Nat → List UInt8 × List UInt8) (n : Nat) (h : ∀ i, i < n → f i = g i) : keyA f n = keyA g n := by
  induction n with
  | zero => rfl
  | succ n ih =>
    simp only [keyA]
    rw [ih (fun i hi => h i (by omega)), h n (by omega)]
theorem keyA_first (f : Nat → List UInt8 × List UInt8) (hf : ∀ i, (f i).1.length = 32 ∧ (f i).2.length = 32) (n i : Nat) (hi : i < n) : ((keyA f n).drop (64 * i)).take 64 = (f i).1 ++ (f i).2 := by
  induction n with
  | zero => omega
  | succ n ih =>
    have hl := keyA_len f hf n
    have h2 := hf n
    simp only [keyA]
    by_cases h : i < n
    · rw [List.drop_append_of_le_length (by omega), List.take_append_of_le_length (by rw [List.length_drop]; omega)]
      exact ih h
    · obtain rfl : i = n := by omega
      rw [List.drop_append_of_le_length (by omega), List.drop_of_length_le (by omega), List.nil_append, List.take_of_length_le (by rw [List.length_append]; omega)]
/-- The two halves of a piece. -/
def halfA (sig : List UInt8) (i : Nat) : List UInt8 := (sig.drop (64 * i)).take 32
def halfB (sig : List UInt8) (i : Nat) : List UInt8 := (sig.drop (64 * i + 32)).take 32
theorem halfA_len (sig : List UInt8) (i : Nat) (hs : sig.length = 1024) (hi : i < 16) : (halfA sig i).length = 32 := by
  simp [halfA, hs]
  omega
theorem halfB_len (sig : List UInt8) (i : Nat) (hs : sig.length = 1024) (hi : i < 16) : (halfB sig i).length = 32 := by
  simp [halfB, hs]
  omega
theorem halfA_key (f : Nat → List UInt8 × List UInt8) (hf : ∀ i, (f i).1.length = 32 ∧ (f i).2.length = 32) (n i : Nat) (hi : i < n) : halfA (keyA f n) i = (f i).1 := by
  have h := keyA_first f hf n i hi
  have h1 := hf i
  have e : ((keyA f n).drop (64 * i)).take 32 = (((keyA f n).drop (64 * i)).take 64).take 32 := by rw [List.take_take, show min 32 64 = 32 from rfl]
  unfold halfA
  rw [e, h, List.take_append_of_le_length (by omega), List.take_of_length_le (by omega)]
theorem halfB_key (f : Nat → List UInt8 × List UInt8) (hf : ∀ i, (f i).1.length = 32 ∧ (f i).2.length = 32) (n i : Nat) (hi : i < n) : halfB (keyA f n) i = (f i).2 := by
  have h := keyA_first f hf n i hi
  have h1 := hf i
  have e : ((keyA f n).drop (64 * i + 32)).take 32 = (((keyA f n).drop (64 * i)).take 64).drop 32 := by rw [List.drop_take, List.drop_drop]
  unfold halfB
  rw [e, h, List.drop_append_of_le_length (by omega), List.drop_of_length_le (by omega), List.nil_append]

def pubF (seed : List UInt8) (i : Nat) : List UInt8 × List UInt8 := (markF (secF seed (2 * i)), markF (secF seed (2 * i + 1)))
def signF (seed m : List UInt8) (i : Nat) : List UInt8 × List UInt8 := (secF seed (2 * i + bitF m i), markF (secF seed (2 * i + (1 - bitF m i))))
def tellF (m sig : List UInt8) (i : Nat) : List UInt8 × List UInt8 := if bitF m i = 0 then (markF (halfA sig i), halfB sig i) else (halfB sig i, markF (halfA sig i))
def pubK (seed : List UInt8) : List UInt8 := onceF (keyA (pubF seed) 16)
def signK (seed m : List UInt8) : List UInt8 := keyA (signF seed m) 16
def tellK (m sig : List UInt8) : List UInt8 := onceF (keyA (tellF m sig) 16)
theorem pubF_len (seed : List UInt8) (i : Nat) : (pubF seed i).1.length = 32 ∧ (pubF seed i).2.length = 32 := ⟨rfl, rfl⟩
theorem signF_len (seed m : List UInt8) (i : Nat) : (signF seed m i).1.length = 32 ∧ (signF seed m i).2.length = 32 := ⟨rfl, rfl⟩
theorem signK_len (seed m : List UInt8) : (signK seed m).length = 1024 := keyA_len _ (signF_len seed m) 16
theorem tellF_len (m sig : List UInt8) (hs : sig.length = 1024) (i : Nat) (hi : i < 16) : (tellF m sig i).1.length = 32 ∧ (tellF m sig i).2.length = 32 := by
  have h1 := halfA_len sig i hs hi
  have h2 := halfB_len sig i hs hi
  unfold tellF
  split
  · exact ⟨rfl, h2⟩
  · exact ⟨h2, rfl⟩
/-- A signature tells its seed's public key. -/
theorem tell_right (seed m : List UInt8) : tellK m (signK seed m) = pubK seed := by
  unfold tellK pubK
  refine congrArg onceF (keyA_congr _ _ _ ?_)
  intro i hi
  unfold tellF
  rw [show halfA (signK seed m) i = secF seed (2 * i + bitF m i) from halfA_key _ (signF_len seed m) 16 i hi, show halfB (signK seed m) i = markF (secF seed (2 * i + (1 - bitF m i))) from halfB_key _ (signF_len seed m) 16 i hi]
  have := bitF_lt m i
  by_cases h : bitF m i = 0
  · rw [if_pos h, h]
    rfl
  · have h1 : bitF m i = 1 := by omega
    rw [if_neg h, h1]
    rfl
theorem bitF_short (a b : List UInt8) (h0 : a.getD 0 0 = b.getD 0 0) (h1 : a.getD 1 0 = b.getD 1 0) (i : Nat) : bitF a i = bitF b i := by
  unfold bitF
  rw [h0, h1]
theorem signK_short (seed a b : List UInt8) (h0 : a.getD 0 0 = b.getD 0 0) (h1 : a.getD 1 0 = b.getD 1 0) : signK seed a = signK seed b :=
  keyA_congr _ _ _ fun i _ => by unfold signF; rw [bitF_short a b h0 h1 i]
theorem tellK_short (a b sig : List UInt8) (h0 : a.getD 0 0 = b.getD 0 0) (h1 : a.getD 1 0 = b.getD 1 0) : tellK a sig = tellK b sig := by
  unfold tellK
  refine congrArg onceF (keyA_congr _ _ _ ?_)
  exact fun i _ => by unfold tellF; rw [bitF_short a b h0 h1 i]
theorem xor_bit (x y k : Nat) : (x ^^^ y) / 2 ^ k % 2 = (x / 2 ^ k % 2 + y / 2 ^ k % 2) % 2 := by
  have h := Nat.testBit_xor x y k
  simp only [Nat.testBit_eq_decide_div_mod_eq] at h
  have h1 : x / 2 ^ k % 2 < 2 := Nat.mod_lt _ (by decide)
  have h2 : y / 2 ^ k % 2 < 2 := Nat.mod_lt _ (by decide)
  have h3 : (x ^^^ y) / 2 ^ k % 2 < 2 := Nat.mod_lt _ (by decide)
  generalize x / 2 ^ k % 2 = p at *
  generalize y / 2 ^ k % 2 = q at *
  generalize (x ^^^ y) / 2 ^ k % 2 = r at *
  have hp : p = 0 ∨ p = 1 := by omega
  have hq : q = 0 ∨ q = 1 := by omega
  have hr : r = 0 ∨ r = 1 := by omega
  rcases hp with rfl | rfl <;> rcases hq with rfl | rfl <;> rcases hr with rfl | rfl <;> simp at h ⊢
/-- Where two messages' bits are alike, so are the pieces; where not, the one's secret has the other's mark. -/
theorem alike_same (seed a b : List UInt8) (i : Nat) (h : bitF a i = bitF b i) : signF seed a i = signF seed b i := by
  unfold signF
  rw [h]
theorem alike_other (seed a b : List UInt8) (i : Nat) (h : bitF a i ≠ bitF b i) : markF (signF seed a i).1 = (signF seed b i).2 ∧ markF (signF seed b i).1 = (signF seed a i).2 := by
  have h1 := bitF_lt a i
  have h2 := bitF_lt b i
  unfold signF
  have e1 : 1 - bitF b i = bitF a i := by omega
  have e2 : 1 - bitF a i = bitF b i := by omega
  rw [e1, e2]
  exact ⟨rfl, rfl⟩

end Go.Proofs.Ytlalipomphgcoaa.Once
