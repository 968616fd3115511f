/- once: plain mathematics of secrets, marks, bits, signatures; the code's sum, mark, bit, secrets, keyOf, Public; strings.Builder. -/
import Derived.Test.YtpifjeghoapjbaaTrA
import Derived.Test.YtpifjeghoapjbaaQFt
import Derived.BigQuiet
import Derived.Great.BuildSlice
import Derived.Test.YtpifjeghoapjbaaM4
import Derived.Deep.Heap
namespace Go.Proofs.Ytpifjeghoapjbaa.Once
open Go.RowKit Go.Proofs.Ytpifjeghoapjbaa.Sha Go.Proofs.Ytpifjeghoapjbaa.Tree

abbrev secretT : ByteArray := ⟨#[115, 101, 99, 114, 101, 116]⟩
abbrev markT : ByteArray := ⟨#[109, 97, 114, 107]⟩
abbrev onceT : ByteArray := ⟨#[111, 110, 99, 101]⟩
def secF (seed : List UInt8) (j : Nat) : List UInt8 := ofT secretT [⟨seed.toArray⟩, ⟨[UInt8.ofNat j].toArray⟩]
def markF (s : List UInt8) : List UInt8 := ofT markT [⟨s.toArray⟩]
def onceF (s : List UInt8) : List UInt8 := ofT onceT [⟨s.toArray⟩]
theorem secF_len (seed : List UInt8) (j : Nat) : (secF seed j).length = 32 := rfl
theorem markF_len (s : List UInt8) : (markF s).length = 32 := rfl
theorem onceF_len (s : List UInt8) : (onceF s).length = 32 := rfl

/-- The message's bit at a place: of its first two bytes as one number. -/
def bitF (m : List UInt8) (i : Nat) : Nat := ((m.getD 0 0).toNat * 256 + (m.getD 1 0).toNat) / 2 ^ (15 - i) % 2
theorem bitF_lt (m : List UInt8) (i : Nat) : bitF m i < 2 := Nat.mod_lt _ (by decide)
theorem bitF_byte (m : List UInt8) (i : Nat) (hi : i < 16) : bitF m i = (m.getD (i / 8) 0).toNat / 2 ^ (7 - i % 8) % 2 := by
  unfold bitF
  have h0 := (m.getD 0 0).toNat_lt
  have h1 := (m.getD 1 0).toNat_lt
  have h : i = 0 ∨ i = 1 ∨ i = 2 ∨ i = 3 ∨ i = 4 ∨ i = 5 ∨ i = 6 ∨ i = 7 ∨ i = 8 ∨ i = 9 ∨ i = 10 ∨ i = 11 ∨ i = 12 ∨ i = 13 ∨ i = 14 ∨ i = 15 := by omega
  rcases h with rfl | rfl | rfl | rfl | rfl | rfl | rfl | rfl | rfl | rfl | rfl | rfl | rfl | rfl | rfl | rfl <;> (simp only [Nat.reduceDiv, Nat.reduceMod, Nat.reduceSub, Nat.reducePow]; omega)

/-- Pairs of pieces, one behind the other. -/
def keyA (f : Nat → List UInt8 × List UInt8) : Nat → List UInt8
  | 0 => []
  | k + 1 => keyA f k ++ ((f k).1 ++ (f k).2)
theorem keyA_len (f : Nat → List UInt8 × List UInt8) (hf : ∀ i, (f i).1.length = 32 ∧ (f i).2.length = 32) (k : Nat) : (keyA f k).length = 64 * k := by
  induction k with
  | zero => rfl
  | succ k ih =>
    have := hf k
    simp only [keyA, List.length_append, ih, this.1, this.2]
    omega
theorem keyA_len_le (f : Nat → List UInt8 × List UInt8) (n : Nat) (hf : ∀ i, i < n → (f i).1.length = 32 ∧ (f i).2.length = 32) (k : Nat) (hk : k ≤ n) : (keyA f k).length = 64 * k := by
  induction k with
  | zero => rfl
  | succ k ih =>
    have := hf k (by omega)
    simp only [keyA, List.length_append, ih (by omega), this.1, this.2]
    omega
theorem keyA_congr (f g : Nat → List UInt8 × List UInt8) (n : Nat) (h : ∀ i, i < n → f i = g i) : keyA f n = keyA g n := by
  induction n with
  | zero => rfl
  | succ n ih =>
    simp only [keyA]
    rw [ih (fun i hi => h i (by omega)), h n (by omega)]
theorem keyA_first (f : Nat → List UInt8 × List UInt8) (hf : ∀ i, (f i).1.length = 32 ∧ (f i).2.length = 32) (n i : Nat) (hi : i < n) : ((keyA f n).drop (64 * i)).take 64 = (f i).1 ++ (f i).2 := by
  induction n with
  | zero => omega
  | succ n ih =>
    have hl := keyA_len f hf n
    have h2 := hf n
    simp only [keyA]
    by_cases h : i < n
    · rw [List.drop_append_of_le_length (by omega), List.take_append_of_le_length (by rw [List.length_drop]; omega)]
      exact ih h
    · obtain rfl : i = n := by omega
      rw [List.drop_append_of_le_length (by omega), List.drop_of_length_le (by omega), List.nil_append, List.take_of_length_le (by rw [List.length_append]; omega)]
/-- The two halves of a piece. -/
def halfA (sig : List UInt8) (i : Nat) : List UInt8 := (sig.drop (64 * i)).take 32
def halfB (sig : List UInt8) (i : Nat) : List UInt8 := (sig.drop (64 * i + 32)).take 32
theorem halfA_len (sig : List UInt8) (i : Nat) (hs : sig.length = 1024) (hi : i < 16) : (halfA sig i).length = 32 := by
  simp [halfA, hs]
  omega
theorem halfB_len (sig : List UInt8) (i : Nat) (hs : sig.length = 1024) (hi : i < 16) : (halfB sig i).length = 32 := by
  simp [halfB, hs]
  omega
theorem halfA_key (f : Nat → List UInt8 × List UInt8) (hf : ∀ i, (f i).1.length = 32 ∧ (f i).2.length = 32) (n i : Nat) (hi : i < n) : halfA (keyA f n) i = (f i).1 := by
  have h := keyA_first f hf n i hi
  have h1 := hf i
  have e : ((keyA f n).drop (64 * i)).take 32 = (((keyA f n).drop (64 * i)).take 64).take 32 := by rw [List.take_take, show min 32 64 = 32 from rfl]
  unfold halfA
  rw [e, h, List.take_append_of_le_length (by omega), List.take_of_length_le (by omega)]
theorem halfB_key (f : Nat → List UInt8 × List UInt8) (hf : ∀ i, (f i).1.length = 32 ∧ (f i).2.length = 32) (n i : Nat) (hi : i < n) : halfB (keyA f n) i = (f i).2 := by
  have h := keyA_first f hf n i hi
  have h1 := hf i
  have e : ((keyA f n).drop (64 * i + 32)).take 32 = (((keyA f n).drop (64 * i)).take 64).drop 32 := by rw [List.drop_take, List.drop_drop]
  unfold halfB
  rw [e, h, List.drop_append_of_le_length (by omega), List.drop_of_length_le (by omega), List.nil_append]

def pubF (seed : List UInt8) (i : Nat) : List UInt8 × List UInt8 := (markF (secF seed (2 * i)), markF (secF seed (2 * i + 1)))
def signF (seed m : List UInt8) (i : Nat) : List UInt8 × List UInt8 := (secF seed (2 * i + bitF m i), markF (secF seed (2 * i + (1 - bitF m i))))
def tellF (m sig : List UInt8) (i : Nat) : List UInt8 × List UInt8 := if bitF m i = 0 then (markF (halfA sig i), halfB sig i) else (halfB sig i, markF (halfA sig i))
def pubK (seed : List UInt8) : List UInt8 := onceF (keyA (pubF seed) 16)
def signK (seed m : List UInt8) : List UInt8 := keyA (signF seed m) 16
def tellK (m sig : List UInt8) : List UInt8 := onceF (keyA (tellF m sig) 16)
theorem pubF_len (seed : List UInt8) (i : Nat) : (pubF seed i).1.length = 32 ∧ (pubF seed i).2.length = 32 := ⟨rfl, rfl⟩
theorem signF_len (seed m : List UInt8) (i : Nat) : (signF seed m i).1.length = 32 ∧ (signF seed m i).2.length = 32 := ⟨rfl, rfl⟩
theorem signK_len (seed m : List UInt8) : (signK seed m).length = 1024 := keyA_len _ (signF_len seed m) 16
theorem tellF_len (m sig : List UInt8) (hs : sig.length = 1024) (i : Nat) (hi : i < 16) : (tellF m sig i).1.length = 32 ∧ (tellF m sig i).2.length = 32 := by
  have h1 := halfA_len sig i hs hi
  have h2 := halfB_len sig i hs hi
  unfold tellF
  split
  · exact ⟨rfl, h2⟩
  · exact ⟨h2, rfl⟩
/-- A signature tells its seed's public key. -/
theorem tell_right (seed m : List UInt8) : tellK m (signK seed m) = pubK seed := by
  unfold tellK pubK
  refine congrArg onceF (keyA_congr _ _ _ ?_)
  intro i hi
  unfold tellF
  rw [show halfA (signK seed m) i = secF seed (2 * i + bitF m i) from halfA_key _ (signF_len seed m) 16 i hi, show halfB (signK seed m) i = markF (secF seed (2 * i + (1 - bitF m i))) from halfB_key _ (signF_len seed m) 16 i hi]
  have := bitF_lt m i
  by_cases h : bitF m i = 0
  · rw [if_pos h, h]
    rfl
  · have h1 : bitF m i = 1 := by omega
    rw [if_neg h, h1]
    rfl
theorem bitF_short (a b : List UInt8) (h0 : a.getD 0 0 = b.getD 0 0) (h1 : a.getD 1 0 = b.getD 1 0) (i : Nat) : bitF a i = bitF b i := by
  unfold bitF
  rw [h0, h1]
theorem signK_short (seed a b : List UInt8) (h0 : a.getD 0 0 = b.getD 0 0) (h1 : a.getD 1 0 = b.getD 1 0) : signK seed a = signK seed b :=
  keyA_congr _ _ _ fun i _ => by unfold signF; rw [bitF_short a b h0 h1 i]
theorem tellK_short (a b sig : List UInt8) (h0 : a.getD 0 0 = b.getD 0 0) (h1 : a.getD 1 0 = b.getD 1 0) : tellK a sig = tellK b sig := by
  unfold tellK
  refine congrArg onceF (keyA_congr _ _ _ ?_)
  exact fun i _ => by unfold tellF; rw [bitF_short a b h0 h1 i]
theorem xor_bit (x y k : Nat) : (x ^^^ y) / 2 ^ k % 2 = (x / 2 ^ k % 2 + y / 2 ^ k % 2) % 2 := by
  have h := Nat.testBit_xor x y k
  simp only [Nat.testBit_eq_decide_div_mod_eq] at h
  have h1 : x / 2 ^ k % 2 < 2 := Nat.mod_lt _ (by decide)
  have h2 : y / 2 ^ k % 2 < 2 := Nat.mod_lt _ (by decide)
  have h3 : (x ^^^ y) / 2 ^ k % 2 < 2 := Nat.mod_lt _ (by decide)
  generalize x / 2 ^ k % 2 = p at *
  generalize y / 2 ^ k % 2 = q at *
  generalize (x ^^^ y) / 2 ^ k % 2 = r at *
  have hp : p = 0 ∨ p = 1 := by omega
  have hq : q = 0 ∨ q = 1 := by omega
  have hr : r = 0 ∨ r = 1 := by omega
  rcases hp with rfl | rfl <;> rcases hq with rfl | rfl <;> rcases hr with rfl | rfl <;> simp at h ⊢
/-- Where two messages' bits are alike, so are the pieces; where not, the one's secret has the other's mark. -/
theorem alike_same (seed a b : List UInt8) (i : Nat) (h : bitF a i = bitF b i) : signF seed a i = signF seed b i := by
  unfold signF
  rw [h]
theorem alike_other (seed a b : List UInt8) (i : Nat) (h : bitF a i ≠ bitF b i) : markF (signF seed a i).1 = (signF seed b i).2 ∧ markF (signF seed b i).1 = (signF seed a i).2 := by
  have h1 := bitF_lt a i
  have h2 := bitF_lt b i
  unfold signF
  have e1 : 1 - bitF b i = bitF a i := by omega
  have e2 : 1 - bitF a i = bitF b i := by omega
  rw [e1, e2]
  exact ⟨rfl, rfl⟩

end Go.Proofs.Ytpifjeghoapjbaa.Once

namespace Go.Proofs.Ytpifjeghoapjbaa.Once
open Go.RowKit Go.Proofs.Ytpifjeghoapjbaa.Sha Go.Proofs.Ytpifjeghoapjbaa.Tree

set_option maxRecDepth 100000 in
set_option maxHeartbeats 1600000 in
theorem code_sum1 (tag : ByteArray) (a : Option Addr) (n cap : Nat) (P : List ByteArray) (w : World) (hT : Texts w (.slice a n cap) P) (ht : tag.size ≤ 100) (hP : P.length ≤ 2) (hs : ∀ s ∈ P, s.size ≤ 100) :
    Calls Try.prog 70 #[.string tag, .slice a n cap] w fun e w' => e = .returned (.string ⟨(ofT tag P).toArray⟩) ∧ Below w.heap.size w w' := by
  have HO := Lib.hid (code_ofT tag _ P w hT ht hP hs)
  have HBY := Lib.hid (fun w => code_bytes (ofT tag P) rfl w)
  obtain ⟨C, hC⟩ : ∃ C, (valsB (ofT tag P)).toArray = C := ⟨_, rfl⟩
  rw [hC] at HO HBY
  obtain ⟨S, hS⟩ : ∃ S : ByteArray, (⟨(ofT tag P).toArray⟩ : ByteArray) = S := ⟨_, rfl⟩
  rw [hS] at HBY
  rw [hS]
  clear hC hS hT
  go_enter Try.func70, Try.ntmps70
  go_wp2_with fail
  refine HO.out.mono ?_
  rintro e w1 ⟨rfl, hb1⟩
  have HB1 := Lib.hid hb1
  clear hb1
  go_wp2_with fail
  refine (HBY.out _).mono ?_
  rintro e w2 ⟨rfl, hb2⟩
  have HB2 := Lib.hid (HB1.out.trans (hb2.mono HB1.out.size))
  clear hb2
  go_wp2_with fail
  go_ret
  exact ⟨rfl, HB2.out⟩

set_option maxRecDepth 100000 in
set_option maxHeartbeats 1600000 in
theorem code_mark (s : List UInt8) (hs : s.length = 32) (w : World) :
    Calls Try.prog 57 #[.string ⟨s.toArray⟩] w fun e w' => e = .returned (.string ⟨(markF s).toArray⟩) ∧ Below w.heap.size w w' := by
  have HO := Lib.hid (fun (w : World) => code_sum1 markT (some ⟨w.heap.size, 0, none⟩) 1 1 [⟨s.toArray⟩] _ (texts_one w ⟨s.toArray⟩) (by decide) (by simp) (by simp [size_of s 32 hs]))
  obtain ⟨S, hS⟩ : ∃ S : ByteArray, (⟨s.toArray⟩ : ByteArray) = S := ⟨_, rfl⟩
  obtain ⟨R, hR⟩ : ∃ R : ByteArray, (⟨(markF s).toArray⟩ : ByteArray) = R := ⟨_, rfl⟩
  simp only [hS] at HO
  rw [show (⟨(ofT markT [S]).toArray⟩ : ByteArray) = R by rw [← hR, ← hS]; rfl] at HO
  rw [hS, hR]
  clear hS hR hs
  go_enter Try.func57, Try.ntmps57
  go_wp2_with fail
  refine (HO.out _).mono ?_
  rintro e w1 ⟨rfl, hb1⟩
  have HB1 := Lib.hid ((((Below.refl _ _).alloc (Nat.le_refl _) _).trans (hb1.mono (by simp)) : Below w.heap.size w w1))
  clear hb1
  go_wp2_with fail
  go_ret
  exact ⟨rfl, HB1.out⟩

set_option maxRecDepth 100000 in
set_option maxHeartbeats 1600000 in
theorem code_bit (m : List UInt8) (hm : m.length = 32) (i : Nat) (hi : i < 16) (w : World) :
    Calls Try.prog 56 #[.agg (valsB m).toArray, .int .i64 i] w fun e w' => e = .returned (.int .i64 (bitF m i)) ∧ Below w.heap.size w w' := by
  have hb := bitF_byte m i hi
  obtain ⟨q, hq⟩ : ∃ q, i / 8 = q := ⟨_, rfl⟩
  obtain ⟨r, hr⟩ : ∃ r, i % 8 = r := ⟨_, rfl⟩
  obtain ⟨s, hs⟩ : ∃ s, 7 - r = s := ⟨_, rfl⟩
  rw [hq, hr, hs] at hb
  have hg : m[q]? = some (m.getD q 0) := by
    rw [List.getD_eq_getElem?_getD, List.getElem?_eq_getElem (by omega)]
    rfl
  have hc := valsB_get m q _ hg
  obtain ⟨b, hbb⟩ : ∃ b, (m.getD q 0).toNat = b := ⟨_, rfl⟩
  have hb8 : b < 256 := by rw [← hbb]; exact UInt8.toNat_lt _
  rw [hbb] at hb hc
  obtain ⟨x, hx⟩ : ∃ x, bitF m i = x := ⟨_, rfl⟩
  rw [hx] at hb
  rw [hx]
  obtain ⟨C, hC⟩ : ∃ C, (valsB m).toArray = C := ⟨_, rfl⟩
  rw [hC] at hc
  rw [hC]
  have hqi : (i : Int) / 8 = (q : Int) := by omega
  have hri : (i : Int) % 8 = (r : Int) := by omega
  have hsi : (7 : Int) - (r : Int) = (s : Int) := by omega
  have hq0 : (0 : Int) ≤ (q : Int) := by omega
  have hq32 : (q : Int) < 32 := by omega
  have hs8 : s < 8 := by omega
  have hs0 : (0 : Int) ≤ (s : Int) := by omega
  have HI := Lib.hid hi
  clear hg hC hx hbb hq hr hs hi
  go_enter Try.func56, Try.ntmps56
  go_wp2_with fail
  have hv : wrap64 (bits BinOp.and IntKind.u8 ((b : Int) / 2 ^ s) 1) = (x : Int) := by
    have h1 : ((b : Int) / 2 ^ s) = ((b / 2 ^ s : Nat) : Int) := by simp
    have h2 : b / 2 ^ s ≤ b := Nat.div_le_self _ _
    have h3 := u8_and_nat (b / 2 ^ s) 1 (by omega) (by omega)
    rw [nat_mask1, ← hb] at h3
    rw [h1]
    have hx2 : x < 2 := by rw [hb]; exact Nat.mod_lt _ (by decide)
    rw [show ((1 : Nat) : Int) = 1 from rfl] at h3
    rw [h3]
    unfold wrap64
    omega
  go_ret
  exact ⟨congrArg (fun z => Ending.returned (Value.int .i64 z)) hv, (Below.refl _ _).alloc (Nat.le_refl _) _⟩

end Go.Proofs.Ytpifjeghoapjbaa.Once

namespace Go.Proofs.Ytpifjeghoapjbaa.Once
open Go.RowKit Go.Proofs.Ytpifjeghoapjbaa.Sha Go.Proofs.Ytpifjeghoapjbaa.Tree

theorem one_cells (v : Value) (h : v.oneCell' = true) : v.cells = #[v] := by cases v <;> first | rfl | cases h

/-- A slice built of one value, of two, each of one cell. -/
theorem wp_slice1 {P : Program} {o : Oper} {a : Act} {w : World} {K : Act → World → Prop} {Q : Exit → Act → World → Prop} (t e : TypeId) (x : Operand) (ho : o.op = .buildSlice t 1 #[(0, x)])
    (z : Value) (hu : P.underlying t = some (.slice e)) (hie : (P.info? e).map (fun i => (i.zero, i.size)) = some (some z, 1)) (v : Value) (hx : a.eval x = v) (h1 : v.oneCell' = true)
    (h : K (a.put o.dst (.slice (some ⟨w.heap.size, 0, none⟩) 1 1)) (w.alloc (.cells #[v] e))) : o.wp P a w K Q := by
  obtain ⟨ie, hi, hq⟩ := Option.map_eq_some_iff.1 hie
  simp only [Prod.mk.injEq] at hq
  have hc := one_cells v h1
  refine wp_buildSlice t e 1 #[(0, x)] ho #[v] ie z hu hi hq.1 (by rw [hq.2]; decide) (by rw [hq.2]; decide) ?_ h
  rw [hq.2]
  have hf := Great.fill_whole (s := 1) (by omega) [v] ((Array.range (1 * 1)).map (z.cells[· % z.cells.size]!)) (fun y hy => by simp at hy; subst hy; rw [hc]; rfl) (by simp)
  simpa [hx, hc] using hf
theorem wp_slice2 {P : Program} {o : Oper} {a : Act} {w : World} {K : Act → World → Prop} {Q : Exit → Act → World → Prop} (t e : TypeId) (x y : Operand) (ho : o.op = .buildSlice t 2 #[(0, x), (1, y)])
    (z : Value) (hu : P.underlying t = some (.slice e)) (hie : (P.info? e).map (fun i => (i.zero, i.size)) = some (some z, 1)) (v u : Value) (hx : a.eval x = v) (hy : a.eval y = u) (h1 : v.oneCell' = true) (h2 : u.oneCell' = true)
    (h : K (a.put o.dst (.slice (some ⟨w.heap.size, 0, none⟩) 2 2)) (w.alloc (.cells #[v, u] e))) : o.wp P a w K Q := by
  obtain ⟨ie, hi, hq⟩ := Option.map_eq_some_iff.1 hie
  simp only [Prod.mk.injEq] at hq
  have hc := one_cells v h1
  have hd := one_cells u h2
  refine wp_buildSlice t e 2 #[(0, x), (1, y)] ho #[v, u] ie z hu hi hq.1 (by rw [hq.2]; decide) (by rw [hq.2]; decide) ?_ h
  rw [hq.2]
  have hf := Great.fill_whole (s := 1) (by omega) [v, u] ((Array.range (2 * 1)).map (z.cells[· % z.cells.size]!)) (fun y hy => by simp at hy; rcases hy with rfl | rfl <;> simp [hc, hd]) (by simp)
  simpa [hx, hy, hc, hd] using hf

/-- What an operation leaves. -/
inductive Fact where
  | val (v : Value)
  | cell (x : Value)
  | texts (P : List ByteArray)
  | fresh (lo : Nat) (c : Array Value) (t : TypeId)
def Fact.holds : Fact → Value → World → Prop
  | .val v0, v, _ => v = v0
  | .cell x, v, w => ∃ g, v = .slice (some ⟨g, 0, none⟩) 1 1 ∧ w.cell? ⟨g, 0, none⟩ = some x
  | .texts P, v, w => ∃ g, v = .slice (some ⟨g, 0, none⟩) P.length P.length ∧ Texts w (.slice (some ⟨g, 0, none⟩) P.length P.length) P
  | .fresh lo c t, v, w => ∃ g, v = .pointer (some ⟨g, 0, none⟩) ∧ lo ≤ g ∧ w.heap[g]? = some (.cells c t (0, 0))
theorem Fact.kept (f : Fact) (v : Value) (w w' : World) (h : f.holds v w) (hb : Below w.heap.size w w') : f.holds v w' := by
  cases f with
  | val v0 => exact h
  | cell x =>
    obtain ⟨g, hv, hc⟩ := h
    exact ⟨g, hv, (hb.cell (World.block_lt_of_cell? _ _ hc)).trans hc⟩
  | texts P =>
    obtain ⟨g, hv, hr⟩ := h
    exact ⟨g, hv, hr.kept hb⟩
  | fresh lo c t =>
    obtain ⟨g, hv, hl, hr⟩ := h
    exact ⟨g, hv, hl, (hb.block g ((Array.getElem?_eq_some_iff.1 hr).1)).trans hr⟩
theorem wp_runTo {P : Program} {o : Oper} {a : Act} {w : World} {K : Act → World → Prop} {Q : Exit → Act → World → Prop} (v : Value) (w' : World) (h : (execOp a.eval o).run P w = .ok (.value v) w') (hk : K (a.put o.dst v) w') : o.wp P a w K Q := by
  unfold Oper.wp
  rw [h]
  exact hk

theorem infoS : (Try.prog.info? 9).map (fun i => (i.zero, i.size)) = some (some (.string ⟨#[]⟩), 1) := by kernel_rfl
theorem infoU : (Try.prog.info? 5).map (fun i => (i.zero, i.size)) = some (some (.int .u8 0), 1) := by kernel_rfl
theorem info77 : (Try.prog.info? 75).map (·.size) = some 2 := by kernel_rfl

theorem conv_one (w : World) (g : Nat) (j : Nat) (hj : j < 256) (h : w.cell? ⟨g, 0, none⟩ = some (.int .u8 j)) :
    (convert 56 9 (.slice (some ⟨g, 0, none⟩) 1 1)).run Try.prog w = .ok (.string ⟨[UInt8.ofNat j].toArray⟩) w :=
  conv_bytes w g 1 1 [UInt8.ofNat j] rfl fun i b hb => by
    match i, hb with
    | 0, hb =>
      simp at hb
      subst hb
      rw [h, UInt8.toNat_ofNat', Nat.mod_eq_of_lt hj]
    | i + 1, hb => simp at hb

def secRow (S0 S1 : ByteArray) (k : Nat) : Array Value := #[.string (if 0 < k then S0 else ⟨#[]⟩), .string (if 1 < k then S1 else ⟨#[]⟩)]
theorem secRow_set (S0 S1 R : ByteArray) (k : Nat) (hk : k < 2) (h : R = if k = 0 then S0 else S1) : (secRow S0 S1 k).setIfInBounds k (.string R) = secRow S0 S1 (k + 1) := by
  have : k = 0 ∨ k = 1 := by omega
  rcases this with rfl | rfl <;> (subst h; rfl)

set_option maxRecDepth 100000 in
set_option maxHeartbeats 1600000 in
theorem code_secrets (seed : List UInt8) (hs : seed.length = 32) (i : Nat) (hi : i < 16) (w : World) :
    Calls Try.prog 55 #[.agg (valsB seed).toArray, .int .i64 i] w fun e w' => e = .returned (.agg #[.string ⟨(secF seed (2 * i)).toArray⟩, .string ⟨(secF seed (2 * i + 1)).toArray⟩]) ∧ Below w.heap.size w w' := by
  have HBY := Lib.hid (fun w => code_bytes seed hs w)
  have HSUM := Lib.hid (fun (g : Nat) (j : Nat) (w : World) (h : Texts w (.slice (some ⟨g, 0, none⟩) 2 2) [⟨seed.toArray⟩, ⟨[UInt8.ofNat j].toArray⟩]) => code_sum1 secretT (some ⟨g, 0, none⟩) 2 2 [⟨seed.toArray⟩, ⟨[UInt8.ofNat j].toArray⟩] w h (by decide) (by simp) (by simp [size_of seed 32 hs, size_of [UInt8.ofNat j] 1 rfl]))
  have HRC := Lib.hid (row32 seed hs)
  obtain ⟨C, hC⟩ : ∃ C, (valsB seed).toArray = C := ⟨_, rfl⟩
  rw [hC] at HBY HRC
  rw [hC]
  obtain ⟨S, hS⟩ : ∃ S : ByteArray, (⟨seed.toArray⟩ : ByteArray) = S := ⟨_, rfl⟩
  rw [hS] at HBY
  simp only [hS] at HSUM
  obtain ⟨S0, hS0⟩ : ∃ S0 : ByteArray, (⟨(secF seed (2 * i)).toArray⟩ : ByteArray) = S0 := ⟨_, rfl⟩
  obtain ⟨S1, hS1⟩ : ∃ S1 : ByteArray, (⟨(secF seed (2 * i + 1)).toArray⟩ : ByteArray) = S1 := ⟨_, rfl⟩
  have HSEC := Lib.hid (fun (k : Nat) (hk : k < 2) => (show (⟨(ofT secretT [S, ⟨[UInt8.ofNat (2 * i + k)].toArray⟩]).toArray⟩ : ByteArray) = if k = 0 then S0 else S1 by
    have : k = 0 ∨ k = 1 := by omega
    rcases this with rfl | rfl
    · rw [if_pos rfl, ← hS0, ← hS]; rfl
    · rw [if_neg (by decide), ← hS1, ← hS]; rfl))
  rw [hS0, hS1]
  clear hC hS hS0 hS1
  go_enter Try.func55, Try.ntmps55
  go_upto_region 1 with (fail)
  have hs0 : ((w.alloc (.cells C 23)).alloc (.cells (secRow S0 S1 0) 75)).heap.size = w.heap.size + 2 := by simp
  have HG0 := Lib.hid (heap_alloc2_old w (.cells C 23) (.cells (secRow S0 S1 0) 75))
  have HG1 := Lib.hid (heap_alloc2_new w (.cells C 23) (.cells (secRow S0 S1 0) 75))
  have HBW := Lib.hid (show Below w.heap.size w ((w.alloc (.cells C 23)).alloc (.cells (secRow S0 S1 0) 75)) from ((Below.refl _ _).alloc (Nat.le_refl _) _).alloc (by simp) _)
  have HS0 := Lib.hid hs0
  clear hs0
  have e0 : (w.alloc (.cells C 23)).alloc (.cells #[.string ⟨#[]⟩, .string ⟨#[]⟩] 75) = (w.alloc (.cells C 23)).alloc (.cells (secRow S0 S1 0) 75) := rfl
  rw [e0]
  clear e0
  generalize (w.alloc (.cells C 23)).alloc (.cells (secRow S0 S1 0) 75) = W at HG0 HG1 HBW HS0 ⊢
  obtain ⟨g0, hg0⟩ : ∃ g, w.heap.size = g := ⟨_, rfl⟩
  obtain ⟨g1, hg1⟩ : ∃ g, g0 + 1 = g := ⟨_, rfl⟩
  rw [hg0] at HG0 HG1 HBW HS0
  rw [hg1] at HG1
  rw [hg0, hg1]
  have HGE := Lib.hid (show g0 < g1 ∧ g1 < W.heap.size by rw [HS0.out]; omega)
  have HW0 := Lib.hid hg0
  clear hg0 hg1 HS0
  go_wp2_with fail
  go_loopw [6] (fun iv wr => ∃ k : Nat, k ≤ 2 ∧ iv = .int .i64 k ∧ wr.heap[g0]? = some (.cells C 23 (0, 0)) ∧ wr.heap[g1]? = some (.cells (secRow S0 S1 k) 75 (0, 0)) ∧ Below g0 w wr ∧ g1 < wr.heap.size) (fun iv _ => 2 - (intOf iv).toNat)
  case atStart => exact ⟨0, by omega, rfl, HG0.out, HG1.out, HBW.out, HGE.out.2⟩
  case round =>
    obtain ⟨k, hk, rfl, hc0, hc1, hbel, hlt⟩ := hrel
    have H0 := Lib.hid hc0
    have H1 := Lib.hid hc1
    have HBEL := Lib.hid hbel
    have HLT := Lib.hid hlt
    clear hc0 hc1 hbel hlt
    by_cases hk2 : k < 2
    · obtain ⟨j, hj⟩ : ∃ j, 2 * i + k = j := ⟨_, rfl⟩
      have hj32 : j < 32 := by omega
      have HR := HSEC.out k hk2
      rw [hj] at HR
      have HSJ := Lib.hid (fun g w h => HSUM.out g j w h)
      have HCV := Lib.hid (fun w g h => conv_one w g j (by omega) h)
      obtain ⟨J, hJ⟩ : ∃ J : ByteArray, (⟨[UInt8.ofNat j].toArray⟩ : ByteArray) = J := ⟨_, rfl⟩
      simp only [hJ] at HSJ HCV
      rw [hJ] at HR
      obtain ⟨R, hR⟩ : ∃ R : ByteArray, (⟨(ofT secretT [S, J]).toArray⟩ : ByteArray) = R := ⟨_, rfl⟩
      simp only [hR] at HSJ
      rw [hR] at HR
      have HROW := Lib.hid (secRow_set S0 S1 R k hk2 HR)
      have hji : (2 : Int) * (i : Int) + (k : Int) = (j : Int) := by omega
      have hk0 : (0 : Int) ≤ (k : Int) := by omega
      have hki : (k : Int) < 2 := by omega
      have hw8 : IntKind.u8.wrap (j : Int) = (j : Int) := by unfold IntKind.wrap; simp [IntKind.bits, IntKind.signed]; omega
      have hwj : IntKind.i64.wrap (j : Int) = (j : Int) := by unfold IntKind.wrap; simp [IntKind.bits, IntKind.signed]; omega
      clear hJ hR HR hj
      obtain ⟨i2, hi2⟩ : ∃ x, 2 * i = x := ⟨_, rfl⟩
      have hi2i : (2 : Int) * (i : Int) = (i2 : Int) := by omega
      have hij : (i2 : Int) + (k : Int) = (j : Int) := by omega
      have hw2 : IntKind.i64.wrap (i2 : Int) = (i2 : Int) := by unfold IntKind.wrap; simp [IntKind.bits, IntKind.signed]; omega
      clear hi2
      go_wp2_with fail
      refine QT.wp_region_facts_tail 12 (by kernel_rfl) (fun w' => Below wr.heap.size wr w') (fun n v w' => (([.val (.int .i64 k), .val (.agg C), .val (.string S), .val (.int .i64 i), .val (.int .i64 i2), .val (.int .i64 k), .val (.int .i64 j), .val (.int .u8 j), .cell (.int .u8 j), .val (.string J), .texts [S, J], .val (.string R)] : List Fact).getD n (.val undef) : Fact).holds v w') (by kernel_rfl) (by kernel_rfl) (Below.refl _ _).drew (fun w1 w2 h1 hb => h1.trans (hb.mono h1.size)) (fun n v w1 w2 h hb => Fact.kept _ v w1 w2 h hb) (fun n o hn ho a w hI hag hdep => ?_) (fun a wz hI hag hf => ?_)
      · have t1 : a.eval (.tmp 1) = .int .i64 i := hag.old 1 _ (by kernel_rfl) rfl
        have t2 : a.eval (.tmp 2) = .pointer (some ⟨g0, 0, none⟩) := hag.old 2 _ (by kernel_rfl) rfl
        have t5 : a.eval (.tmp 5) = .int .i64 k := hag.old 5 _ (by kernel_rfl) rfl
        match n, ho with
        | 0, ho =>
          obtain rfl := (Option.some.inj ho).symm
          exact ⟨rfl, QT.wp_value (BigFrame.run_move (.tmp 5) rfl w) ⟨_, rfl, t5, Below.refl _ _⟩⟩
        | 1, ho =>
          obtain rfl := (Option.some.inj ho).symm
          exact ⟨rfl, wp_load_row 23 (.tmp 2) rfl g0 t2 23 C (0, 0) _ ((hI.block g0 (Nat.lt_trans HGE.out.1 HLT.out)).trans H0.out) Try.underlying23 rfl HRC.out.info ⟨_, rfl, rfl, Below.refl _ _⟩⟩
        | 2, ho =>
          obtain rfl := (Option.some.inj ho).symm
          have d : a.eval (.tmp 10) = .agg C := hdep _ (Array.mem_of_getElem? (i := 0) rfl) rfl _ _ rfl rfl
          exact ⟨rfl, QT.wp_enter (f := 36) (args := #[.agg C]) (by simp [go_sem, QT.nf d]) (HBY.out w) fun w' hb => ⟨_, rfl, rfl, hb⟩⟩
        | 3, ho =>
          obtain rfl := (Option.some.inj ho).symm
          exact ⟨rfl, QT.wp_value (BigFrame.run_move (.tmp 1) rfl w) ⟨_, rfl, t1, Below.refl _ _⟩⟩
        | 4, ho =>
          obtain rfl := (Option.some.inj ho).symm
          have d : a.eval (.tmp 12) = .int .i64 i := hdep _ (Array.mem_of_getElem? (i := 0) rfl) rfl _ _ rfl rfl
          exact ⟨rfl, QT.wp_value (v := .int .i64 i2) (by simp [go_sem, QT.nf d, hi2i, hw2]) ⟨_, rfl, rfl, Below.refl _ _⟩⟩
        | 5, ho =>
          obtain rfl := (Option.some.inj ho).symm
          exact ⟨rfl, QT.wp_value (BigFrame.run_move (.tmp 5) rfl w) ⟨_, rfl, t5, Below.refl _ _⟩⟩
        | 6, ho =>
          obtain rfl := (Option.some.inj ho).symm
          have d : a.eval (.tmp 13) = .int .i64 i2 := hdep _ (Array.mem_of_getElem? (i := 0) rfl) rfl _ _ rfl rfl
          have d2 : a.eval (.tmp 14) = .int .i64 k := hdep _ (Array.mem_of_getElem? (i := 1) rfl) rfl _ _ rfl rfl
          exact ⟨rfl, QT.wp_value (v := .int .i64 j) (by simp [go_sem, QT.nf d, QT.nf d2, hij, hwj]) ⟨_, rfl, rfl, Below.refl _ _⟩⟩
        | 7, ho =>
          obtain rfl := (Option.some.inj ho).symm
          have d : a.eval (.tmp 15) = .int .i64 j := hdep _ (Array.mem_of_getElem? (i := 0) rfl) rfl _ _ rfl rfl
          exact ⟨rfl, QT.wp_value (v := .int .u8 j) (by simp [go_sem, QT.nf d, hw8]) ⟨_, rfl, rfl, Below.refl _ _⟩⟩
        | 8, ho =>
          obtain rfl := (Option.some.inj ho).symm
          have d : a.eval (.tmp 16) = .int .u8 j := hdep _ (Array.mem_of_getElem? (i := 0) rfl) rfl _ _ rfl rfl
          exact ⟨rfl, wp_slice1 56 5 (.tmp 16) rfl _ Try.underlying56 infoU _ d rfl ⟨_, rfl, ⟨_, rfl, by simp⟩, (Below.refl _ _).alloc (Nat.le_refl _) _⟩⟩
        | 9, ho =>
          obtain rfl := (Option.some.inj ho).symm
          obtain ⟨g, d, hc⟩ : ∃ g, a.eval (.tmp 17) = .slice (some ⟨g, 0, none⟩) 1 1 ∧ w.cell? ⟨g, 0, none⟩ = some (.int .u8 j) := hdep _ (Array.mem_of_getElem? (i := 0) rfl) rfl _ _ rfl rfl
          exact ⟨rfl, QT.wp_value (v := .string J) (by have := HCV.out w g hc; simp [go_sem, QT.nf d, this]) ⟨_, rfl, rfl, Below.refl _ _⟩⟩
        | 10, ho =>
          obtain rfl := (Option.some.inj ho).symm
          have d : a.eval (.tmp 11) = .string S := hdep _ (Array.mem_of_getElem? (i := 0) rfl) rfl _ _ rfl rfl
          have d2 : a.eval (.tmp 18) = .string J := hdep _ (Array.mem_of_getElem? (i := 1) rfl) rfl _ _ rfl rfl
          exact ⟨rfl, wp_slice2 74 9 (.tmp 11) (.tmp 18) rfl _ Try.underlying74 infoS _ _ d d2 rfl rfl ⟨_, rfl, ⟨_, rfl, texts_two w S J⟩, (Below.refl _ _).alloc (Nat.le_refl _) _⟩⟩
        | 11, ho =>
          obtain rfl := (Option.some.inj ho).symm
          obtain ⟨g, d, hT⟩ : ∃ g, a.eval (.tmp 19) = .slice (some ⟨g, 0, none⟩) 2 2 ∧ Texts w (.slice (some ⟨g, 0, none⟩) 2 2) [S, J] := hdep _ (Array.mem_of_getElem? (i := 0) rfl) rfl _ _ rfl rfl
          exact ⟨rfl, QT.wp_enter (f := 70) (args := #[.string secretT, .slice (some ⟨g, 0, none⟩) 2 2]) (by simp [go_sem, QT.nf d]) (HSJ.out g w hT) fun w' hb => ⟨_, rfl, rfl, hb⟩⟩
        | n + 12, ho => omega
      · obtain ⟨gu, f8, _⟩ : ∃ g, a.eval (.tmp 17) = .slice (some ⟨g, 0, none⟩) 1 1 ∧ wz.cell? ⟨g, 0, none⟩ = some (.int .u8 j) := hf 8 _ _ (by omega) rfl rfl
        obtain ⟨gt, f10, _⟩ : ∃ g, a.eval (.tmp 19) = .slice (some ⟨g, 0, none⟩) 2 2 ∧ Texts wz (.slice (some ⟨g, 0, none⟩) 2 2) [S, J] := hf 10 _ _ (by omega) rfl rfl
        have f0 : a.eval (.tmp 9) = .int .i64 k := hf 0 _ _ (by omega) rfl rfl
        have f1 : a.eval (.tmp 10) = .agg C := hf 1 _ _ (by omega) rfl rfl
        have f2 : a.eval (.tmp 11) = .string S := hf 2 _ _ (by omega) rfl rfl
        have f3 : a.eval (.tmp 12) = .int .i64 i := hf 3 _ _ (by omega) rfl rfl
        have f4 : a.eval (.tmp 13) = .int .i64 i2 := hf 4 _ _ (by omega) rfl rfl
        have f5 : a.eval (.tmp 14) = .int .i64 k := hf 5 _ _ (by omega) rfl rfl
        have f6 : a.eval (.tmp 15) = .int .i64 j := hf 6 _ _ (by omega) rfl rfl
        have f7 : a.eval (.tmp 16) = .int .u8 j := hf 7 _ _ (by omega) rfl rfl
        have f9 : a.eval (.tmp 18) = .string J := hf 9 _ _ (by omega) rfl rfl
        have f11 : a.eval (.tmp 20) = .string R := hf 11 _ _ (by omega) rfl rfl
        have ha := hag.puts [(9, .int .i64 k), (10, .agg C), (11, .string S), (12, .int .i64 i), (13, .int .i64 i2), (14, .int .i64 k), (15, .int .i64 j), (16, .int .u8 j), (17, .slice (some ⟨gu, 0, none⟩) 1 1), (18, .string J), (19, .slice (some ⟨gt, 0, none⟩) 2 2), (20, .string R)] rfl (by simp) (by simp only [List.forall_mem_cons, List.not_mem_nil, false_implies, implies_true, and_true]; exact ⟨f0, f1, f2, f3, f4, f5, f6, f7, f8, f9, f10, f11⟩)
        subst ha
        clear hag hf f0 f1 f2 f3 f4 f5 f6 f7 f8 f9 f10 f11
        simp only [List.foldl_cons, List.foldl_nil, Act.put]
        have hz1 := (hI.block g1 HLT.out).trans H1.out
        have hz0 := (hI.block g0 (Nat.lt_trans HGE.out.1 HLT.out)).trans H0.out
        obtain ⟨old, hold⟩ : ∃ v, (secRow S0 S1 k)[k]? = some v := by
          have : k = 0 ∨ k = 1 := by omega
          rcases this with rfl | rfl <;> exact ⟨_, rfl⟩
        have hzc : wz.cell? ⟨g1, k, none⟩ = some old := by rw [Lib.cell_of_heap hz1]; exact hold
        have hzf : wz.frozen? ⟨g1, k, none⟩ = false := Lib.frozen_of_heap hz1 k
        have HSET := Lib.hid (setCell_eq_setRow wz g1 k _ _ _ (.string R) hz1)
        rw [HROW.out] at HSET
        have HZ0 := Lib.hid hz0
        have HZ1 := Lib.hid hz1
        have HI := Lib.hid hI
        have HZS := Lib.hid (Nat.lt_of_lt_of_le HLT.out hI.size)
        clear hz0 hz1 hold hI
        go_wp2_with fail
        go_roundw
        case rel =>
          refine ⟨k + 1, by omega, by go_num, ?_, ?_, (HBEL.out.trans (HI.out.mono (Nat.le_of_lt (Nat.lt_trans HGE.out.1 HLT.out)))).setCell (p := ⟨g1, k, none⟩) (Nat.le_of_lt HGE.out.1) _, ?_⟩
          · rw [HSET.out, setRow_other _ _ _ _ (Nat.ne_of_lt HGE.out.1)]
            exact HZ0.out
          · rw [HSET.out]
            exact setRow_heap _ _ _ _ _ _ HZ1.out
          · rw [HSET.out, setRow_size]
            exact HZS.out
        case measure => simp [intOf]; omega
    · obtain rfl : k = 2 := by omega
      obtain ⟨D, hD⟩ : ∃ D, secRow S0 S1 2 = D := ⟨_, rfl⟩
      have HD := Lib.hid (show D = #[.string S0, .string S1] by rw [← hD]; rfl)
      have HDS := Lib.hid (show D.size = 2 by rw [HD.out]; rfl)
      have HDA := Lib.hid (show D.all (·.oneCell') = true by rw [HD.out]; simp [Value.oneCell'])
      have HDI := Lib.hid (show (Try.prog.info? 75).map (·.size) = some D.size by rw [HDS.out]; exact info77)
      rw [hD] at H1
      have HSELF := Lib.hid (setRow_self wr g1 D 75 (0, 0) H1.out)
      clear hD
      go_wp2_with (first
        | (refine wpList_load_row rfl 75 (.tmp 4) rfl g1 rfl 75 D (0, 0) _ H1.out Try.underlying75 rfl HDI.out ?_)
        | (refine wpList_store_row rfl 75 (.tmp 4) (.tmp 23) rfl g1 D rfl rfl 75 D H1.out HDI.out rfl HDA.out ?_; rw [HSELF.out]))
      refine bodyPost_ret (results_cell_row (p := 4) (ty := 75) Try.results55 _ _ g1 75 D (0, 0) _ rfl H1.out Try.underlying75 rfl HDI.out) rfl ⟨by rw [HD.out], HBEL.out.mono (Nat.le_of_eq HW0.out)⟩

end Go.Proofs.Ytpifjeghoapjbaa.Once

namespace Go.Proofs.Ytpifjeghoapjbaa.Bld
open Go.RowKit Go.Proofs.Ytpifjeghoapjbaa.Sha

/-- The builder's bytes don't stand in the block k. -/
def Apart (b k : Nat) (w : World) : Prop := ∀ p v fr, w.heap[b]? = some (.cells #[p, v] 58 fr) → v.ownBlock ≠ some k
theorem apart_new {B b : Nat} {bs : List Value} {w w' : World} {k : Nat} (h : Lib.IsBuilder 58 5 B b bs w) (hk : w.heap.size ≤ k) (hw : w'.heap[b]? = w.heap[b]?) : Apart b k w' := by
  have one : ∀ q, Lib.BuilderAt 58 5 B b q bs w → Apart b k w' := by
    intro q hq p v fr hv e
    obtain ⟨_, u, hbk, hown, _⟩ := hq
    rw [hw, hbk] at hv
    cases hv
    have := (hown.lt k e).2
    omega
  rcases h with h | h
  · exact one _ h
  · exact one _ h

theorem check_keep (B b : Nat) (bs : List Value) (w : World) (h : Lib.IsBuilder 58 5 B b bs w) (k : Nat) (hkb : k ≠ b) (hap : Apart b k w) :
    Calls Try.prog 54 #[.pointer (some ⟨b, 0, none⟩)] w fun e w' => e = .returned (.tuple #[]) ∧ (Lib.BuilderAt 58 5 B b (.pointer (some ⟨b, 0, none⟩)) bs w' ∧ Below B w w') ∧ w'.heap[k]? = w.heap[k]? ∧ Apart b k w' := by
  rcases h with h | h
  · refine (check_fresh b w h.cell0 h.shape h.frozen0).mono ?_
    rintro e w' ⟨rfl, rfl⟩
    refine ⟨rfl, ⟨h.used _, (Below.refl B w).setCell (p := ⟨b, 0, none⟩) h.1 _⟩, Deep.blk_setCell_other _ _ _ _ hkb, ?_⟩
    obtain ⟨_, v, hbk, hown, _⟩ := h
    intro p u fr hu
    rw [setCell_eq_setRow _ _ _ _ _ _ _ hbk, setRow_heap _ _ _ _ _ _ hbk] at hu
    simp at hu
    obtain ⟨⟨_, rfl⟩, _⟩ := hu
    exact hap _ _ _ hbk
  · refine (check_used b w h.cell0).mono ?_
    rintro e w' ⟨rfl, rfl⟩
    exact ⟨rfl, ⟨h, Below.refl B _⟩, rfl, hap⟩

set_option maxRecDepth 100000 in
set_option maxHeartbeats 2000000 in
theorem write_keep (B b : Nat) (bs : List Value) (s : ByteArray) (w : World) (h : Lib.IsBuilder 58 5 B b bs w) (hlen : bs.length + s.size ≤ 140737488355328) (hBw : B ≤ w.heap.size) (k : Nat) (hk : k < w.heap.size) (hkb : k ≠ b) (hap : Apart b k w) :
    Calls Try.prog 34 #[.pointer (some ⟨b, 0, none⟩), .string s] w fun e w' => e = .returned (.tuple #[.int .i64 s.size, .nilIface]) ∧ (Lib.BuilderAt 58 5 B b (.pointer (some ⟨b, 0, none⟩)) (bs ++ Lib.strCells s) w' ∧ Below B w w') ∧ w'.heap[k]? = w.heap[k]? := by
  obtain ⟨i0, hi, hz0, hz1, hz2⟩ := info_parts info8
  go_enter Try.func34, Try.ntmps34
  go_wp2_with (go_at_call 54; refine (check_keep B b bs _ h k hkb hap).mono ?_)
  rintro e w1 ⟨rfl, ⟨h1, hb1⟩, hk1, hap1⟩
  obtain ⟨hB, v, hbk, hown, hne⟩ := h1
  have hvk := hap1 _ _ _ hbk
  have c0 : w1.cell? ⟨b, 0, none⟩ = some (.pointer (some ⟨b, 0, none⟩)) := by rw [Lib.cell_of_heap hbk]; rfl
  have c1 : w1.cell? ⟨b, 1, none⟩ = some v := by rw [Lib.cell_of_heap hbk]; rfl
  go_wp2_with (at_builtin; refine Lib.wpList_append_own_string _ rfl _ _ 56 9 rfl B 5 i0 Try.underlying56 Try.underlying9 hi hz0 hz1 hz2 _ _ _ rfl hown s rfl ?c3 ?c4 ?c5 ?_)
  case c3 => unfold maxLen; omega
  case c4 => omega
  case c5 => have := hb1.size; omega
  intro v' w2 hown' hgrow _
  have hlt : b < w1.heap.size := by
    rcases Nat.lt_or_ge b w1.heap.size with h' | h'
    · exact h'
    · simp [Array.getElem?_eq_none h'] at hbk
  have hb2 : w2.heap[b]? = some (.cells #[.pointer (some ⟨b, 0, none⟩), v] 58 (0, 0)) := by
    rw [hgrow.block b hlt (fun e => hne e.symm)]
    exact hbk
  have hk2 : w2.heap[k]? = w.heap[k]? := by
    rw [hgrow.block k (by have := hb1.size; omega) (fun e => hvk e.symm)]
    exact hk1
  have d0 : w2.cell? ⟨b, 0, none⟩ = some (.pointer (some ⟨b, 0, none⟩)) := by rw [Lib.cell_of_heap hb2]; rfl
  have d1 : w2.cell? ⟨b, 1, none⟩ = some v := by rw [Lib.cell_of_heap hb2]; rfl
  have f1 : w2.frozen? ⟨b, 1, none⟩ = false := Lib.frozen_of_heap hb2 1
  obtain ⟨ao, n', cap, rfl⟩ : ∃ ao n' cap, v' = .slice ao n' cap := by
    rcases hown'.2 with ⟨hv, _⟩ | ⟨g, cap, cur, hv, _⟩
    · exact ⟨_, _, _, hv⟩
    · exact ⟨_, _, _, hv⟩
  clear hk1 hvk hap hap1
  have HK2 := Lib.hid hk2
  clear hk2
  go_wp2
  go_ret2
  refine ⟨rfl, ⟨?_, ?_⟩, (Deep.blk_setCell_other _ _ _ _ hkb).trans HK2.out⟩
  · exact Lib.BuilderAt.put (T := 58) (e := 5) hB hb2 (bs' := bs ++ Lib.strCells s) (by simpa [Lib.strCells_length] using hown') (by decide)
  · exact (hb1.grown hgrow (by have := hb1.size; omega) (fun k hk => (hown.lt k hk).1)).setCell (p := ⟨b, 1, none⟩) hB _

end Go.Proofs.Ytpifjeghoapjbaa.Bld

namespace Go.Proofs.Ytpifjeghoapjbaa.Once
open Go.RowKit Go.Proofs.Ytpifjeghoapjbaa.Sha Go.Proofs.Ytpifjeghoapjbaa.Tree

theorem rowL_one (tag : ByteArray) (a : ByteArray) (ht : tag.size ≤ 100) (ha : a.size ≤ 5000) : (rowL tag [a]).length ≤ 10000 := by
  have h1 := putText_len tag.data.toList
  have h2 : tag.data.toList.length = tag.size := by rw [Array.length_toList]; rfl
  have h3 := putText_len a.data.toList
  have h4 : a.data.toList.length = a.size := by rw [Array.length_toList]; rfl
  unfold rowL
  rw [List.length_append]
  simp
  omega
theorem code_once (K : List UInt8) (hK : K.length ≤ 5000) (a : Option Addr) (n cap : Nat) (w : World) (hT : Texts w (.slice a n cap) [⟨K.toArray⟩]) :
    Calls Try.prog 65 #[.string onceT, .slice a n cap] w fun e w' => e = .returned (.agg (valsB (onceF K)).toArray) ∧ Below w.heap.size w w' := by
  have hz : (⟨K.toArray⟩ : ByteArray).size ≤ 5000 := by rw [size_mk]; exact hK
  have := rowL_one onceT ⟨K.toArray⟩ (by decide) hz
  exact code_of onceT _ [⟨K.toArray⟩] w hT (by decide) (fun s h => by simp at h; subst h; omega) (by omega) (by simp)

theorem text_len (l : List UInt8) (h : l.length = 32) : (⟨l.toArray⟩ : ByteArray).size = 32 := by rw [size_mk, h]

set_option maxRecDepth 100000 in
set_option maxHeartbeats 1600000 in
theorem code_keyOf_pub (f : Nat → List UInt8 × List UInt8) (hf : ∀ i, i < 16 → (f i).1.length = 32 ∧ (f i).2.length = 32) (p0 : Nat) (w : World)
    (HCL : ∀ (i : Nat) (W : World), i < 16 → Below w.heap.size w W → Calls Try.prog 66 #[.int .i64 i, .pointer (some ⟨p0, 0, none⟩)] W fun e w' => e = .returned (.agg #[.string ⟨(f i).1.toArray⟩, .string ⟨(f i).2.toArray⟩]) ∧ Below W.heap.size W w') :
    Calls Try.prog 62 #[.func (.func 66) #[] #[.pointer (some ⟨p0, 0, none⟩)]] w fun e w' => e = .returned (.agg (valsB (onceF (keyA f 16))).toArray) ∧ Below w.heap.size w w' := by
  have HC := Lib.hid HCL
  have HF := Lib.hid hf
  have HKL := Lib.hid (fun k (hk : k ≤ 16) => keyA_len_le f 16 hf k hk)
  clear HCL hf
  go_enter Try.func62, Try.ntmps62
  go_upto_region 1 with (fail)
  rw [zero32]
  obtain ⟨Z, hZ⟩ : ∃ Z, (List.replicate 32 (Value.int .u8 0)).toArray = Z := ⟨_, rfl⟩
  have HZS := Lib.hid (show Z.size = 32 by rw [← hZ]; rfl)
  rw [hZ]
  clear hZ
  have HZ := Lib.hid (heap_alloc_new w (.cells Z 23))
  have HBW := Lib.hid (show Below w.heap.size w (w.alloc (.cells Z 23)) from (Below.refl _ _).alloc (Nat.le_refl _) _)
  have hbs : w.heap.size + 1 = (w.alloc (.cells Z 23)).heap.size := by simp
  obtain ⟨g0, hg0⟩ : ∃ g, w.heap.size = g := ⟨_, rfl⟩
  rw [hg0] at HZ HBW hbs
  rw [hg0]
  have HG0 := Lib.hid hg0
  generalize w.alloc (.cells Z 23) = W at HZ HBW hbs ⊢
  have hfr := Lib.fresh_isBuilder 58 5 W
  obtain ⟨b, hb⟩ : ∃ b, W.heap.size = b := ⟨_, rfl⟩
  rw [hb] at hfr hbs
  have HFR := Lib.hid hfr
  have HWB := Lib.hid hb
  have HGB := Lib.hid hbs
  clear hg0 hfr hb hbs
  go_wp2_with fail
  rw [HWB.out]
  go_loopw [6] (fun iv wr => ∃ k : Nat, k ≤ 16 ∧ iv = .int .i64 k ∧ Lib.IsBuilder 58 5 b b (Lib.byteCells (keyA f k)) wr ∧ Below b W wr) (fun iv _ => 16 - (intOf iv).toNat)
  case atStart =>
    refine ⟨0, by omega, rfl, HFR.out, ?_⟩
    exact (Below.refl b W).alloc (Nat.le_of_eq HWB.out.symm) _
  case round =>
    obtain ⟨k, hk, rfl, hbld, hbel⟩ := hrel
    have HBLD := Lib.hid hbld
    have HBEL := Lib.hid hbel
    have HWR := Lib.hid (HBW.out.trans (hbel.mono (by have := HGB.out; omega)))
    have HSW := Lib.hid (show b ≤ wr.heap.size by have := hbel.size; rw [HWB.out] at this; exact this)
    clear hbld hbel
    by_cases hlt : k < 16
    · have HCK := Lib.hid (HC.out k wr hlt (HG0.out ▸ HWR.out))
      obtain ⟨hl1, hl2⟩ := HF.out k hlt
      have hkl := HKL.out k hk
      obtain ⟨A, hA⟩ : ∃ A : ByteArray, (⟨(f k).1.toArray⟩ : ByteArray) = A := ⟨_, rfl⟩
      obtain ⟨C, hC⟩ : ∃ C : ByteArray, (⟨(f k).2.toArray⟩ : ByteArray) = C := ⟨_, rfl⟩
      have hAs : A.size = 32 := by rw [← hA]; exact text_len _ hl1
      have hCs : C.size = 32 := by rw [← hC]; exact text_len _ hl2
      have hAc : Lib.strCells A = Lib.byteCells (f k).1 := by rw [← hA]; exact strCells_mk _
      have hCc : Lib.strCells C = Lib.byteCells (f k).2 := by rw [← hC]; exact strCells_mk _
      rw [hA, hC] at HCK
      have HAC := Lib.hid (And.intro (And.intro hAs hCs) (And.intro hAc hCc))
      have HKK := Lib.hid hkl
      have hk0 : (0 : Int) ≤ (k : Int) := by omega
      have hki : (k : Int) < 16 := by omega
      clear hA hC hAs hCs hAc hCc hkl hl1 hl2
      go_wp2_with fail
      refine HCK.out.mono ?_
      rintro e w1 ⟨rfl, hb1⟩
      have HB1 := Lib.hid hb1
      clear hb1
      go_upto_region 6 with (refine wpList_store_row rfl 75 (.tmp 5) (.tmp 11) rfl w1.heap.size #[.string A, .string C] rfl rfl 75 _ (heap_alloc_new _ _) (by kernel_rfl) rfl (by simp [Value.oneCell']) ?_; rw [World.setRow_alloc_new])
      have hb2 : Below w1.heap.size w1 (w1.alloc (.cells #[.string A, .string C] 75)) := (Below.refl _ _).alloc (Nat.le_refl _) _
      have hbld2 := builder_kept (builder_kept HBLD.out HB1.out) hb2
      have hap := Bld.apart_new (k := w1.heap.size) (w' := w1.alloc (.cells #[.string A, .string C] 75)) (builder_kept HBLD.out HB1.out) (Nat.le_refl _) (hb2.block b (Nat.lt_of_lt_of_le (by
        rcases HBLD.out with h | h <;> exact h.lt) HB1.out.size))
      have hlb : b < wr.heap.size := by rcases HBLD.out with h | h <;> exact h.lt
      have HWK := Lib.hid (Bld.write_keep b b _ A _ hbld2 (by rw [Lib.byteCells_length, HKK.out, HAC.out.1.1]; omega) (Nat.le_trans HSW.out (Nat.le_trans HB1.out.size hb2.size)) w1.heap.size (by simp) (by have := HB1.out.size; omega) hap)
      have HD := Lib.hid (heap_alloc_new w1 (.cells #[.string A, .string C] 75))
      have HB2 := Lib.hid (HB1.out.trans (hb2.mono HB1.out.size))
      obtain ⟨g5, hg5⟩ : ∃ g, w1.heap.size = g := ⟨_, rfl⟩
      rw [hg5] at HWK HD
      rw [hg5]
      clear hb2 hbld2 hap hg5
      generalize w1.alloc (.cells #[.string A, .string C] 75) = w2 at HWK HD HB2 ⊢
      have hd0 : w2.cell? ⟨g5, 0, none⟩ = some (.string A) := by rw [Lib.cell_of_heap HD.out]; rfl
      go_wp2_with fail
      refine HWK.out.mono ?_
      rintro e w3 ⟨rfl, ⟨hat3, hb3⟩, hk3⟩
      have hd1 : w3.cell? ⟨g5, 1, none⟩ = some (.string C) := by rw [Lib.cell_of_heap (hk3.trans HD.out)]; rfl
      have HWN := Lib.hid (Bld.write_any b b _ C w3 (Or.inr hat3) (by rw [List.length_append, Lib.byteCells_length, Lib.strCells_length, HKK.out, HAC.out.1.1, HAC.out.1.2]; omega) (Nat.le_trans HSW.out (Nat.le_trans HB2.out.size hb3.size)))
      have HB3 := Lib.hid ((HB2.out.mono HSW.out).trans hb3)
      clear hat3 hb3 hk3 hd0
      go_wp2_with fail
      refine HWN.out.mono ?_
      rintro e w4 ⟨rfl, hat4, hb4⟩
      have HAT4 := Lib.hid hat4
      have HB4 := Lib.hid (HB3.out.trans hb4)
      clear hat4 hb4 hd1
      go_wp2_with fail
      go_roundw
      case rel => exact ⟨k + 1, by omega, by go_num, Or.inr (by
        have h := HAT4.out
        rw [HAC.out.2.1, HAC.out.2.2, ← Lib.byteCells_append, ← Lib.byteCells_append, List.append_assoc] at h
        exact h), HBEL.out.trans HB4.out⟩
      case measure => simp [intOf]; omega
    · obtain rfl : k = 16 := by omega
      have hkl := HKL.out 16 (Nat.le_refl _)
      have HST := Lib.hid (Try.Builder_String_any b b (keyA f 16) wr HBLD.out HSW.out)
      obtain ⟨K, hK⟩ : ∃ K, keyA f 16 = K := ⟨_, rfl⟩
      rw [hK] at hkl HST
      have HKE := Lib.hid hK
      have HON := Lib.hid (fun (w : World) => code_once K (by omega) (some ⟨w.heap.size, 0, none⟩) 1 1 _ (texts_one w ⟨K.toArray⟩))
      obtain ⟨T, hT⟩ : ∃ T : ByteArray, (⟨K.toArray⟩ : ByteArray) = T := ⟨_, rfl⟩
      rw [hT] at HST
      simp only [hT] at HON
      clear hT hK hkl
      go_wp2_with fail
      refine HST.out.mono ?_
      rintro e w3 ⟨rfl, hb3⟩
      have HB3 := Lib.hid hb3
      clear hb3
      go_wp2_with fail
      refine (HON.out _).mono ?_
      rintro e w4 ⟨rfl, hb4⟩
      have hb5 : Below w3.heap.size w3 w4 := ((Below.refl _ _).alloc (Nat.le_refl _) _).trans (hb4.mono (by simp))
      clear hb4
      have hlg : g0 < b := by rw [← HGB.out]; exact Nat.lt_succ_self _
      have hz : w4.heap[g0]? = some (.cells Z 23 (0, 0)) := by
        rw [hb5.block _ (Nat.lt_of_lt_of_le (Nat.lt_of_lt_of_le hlg HSW.out) HB3.out.size), HB3.out.block _ hlg, HBEL.out.block _ hlg]
        exact HZ.out
      have hbw : Below g0 w w4 := (HWR.out.trans (HB3.out.mono (Nat.le_of_lt hlg))).trans (hb5.mono (Nat.le_trans (Nat.le_of_lt hlg) (Nat.le_trans HSW.out HB3.out.size)))
      have HRW := Lib.hid (row32 (onceF K) rfl)
      obtain ⟨D, hD⟩ : ∃ D, (valsB (onceF K)).toArray = D := ⟨_, rfl⟩
      rw [hD] at HRW
      rw [hD]
      have HDD := Lib.hid hD
      have hzs : Z.size = D.size := by rw [HZS.out, HRW.out.size]
      have HZ4 := Lib.hid hz
      have HBW4 := Lib.hid hbw
      clear hD hz hbw hb5
      go_wp2_with (refine wpList_store_row rfl 23 (.tmp 2) (.tmp 21) rfl g0 D rfl rfl 23 Z HZ4.out HRW.out.info hzs HRW.out.one ?_)
      refine bodyPost_ret (results_cell_row (p := 2) (ty := 23) Try.results62 _ _ g0 23 D (0, 0) _ rfl (setRow_heap _ _ _ _ _ _ HZ4.out) Try.underlying23 rfl HRW.out.info) rfl ⟨by rw [HKE.out, HDD.out], HG0.out ▸ below_setRow HBW4.out (Nat.le_refl _) _⟩

set_option maxRecDepth 100000 in
set_option maxHeartbeats 1600000 in
theorem code_keyOf_tell (f : Nat → List UInt8 × List UInt8) (hf : ∀ i, i < 16 → (f i).1.length = 32 ∧ (f i).2.length = 32) (p0 p1 : Nat) (w : World)
    (HCL : ∀ (i : Nat) (W : World), i < 16 → Below w.heap.size w W → Calls Try.prog 63 #[.int .i64 i, .pointer (some ⟨p0, 0, none⟩), .pointer (some ⟨p1, 0, none⟩)] W fun e w' => e = .returned (.agg #[.string ⟨(f i).1.toArray⟩, .string ⟨(f i).2.toArray⟩]) ∧ Below W.heap.size W w') :
    Calls Try.prog 62 #[.func (.func 63) #[] #[.pointer (some ⟨p0, 0, none⟩), .pointer (some ⟨p1, 0, none⟩)]] w fun e w' => e = .returned (.agg (valsB (onceF (keyA f 16))).toArray) ∧ Below w.heap.size w w' := by
  have HC := Lib.hid HCL
  have HF := Lib.hid hf
  have HKL := Lib.hid (fun k (hk : k ≤ 16) => keyA_len_le f 16 hf k hk)
  clear HCL hf
  go_enter Try.func62, Try.ntmps62
  go_upto_region 1 with (fail)
  rw [zero32]
  obtain ⟨Z, hZ⟩ : ∃ Z, (List.replicate 32 (Value.int .u8 0)).toArray = Z := ⟨_, rfl⟩
  have HZS := Lib.hid (show Z.size = 32 by rw [← hZ]; rfl)
  rw [hZ]
  clear hZ
  have HZ := Lib.hid (heap_alloc_new w (.cells Z 23))
  have HBW := Lib.hid (show Below w.heap.size w (w.alloc (.cells Z 23)) from (Below.refl _ _).alloc (Nat.le_refl _) _)
  have hbs : w.heap.size + 1 = (w.alloc (.cells Z 23)).heap.size := by simp
  obtain ⟨g0, hg0⟩ : ∃ g, w.heap.size = g := ⟨_, rfl⟩
  rw [hg0] at HZ HBW hbs
  rw [hg0]
  have HG0 := Lib.hid hg0
  generalize w.alloc (.cells Z 23) = W at HZ HBW hbs ⊢
  have hfr := Lib.fresh_isBuilder 58 5 W
  obtain ⟨b, hb⟩ : ∃ b, W.heap.size = b := ⟨_, rfl⟩
  rw [hb] at hfr hbs
  have HFR := Lib.hid hfr
  have HWB := Lib.hid hb
  have HGB := Lib.hid hbs
  clear hg0 hfr hb hbs
  go_wp2_with fail
  rw [HWB.out]
  go_loopw [6] (fun iv wr => ∃ k : Nat, k ≤ 16 ∧ iv = .int .i64 k ∧ Lib.IsBuilder 58 5 b b (Lib.byteCells (keyA f k)) wr ∧ Below b W wr) (fun iv _ => 16 - (intOf iv).toNat)
  case atStart =>
    refine ⟨0, by omega, rfl, HFR.out, ?_⟩
    exact (Below.refl b W).alloc (Nat.le_of_eq HWB.out.symm) _
  case round =>
    obtain ⟨k, hk, rfl, hbld, hbel⟩ := hrel
    have HBLD := Lib.hid hbld
    have HBEL := Lib.hid hbel
    have HWR := Lib.hid (HBW.out.trans (hbel.mono (by have := HGB.out; omega)))
    have HSW := Lib.hid (show b ≤ wr.heap.size by have := hbel.size; rw [HWB.out] at this; exact this)
    clear hbld hbel
    by_cases hlt : k < 16
    · have HCK := Lib.hid (HC.out k wr hlt (HG0.out ▸ HWR.out))
      obtain ⟨hl1, hl2⟩ := HF.out k hlt
      have hkl := HKL.out k hk
      obtain ⟨A, hA⟩ : ∃ A : ByteArray, (⟨(f k).1.toArray⟩ : ByteArray) = A := ⟨_, rfl⟩
      obtain ⟨C, hC⟩ : ∃ C : ByteArray, (⟨(f k).2.toArray⟩ : ByteArray) = C := ⟨_, rfl⟩
      have hAs : A.size = 32 := by rw [← hA]; exact text_len _ hl1
      have hCs : C.size = 32 := by rw [← hC]; exact text_len _ hl2
      have hAc : Lib.strCells A = Lib.byteCells (f k).1 := by rw [← hA]; exact strCells_mk _
      have hCc : Lib.strCells C = Lib.byteCells (f k).2 := by rw [← hC]; exact strCells_mk _
      rw [hA, hC] at HCK
      have HAC := Lib.hid (And.intro (And.intro hAs hCs) (And.intro hAc hCc))
      have HKK := Lib.hid hkl
      have hk0 : (0 : Int) ≤ (k : Int) := by omega
      have hki : (k : Int) < 16 := by omega
      clear hA hC hAs hCs hAc hCc hkl hl1 hl2
      go_wp2_with fail
      refine HCK.out.mono ?_
      rintro e w1 ⟨rfl, hb1⟩
      have HB1 := Lib.hid hb1
      clear hb1
      go_upto_region 6 with (refine wpList_store_row rfl 75 (.tmp 5) (.tmp 11) rfl w1.heap.size #[.string A, .string C] rfl rfl 75 _ (heap_alloc_new _ _) (by kernel_rfl) rfl (by simp [Value.oneCell']) ?_; rw [World.setRow_alloc_new])
      have hb2 : Below w1.heap.size w1 (w1.alloc (.cells #[.string A, .string C] 75)) := (Below.refl _ _).alloc (Nat.le_refl _) _
      have hbld2 := builder_kept (builder_kept HBLD.out HB1.out) hb2
      have hap := Bld.apart_new (k := w1.heap.size) (w' := w1.alloc (.cells #[.string A, .string C] 75)) (builder_kept HBLD.out HB1.out) (Nat.le_refl _) (hb2.block b (Nat.lt_of_lt_of_le (by
        rcases HBLD.out with h | h <;> exact h.lt) HB1.out.size))
      have hlb : b < wr.heap.size := by rcases HBLD.out with h | h <;> exact h.lt
      have HWK := Lib.hid (Bld.write_keep b b _ A _ hbld2 (by rw [Lib.byteCells_length, HKK.out, HAC.out.1.1]; omega) (Nat.le_trans HSW.out (Nat.le_trans HB1.out.size hb2.size)) w1.heap.size (by simp) (by have := HB1.out.size; omega) hap)
      have HD := Lib.hid (heap_alloc_new w1 (.cells #[.string A, .string C] 75))
      have HB2 := Lib.hid (HB1.out.trans (hb2.mono HB1.out.size))
      obtain ⟨g5, hg5⟩ : ∃ g, w1.heap.size = g := ⟨_, rfl⟩
      rw [hg5] at HWK HD
      rw [hg5]
      clear hb2 hbld2 hap hg5
      generalize w1.alloc (.cells #[.string A, .string C] 75) = w2 at HWK HD HB2 ⊢
      have hd0 : w2.cell? ⟨g5, 0, none⟩ = some (.string A) := by rw [Lib.cell_of_heap HD.out]; rfl
      go_wp2_with fail
      refine HWK.out.mono ?_
      rintro e w3 ⟨rfl, ⟨hat3, hb3⟩, hk3⟩
      have hd1 : w3.cell? ⟨g5, 1, none⟩ = some (.string C) := by rw [Lib.cell_of_heap (hk3.trans HD.out)]; rfl
      have HWN := Lib.hid (Bld.write_any b b _ C w3 (Or.inr hat3) (by rw [List.length_append, Lib.byteCells_length, Lib.strCells_length, HKK.out, HAC.out.1.1, HAC.out.1.2]; omega) (Nat.le_trans HSW.out (Nat.le_trans HB2.out.size hb3.size)))
      have HB3 := Lib.hid ((HB2.out.mono HSW.out).trans hb3)
      clear hat3 hb3 hk3 hd0
      go_wp2_with fail
      refine HWN.out.mono ?_
      rintro e w4 ⟨rfl, hat4, hb4⟩
      have HAT4 := Lib.hid hat4
      have HB4 := Lib.hid (HB3.out.trans hb4)
      clear hat4 hb4 hd1
      go_wp2_with fail
      go_roundw
      case rel => exact ⟨k + 1, by omega, by go_num, Or.inr (by
        have h := HAT4.out
        rw [HAC.out.2.1, HAC.out.2.2, ← Lib.byteCells_append, ← Lib.byteCells_append, List.append_assoc] at h
        exact h), HBEL.out.trans HB4.out⟩
      case measure => simp [intOf]; omega
    · obtain rfl : k = 16 := by omega
      have hkl := HKL.out 16 (Nat.le_refl _)
      have HST := Lib.hid (Try.Builder_String_any b b (keyA f 16) wr HBLD.out HSW.out)
      obtain ⟨K, hK⟩ : ∃ K, keyA f 16 = K := ⟨_, rfl⟩
      rw [hK] at hkl HST
      have HKE := Lib.hid hK
      have HON := Lib.hid (fun (w : World) => code_once K (by omega) (some ⟨w.heap.size, 0, none⟩) 1 1 _ (texts_one w ⟨K.toArray⟩))
      obtain ⟨T, hT⟩ : ∃ T : ByteArray, (⟨K.toArray⟩ : ByteArray) = T := ⟨_, rfl⟩
      rw [hT] at HST
      simp only [hT] at HON
      clear hT hK hkl
      go_wp2_with fail
      refine HST.out.mono ?_
      rintro e w3 ⟨rfl, hb3⟩
      have HB3 := Lib.hid hb3
      clear hb3
      go_wp2_with fail
      refine (HON.out _).mono ?_
      rintro e w4 ⟨rfl, hb4⟩
      have hb5 : Below w3.heap.size w3 w4 := ((Below.refl _ _).alloc (Nat.le_refl _) _).trans (hb4.mono (by simp))
      clear hb4
      have hlg : g0 < b := by rw [← HGB.out]; exact Nat.lt_succ_self _
      have hz : w4.heap[g0]? = some (.cells Z 23 (0, 0)) := by
        rw [hb5.block _ (Nat.lt_of_lt_of_le (Nat.lt_of_lt_of_le hlg HSW.out) HB3.out.size), HB3.out.block _ hlg, HBEL.out.block _ hlg]
        exact HZ.out
      have hbw : Below g0 w w4 := (HWR.out.trans (HB3.out.mono (Nat.le_of_lt hlg))).trans (hb5.mono (Nat.le_trans (Nat.le_of_lt hlg) (Nat.le_trans HSW.out HB3.out.size)))
      have HRW := Lib.hid (row32 (onceF K) rfl)
      obtain ⟨D, hD⟩ : ∃ D, (valsB (onceF K)).toArray = D := ⟨_, rfl⟩
      rw [hD] at HRW
      rw [hD]
      have HDD := Lib.hid hD
      have hzs : Z.size = D.size := by rw [HZS.out, HRW.out.size]
      have HZ4 := Lib.hid hz
      have HBW4 := Lib.hid hbw
      clear hD hz hbw hb5
      go_wp2_with (refine wpList_store_row rfl 23 (.tmp 2) (.tmp 21) rfl g0 D rfl rfl 23 Z HZ4.out HRW.out.info hzs HRW.out.one ?_)
      refine bodyPost_ret (results_cell_row (p := 2) (ty := 23) Try.results62 _ _ g0 23 D (0, 0) _ rfl (setRow_heap _ _ _ _ _ _ HZ4.out) Try.underlying23 rfl HRW.out.info) rfl ⟨by rw [HKE.out, HDD.out], HG0.out ▸ below_setRow HBW4.out (Nat.le_refl _) _⟩

end Go.Proofs.Ytpifjeghoapjbaa.Once

namespace Go.Proofs.Ytpifjeghoapjbaa.Once
open Go.RowKit Go.Proofs.Ytpifjeghoapjbaa.Sha Go.Proofs.Ytpifjeghoapjbaa.Tree

/-- Two texts in a row. -/
theorem row2_one (A B : ByteArray) : (#[Value.string A, Value.string B] : Array Value).all (·.oneCell') = true := by simp [Value.oneCell']

theorem wp_buildTo {P : Program} {o : Oper} {a : Act} {w : World} {K : Act → World → Prop} {Q : Exit → Act → World → Prop} (t : TypeId) (parts : Array (Nat × Operand)) (ho : o.op = .build t parts)
    (cells : Array Value) (hf : P.built t (parts.map fun (i, x) => (i, a.eval x)).toList = some cells) (h : K (a.put o.dst (.agg cells)) w) : o.wp P a w K Q := by
  refine wp_build t parts ho (by rw [hf]; rfl) ?_
  rw [hf]
  exact h

set_option maxRecDepth 100000 in
set_option maxHeartbeats 3200000 in
theorem code_pub1 (seed : List UInt8) (hs : seed.length = 32) (g : Nat) (i : Nat) (hi : i < 16) (w : World) (hg : w.heap[g]? = some (.cells (valsB seed).toArray 23 (0, 0))) :
    Calls Try.prog 66 #[.int .i64 i, .pointer (some ⟨g, 0, none⟩)] w fun e w' => e = .returned (.agg #[.string ⟨(pubF seed i).1.toArray⟩, .string ⟨(pubF seed i).2.toArray⟩]) ∧ Below w.heap.size w w' := by
  have HSE := Lib.hid (fun w => code_secrets seed hs i hi w)
  have HM0 := Lib.hid (fun w => code_mark (secF seed (2 * i)) rfl w)
  have HM1 := Lib.hid (fun w => code_mark (secF seed (2 * i + 1)) rfl w)
  have HRC := Lib.hid (row32 seed hs)
  obtain ⟨C, hC⟩ : ∃ C, (valsB seed).toArray = C := ⟨_, rfl⟩
  obtain ⟨S0, hS0⟩ : ∃ S : ByteArray, (⟨(secF seed (2 * i)).toArray⟩ : ByteArray) = S := ⟨_, rfl⟩
  obtain ⟨S1, hS1⟩ : ∃ S : ByteArray, (⟨(secF seed (2 * i + 1)).toArray⟩ : ByteArray) = S := ⟨_, rfl⟩
  obtain ⟨M0, hM0⟩ : ∃ S : ByteArray, (⟨(markF (secF seed (2 * i))).toArray⟩ : ByteArray) = S := ⟨_, rfl⟩
  obtain ⟨M1, hM1⟩ : ∃ S : ByteArray, (⟨(markF (secF seed (2 * i + 1))).toArray⟩ : ByteArray) = S := ⟨_, rfl⟩
  have e0 : (⟨(pubF seed i).1.toArray⟩ : ByteArray) = M0 := hM0
  have e1 : (⟨(pubF seed i).2.toArray⟩ : ByteArray) = M1 := hM1
  rw [hC] at HSE HRC hg
  rw [hS0, hS1] at HSE
  rw [hS0, hM0] at HM0
  rw [hS1, hM1] at HM1
  rw [e0, e1]
  have HG := Lib.hid hg
  have hgl : g < w.heap.size := (Array.getElem?_eq_some_iff.1 hg).1
  clear hC hS0 hS1 hM0 hM1 e0 e1 hg
  go_enter Try.func66, Try.ntmps66
  go_upto_region 1 with (fail)
  have HT := Lib.hid (heap_alloc_new w (.cells #[.string ⟨#[]⟩, .string ⟨#[]⟩] 75))
  have HBW := Lib.hid (show Below w.heap.size w (w.alloc (.cells #[.string ⟨#[]⟩, .string ⟨#[]⟩] 75)) from (Below.refl _ _).alloc (Nat.le_refl _) _)
  have hW : w.heap.size < (w.alloc (.cells #[.string ⟨#[]⟩, .string ⟨#[]⟩] 75)).heap.size := by simp
  have e0 : ∀ T, w.alloc (.cells #[.string ByteArray.empty, .string ByteArray.empty] T) = w.alloc (.cells #[.string ⟨#[]⟩, .string ⟨#[]⟩] T) := fun _ => rfl
  try rw [e0]
  clear e0
  obtain ⟨g3, hg3⟩ : ∃ x, w.heap.size = x := ⟨_, rfl⟩
  rw [hg3] at HT HBW hW hgl
  rw [hg3]
  have H3 := Lib.hid hg3
  generalize w.alloc (.cells #[.string ⟨#[]⟩, .string ⟨#[]⟩] 75) = W at HT HBW hW ⊢
  have HGW := Lib.hid ((HBW.out.block g hgl).trans HG.out)
  have HWS := Lib.hid hW
  clear hg3 hW
  go_wp2_with (refine wpList_load_row rfl 23 (.tmp 1) rfl g rfl 23 C (0, 0) _ HGW.out Try.underlying23 rfl HRC.out.info ?_)
  refine (HSE.out _).mono ?_
  rintro e w1 ⟨rfl, hb1⟩
  have HB1 := Lib.hid hb1
  clear hb1
  go_upto_region 2 with (refine wpList_store_row rfl 75 (.tmp 4) (.tmp 7) rfl w1.heap.size #[.string S0, .string S1] rfl rfl 75 _ (heap_alloc_new _ _) (by kernel_rfl) rfl (row2_one S0 S1) ?_; rw [World.setRow_alloc_new])
  have hb2 : Below w1.heap.size w1 (w1.alloc (.cells #[.string S0, .string S1] 75)) := (Below.refl _ _).alloc (Nat.le_refl _) _
  have HD := Lib.hid (heap_alloc_new w1 (.cells #[.string S0, .string S1] 75))
  have HB2 := Lib.hid (HB1.out.trans (hb2.mono HB1.out.size))
  obtain ⟨g4, hg4⟩ : ∃ x, w1.heap.size = x := ⟨_, rfl⟩
  rw [hg4] at HD
  rw [hg4]
  clear hb2 hg4
  generalize w1.alloc (.cells #[.string S0, .string S1] 75) = w2 at HD HB2 ⊢
  have HDL := Lib.hid ((Array.getElem?_eq_some_iff.1 HD.out).1)
  go_wp2_with fail
  refine QT.wp_region_facts_tail 7 (by kernel_rfl) (fun w' => Below w2.heap.size w2 w') (fun n v w' => (([.val (.pointer (some ⟨g4, 0, none⟩)), .val (.string S0), .val (.string M0), .val (.pointer (some ⟨g4, 1, none⟩)), .val (.string S1), .val (.string M1), .val (.agg #[.string M0, .string M1])] : List Fact).getD n (.val undef) : Fact).holds v w') (by kernel_rfl) (by kernel_rfl) (Below.refl _ _).drew (fun w1 w2 h1 hb => h1.trans (hb.mono h1.size)) (fun n v w1 w2 h hb => Fact.kept _ v w1 w2 h hb) (fun n o hn ho a wz hI hag hdep => ?_) (fun a wz hI hag hf => ?_)
  · have t4 : a.eval (.tmp 4) = .pointer (some ⟨g4, 0, none⟩) := hag.old 4 _ (by kernel_rfl) rfl
    have hz := (hI.block g4 HDL.out).trans HD.out
    have c0 : wz.cell? ⟨g4, 0, none⟩ = some (.string S0) := by rw [Lib.cell_of_heap hz]; rfl
    have c1 : wz.cell? ⟨g4, 1, none⟩ = some (.string S1) := by rw [Lib.cell_of_heap hz]; rfl
    match n, ho with
    | 0, ho =>
      obtain rfl := (Option.some.inj ho).symm
      exact ⟨rfl, QT.wp_value (v := .pointer (some ⟨g4, 0, none⟩)) (by simp [go_sem, QT.nf t4]) ⟨_, rfl, rfl, Below.refl _ _⟩⟩
    | 1, ho =>
      obtain rfl := (Option.some.inj ho).symm
      have d : a.eval (.tmp 8) = .pointer (some ⟨g4, 0, none⟩) := hdep _ (Array.mem_of_getElem? (i := 0) rfl) rfl _ _ rfl rfl
      exact ⟨rfl, QT.wp_value (v := .string S0) (by simp [go_sem, QT.nf d, c0]) ⟨_, rfl, rfl, Below.refl _ _⟩⟩
    | 2, ho =>
      obtain rfl := (Option.some.inj ho).symm
      have d : a.eval (.tmp 9) = .string S0 := hdep _ (Array.mem_of_getElem? (i := 0) rfl) rfl _ _ rfl rfl
      exact ⟨rfl, QT.wp_enter (f := 57) (args := #[.string S0]) (by simp [go_sem, QT.nf d]) (HM0.out wz) fun w' hb => ⟨_, rfl, rfl, hb⟩⟩
    | 3, ho =>
      obtain rfl := (Option.some.inj ho).symm
      exact ⟨rfl, QT.wp_value (v := .pointer (some ⟨g4, 1, none⟩)) (by simp [go_sem, QT.nf t4]) ⟨_, rfl, rfl, Below.refl _ _⟩⟩
    | 4, ho =>
      obtain rfl := (Option.some.inj ho).symm
      have d : a.eval (.tmp 11) = .pointer (some ⟨g4, 1, none⟩) := hdep _ (Array.mem_of_getElem? (i := 0) rfl) rfl _ _ rfl rfl
      exact ⟨rfl, QT.wp_value (v := .string S1) (by simp [go_sem, QT.nf d, c1]) ⟨_, rfl, rfl, Below.refl _ _⟩⟩
    | 5, ho =>
      obtain rfl := (Option.some.inj ho).symm
      have d : a.eval (.tmp 12) = .string S1 := hdep _ (Array.mem_of_getElem? (i := 0) rfl) rfl _ _ rfl rfl
      exact ⟨rfl, QT.wp_enter (f := 57) (args := #[.string S1]) (by simp [go_sem, QT.nf d]) (HM1.out wz) fun w' hb => ⟨_, rfl, rfl, hb⟩⟩
    | 6, ho =>
      obtain rfl := (Option.some.inj ho).symm
      have d : a.eval (.tmp 10) = .string M0 := hdep _ (Array.mem_of_getElem? (i := 0) rfl) rfl _ _ rfl rfl
      have d2 : a.eval (.tmp 13) = .string M1 := hdep _ (Array.mem_of_getElem? (i := 1) rfl) rfl _ _ rfl rfl
      exact ⟨rfl, wp_buildTo 75 #[(0, .tmp 10), (1, .tmp 13)] rfl #[.string M0, .string M1] (by simp only [List.map_toArray, List.map_cons, List.map_nil, d, d2]; rfl) ⟨_, rfl, rfl, Below.refl _ _⟩⟩
    | n + 7, ho => omega
  · have f0 : a.eval (.tmp 8) = .pointer (some ⟨g4, 0, none⟩) := hf 0 _ _ (by omega) rfl rfl
    have f1 : a.eval (.tmp 9) = .string S0 := hf 1 _ _ (by omega) rfl rfl
    have f2 : a.eval (.tmp 10) = .string M0 := hf 2 _ _ (by omega) rfl rfl
    have f3 : a.eval (.tmp 11) = .pointer (some ⟨g4, 1, none⟩) := hf 3 _ _ (by omega) rfl rfl
    have f4 : a.eval (.tmp 12) = .string S1 := hf 4 _ _ (by omega) rfl rfl
    have f5 : a.eval (.tmp 13) = .string M1 := hf 5 _ _ (by omega) rfl rfl
    have f6 : a.eval (.tmp 14) = .agg #[.string M0, .string M1] := hf 6 _ _ (by omega) rfl rfl
    have ha := hag.puts [(8, .pointer (some ⟨g4, 0, none⟩)), (9, .string S0), (10, .string M0), (11, .pointer (some ⟨g4, 1, none⟩)), (12, .string S1), (13, .string M1), (14, .agg #[.string M0, .string M1])] rfl (by simp [Act.put]) (by simp only [List.forall_mem_cons, List.not_mem_nil, false_implies, implies_true, and_true]; exact ⟨f0, f1, f2, f3, f4, f5, f6⟩)
    subst ha
    clear hag hf f0 f1 f2 f3 f4 f5 f6
    simp only [List.foldl_cons, List.foldl_nil, Act.put, List.drop_succ_cons, List.drop_zero, List.setIfInBounds_toArray, List.set_cons_succ, List.set_cons_zero]
    have h31 : g3 < w2.heap.size := Nat.lt_of_lt_of_le HWS.out HB2.out.size
    have HZ := Lib.hid ((hI.block g3 h31).trans ((HB2.out.block g3 HWS.out).trans HT.out))
    have HBZ := Lib.hid ((HBW.out.trans (HB2.out.mono (Nat.le_of_lt HWS.out))).trans (hI.mono (Nat.le_of_lt h31)))
    have HDI := Lib.hid (show (Try.prog.info? 75).map (·.size) = some (#[Value.string M0, Value.string M1] : Array Value).size from info77)
    obtain ⟨D, hD⟩ : ∃ D : Array Value, #[.string M0, .string M1] = D := ⟨_, rfl⟩
    have HDA := Lib.hid (row2_one M0 M1)
    have HDS := Lib.hid (show 2 = D.size by rw [← hD]; rfl)
    rw [hD] at HDI HDA
    rw [hD]
    have HDD := Lib.hid hD
    clear hD hI
    go_wp2_with (refine wpList_store_row rfl 75 (.tmp 3) (.tmp 14) rfl g3 D rfl rfl 75 _ HZ.out HDI.out HDS.out HDA.out ?_)
    refine bodyPost_ret (results_cell_row (p := 3) (ty := 75) Try.results66 _ _ g3 75 D (0, 0) _ rfl (setRow_heap _ _ _ _ _ _ HZ.out) Try.underlying75 rfl HDI.out) rfl ⟨by rw [HDD.out], H3.out ▸ below_setRow HBZ.out (Nat.le_refl _) _⟩

set_option maxRecDepth 100000 in
set_option maxHeartbeats 3200000 in
theorem code_Public (seed : List UInt8) (hs : seed.length = 32) (w : World) :
    Calls Try.prog 51 #[.agg (valsB seed).toArray] w fun e w' => e = .returned (.agg (valsB (pubK seed)).toArray) ∧ Below w.heap.size w w' := by
  have HK := Lib.hid (fun (g : Nat) (w : World) (hg : w.heap[g]? = some (.cells (valsB seed).toArray 23 (0, 0))) => code_keyOf_pub (pubF seed) (fun i _ => pubF_len seed i) g w fun i W hi hb => code_pub1 seed hs g i hi W ((hb.block g ((Array.getElem?_eq_some_iff.1 hg).1)).trans hg))
  have HRC := Lib.hid (row32 seed hs)
  obtain ⟨C, hC⟩ : ∃ C, (valsB seed).toArray = C := ⟨_, rfl⟩
  rw [hC] at HRC
  simp only [hC] at HK
  rw [hC]
  clear hC
  go_enter Try.func51, Try.ntmps51
  go_upto_region 1 with (fail)
  rw [zero32]
  obtain ⟨Z, hZ⟩ : ∃ Z, (List.replicate 32 (Value.int .u8 0)).toArray = Z := ⟨_, rfl⟩
  have HZS := Lib.hid (show Z.size = 32 by rw [← hZ]; rfl)
  rw [hZ]
  clear hZ
  have hs0 : ((w.alloc (.cells C 23)).alloc (.cells Z 23)).heap.size = w.heap.size + 2 := by simp
  have HC := Lib.hid (heap_alloc2_old w (.cells C 23) (.cells Z 23))
  have HZ := Lib.hid (heap_alloc2_new w (.cells C 23) (.cells Z 23))
  have HBW := Lib.hid (show Below w.heap.size w ((w.alloc (.cells C 23)).alloc (.cells Z 23)) from ((Below.refl _ _).alloc (Nat.le_refl _) _).alloc (by simp) _)
  have HS0 := Lib.hid hs0
  clear hs0
  generalize (w.alloc (.cells C 23)).alloc (.cells Z 23) = W at HC HZ HBW HS0 ⊢
  have hW : w.heap.size + 1 < W.heap.size := by rw [HS0.out]; omega
  have HKC := Lib.hid (HK.out _ W HC.out)
  have hmf : ∀ (fn : Fn) (first cap : Array Value) (w : World), (Instr.makeFunc fn first cap).run Try.prog w = .ok (.func fn first cap) w := fun _ _ _ _ => rfl
  go_wp2_with fail
  refine HKC.out.mono ?_
  rintro e w4 ⟨rfl, hb⟩
  have HZ2 := Lib.hid ((hb.block _ hW).trans HZ.out)
  have HB2 := Lib.hid (HBW.out.trans (hb.mono (by omega)))
  clear hb
  rw [show onceF (keyA (pubF seed) 16) = pubK seed from rfl]
  obtain ⟨D, hD⟩ : ∃ D, (valsB (pubK seed)).toArray = D := ⟨_, rfl⟩
  have HD := Lib.hid hD
  have HRD := Lib.hid (show Row32 D by rw [← hD]; exact row32 _ rfl)
  have HZD := Lib.hid (show Z.size = D.size by rw [HZS.out, HRD.out.size])
  rw [hD]
  clear hD
  go_wp2_with (refine wpList_store_row rfl 23 (.tmp 2) (.tmp 4) rfl (w.heap.size + 1) D rfl rfl 23 Z HZ2.out HRD.out.info HZD.out HRD.out.one ?_)
  refine bodyPost_ret (results_cell_row (p := 2) (ty := 23) Try.results51 _ _ (w.heap.size + 1) 23 D (0, 0) _ rfl (setRow_heap _ _ _ _ _ _ HZ2.out) Try.underlying23 rfl HRD.out.info) rfl ⟨by rw [HD.out], below_setRow HB2.out (by omega) _⟩

end Go.Proofs.Ytpifjeghoapjbaa.Once
