/- The code's own: Read. -/
import Derived.Test.YtlalipomphgcoaaShaSum
namespace Go.Proofs.Ytlalipomphgcoaa.Sha
open Go.RowKit

def hexS : List UInt8 := [48, 49, 50, 51, 52, 53, 54, 55, 56, 57, 97, 98, 99, 100, 101, 102]
/-- A digit's value; of what is no digit -1. -/
def valD (c : UInt8) : Int := Lib.indexByte hexS c
theorem valD_all : ∀ n : Fin 256, -1 ≤ valD (UInt8.ofNat n.val) ∧ valD (UInt8.ofNat n.val) ≤ 15 ∧ (0 ≤ valD (UInt8.ofNat n.val) → hexD (valD (UInt8.ofNat n.val)).toNat = UInt8.ofNat n.val) ∧
    ((0 ≤ valD (UInt8.ofNat n.val)) ↔ ((48 ≤ n.val ∧ n.val ≤ 57) ∨ (97 ≤ n.val ∧ n.val ≤ 102))) := by decide +kernel
theorem valD_of (c : UInt8) : -1 ≤ valD c ∧ valD c ≤ 15 ∧ (0 ≤ valD c → hexD (valD c).toNat = c) ∧ ((0 ≤ valD c) ↔ ((48 ≤ c.toNat ∧ c.toNat ≤ 57) ∨ (97 ≤ c.toNat ∧ c.toNat ≤ 102))) := by
  have h := valD_all ⟨c.toNat, c.toNat_lt⟩
  simpa using h
theorem valD_hexD : ∀ n : Fin 16, valD (hexD n.val) = n.val := by decide +kernel

/-- What digits tell: bytes; a last one that stands alone is a byte of its own. -/
def unhex : List UInt8 → List UInt8
  | a :: b :: r => UInt8.ofNat ((valD a).toNat * 16 + (valD b).toNat) :: unhex r
  | [a] => [UInt8.ofNat (valD a).toNat]
  | [] => []
theorem unhex_even (n : Nat) : ∀ (l : List UInt8) (c : UInt8), l.length = 2 * n → unhex (l ++ [c]) = unhex l ++ [UInt8.ofNat (valD c).toNat] ∧ (unhex l).length = n := by
  induction n with
  | zero =>
    intro l c h
    obtain rfl : l = [] := List.eq_nil_of_length_eq_zero (by omega)
    exact ⟨rfl, rfl⟩
  | succ n ih =>
    intro l c h
    match l, h with
    | a :: b :: r, h =>
      have h' := ih r c (by simp at h; omega)
      simp only [List.cons_append, unhex, h'.1, List.length_cons, h'.2, and_self]
theorem unhex_odd (n : Nat) (l : List UInt8) (a c : UInt8) (h : l.length = 2 * n) : unhex (l ++ [a] ++ [c]) = unhex l ++ [UInt8.ofNat ((valD a).toNat * 16 + (valD c).toNat)] := by
  induction n generalizing l with
  | zero =>
    obtain rfl : l = [] := List.eq_nil_of_length_eq_zero (by omega)
    rfl
  | succ n ih =>
    match l, h with
    | x :: y :: r, h =>
      have h' := ih r (by simp at h; omega)
      simp only [List.append_assoc, List.cons_append, List.nil_append] at h' ⊢
      simp only [unhex, h', List.cons_append]

def isHex (c : UInt8) : Bool := decide (0 ≤ valD c)
/-- What Read tells: a hash and an error. -/
def readF (l : List UInt8) : List UInt8 × Nat := if l.length = 64 ∧ l.all isHex = true then (unhex l, 0) else (List.replicate 32 0, 2)
theorem readF_long (l : List UInt8) (h : l.length ≠ 64) : readF l = (List.replicate 32 0, 2) := by
  unfold readF
  rw [if_neg (fun k => h k.1)]
theorem readF_not (l : List UInt8) (i : Nat) (c : UInt8) (h : l[i]? = some c) (hd : valD c < 0) : readF l = (List.replicate 32 0, 2) := by
  unfold readF
  rw [if_neg]
  rintro ⟨_, k⟩
  have := List.all_eq_true.1 k c (List.mem_of_getElem? h)
  simp [isHex] at this
  omega

theorem or_nibble (x d : Nat) (hx : x < 16) (hd : d < 16) : bits .or .u8 ((x : Int) * 16) (d : Int) = ((x * 16 + d : Nat) : Int) := by
  have h := u8_or_nat (x * 16) d (by omega) (by omega)
  rw [nat_join 4 (x * 16) d (by omega) (by omega)] at h
  rw [← h, Int.natCast_mul]
  rfl

theorem results_cell_tmp {P : Program} {fn : Func} {p t : Tmp} {ty : TypeId} (h : fn.results = #[.cell p ty, .tmp t]) (tmps : Array Value) (w : World) (g : Nat) (e : TypeId) (cs : Array Value) (fr : Nat × Nat) (d : TypeDesc) (v : Value)
    (hp : tmps.getD p undef = .pointer (some ⟨g, 0, none⟩)) (hv : tmps.getD t undef = v) (hg : w.heap[g]? = some (.cells cs e fr))
    (hu : P.underlying ty = some d) (hd : (match d with | .struct _ | .array _ _ => true | _ => false) = true) (hi : (P.info? ty).map (·.size) = some cs.size) :
    (results fn tmps).run P w = .ok (.tuple #[.agg cs, v]) w := by
  have hp' : tmps[p]?.getD undef = .pointer (some ⟨g, 0, none⟩) := by simpa using hp
  have hv' : tmps[t]?.getD undef = v := by simpa using hv
  simp [results, h, hp', hv', asAddr, run_loadVar_row w g e ty cs fr d hg hu hd hi]

def zeroB : Array Value := (valsB (List.replicate 32 0)).toArray
theorem zeroB_one : zeroB.all (·.oneCell') = true := by simp only [zeroB, valsB, List.all_toArray, List.all_map]; decide
theorem zeroB_info : (Try.prog.info? 23).map (·.size) = some zeroB.size := info_hash

theorem valD_hex (c : UInt8) : ∃ d : Int, valD c = d ∧ -1 ≤ d ∧ d ≤ 15 := ⟨_, rfl, (valD_of c).1, (valD_of c).2.1⟩

theorem row8_reset (xs : List UInt8) (n : Nat) (x : UInt8) (z : UInt8) : (row8 (xs ++ [x]) n).setIfInBounds xs.length (.int .u8 (z.toNat : Int)) = row8 (xs ++ [z]) n := by
  apply Array.toList_inj.1
  rw [Array.toList_setIfInBounds]
  simp only [row8, valsB, List.length_append, List.length_cons, List.length_nil, List.map_append, List.append_assoc, List.map_cons, List.map_nil, List.cons_append, List.nil_append]
  rw [List.set_append_right _ _ (by simp)]
  simp

theorem cell_of_digit (l : List UInt8) (c : UInt8) (k : Nat) (hl : l.length = k) (hk : k < 64) (hhex : l.all isHex = true) (hc : 0 ≤ valD c) :
    ∃ x : Nat, (row8 (unhex l) 32)[k / 2]? = some (.int .u8 x) ∧ x < 16 ∧ (row8 (unhex l) 32).setIfInBounds (k / 2) (.int .u8 ((x : Int) * 16 + ((valD c).toNat : Int))) = row8 (unhex (l ++ [c])) 32 := by
  have hb := (valD_of c).2.1
  obtain ⟨m, hm⟩ : ∃ m, k / 2 = m := ⟨_, rfl⟩
  rw [hm]
  have hr : k % 2 = 0 ∨ k % 2 = 1 := by omega
  rcases hr with hr | hr
  · have he := unhex_even m l c (by omega)
    refine ⟨0, ?_, by omega, ?_⟩
    · simp only [row8, List.getElem?_toArray]
      rw [List.getElem?_append_right (by simp [valsB, he.2])]
      simp only [valsB, List.length_map, he.2, Nat.sub_self, List.getElem?_replicate]
      rw [if_pos (by omega)]
      rfl
    · rw [he.1, ← row8_set (unhex l) 32 m _ he.2 (by omega)]
      congr 2
      rw [UInt8.toNat_ofNat', Nat.mod_eq_of_lt (by omega)]
      omega
  · obtain ⟨l', a, rfl⟩ : ∃ l' a, l = l' ++ [a] := by
      refine ⟨l.dropLast, l.getLast (by intro h; rw [h] at hl; simp at hl; omega), ?_⟩
      exact (List.dropLast_concat_getLast _).symm
    have hl' : l'.length = 2 * m := by simp at hl; omega
    have he := unhex_even m l' a hl'
    have ho := unhex_odd m l' a c hl'
    have ha : 0 ≤ valD a := by
      have := List.all_eq_true.1 hhex a (by simp)
      simpa [isHex] using this
    have hab := (valD_of a).2.1
    refine ⟨(valD a).toNat, ?_, by omega, ?_⟩
    · rw [he.1]
      simp only [row8, List.getElem?_toArray]
      rw [List.getElem?_append_left (by simp [valsB, he.2])]
      simp only [valsB, List.map_append, List.map_cons, List.map_nil]
      rw [List.getElem?_append_right (by simp [he.2])]
      simp only [List.length_map, he.2, Nat.sub_self, List.getElem?_cons_zero, UInt8.toNat_ofNat']
      rw [Nat.mod_eq_of_lt (by omega)]
    · have e : (((valD a).toNat : Nat) : Int) * 16 + ((valD c).toNat : Int) = ((UInt8.ofNat ((valD a).toNat * 16 + (valD c).toNat)).toNat : Int) := by
        rw [UInt8.toNat_ofNat', Nat.mod_eq_of_lt (by omega)]
        omega
      have hset := row8_reset (unhex l') 32 (UInt8.ofNat (valD a).toNat) (UInt8.ofNat ((valD a).toNat * 16 + (valD c).toNat))
      rw [he.2] at hset
      rw [he.1, ho, e, hset]

end Go.Proofs.Ytlalipomphgcoaa.Sha
