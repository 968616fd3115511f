/- deed: plain mathematics: which deeds may be; what is taken of bytes; spots. -/
import Derived.Test.YtdgaoebjbhomdaaDoorDeM
import Derived.Laws.Strings
namespace Go.Proofs.YtdgaoebjbhomdaaDoor.Deed
open Go.Proofs.YtdgaoebjbhomdaaDoor.Digit

/-! ### Which may be -/
def uptoB (p : Nat → Bool) : Nat → Bool
  | 0 => true
  | n + 1 => uptoB p n && p n
theorem uptoB_hit {p : Nat → Bool} : ∀ {n i : Nat}, uptoB p n = true → i < n → p i = true
  | 0, i, _, h => absurd h (by omega)
  | n + 1, i, h, hi => by
    rw [uptoB, Bool.and_eq_true] at h
    by_cases e : i = n
    · rw [e]; exact h.2
    · exact uptoB_hit h.1 (by omega)
theorem uptoB_miss {p : Nat → Bool} : ∀ {n i : Nat}, p i = false → i < n → uptoB p n = false
  | 0, i, _, h => absurd h (by omega)
  | n + 1, i, h, hi => by
    rw [uptoB]
    by_cases e : i = n
    · rw [← e, h, Bool.and_false]
    · rw [uptoB_miss h (by omega), Bool.false_and]
instance : Inhabited InD := ⟨⟨h0, 0⟩⟩
instance : Inhabited OutD := ⟨⟨h0, h0, 0⟩⟩
instance : Inhabited CertD := ⟨⟨0, h0, h0, 0, 0, 0⟩⟩
instance : Inhabited PayD := ⟨⟨h0, 0⟩⟩
instance : Inhabited WitD := ⟨⟨h0, ⟨#[]⟩⟩⟩
def spotL (x : InD) : List UInt8 := x.tx.1 ++ eightL x.ix.toNat
def amountB (n : UInt64) : Bool := decide (1 ≤ n.toNat) && decide (n.toNat ≤ 9223372036854775807)
def certB (c : CertD) : Bool :=
  if c.kind.toNat = 1 ∨ c.kind.toNat = 2 then decide (c.pool = h0) && decide (c.a.toNat = 0) && decide (c.b.toNat = 0) && decide (c.c.toNat = 0)
  else if c.kind.toNat = 3 then decide (c.a.toNat = 0) && decide (c.b.toNat = 0) && decide (c.c.toNat = 0)
  else if c.kind.toNat = 4 then decide (c.a.toNat ≤ 9223372036854775807) && decide (c.b.toNat ≤ 9223372036854775807) && decide (c.c.toNat ≤ 1000)
  else if c.kind.toNat = 5 then decide (c.key = h0) && decide (c.b.toNat = 0) && decide (c.c.toNat = 0)
  else if c.kind.toNat = 6 then decide (c.key = h0) && decide (c.c.toNat = 0)
  else false
def inB (l : List InD) (i : Nat) : Bool := decide ((l.getD i default).ix.toNat < 8) && (decide (i = 0) || Op.bytesLess (spotL (l.getD (i - 1) default)) (spotL (l.getD i default)))
def outB (l : List OutD) (i : Nat) : Bool := amountB (l.getD i default).am
def payB (l : List PayD) (i : Nat) : Bool := amountB (l.getD i default).am && (decide (i = 0) || Op.bytesLess (l.getD (i - 1) default).key.1 (l.getD i default).key.1)
def witB (l : List WitD) (i : Nat) : Bool := decide ((l.getD i default).sig.size = 1024) && (decide (i = 0) || Op.bytesLess (l.getD (i - 1) default).key.1 (l.getD i default).key.1)
def sizesB (t : DeedD) : Bool := decide (1 ≤ t.ins.length) && decide (t.ins.length ≤ 8) && decide (t.outs.length ≤ 8) && decide (t.fee.toNat ≤ 9223372036854775807) && decide (t.from_.toNat ≤ t.until_.toNat) && decide (t.certs.length ≤ 4) && decide (t.pays.length ≤ 4) && decide (t.wits.length ≤ 8)
def mayD (t : DeedD) : Bool := sizesB t && uptoB (inB t.ins) t.ins.length && uptoB (outB t.outs) t.outs.length && uptoB (fun i => certB (t.certs.getD i default)) t.certs.length && uptoB (payB t.pays) t.pays.length && uptoB (witB t.wits) t.wits.length
theorem may_sizes {t : DeedD} (h : mayD t = true) : t.ins.length ≤ 8 ∧ t.outs.length ≤ 8 ∧ t.certs.length ≤ 4 ∧ t.pays.length ≤ 4 ∧ t.wits.length ≤ 8 := by
  unfold mayD sizesB at h
  simp only [Bool.and_eq_true, decide_eq_true_eq] at h
  omega
theorem may_sigs {t : DeedD} (h : mayD t = true) : ∀ x ∈ t.wits, x.sig.size = 1024 := by
  intro x hx
  obtain ⟨i, hi, he⟩ := List.mem_iff_getElem.1 hx
  have h1 : uptoB (witB t.wits) t.wits.length = true := by
    unfold mayD at h
    simp only [Bool.and_eq_true] at h
    exact h.2
  have h2 := uptoB_hit h1 hi
  unfold witB at h2
  rw [Bool.and_eq_true] at h2
  have h3 := of_decide_eq_true h2.1
  rwa [List.getD_eq_getElem?_getD, List.getElem?_eq_getElem hi, Option.getD_some, he] at h3

/-! ### What is taken -/
def takeD (l : List UInt8) : DeedD × Int := if (deedR (l, true)).2.2 = true ∧ (deedR (l, true)).2.1 = [] ∧ mayD (deedR (l, true)).1 = true then ((deedR (l, true)).1, 0) else (deed0, 6)
theorem take_put {t : DeedD} (h : mayD t = true) : takeD (allL t) = (t, 0) := by
  have hs := may_sizes h
  have h1 := good_deed.there t [] ⟨⟨hs.1, hs.2.1, hs.2.2.1, hs.2.2.2.1⟩, hs.2.2.2.2, may_sigs h⟩
  rw [List.append_nil] at h1
  unfold takeD
  rw [h1, if_pos ⟨rfl, rfl, h⟩]
theorem take_one {l : List UInt8} {t : DeedD} (h : takeD l = (t, 0)) : mayD t = true ∧ l = allL t := by
  unfold takeD at h
  by_cases e : (deedR (l, true)).2.2 = true ∧ (deedR (l, true)).2.1 = [] ∧ mayD (deedR (l, true)).1 = true
  · rw [if_pos e] at h
    simp only [Prod.mk.injEq, and_true] at h
    obtain ⟨e1, e2, e3⟩ := e
    have h2 := good_deed.back l true (deedR (l, true)).1 [] (Prod.ext rfl (Prod.ext e2 e1))
    rw [h] at e3 h2
    rw [List.append_nil] at h2
    exact ⟨e3, h2.2.1⟩
  · rw [if_neg e] at h
    simp at h
theorem take_no {l : List UInt8} (h : (takeD l).2 ≠ 0) : takeD l = (deed0, 6) := by
  unfold takeD at h ⊢
  by_cases e : (deedR (l, true)).2.2 = true ∧ (deedR (l, true)).2.1 = [] ∧ mayD (deedR (l, true)).1 = true
  · rw [if_pos e] at h
    exact absurd rfl h
  · rw [if_neg e]
theorem take_two (l : List UInt8) : (takeD l).2 = 0 ∨ takeD l = (deed0, 6) := by
  by_cases h : (takeD l).2 = 0
  · exact Or.inl h
  · exact Or.inr (take_no h)
theorem body_parts {t u : DeedD} (h : mayD t = true) (k : mayD u = true) (e : bodyL t = bodyL u) : partsD t = partsD u := by
  have hs := may_sizes h
  have ks := may_sizes k
  have h1 := good_body.there (partsD t) [] (by simp [partsD]; omega)
  have k1 := good_body.there (partsD u) [] (by simp [partsD]; omega)
  rw [show bodyL (ofParts (partsD t) []) = bodyL t from rfl] at h1
  rw [show bodyL (ofParts (partsD u) []) = bodyL u from rfl, ← e, h1] at k1
  exact (Prod.mk.inj k1).1
theorem body_wits (t : DeedD) (w : List WitD) : bodyL { t with wits := w } = bodyL t := rfl

/-! ### Spots -/
theorem less_app : ∀ (l m a b : List UInt8), l.length = m.length → Op.bytesLess (l ++ a) (m ++ b) = (Op.bytesLess l m || (decide (l = m) && Op.bytesLess a b))
  | [], [], a, b, _ => by simp [Op.bytesLess]
  | [], _ :: _, _, _, h => by simp at h
  | _ :: _, [], _, _, h => by simp at h
  | x :: l, y :: m, a, b, h => by
    have ih := less_app l m a b (by simpa using h)
    simp only [List.cons_append, Op.bytesLess, ih, List.cons.injEq]
    by_cases e : x = y
    · subst e
      have : ¬ x < x := UInt8.lt_irrefl x
      simp [this]
    · have e2 : (x == y) = false := by simpa using e
      simp [e, e2]
theorem less_eight : ∀ (k a b : Nat), a < 256 ^ k → b < 256 ^ k → Op.bytesLess (eightF k a) (eightF k b) = decide (a < b)
  | 0, a, b, ha, hb => by
    have h1 : a = 0 := by simpa using ha
    have h2 : b = 0 := by simpa using hb
    subst h1 h2
    simp [eightF, Op.bytesLess]
  | k + 1, a, b, ha, hb => by
    rw [Nat.pow_succ] at ha hb
    have ih := less_eight k (a / 256) (b / 256) (by omega) (by omega)
    have e1 : (UInt8.ofNat a).toNat = a % 256 := by simp [UInt8.toNat_ofNat']
    have e2 : (UInt8.ofNat b).toNat = b % 256 := by simp [UInt8.toNat_ofNat']
    have hinj : eightF k (a / 256) = eightF k (b / 256) ↔ a / 256 = b / 256 := by
      refine ⟨fun h => ?_, fun h => by rw [h]⟩
      have h1 := valB_eight k (a / 256) 0
      have h2 := valB_eight k (b / 256) 0
      rw [h] at h1
      rw [h1, Nat.mod_eq_of_lt (by omega), Nat.mod_eq_of_lt (by omega)] at h2
      omega
    rw [eightF, eightF, less_app _ _ _ _ (by rw [eightF_len, eightF_len]), ih]
    have e3 : Op.bytesLess [UInt8.ofNat a] [UInt8.ofNat b] = decide (a % 256 < b % 256) := by
      simp only [Op.bytesLess, Bool.and_false, Bool.or_false, UInt8.lt_iff_toNat_lt, e1, e2]
    rw [e3, show decide (eightF k (a / 256) = eightF k (b / 256)) = decide (a / 256 = b / 256) from decide_eq_decide.2 hinj]
    by_cases h1 : a / 256 < b / 256
    · have : a < b := by omega
      simp [h1, this]
    · by_cases h2 : a / 256 = b / 256
      · by_cases h3 : a % 256 < b % 256
        · have : a < b := by omega
          simp [h2, h3, this]
        · have : ¬ a < b := by omega
          simp [h2, h3, this]
      · have : ¬ a < b := by omega
        simp [h1, h2, this]
theorem spot_less (x y : InD) : Op.bytesLess (spotL x) (spotL y) = (Op.bytesLess x.tx.1 y.tx.1 || (decide (x.tx = y.tx) && decide (x.ix.toNat < y.ix.toNat))) := by
  unfold spotL eightL
  rw [less_app _ _ _ _ (by rw [x.tx.2, y.tx.2]), less_eight 8 _ _ (by have := x.ix.toNat_lt; omega) (by have := y.ix.toNat_lt; omega), show decide (x.tx.1 = y.tx.1) = decide (x.tx = y.tx) from decide_eq_decide.2 Subtype.ext_iff.symm]
end Go.Proofs.YtdgaoebjbhomdaaDoor.Deed
