/- evolve: a key in its block; the document's May: may a key be? -/
import Derived.Test.YtpifjeghoapjbaaEvG
import Derived.Test.YtpifjeghoapjbaaEwA
namespace Go.Proofs.Ytpifjeghoapjbaa.Evolve
open Go.RowKit Go.Proofs.Ytpifjeghoapjbaa.Sha Go.Proofs.Ytpifjeghoapjbaa.Tree Go.Proofs.Ytpifjeghoapjbaa.Once

/-- A key in its block. -/
structure EvAt (w : World) (g : Nat) (d p : Int) (leaf : List UInt8) (rv sv : Value) : Prop where
  len : leaf.length = 32
  row : w.heap[g]? = some (.cells (evRow d p leaf rv sv) 26 (0, 0))

section
variable {w w' : World} {g : Nat} {d p : Int} {leaf : List UInt8} {rv sv : Value}
theorem EvAt.lt (h : EvAt w g d p leaf rv sv) : g < w.heap.size := (Array.getElem?_eq_some_iff.1 h.row).1
theorem EvAt.kept (h : EvAt w g d p leaf rv sv) (hb : Below w.heap.size w w') : EvAt w' g d p leaf rv sv := ⟨h.len, (hb.block g h.lt).trans h.row⟩
theorem EvAt.c0 (h : EvAt w g d p leaf rv sv) : w.cell? ⟨g, 0, none⟩ = some (.int .i64 d) := by rw [Lib.cell_of_heap h.row]; rfl
theorem EvAt.c1 (h : EvAt w g d p leaf rv sv) : w.cell? ⟨g, 1, none⟩ = some (.int .i64 p) := by rw [Lib.cell_of_heap h.row]; rfl
theorem EvAt.c34 (h : EvAt w g d p leaf rv sv) : w.cell? ⟨g, 34, none⟩ = some rv := by rw [Lib.cell_of_heap h.row]; exact evRow_34 _ _ _ _ _ h.len
theorem EvAt.c35 (h : EvAt w g d p leaf rv sv) : w.cell? ⟨g, 35, none⟩ = some sv := by rw [Lib.cell_of_heap h.row]; exact evRow_35 _ _ _ _ _ h.len
theorem EvAt.lf (h : EvAt w g d p leaf rv sv) : w.rangeAt g 2 (valsB leaf) := fun j v hv => by
  have hj : j < (valsB leaf).length := (List.getElem?_eq_some_iff.1 hv).1
  rw [Lib.cell_of_heap h.row, evRow, List.getElem?_toArray, List.append_assoc, List.getElem?_append_right (by simp), List.getElem?_append_left (by simp; omega)]
  rw [show 2 + j - [Value.int .i64 d, .int .i64 p].length = j by simp]
  exact hv
end
theorem ev_new (w : World) (d p : Int) (leaf : List UInt8) (rv sv : Value) (hl : leaf.length = 32) : EvAt (w.alloc (.cells (evRow d p leaf rv sv) 26)) w.heap.size d p leaf rv sv := ⟨hl, heap_alloc_new _ _⟩
theorem ev_info (d p : Int) (leaf : List UInt8) (rv sv : Value) (hl : leaf.length = 32) : (Try.prog.info? 26).map (·.size) = some (evRow d p leaf rv sv).size := by rw [evRow_size _ _ _ _ _ hl]; exact info_ev

/-- Where the way goes right. -/
def rightAt (d p i : Nat) : Bool := p / 2 ^ (d - 1 - i) % 2 == 1
theorem digE_get (k : Nat) : ∀ (q : Nat) (L : List Bool) (i : Nat), i < k → (digE k q L)[i]? = some (rightAt k q i) := by
  have tail : ∀ (k q : Nat) (L : List Bool), ∃ M, digE k q L = M ++ L ∧ M.length = k := by
    intro k
    induction k with
    | zero => intro q L; exact ⟨[], rfl, rfl⟩
    | succ k ih =>
      intro q L
      obtain ⟨M, hM, hl⟩ := ih (q / 2) ((q % 2 == 1) :: L)
      exact ⟨M ++ [q % 2 == 1], by rw [digE, hM]; simp, by simp [hl]⟩
  induction k with
  | zero => intro q L i hi; omega
  | succ k ih =>
    intro q L i hi
    rw [digE]
    by_cases h : i < k
    · rw [ih _ _ _ h]
      unfold rightAt
      rw [Nat.div_div_eq_div_mul, show k + 1 - 1 - i = (k - 1 - i) + 1 by omega, Nat.pow_succ, Nat.mul_comm 2]
    · obtain rfl : i = k := by omega
      obtain ⟨M, hM, hl⟩ := tail i (q / 2) ((q % 2 == 1) :: L)
      rw [hM, List.getElem?_append_right (by omega), hl, Nat.sub_self]
      simp [rightAt]
theorem digitsE_get (d p i : Nat) (hi : i < d) : (digitsE d p)[i]? = some (rightAt d p i) := digE_get d p [] i hi

/-- May a key be? -/
def mayP (d p : Int) (R : List (List UInt8)) (ns : Nat) : Prop := wayP d p ∧ R.length = d.toNat ∧ ns = d.toNat ∧ ∀ i, i < d.toNat → rightAt d.toNat p.toNat i = true → R.getD i [] = zeroL
theorem mayP_nat {d p : Int} {R : List (List UInt8)} {ns : Nat} (h : mayP d p R ns) : ∃ dn pn : Nat, d = dn ∧ p = pn ∧ dn ≤ 4 ∧ pn < 2 ^ dn ∧ R.length = dn ∧ ns = dn ∧ ∀ i, i < dn → rightAt dn pn i = true → R.getD i [] = zeroL := by
  obtain ⟨⟨⟨h0, h4⟩, h1, h2⟩, h3, h5, h6⟩ := h
  refine ⟨d.toNat, p.toNat, by omega, by omega, by omega, ?_, h3, h5, h6⟩
  have : ((p.toNat : Nat) : Int) < ((2 ^ d.toNat : Nat) : Int) := by rw [Int.toNat_of_nonneg h1]; push_cast; exact h2
  omega

theorem hashes_form {w : World} {a : Option Addr} {n c : Nat} {L : List (List UInt8)} (h : Hashes w (.slice a n c) L) : L.length = n := by
  rcases h with ⟨a', cap, hv, h0⟩ | ⟨g, o, cap, hv, _, _⟩
  · cases hv; rw [h0]; rfl
  · cases hv; rfl

/-- An array in the middle of a row, loaded under a guard that holds. -/
theorem wpList_load_mid_g {P : Program} {ops : Array Oper} {rest : List Oper} {op : Oper} {a : Act} {w : World} {Q : Exit → Act → World → Prop} (hw : Region.wanted op (yielded ops a.tmps) = true) (ty : TypeId) (x : Operand) (ho : op.op = .load ty x)
    (b o : Nat) (hx : a.eval x = .pointer (some ⟨b, o, none⟩)) (cs : List Value) (d : TypeDesc) (hc : w.rangeAt b o cs)
    (hu : P.underlying ty = some d) (hd : d.isRow = true) (hi : (P.info? ty).map (·.size) = some cs.length)
    (h : wpList P ops Q rest (a.put op.dst (.agg cs.toArray)) w) : wpList P ops Q (op :: rest) a w :=
  wpList_step fun K hK => by
    rw [if_pos hw]
    exact wp_load_mid ty x ho b o hx cs d hc hu hd hi (hK _ _ h)

end Go.Proofs.Ytpifjeghoapjbaa.Evolve
