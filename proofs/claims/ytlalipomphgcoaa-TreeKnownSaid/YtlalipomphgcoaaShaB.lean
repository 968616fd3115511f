/- The document's own answers: digits of 16 bits times a number. -/
import Derived.Test.YtlalipomphgcoaaShaA
import Derived.Deep.AppendLies
import Derived.OwnWalk
import Derived.Lib.SmallJoins
namespace Go.Proofs.Ytlalipomphgcoaa.Sha
open Go.RowKit

/-- A slice's cells are these numbers. -/
def Dig (w : World) (g : Nat) (xs : List Nat) : Prop := ∀ i x : Nat, xs[i]? = some x → w.cell? ⟨g, i, none⟩ = some (.int .u64 x)
def vals (xs : List Nat) : List Value := xs.map fun (x : Nat) => Value.int .u64 x
theorem vals_snoc (ys : List Nat) (r : Nat) : vals ys ++ [Value.int .u64 (r : Int)] = vals (ys ++ [r]) := by simp [vals]
theorem info64 : (Try.prog.info? 86).map (fun i => (i.zero, i.size, i.bytes)) = some (some (.int .u64 0), 1, 8) := by kernel_rfl
theorem own_cells {w : World} {B : Nat} {n : Nat} {xs : List Nat} {g cap : Nat} (h : w.ownsRow B 86 1 (.slice (some ⟨g, 0, none⟩) n cap) n (vals xs)) : Dig w g xs := by
  intro i x hx
  have := h.cells (g := g) rfl i (.int .u64 x) (by simp [vals, hx])
  have e : (⟨g, 0, none⟩ : Addr).add i = ⟨g, i, none⟩ := by
    unfold Addr.add
    split
    · rename_i h0
      have : i = 0 := by simpa using h0
      subst this
      rfl
    · simp
  rw [e] at this
  exact this
theorem news_one (w : World) (u : Value) (t : TypeId) : ∀ j v, [u][j]? = some v → (w.alloc (.cells #[u] t)).cell? ((⟨w.heap.size, 0, none⟩ : Addr).add j) = some v := by
  intro j v hj
  match j, hj with
  | 0, hj => simp at hj; subst hj; simp [Addr.add]
theorem news_oneCell (r : Nat) : ∀ u ∈ [Value.int .u64 (r : Int)], u.oneCell' = true := by
  intro u hu
  simp at hu
  subst hu
  rfl
theorem own_base {w : World} {B : Nat} {e : TypeId} {v : Value} {n : Nat} {xs : List Value} (h : w.ownsRow B e 1 v n xs) : ∀ k, v.ownBlock = some k → B ≤ k := by
  intro k hk
  rcases h.2 with ⟨rfl, _⟩ | ⟨g, cap, cur, rfl, hb, _⟩
  · simp [Value.ownBlock] at hk
  · simp [Value.ownBlock] at hk
    omega

/-- What digits of 16 bits tell, the lowest first. -/
def val16 : List Nat → Nat
  | [] => 0
  | x :: xs => x + 65536 * val16 xs

theorem val16_snoc (ys : List Nat) (r : Nat) : val16 (ys ++ [r]) = val16 ys + 65536 ^ ys.length * r := by
  induction ys with
  | nil => simp [val16]
  | cons y ys ih =>
    simp only [List.cons_append, val16, ih, List.length_cons, Nat.pow_succ]
    rw [Nat.mul_add, ← Nat.mul_assoc, Nat.mul_comm 65536 (65536 ^ ys.length)]
    omega

theorem val16_drop (xs : List Nat) (k x : Nat) (h : xs[k]? = some x) : val16 (xs.drop k) = x + 65536 * val16 (xs.drop (k + 1)) := by
  obtain ⟨hk, rfl⟩ := List.getElem?_eq_some_iff.1 h
  rw [List.drop_eq_getElem_cons hk, val16]

/-- One digit more: what has been told and what is to come is the product still. -/
theorem step16 (P n V ov r q X : Nat) (h : P * (ov + n * X) = V) (hX : ov + n * X = r + 65536 * q) : P * r + P * 65536 * q = V := by
  rw [← h, hX, Nat.mul_add, Nat.mul_assoc]

end Go.Proofs.Ytlalipomphgcoaa.Sha
