/- crew: the numbers and places of one call of first. -/
import Derived.Test.YtbckmkppmdfnnaaCrAj
namespace Go.Proofs.Ytbckmkppmdfnnaa.Crew
open Go.Conc Go.RowKit Go.Conc.Lib Go.ConcR.Gen
open Go.ConcN (WgLive)
open Go.ConcR (wgBlock WgAt)
/-- A call of first: Mk: the block of what is made; Z: the blocks that are shunned. -/
noncomputable def mkB (w₁ : World) (Z : Nat → Prop) (M n Mk : Nat) (b : Nat → Bool) (Q : World → Prop) (Done : Nat → World → Prop) (Wg Cp Cs Cf : Nat) : Base :=
  { P := Try.prog, ty := 66, Wg, Cp, Cs, Cf, Mk, n, M, zs := .agg #[]
    L := { Sh := fun l => ∃ a, l = .cell a ∧ a.block = Wg
           Shun := shunZ Z
           Own := fun p l => l = .cell ⟨Mk, p, none⟩
           Rd := fun l => ∃ a, l = .cell a ∧ a.block ≠ Wg ∧ ¬ Z a.block ∧ a.block ≠ Mk }
    b, Q, Done, w0 := w₁ }
/-- The numbers are apart. -/
structure Nums (Z : Nat → Prop) (Mk Wg Cp Cs Cf : Nat) : Prop where
  d1 : Cp ≠ Wg
  d2 : Cs ≠ Wg
  d3 : Cf ≠ Wg
  d4 : Cp ≠ Cs
  d5 : Cp ≠ Cf
  d6 : Cs ≠ Cf
  m1 : Mk ≠ Wg
  m2 : Mk ≠ Cp
  m3 : Mk ≠ Cs
  m4 : Mk ≠ Cf
  zW : ¬ Z Wg
  zM : ¬ Z Mk
section
variable {w₁ : World} {Z : Nat → Prop} {M n Mk : Nat} {b : Nat → Bool} {Q : World → Prop} {Done : Nat → World → Prop} {Wg Cp Cs Cf : Nat}
theorem mkB_apart (N : Nums Z Mk Wg Cp Cs Cf) : (mkB w₁ Z M n Mk b Q Done Wg Cp Cs Cf).L.Apart where
  own := fun p p' l h h' => by
    have := h.symm.trans h'
    simpa using this
  ownRd := fun p l h ⟨a, e, _, _, x⟩ => by
    rw [h] at e
    cases e
    exact x rfl
  ownSh := fun p l h ⟨a, e, x⟩ => by
    rw [h] at e
    cases e
    exact N.m1 x
  rdSh := fun l ⟨a, e, x, _⟩ ⟨a', e', y⟩ => by
    rw [e] at e'
    cases e'
    exact x y
  ownShun := fun p l h ⟨a, e, x⟩ => by
    rw [h] at e
    cases e
    exact N.zM x
  rdShun := fun l ⟨a, e, _, x, _⟩ ⟨a', e', y⟩ => by
    rw [e] at e'
    cases e'
    exact x y
  shShun := fun l ⟨a, e, x⟩ ⟨a', e', y⟩ => by
    rw [e] at e'
    cases e'
    exact N.zW (x ▸ y)
theorem mkB_field (N : Nums Z Mk Wg Cp Cs Cf) (qOf : ∀ w w' : World, w'.heap[Mk]? = w.heap[Mk]? → Q w → Q w') (doneOf : ∀ p (w w' : World), w'.heap[Mk]? = w.heap[Mk]? → Done p w → Done p w') (few : n ≤ 16) (some1 : 0 < M → 0 < n) (hM : M ≤ 9223372036854775807) :
    Field (mkB w₁ Z M n Mk b Q Done Wg Cp Cs Cf) :=
  ⟨mkB_apart N, fun l => Iff.rfl, fun p l h => ⟨_, h⟩, fun l ⟨a, e, _⟩ => ⟨a, e⟩, N.d1, N.d2, N.d3, N.d4, N.d5, N.d6, N.m1, N.m2, N.m3, N.m4, qOf, doneOf, Nat.lt_of_le_of_lt few (by decide), some1, hM⟩
/-- The old blocks but Mk are as they were. -/
def Same (w₀ : World) (Mk : Nat) (w : World) : Prop := ∀ c, c < w₀.heap.size → c ≠ Mk → w.heap[c]? = w₀.heap[c]?
theorem mkB_seat {w₀ : World} {vP vS vF vI : Nat} {isV : Value} (hb : ∀ v, v = vP ∨ v = vS ∨ v = vF ∨ v = vI → (mkB w₁ Z M n Mk b Q Done Wg Cp Cs Cf).Calm v ∧ ¬ Z v)
    (new : w₀.heap.size ≤ Wg ∧ w₀.heap.size ≤ Cp ∧ w₀.heap.size ≤ Cs ∧ w₀.heap.size ≤ Cf)
    (N : Nums Z Mk Wg Cp Cs Cf) (qOf : ∀ w w' : World, w'.heap[Mk]? = w.heap[Mk]? → Q w → Q w')
    (job : ∀ p, p < M → ∃ k, ∀ w, Same w₀ Mk w ∧ Q w → CallsV Try.prog false (K (mkB w₁ Z M n Mk b Q Done Wg Cp Cs Cf)) (DWp (mkB w₁ Z M n Mk b Q Done Wg Cp Cs Cf) p) isV #[.int .i64 p] k w (fun v w' => v = .bool (b p) ∧ K (mkB w₁ Z M n Mk b Q Done Wg Cp Cs Cf) w w' ∧ Done p w')) :
    Seat (mkB w₁ Z M n Mk b Q Done Wg Cp Cs Cf) vP vS vF vI isV (fun w => Same w₀ Mk w ∧ Q w) where
  P := rfl
  ty := rfl
  zs := rfl
  cP := (hb vP (by simp)).1
  cS := (hb vS (by simp)).1
  cF := (hb vF (by simp)).1
  cI := (hb vI (by simp)).1
  rP := ⟨_, rfl, (hb vP (by simp)).1.1, (hb vP (by simp)).2, (hb vP (by simp)).1.2.2.2.2⟩
  rS := ⟨_, rfl, (hb vS (by simp)).1.1, (hb vS (by simp)).2, (hb vS (by simp)).1.2.2.2.2⟩
  rF := ⟨_, rfl, (hb vF (by simp)).1.1, (hb vF (by simp)).2, (hb vF (by simp)).1.2.2.2.2⟩
  rI := ⟨_, rfl, (hb vI (by simp)).1.1, (hb vI (by simp)).2, (hb vI (by simp)).1.2.2.2.2⟩
  jK := fun w w' k h => ⟨fun c hc hm => by
    obtain ⟨n1, n2, n3, n4⟩ := new
    exact (k.block c (show c ≠ Wg by omega) (show c ≠ Cp by omega) (show c ≠ Cs by omega) (show c ≠ Cf by omega) hm).trans (h.1 c hc hm), k.q h.2⟩
  jT := fun w w' _ hbl h => ⟨fun c hc hm => by
    obtain ⟨n1, n2, n3, n4⟩ := new
    exact (hbl c (show c ≠ Wg by omega) (show c ≠ Cs by omega)).trans (h.1 c hc hm), qOf _ _ (hbl Mk N.m1 N.m3) h.2⟩
  job := job
end
end Go.Proofs.Ytbckmkppmdfnnaa.Crew
