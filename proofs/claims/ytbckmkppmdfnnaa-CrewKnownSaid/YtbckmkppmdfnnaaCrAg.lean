/- crew: first makes its channels and their boxes, in whatever order. -/
import Derived.Test.YtbckmkppmdfnnaaCrU
import Derived.Test.YtbckmkppmdfnnaaCrAf
namespace Go.Proofs.Ytbckmkppmdfnnaa.Crew
open Go.Conc Go.RowKit Go.Conc.Lib Go.ConcR.Gen Go.Proofs.Ytbckmkppmdfnnaa.QT
/-- What was there is as it was. -/
structure Olds (w₀ w : World) : Prop where
  size : w₀.heap.size ≤ w.heap.size
  block : ∀ b, b < w₀.heap.size → w.heap[b]? = w₀.heap[b]?
  tape : w.tape = w₀.tape
  os : w.os = w₀.os
  output : w.output = w₀.output
theorem Olds.refl (w : World) : Olds w w := ⟨Nat.le_refl _, fun _ _ => rfl, rfl, rfl, rfl⟩
theorem Olds.at {w₀ w w₁ : World} (h : Olds w₀ w) (k : AtRel w w₁) : Olds w₀ w₁ := by
  obtain ⟨d, rfl⟩ := k
  exact ⟨h.size, h.block, h.tape, h.os, h.output⟩
theorem heap_al (w : World) (o : Obj) : (w.alloc o).heap = w.heap.push o := rfl
theorem Olds.alloc {w₀ w : World} {o : Obj} (h : Olds w₀ w) : Olds w₀ (w.alloc o) :=
  ⟨by have := h.size; rw [heap_al, Array.size_push]; omega, fun b hb => by rw [← h.block b hb, heap_al, Array.getElem?_push, if_neg (by have := h.size; omega)], h.tape, h.os, h.output⟩
theorem keep_alloc {w : World} {o x : Obj} {b : Nat} (h : w.heap[b]? = some x) : (w.alloc o).heap[b]? = some x := by
  have := (Array.getElem?_eq_some_iff.1 h).1
  rw [← h, heap_al, Array.getElem?_push, if_neg (by omega)]
theorem new_alloc (w : World) (o : Obj) : (w.alloc o).heap[w.heap.size]? = some o := by rw [heap_al, Array.getElem?_push, if_pos rfl]
def emptyChan : Obj := .chan 0 #[] false 0 0 false
structure Inv2 (w₀ : World) (L : Nat → Prop) (s : Nat → Value) (w : World) : Prop where
  old : Olds w₀ w
  c0 : L 0 → ∃ c, s 0 = .chan (some c) ∧ w₀.heap.size ≤ c ∧ w.heap[c]? = some emptyChan
  c1 : L 1 → ∃ c, s 1 = .chan (some c) ∧ w₀.heap.size ≤ c ∧ w.heap[c]? = some emptyChan
  ne : L 0 → L 1 → s 0 ≠ s 1
  b2 : L 2 → ∃ b u, s 2 = .pointer (some ⟨b, 0, none⟩) ∧ w₀.heap.size ≤ b ∧ w.heap[b]? = some (.cells #[u] 55) ∧ (L 4 → u = s 0)
  b3 : L 3 → ∃ b u, s 3 = .pointer (some ⟨b, 0, none⟩) ∧ w₀.heap.size ≤ b ∧ w.heap[b]? = some (.cells #[u] 56) ∧ (L 5 → u = s 1)
  d4 : L 4 → L 0 ∧ L 2
  d5 : L 5 → L 1 ∧ L 3
theorem Inv2.at {w₀ w w₁ : World} {L : Nat → Prop} {s : Nat → Value} (h : Inv2 w₀ L s w) (k : AtRel w w₁) : Inv2 w₀ L s w₁ := by
  have := h.old.at k
  obtain ⟨d, rfl⟩ := k
  exact ⟨this, h.c0, h.c1, h.ne, h.b2, h.b3, h.d4, h.d5⟩
section
variable {w₀ w : World} {L L' : Nat → Prop} {s s' : Nat → Value}
theorem lt_of {w : World} {b : Nat} {x : Obj} (h : w.heap[b]? = some x) : b < w.heap.size := (Array.getElem?_eq_some_iff.1 h).1
theorem Inv2.s0 (h : Inv2 w₀ L s w) (hL : ∀ j, L' j ↔ j = 0 ∨ L j) (h4 : ¬ L 4) (e : s' 0 = .chan (some w.heap.size)) (es : ∀ j, j ≠ 0 → s' j = s j) : Inv2 w₀ L' s' (w.alloc emptyChan) := by
  refine ⟨h.old.alloc, fun _ => ⟨_, e, h.old.size, new_alloc _ _⟩, fun l => ?_, fun _ l => ?_, fun l => ?_, fun l => ?_, fun l => (by have := h.d4 (((hL 4).1 l).resolve_left (by omega)); exact ⟨(hL 0).2 (.inr this.1), (hL 2).2 (.inr this.2)⟩), fun l => (by have := h.d5 (((hL 5).1 l).resolve_left (by omega)); exact ⟨(hL 1).2 (.inr this.1), (hL 3).2 (.inr this.2)⟩)⟩
  · obtain ⟨c, a1, a2, a3⟩ := h.c1 (((hL 1).1 l).resolve_left (by omega))
    exact ⟨c, by rw [es 1 (by omega)]; exact a1, a2, keep_alloc a3⟩
  · obtain ⟨c, a1, a2, a3⟩ := h.c1 (((hL 1).1 l).resolve_left (by omega))
    rw [e, es 1 (by omega), a1]
    have := lt_of a3
    intro x
    simp at x
    omega
  · obtain ⟨b, u, a1, a2, a3, a4⟩ := h.b2 (((hL 2).1 l).resolve_left (by omega))
    exact ⟨b, u, by rw [es 2 (by omega)]; exact a1, a2, keep_alloc a3, fun l4 => absurd (((hL 4).1 l4).resolve_left (by omega)) h4⟩
  · obtain ⟨b, u, a1, a2, a3, a4⟩ := h.b3 (((hL 3).1 l).resolve_left (by omega))
    exact ⟨b, u, by rw [es 3 (by omega)]; exact a1, a2, keep_alloc a3, fun l5 => by rw [es 1 (by omega)]; exact a4 (((hL 5).1 l5).resolve_left (by omega))⟩
theorem Inv2.s1 (h : Inv2 w₀ L s w) (hL : ∀ j, L' j ↔ j = 1 ∨ L j) (h5 : ¬ L 5) (e : s' 1 = .chan (some w.heap.size)) (es : ∀ j, j ≠ 1 → s' j = s j) : Inv2 w₀ L' s' (w.alloc emptyChan) := by
  refine ⟨h.old.alloc, fun l => ?_, fun _ => ⟨_, e, h.old.size, new_alloc _ _⟩, fun l _ => ?_, fun l => ?_, fun l => ?_, fun l => (by have := h.d4 (((hL 4).1 l).resolve_left (by omega)); exact ⟨(hL 0).2 (.inr this.1), (hL 2).2 (.inr this.2)⟩), fun l => (by have := h.d5 (((hL 5).1 l).resolve_left (by omega)); exact ⟨(hL 1).2 (.inr this.1), (hL 3).2 (.inr this.2)⟩)⟩
  · obtain ⟨c, a1, a2, a3⟩ := h.c0 (((hL 0).1 l).resolve_left (by omega))
    exact ⟨c, by rw [es 0 (by omega)]; exact a1, a2, keep_alloc a3⟩
  · obtain ⟨c, a1, a2, a3⟩ := h.c0 (((hL 0).1 l).resolve_left (by omega))
    rw [e, es 0 (by omega), a1]
    have := lt_of a3
    intro x
    simp at x
    omega
  · obtain ⟨b, u, a1, a2, a3, a4⟩ := h.b2 (((hL 2).1 l).resolve_left (by omega))
    exact ⟨b, u, by rw [es 2 (by omega)]; exact a1, a2, keep_alloc a3, fun l4 => by rw [es 0 (by omega)]; exact a4 (((hL 4).1 l4).resolve_left (by omega))⟩
  · obtain ⟨b, u, a1, a2, a3, a4⟩ := h.b3 (((hL 3).1 l).resolve_left (by omega))
    exact ⟨b, u, by rw [es 3 (by omega)]; exact a1, a2, keep_alloc a3, fun l5 => absurd (((hL 5).1 l5).resolve_left (by omega)) h5⟩
theorem Inv2.s2 (h : Inv2 w₀ L s w) (hL : ∀ j, L' j ↔ j = 2 ∨ L j) (h4 : ¬ L 4) {u : Value} (e : s' 2 = .pointer (some ⟨w.heap.size, 0, none⟩)) (es : ∀ j, j ≠ 2 → s' j = s j) : Inv2 w₀ L' s' (w.alloc (.cells #[u] 55)) := by
  refine ⟨h.old.alloc, fun l => ?_, fun l => ?_, fun l l' => ?_, fun _ => ⟨_, u, e, h.old.size, new_alloc _ _, fun l4 => absurd (((hL 4).1 l4).resolve_left (by omega)) h4⟩, fun l => ?_, fun l => (by have := h.d4 (((hL 4).1 l).resolve_left (by omega)); exact ⟨(hL 0).2 (.inr this.1), (hL 2).2 (.inr this.2)⟩), fun l => (by have := h.d5 (((hL 5).1 l).resolve_left (by omega)); exact ⟨(hL 1).2 (.inr this.1), (hL 3).2 (.inr this.2)⟩)⟩
  · obtain ⟨c, a1, a2, a3⟩ := h.c0 (((hL 0).1 l).resolve_left (by omega))
    exact ⟨c, by rw [es 0 (by omega)]; exact a1, a2, keep_alloc a3⟩
  · obtain ⟨c, a1, a2, a3⟩ := h.c1 (((hL 1).1 l).resolve_left (by omega))
    exact ⟨c, by rw [es 1 (by omega)]; exact a1, a2, keep_alloc a3⟩
  · rw [es 0 (by omega), es 1 (by omega)]
    exact h.ne (((hL 0).1 l).resolve_left (by omega)) (((hL 1).1 l').resolve_left (by omega))
  · obtain ⟨b, u, a1, a2, a3, a4⟩ := h.b3 (((hL 3).1 l).resolve_left (by omega))
    exact ⟨b, u, by rw [es 3 (by omega)]; exact a1, a2, keep_alloc a3, fun l5 => by rw [es 1 (by omega)]; exact a4 (((hL 5).1 l5).resolve_left (by omega))⟩
theorem Inv2.s3 (h : Inv2 w₀ L s w) (hL : ∀ j, L' j ↔ j = 3 ∨ L j) (h5 : ¬ L 5) {u : Value} (e : s' 3 = .pointer (some ⟨w.heap.size, 0, none⟩)) (es : ∀ j, j ≠ 3 → s' j = s j) : Inv2 w₀ L' s' (w.alloc (.cells #[u] 56)) := by
  refine ⟨h.old.alloc, fun l => ?_, fun l => ?_, fun l l' => ?_, fun l => ?_, fun _ => ⟨_, u, e, h.old.size, new_alloc _ _, fun l5 => absurd (((hL 5).1 l5).resolve_left (by omega)) h5⟩, fun l => (by have := h.d4 (((hL 4).1 l).resolve_left (by omega)); exact ⟨(hL 0).2 (.inr this.1), (hL 2).2 (.inr this.2)⟩), fun l => (by have := h.d5 (((hL 5).1 l).resolve_left (by omega)); exact ⟨(hL 1).2 (.inr this.1), (hL 3).2 (.inr this.2)⟩)⟩
  · obtain ⟨c, a1, a2, a3⟩ := h.c0 (((hL 0).1 l).resolve_left (by omega))
    exact ⟨c, by rw [es 0 (by omega)]; exact a1, a2, keep_alloc a3⟩
  · obtain ⟨c, a1, a2, a3⟩ := h.c1 (((hL 1).1 l).resolve_left (by omega))
    exact ⟨c, by rw [es 1 (by omega)]; exact a1, a2, keep_alloc a3⟩
  · rw [es 0 (by omega), es 1 (by omega)]
    exact h.ne (((hL 0).1 l).resolve_left (by omega)) (((hL 1).1 l').resolve_left (by omega))
  · obtain ⟨b, u, a1, a2, a3, a4⟩ := h.b2 (((hL 2).1 l).resolve_left (by omega))
    exact ⟨b, u, by rw [es 2 (by omega)]; exact a1, a2, keep_alloc a3, fun l4 => by rw [es 0 (by omega)]; exact a4 (((hL 4).1 l4).resolve_left (by omega))⟩
theorem box_set {w : World} {b : Nat} {u v : Value} {t : TypeId} (h : w.heap[b]? = some (.cells #[u] t)) : (w.setCell ⟨b, 0, none⟩ v).heap[b]? = some (.cells #[v] t) ∧ ∀ c, c ≠ b → (w.setCell ⟨b, 0, none⟩ v).heap[c]? = w.heap[c]? := by
  have hA := aside_setCell w ⟨b, 0, none⟩ v
  refine ⟨?_, fun c hc => hA.block c hc⟩
  rw [setCell_eq_setRow w b 0 #[u] t (0, 0) v h, setRow_heap w b _ _ t _ h]
  simp
theorem Olds.set (h : Olds w₀ w) {b : Nat} (hb : w₀.heap.size ≤ b) (v : Value) : Olds w₀ (w.setCell ⟨b, 0, none⟩ v) := by
  have hA := aside_setCell w ⟨b, 0, none⟩ v
  exact ⟨by rw [hA.size]; exact h.size, fun c hc => (hA.block c (by dsimp only; omega)).trans (h.block c hc), hA.tape.trans h.tape, hA.os.trans h.os, hA.output.trans h.output⟩
theorem Inv2.s4 (h : Inv2 w₀ L s w) (hL : ∀ j, L' j ↔ j = 4 ∨ L j) (l0 : L 0) (l2 : L 2) (es : ∀ j, j ≠ 4 → s' j = s j) : ∃ b u, s 2 = .pointer (some ⟨b, 0, none⟩) ∧ w.heap[b]? = some (.cells #[u] 55) ∧ w₀.heap.size ≤ b ∧ Inv2 w₀ L' s' (w.setCell ⟨b, 0, none⟩ (s 0)) := by
  obtain ⟨b, u, a1, a2, a3, _⟩ := h.b2 l2
  obtain ⟨k1, k2⟩ := box_set (v := s 0) a3
  refine ⟨b, u, a1, a3, a2, h.old.set a2 _, fun l => ?_, fun l => ?_, fun l l' => ?_, fun l => ?_, fun l => ?_, fun _ => ⟨(hL 0).2 (.inr l0), (hL 2).2 (.inr l2)⟩, fun l => ?_⟩
  · obtain ⟨c, b1, b2, b3⟩ := h.c0 l0
    exact ⟨c, by rw [es 0 (by omega)]; exact b1, b2, by rw [k2 c (fun e => by rw [e, a3] at b3; simp [emptyChan] at b3)]; exact b3⟩
  · obtain ⟨c, b1, b2, b3⟩ := h.c1 (((hL 1).1 l).resolve_left (by omega))
    exact ⟨c, by rw [es 1 (by omega)]; exact b1, b2, by rw [k2 c (fun e => by rw [e, a3] at b3; simp [emptyChan] at b3)]; exact b3⟩
  · rw [es 0 (by omega), es 1 (by omega)]
    exact h.ne l0 (((hL 1).1 l').resolve_left (by omega))
  · exact ⟨b, s 0, by rw [es 2 (by omega)]; exact a1, a2, k1, fun _ => (es 0 (by omega)).symm⟩
  · obtain ⟨c, v, b1, b2, b3, b4⟩ := h.b3 (((hL 3).1 l).resolve_left (by omega))
    exact ⟨c, v, by rw [es 3 (by omega)]; exact b1, b2, by rw [k2 c (fun e => by rw [e, a3] at b3; simp at b3)]; exact b3, fun l5 => by rw [es 1 (by omega)]; exact b4 (((hL 5).1 l5).resolve_left (by omega))⟩
  · have := h.d5 (((hL 5).1 l).resolve_left (by omega))
    exact ⟨(hL 1).2 (.inr this.1), (hL 3).2 (.inr this.2)⟩
theorem Inv2.s5 (h : Inv2 w₀ L s w) (hL : ∀ j, L' j ↔ j = 5 ∨ L j) (l1 : L 1) (l3 : L 3) (es : ∀ j, j ≠ 5 → s' j = s j) : ∃ b u, s 3 = .pointer (some ⟨b, 0, none⟩) ∧ w.heap[b]? = some (.cells #[u] 56) ∧ w₀.heap.size ≤ b ∧ Inv2 w₀ L' s' (w.setCell ⟨b, 0, none⟩ (s 1)) := by
  obtain ⟨b, u, a1, a2, a3, _⟩ := h.b3 l3
  obtain ⟨k1, k2⟩ := box_set (v := s 1) a3
  refine ⟨b, u, a1, a3, a2, h.old.set a2 _, fun l => ?_, fun l => ?_, fun l l' => ?_, fun l => ?_, fun l => ?_, fun l => ?_, fun _ => ⟨(hL 1).2 (.inr l1), (hL 3).2 (.inr l3)⟩⟩
  · obtain ⟨c, b1, b2, b3⟩ := h.c0 (((hL 0).1 l).resolve_left (by omega))
    exact ⟨c, by rw [es 0 (by omega)]; exact b1, b2, by rw [k2 c (fun e => by rw [e, a3] at b3; simp [emptyChan] at b3)]; exact b3⟩
  · obtain ⟨c, b1, b2, b3⟩ := h.c1 l1
    exact ⟨c, by rw [es 1 (by omega)]; exact b1, b2, by rw [k2 c (fun e => by rw [e, a3] at b3; simp [emptyChan] at b3)]; exact b3⟩
  · rw [es 0 (by omega), es 1 (by omega)]
    exact h.ne (((hL 0).1 l).resolve_left (by omega)) l1
  · obtain ⟨c, v, b1, b2, b3, b4⟩ := h.b2 (((hL 2).1 l).resolve_left (by omega))
    exact ⟨c, v, by rw [es 2 (by omega)]; exact b1, b2, by rw [k2 c (fun e => by rw [e, a3] at b3; simp at b3)]; exact b3, fun l4 => by rw [es 0 (by omega)]; exact b4 (((hL 4).1 l4).resolve_left (by omega))⟩
  · exact ⟨b, s 1, by rw [es 3 (by omega)]; exact a1, a2, k1, fun _ => (es 1 (by omega)).symm⟩
  · have := h.d4 (((hL 4).1 l).resolve_left (by omega))
    exact ⟨(hL 0).2 (.inr this.1), (hL 2).2 (.inr this.2)⟩
end
end Go.Proofs.Ytbckmkppmdfnnaa.Crew
