/- disk: slices.DeleteFunc over loose changes. -/
import Derived.Test.YtoacnhiophgfcaaDkE0
namespace Go.Proofs.Ytoacnhiophgfcaa.Dk
open Go.RowKit Go.Proofs.Ytoacnhiophgfcaa.Gr

theorem flat_inv {P : Program} {α : Type} (K : Kind P α) : ∀ (L : List α) (j : Nat) (v : Value), (K.flat L)[j]? = some v → ∃ q r x, L[q]? = some x ∧ (K.enc x)[r]? = some v ∧ r < K.size ∧ j = q * K.size + r
  | [], j, v, h => by simp [Kind.flat] at h
  | x :: L, j, v, h => by
    rw [K.flat_cons] at h
    by_cases hj : j < K.size
    · rw [List.getElem?_append_left (by rw [K.len]; exact hj)] at h
      exact ⟨0, j, x, rfl, h, hj, by omega⟩
    · rw [List.getElem?_append_right (by rw [K.len]; omega), K.len] at h
      obtain ⟨q, r, y, h1, h2, h3, h4⟩ := flat_inv K L _ v h
      exact ⟨q + 1, r, y, by simpa using h1, h2, h3, by rw [Nat.add_mul]; omega⟩
theorem setCells_heap (g : Nat) (t : TypeId) (fz : Nat × Nat) : ∀ (vs : List Value) (o : Nat) (w : World) (cur : Array Value), w.heap[g]? = some (.cells cur t fz) → ∃ cur', (w.setCells g o vs).heap[g]? = some (.cells cur' t fz) ∧ cur'.size = cur.size
  | [], _, _, cur, h => ⟨cur, h, rfl⟩
  | v :: r, o, w, cur, h => by
    have h1 : (w.setCell ⟨g, o, none⟩ v).heap[g]? = some (.cells (cur.setIfInBounds o v) t fz) := by
      rw [setCell_eq_setRow w g o cur t fz v h]
      exact setRow_heap w g cur _ t fz h
    obtain ⟨cur', h2, h3⟩ := setCells_heap g t fz r (o + 1) _ _ h1
    exact ⟨cur', h2, by rw [h3]; simp⟩
theorem Frm.setCells {F : Nat → Prop} {a : World} {g : Nat} (hg : F g ∨ a.heap.size ≤ g) : ∀ (vs : List Value) (o : Nat) (b : World), Frm F a b → Frm F a (b.setCells g o vs)
  | [], _, _, h => h
  | v :: r, o, _, h => Frm.setCells hg r (o + 1) _ (h.setCell (p := ⟨g, o, none⟩) hg v)
theorem own_of {P : Program} {α : Type} {K : Kind P α} {w : World} {g n cap : Nat} {cur : Array Value} {L : List α} (hg : w.heap[g]? = some (.cells cur K.T (0, 0))) (hs : cur.size = cap * K.size) (hn : L.length = n) (hc : n ≤ cap) (hm : cap ≤ maxLen) (hr : w.rangeAt g 0 (K.flat L)) : K.Own 0 (.slice (some ⟨g, 0, none⟩) n cap) L w := by
  refine ⟨K.flat_len L, Or.inr ⟨g, cap, cur, by rw [hn], Nat.zero_le _, hg, by omega, hm, hs, ?_⟩⟩
  have hl : (K.flat L).length = L.length * K.size := K.flat_len L
  have hle : L.length * K.size ≤ cap * K.size := Nat.mul_le_mul_right _ (by omega)
  apply List.ext_getElem?
  intro j
  rcases Nat.lt_or_ge j (L.length * K.size) with hj | hj
  · rw [List.getElem?_take_of_lt hj]
    have h1 : (K.flat L)[j]? = some (K.flat L)[j] := List.getElem?_eq_getElem (by omega)
    have h2 := hr j _ h1
    rw [Nat.zero_add, Lib.cell_of_heap hg] at h2
    rw [h1, ← h2]
    simp
  · rw [List.getElem?_eq_none (by simp; omega), List.getElem?_eq_none (by omega)]
theorem own_block {P : Program} {α : Type} {K : Kind P α} {w : World} {g n cap : Nat} {L : List α} (h : K.Own 0 (.slice (some ⟨g, 0, none⟩) n cap) L w) : ∃ cur, w.heap[g]? = some (.cells cur K.T (0, 0)) ∧ cur.size = cap * K.size ∧ L.length = n ∧ n ≤ cap ∧ cap ≤ maxLen ∧ w.rangeAt g 0 (K.flat L) := by
  rcases h.2 with ⟨hv, _⟩ | ⟨g', cap', cur, hv, _, hg, h1, h2, h3, _⟩
  · simp at hv
  · simp only [Value.slice.injEq, Option.some.injEq, Addr.mk.injEq] at hv
    obtain ⟨⟨rfl, _⟩, hn, rfl⟩ := hv
    refine ⟨cur, hg, h3, hn.symm, by omega, h2, fun j u hj => ?_⟩
    have hcell := World.ownsRow.cells h (g := g) rfl j u hj
    rw [Addr.add_mid] at hcell
    exact hcell
/-- One thing of a row is written over. -/
theorem own_set {P : Program} {α : Type} {K : Kind P α} {w : World} {g n cap : Nat} {L : List α} (h : K.Own 0 (.slice (some ⟨g, 0, none⟩) n cap) L w) {i : Nat} (hi : i < n) (x : α) : w.there g (i * K.size) K.size ∧ K.Own 0 (.slice (some ⟨g, 0, none⟩) n cap) (L.set i x) (w.setCells g (i * K.size) (K.enc x)) := by
  obtain ⟨cur, hg, hs, hn, hc, hm, hr⟩ := own_block h
  have hfit : i * K.size + K.size ≤ cap * K.size := by
    rw [← Nat.succ_mul]
    exact Nat.mul_le_mul_right _ (by omega)
  have hth : w.there g (i * K.size) K.size := fun j hj => ⟨by
    rw [Lib.cell_of_heap hg, Array.getElem?_eq_getElem (by omega)]
    rfl, by simp [World.frozen?, hg]⟩
  obtain ⟨cur', hg', hs'⟩ := setCells_heap g _ _ (K.enc x) (i * K.size) w cur hg
  refine ⟨hth, own_of hg' (by rw [hs', hs]) (by simpa using hn) hc hm fun j u hj => ?_⟩
  obtain ⟨q, r, y, hq, hu, hlt, rfl⟩ := flat_inv K _ j u hj
  by_cases e : q = i
  · subst e
    rw [List.getElem?_set_self (by omega)] at hq
    injection hq with hq
    subst hq
    rw [Nat.zero_add, World.cell?_setCells_in g (K.enc x) (q * K.size) w (fun t ht => (hth t (by rw [← K.len x]; exact ht)).1) r (by rw [K.len]; exact hlt)]
    rw [← hu, List.getElem?_eq_getElem (by rw [K.len]; exact hlt)]
  · rw [List.getElem?_set_ne (Ne.symm e)] at hq
    rw [World.cell?_setCells_out g _ _ _ _ (fun _ _ => ?_)]
    · exact hr _ u (K.flat_at L q y r u hq hu)
    · rw [K.len, Nat.zero_add]
      rcases Nat.lt_or_ge q i with hlt' | hge
      · left
        have : (q + 1) * K.size ≤ i * K.size := Nat.mul_le_mul_right _ (by omega)
        rw [Nat.add_mul] at this
        show q * K.size + r < i * K.size
        omega
      · right
        have : (i + 1) * K.size ≤ q * K.size := Nat.mul_le_mul_right _ (by omega)
        rw [Nat.add_mul] at this
        show i * K.size + K.size ≤ q * K.size + r
        omega
/-- What stands behind the first ones is written over. -/
theorem own_cut {P : Program} {α : Type} {K : Kind P α} {w : World} {g n cap : Nat} {L : List α} (h : K.Own 0 (.slice (some ⟨g, 0, none⟩) n cap) L w) {i : Nat} (hi : i ≤ n) (vs : List Value) (hv : vs.length = (n - i) * K.size) : w.there g (i * K.size) vs.length ∧ K.Own 0 (.slice (some ⟨g, 0, none⟩) i cap) (L.take i) (w.setCells g (i * K.size) vs) := by
  obtain ⟨cur, hg, hs, hn, hc, hm, hr⟩ := own_block h
  have hfit : i * K.size + vs.length ≤ cap * K.size := by
    rw [hv, ← Nat.add_mul]
    exact Nat.mul_le_mul_right _ (by omega)
  have hth : w.there g (i * K.size) vs.length := fun j hj => ⟨by
    rw [Lib.cell_of_heap hg, Array.getElem?_eq_getElem (by omega)]
    rfl, by simp [World.frozen?, hg]⟩
  obtain ⟨cur', hg', hs'⟩ := setCells_heap g _ _ vs (i * K.size) w cur hg
  refine ⟨hth, own_of hg' (by rw [hs', hs]) (by rw [List.length_take]; omega) (by omega) hm fun j u hj => ?_⟩
  have hlt := (List.getElem?_eq_some_iff.1 hj).1
  rw [K.flat_len, List.length_take, Nat.min_eq_left (by omega)] at hlt
  rw [World.cell?_setCells_out g _ _ _ _ (fun _ _ => Or.inl (by simpa using hlt))]
  exact range_take hr i j u hj
theorem own_frm {P : Program} {α : Type} {K : Kind P α} {F : Nat → Prop} {w w' : World} {v : Value} {L : List α} (h : K.Own 0 v L w) (hf : Frm F w w') (hl : ∀ k, v.ownBlock = some k → ¬ F k) : K.Own 0 v L w' := by
  rcases h.2 with ⟨rfl, h0⟩ | ⟨b, cap, cur, rfl, hb, hc, r⟩
  · exact ⟨h.1, Or.inl ⟨rfl, h0⟩⟩
  · exact ⟨h.1, Or.inr ⟨b, cap, cur, rfl, hb, (hf.block b (Array.getElem?_eq_some_iff.1 hc).1 (hl b rfl)).trans hc, r⟩⟩

theorem run_clear_row {P : Program} (w : World) (t e ty : TypeId) (z : Value) (ht : P.underlying t = some (.slice e)) (hv : ∀ w, (zeroValue e).run P w = .ok z w) (h1 : ∀ u ∈ z.cells, u.oneCell' = true) (b o n c : Nat) (hn : 0 < n)
    (hth : w.there b o (Builtin.zeroCells z.cells n).toList.length) :
    (Builtin.clear_ #[t] ty #[.slice (some ⟨b, o, none⟩) n c]).run P w = .ok (.tuple #[]) (w.setCells b o (Builtin.zeroCells z.cells n).toList) := by
  have hst := run_storeCells_cells (P := P) b o (Builtin.zeroCells z.cells n).toList 0 w (fun j hj => (hth j hj).1) (fun j hj => (hth j hj).2) (by
    intro v hv'
    unfold Builtin.zeroCells at hv'
    rw [Array.toList_map, List.mem_map] at hv'
    obtain ⟨i, hi, rfl⟩ := hv'
    have hi2 : i < n * z.cells.size := by simpa using hi
    have hpos : 0 < z.cells.size := by
      rcases Nat.eq_zero_or_pos z.cells.size with h | h
      · rw [h] at hi2; omega
      · exact h
    rw [getElem!_pos z.cells (i % z.cells.size) (Nat.mod_lt _ hpos)]
    exact h1 _ (Array.getElem_mem _))
  simp only [Nat.add_zero] at hst
  obtain ⟨m, rfl⟩ : ∃ m, n = m + 1 := ⟨n - 1, by omega⟩
  simp [Builtin.clear_, run_underlying ht, hv, hst]

/-! ### lists -/
def keepF (k : Nat) (L : List Ch) : List Ch := L.filter fun c => !(c.file == k)
theorem keepF_none (k : Nat) : ∀ (L : List Ch), idxN k L = L.length → keepF k L = L
  | [], _ => rfl
  | y :: L, h => by
    unfold idxN at h
    by_cases hy : (y.file == k) = true
    · rw [List.takeWhile_cons_of_neg (by simp [hy])] at h
      simp at h
    · rw [List.takeWhile_cons_of_pos (by simp [hy]), List.length_cons, List.length_cons] at h
      unfold keepF
      rw [List.filter_cons_of_pos (by simp [hy])]
      congr 1
      exact keepF_none k L (by unfold idxN; omega)
theorem keepF_head (k : Nat) : ∀ (L : List Ch), idxN k L < L.length → keepF k (L.take (idxN k L + 1)) = L.take (idxN k L)
  | [], h => by simp at h
  | y :: L, h => by
    unfold idxN at h ⊢
    by_cases hy : (y.file == k) = true
    · rw [List.takeWhile_cons_of_neg (by simp [hy])]
      simp [keepF, hy]
    · rw [List.takeWhile_cons_of_pos (by simp [hy]), List.length_cons] at h ⊢
      rw [List.take_succ_cons, List.take_succ_cons]
      unfold keepF
      rw [List.filter_cons_of_pos (by simp [hy])]
      congr 1
      exact keepF_head k L (by unfold idxN; simp at h; omega)
theorem keepF_le (k : Nat) (L : List Ch) : (keepF k L).length ≤ L.length := List.length_filter_le _ _
theorem keepF_snoc (k : Nat) (L : List Ch) (j : Nat) (x : Ch) (h : L[j]? = some x) : keepF k (L.take (j + 1)) = keepF k (L.take j) ++ (if x.file == k then [] else [x]) := by
  rw [List.take_add_one, h]
  unfold keepF
  rw [List.filter_append]
  congr 1
  cases hx : x.file == k <;> simp [hx]
/-- What the row has while it is gone over. -/
structure DelA (k : Nat) (L A : List Ch) (i j : Nat) : Prop where
  len : A.length = L.length
  done : A.take i = keepF k (L.take j)
  rest : A.drop j = L.drop j
  lt : i < j
  cnt : (keepF k (L.take j)).length = i
theorem DelA.start {k : Nat} {L : List Ch} (h : idxN k L < L.length) : DelA k L L (idxN k L) (idxN k L + 1) :=
  ⟨rfl, (keepF_head k L h).symm, rfl, by omega, by rw [keepF_head k L h, List.length_take]; omega⟩
theorem DelA.at_ {k : Nat} {L A : List Ch} {i j : Nat} (h : DelA k L A i j) {x : Ch} (hx : L[j]? = some x) : A[j]? = some x := by
  have := congrArg (·[0]?) h.rest
  simpa [hx] using this
theorem DelA.skip {k : Nat} {L A : List Ch} {i j : Nat} (h : DelA k L A i j) {x : Ch} (hx : L[j]? = some x) (hk : (x.file == k) = true) : DelA k L A i (j + 1) := by
  have e : keepF k (L.take (j + 1)) = keepF k (L.take j) := by rw [keepF_snoc k L j x hx, if_pos hk, List.append_nil]
  refine ⟨h.len, by rw [e]; exact h.done, ?_, by have := h.lt; omega, by rw [e]; exact h.cnt⟩
  have := congrArg (List.drop 1) h.rest
  simpa [List.drop_drop] using this
theorem DelA.keep {k : Nat} {L A : List Ch} {i j : Nat} (h : DelA k L A i j) {x : Ch} (hx : L[j]? = some x) (hk : (x.file == k) = false) : DelA k L (A.set i x) (i + 1) (j + 1) := by
  have e : keepF k (L.take (j + 1)) = keepF k (L.take j) ++ [x] := by rw [keepF_snoc k L j x hx, hk]; rfl
  have hj : j < L.length := (List.getElem?_eq_some_iff.1 hx).1
  have hl := h.lt
  have hlen := h.len
  refine ⟨by simpa using h.len, ?_, ?_, by omega, by rw [e, List.length_append, h.cnt]; rfl⟩
  · rw [e, ← h.done, List.take_add_one, List.getElem?_set_self (by omega), List.take_set_of_le (Nat.le_refl _)]
    rfl
  · rw [List.drop_set_of_lt (by omega)]
    have := congrArg (List.drop 1) h.rest
    simpa [List.drop_drop] using this
end Go.Proofs.Ytoacnhiophgfcaa.Dk
