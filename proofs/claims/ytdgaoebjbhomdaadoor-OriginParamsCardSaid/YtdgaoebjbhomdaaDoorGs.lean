/- Rows of things of any kind: pieces; a literal of one thing; a thing in its box. -/
import Derived.Test.YtdgaoebjbhomdaaDoorGr
namespace Go.Proofs.YtdgaoebjbhomdaaDoor.Gr
open Go.RowKit

/-- A piece of a slice reads as a piece of the things. -/
theorem at_sliced {α : Type} {P : Program} {K : Kind P α} {w : World} {a : Option Addr} {n cap : Nat} {L : List α} (h : K.At w (.slice a n cap) L) (i j : Nat) (hij : i ≤ j) (hj : j ≤ L.length) :
    K.At w (.slice (if cap = i then a else a.map (·.add (i * K.size))) (j - i) (cap - i)) ((L.take j).drop i) := by
  rcases h with ⟨b, c, hv, rfl⟩ | ⟨g, o, c, hv, h0, hc, hr⟩
  · simp at hj
    subst hj
    obtain rfl : i = 0 := by omega
    exact Or.inl ⟨_, _, rfl, rfl⟩
  · injection hv with h1 h2 h3
    subst h1 h2 h3
    have hl : ((L.take j).drop i).length = j - i := by rw [List.length_drop, List.length_take, Nat.min_eq_left hj]
    by_cases h : j = i
    · subst h
      rw [Nat.sub_self, List.eq_nil_of_length_eq_zero (by rw [hl]; omega : ((L.take j).drop j).length = 0)]
      exact Kind.At.nil _ _
    · have hne : ¬ cap = i := by omega
      rw [if_neg hne]
      refine Or.inr ⟨g, o + i * K.size, cap - i, ?_, by omega, by omega, range_drop (range_take hr j) i (by rw [List.length_take]; omega)⟩
      rw [hl]
      show Value.slice (some ((⟨g, o, none⟩ : Addr).add (i * K.size))) (j - i) (cap - i) = _
      rw [Addr.add_mid]
theorem at_take {α : Type} {P : Program} {K : Kind P α} {w : World} {a : Option Addr} {n cap : Nat} {L : List α} (h : K.At w (.slice a n cap) L) (j : Nat) (hj : j ≤ L.length) : K.At w (.slice a j cap) (L.take j) := by
  have h1 := at_sliced h 0 j (Nat.zero_le _) hj
  rw [List.drop_zero, Nat.sub_zero, Nat.sub_zero, Nat.zero_mul] at h1
  rw [show (if cap = 0 then a else a.map (·.add 0)) = a by split <;> cases a <;> simp [Addr.add]] at h1
  exact h1
theorem at_drop {α : Type} {P : Program} {K : Kind P α} {w : World} {a : Option Addr} {n cap : Nat} {L : List α} (h : K.At w (.slice a n cap) L) (hn : L.length = n) (i : Nat) (hi : i ≤ L.length) : K.At w (.slice (if cap = i then a else a.map (·.add (i * K.size))) (n - i) (cap - i)) (L.drop i) := by
  have h1 := at_sliced h i L.length hi (Nat.le_refl _)
  rw [List.take_length, hn] at h1
  exact h1
/-- A literal of one thing. -/
theorem wpList_build_one {α : Type} {P : Program} {K : Kind P α} {ops : Array Oper} {rest : List Oper} {o : Oper} {a : Act} {w : World} {Q : Exit → Act → World → Prop} (hgd : o.guard = none) (t : TypeId) (x : Operand) (ho : o.op = .buildSlice t 1 #[(0, x)]) (ht : P.underlying t = Option.some (.slice K.T))
    (y : α) (hx : a.eval x = .agg (K.enc y).toArray) (hs : K.size ≤ 1000000)
    (h : ∀ v w', K.At w' v [y] → Below w.heap.size w w' → wpList P ops Q rest (a.put o.dst v) w') : wpList P ops Q (o :: rest) a w :=
  wpList_plain hgd fun _ hK => wp_build_at (K := K) t 1 _ ho ht [y] rfl (by decide) (by omega) (by simp [hx]) fun w' hat _ hb => hK _ _ (h _ w' hat hb)
/-- A box reads as its thing. -/
theorem range_new (w : World) (cs : List Value) (t : TypeId) : (w.alloc (.cells cs.toArray t)).rangeAt w.heap.size 0 cs := fun j v hv => by
  rw [Nat.zero_add, Lib.cell_of_heap (heap_alloc_new w _), List.getElem?_toArray]
  exact hv
theorem Kind.infoA {α : Type} {P : Program} (K : Kind P α) (x : α) : (P.info? K.T).map (·.size) = some (K.enc x).toArray.size := by
  obtain ⟨ie, hie, hq⟩ := Option.map_eq_some_iff.1 K.info
  simp only [Prod.mk.injEq] at hq
  rw [hie, Option.map_some, List.size_toArray, K.len, hq.2.1]
theorem Kind.infoL {α : Type} {P : Program} (K : Kind P α) (x : α) : (P.info? K.T).map (·.size) = some (K.enc x).length := by
  have := K.infoA x
  rwa [List.size_toArray] at this
theorem Kind.oldA {α : Type} {P : Program} (K : Kind P α) (x : α) : K.zero.cells.size = (K.enc x).toArray.size := by rw [K.zsize, List.size_toArray, K.len]
theorem Kind.sizeA {α : Type} {P : Program} (K : Kind P α) (x y : α) : (K.enc x).toArray.size = (K.enc y).toArray.size := by rw [List.size_toArray, List.size_toArray, K.len, K.len]
theorem Kind.oneA {α : Type} {P : Program} (K : Kind P α) (x : α) : (K.enc x).toArray.all (·.oneCell') = true := all_oneCell_toArray (K.one x)
/-- append: nothing but the row itself, and new blocks, has turned. -/
theorem wpList_append_grow {P : Program} {α : Type} {K : Kind P α} {w : World} {v : Value} {L : List α} {ops : Array Oper} {rest : List Oper} {o : Oper} {a : Act} {Q : Exit → Act → World → Prop} (hgd : o.guard = none) (s x : Operand) (t : TypeId)
    (ho : o.op = .call { callee := .builtin .append, args := #[s, x], argTypes := #[t, t] }) (ht : P.underlying t = Option.some (.slice K.T))
    (B : Nat) (hs : a.eval s = v) (hown : K.Own B v L w) (u : Value) (M : List α) (hx : a.eval x = u) (hat : K.At w u M) (h0 : 0 < M.length) (m : Nat) (hm : L.length + M.length = m)
    (hn : (L.length + M.length) * (K.bytes + 1) ≤ 1099511627776) (hB : B ≤ w.heap.size)
    (h : ∀ g cap w', K.Own B (  .slice (Option.some ⟨g, 0, none⟩) m cap) (L ++ M) w' → w.grownBy w' v.ownBlock → (v.ownBlock = Option.some g ∨ g = w.heap.size) → g < w'.heap.size → wpList P ops Q rest (a.put o.dst (  .slice (Option.some ⟨g, 0, none⟩) m cap)) w') : wpList P ops Q (o :: rest) a w := by
  subst hm
  obtain ⟨ie, hie, hq⟩ := Option.map_eq_some_iff.1 K.info
  simp only [Prod.mk.injEq] at hq
  obtain ⟨hz, hsz, hby⟩ := hq
  have hm1 : L.length + M.length ≤ (L.length + M.length) * (K.bytes + 1) := Nat.le_mul_of_pos_right _ (by omega)
  have hm2 : (L.length + M.length) * K.bytes ≤ (L.length + M.length) * (K.bytes + 1) := Nat.mul_le_mul_left _ (by omega)
  obtain ⟨g1, o1, cap, rfl, _, hr⟩ := hat.some h0
  refine wpList_append_lies w hgd s x t ho B K.T ie K.zero K.size K.bytes ht hie hz hsz hby K.zsize K.pos v L.length (K.flat L) hs hown ⟨g1, o1, none⟩ M.length cap (K.flat M) hx (K.flat_len M) (fun j u hj => ?_) (K.flat_one M) (by omega) (by unfold maxLen; omega) (by omega) hB _ rfl ?_
  · rw [Addr.add_mid]
    exact hr j u hj
  · intro g cap w' hown' hgrow hg hlt
    refine h g cap w' ?_ hgrow hg hlt
    unfold Kind.Own
    rw [K.flat_append, List.length_append]
    exact hown'
/-- What lies in another block stays. -/
theorem Kind.At.grown {α : Type} {P : Program} {K : Kind P α} {w w' : World} {u : Value} {L : List α} {row : Option Nat} (h : K.At w u L) (hg : w.grownBy w' row) (hr : 0 < L.length → ∀ k, u.ownBlock = Option.some k → row ≠ Option.some k) : K.At w' u L := by
  by_cases h0 : 0 < L.length
  · obtain ⟨g, o, cap, rfl, hc, hR⟩ := h.some h0
    have hne := hr h0 g rfl
    refine Or.inr ⟨g, o, cap, rfl, h0, hc, fun j x hj => ?_⟩
    have h1 := hR j x hj
    rw [hg.cell_far _ (World.block_lt_of_cell? _ _ h1) (fun e => hne e.symm)]
    exact h1
  · obtain rfl := List.eq_nil_of_length_eq_zero (by omega : L.length = 0)
    obtain ⟨a, cap, rfl, _⟩ := h.form
    exact Kind.At.nil _ _
theorem Kind.At.lt {α : Type} {P : Program} {K : Kind P α} {w : World} {u : Value} {L : List α} (h : K.At w u L) (h0 : 0 < L.length) : ∃ g, u.ownBlock = Option.some g ∧ g < w.heap.size := by
  obtain ⟨g, o, cap, rfl, hc, hR⟩ := h.some h0
  have hp := K.pos
  have hl : 0 < (K.flat L).length := by rw [K.flat_len]; exact Nat.mul_pos h0 hp
  exact ⟨g, rfl, World.block_lt_of_cell? _ _ (hR 0 _ (List.getElem?_eq_getElem hl))⟩
end Go.Proofs.YtdgaoebjbhomdaaDoor.Gr
