/- Rows of things of any kind: what a slice reads as; a row of one's own, appended to. -/
import Derived.WalkKit
import Derived.Lib.Hide
import Derived.Deep.AppendLies
import Derived.Deep.Upon
import Derived.Deep.MidRow
import Derived.Great.BuildSlice
import Derived.Lib.Builder
namespace Go.Proofs.YtdgaoebjbhomdaaDoor.Gr
open Go.RowKit

/-- A kind of things: its type, how many cells it takes, and which. -/
structure Kind (P : Program) (α : Type) where
  T : TypeId
  size : Nat
  bytes : Nat
  zero : Value
  enc : α → List Value
  info : (P.info? T).map (fun i => (i.zero, i.size, i.bytes)) = some (some zero, size, bytes)
  zsize : zero.cells.size = size
  pos : 0 < size
  len : ∀ x, (enc x).length = size
  one : ∀ x, ∀ u ∈ enc x, u.oneCell' = true

section
variable {P : Program} {α : Type} (K : Kind P α)

def Kind.flat (L : List α) : List Value := L.flatMap K.enc
theorem Kind.flat_nil : K.flat [] = [] := rfl
theorem Kind.flat_cons (x : α) (L : List α) : K.flat (x :: L) = K.enc x ++ K.flat L := rfl
theorem Kind.flat_append (L M : List α) : K.flat (L ++ M) = K.flat L ++ K.flat M := by simp [Kind.flat]
theorem Kind.flat_len (L : List α) : (K.flat L).length = L.length * K.size := by
  induction L with
  | nil => simp [Kind.flat]
  | cons x L ih => rw [K.flat_cons, List.length_append, ih, K.len, List.length_cons, Nat.add_mul, Nat.one_mul, Nat.add_comm]
theorem Kind.flat_one (L : List α) : ∀ u ∈ K.flat L, u.oneCell' = true := fun u hu => by
  obtain ⟨x, _, hx⟩ := List.mem_flatMap.1 hu
  exact K.one x u hx
theorem Kind.flat_at (L : List α) : ∀ (i : Nat) (x : α) (j : Nat) (u : Value), L[i]? = some x → (K.enc x)[j]? = some u → (K.flat L)[i * K.size + j]? = some u := by
  induction L with
  | nil => intro i x j u h; simp at h
  | cons y L ih =>
    intro i x j u h hu
    cases i with
    | zero =>
      simp at h
      subst h
      rw [K.flat_cons, Nat.zero_mul, Nat.zero_add, List.getElem?_append_left (List.getElem?_eq_some_iff.1 hu).1]
      exact hu
    | succ i =>
      rw [K.flat_cons, List.getElem?_append_right (by rw [K.len, Nat.add_mul]; omega), K.len, show (i + 1) * K.size + j - K.size = i * K.size + j by rw [Nat.add_mul]; omega]
      exact ih i x j u (by simpa using h) hu

/-- A slice that reads as these things. -/
def Kind.At (w : World) (v : Value) (L : List α) : Prop :=
  (∃ a cap, v = .slice a 0 cap ∧ L = []) ∨ ∃ g o cap, v = .slice (some ⟨g, o, none⟩) L.length cap ∧ 0 < L.length ∧ L.length ≤ cap ∧ w.rangeAt g o (K.flat L)

theorem range_kept {w w' : World} {g o : Nat} {cs : List Value} (hb : Below w.heap.size w w') (h : w.rangeAt g o cs) : w'.rangeAt g o cs := fun j v hv => by
  have hc := h j v hv
  rw [hb.cell (World.block_lt_of_cell? _ _ hc)]
  exact hc
variable {K} {w w' : World} {v : Value} {L : List α}
theorem Kind.At.kept (h : K.At w v L) (hb : Below w.heap.size w w') : K.At w' v L := by
  rcases h with h | ⟨g, o, cap, hv, h0, hc, hr⟩
  · exact Or.inl h
  · exact Or.inr ⟨g, o, cap, hv, h0, hc, range_kept hb hr⟩
theorem Kind.At.form (h : K.At w v L) : ∃ a cap, v = .slice a L.length cap ∧ L.length ≤ cap := by
  rcases h with ⟨a, cap, rfl, rfl⟩ | ⟨g, o, cap, rfl, _, hc, _⟩
  · exact ⟨a, cap, rfl, Nat.zero_le _⟩
  · exact ⟨_, cap, rfl, hc⟩
theorem Kind.At.some (h : K.At w v L) (h0 : 0 < L.length) : ∃ g o cap, v = .slice (some ⟨g, o, none⟩) L.length cap ∧ L.length ≤ cap ∧ w.rangeAt g o (K.flat L) := by
  rcases h with ⟨a, cap, rfl, rfl⟩ | ⟨g, o, cap, hv, _, hc, hr⟩
  · simp at h0
  · exact ⟨g, o, cap, hv, hc, hr⟩
theorem range_thing {g o : Nat} (hr : w.rangeAt g o (K.flat L)) {i : Nat} {x : α} (hi : L[i]? = Option.some x) {j : Nat} {u : Value} (hj : (K.enc x)[j]? = Option.some u) : w.cell? ⟨g, o + (i * K.size + j), none⟩ = Option.some u :=
  hr _ _ (K.flat_at L i x j u hi hj)
theorem Kind.At.nil (a : Option Addr) (cap : Nat) : K.At w (.slice a 0 cap) [] := Or.inl ⟨a, cap, rfl, rfl⟩
/-- A piece from the beginning. -/
theorem range_take {g o : Nat} (hr : w.rangeAt g o (K.flat L)) (n : Nat) : w.rangeAt g o (K.flat (L.take n)) := fun j u hj => by
  refine hr j u ?_
  have h1 : K.flat L = K.flat (L.take n) ++ K.flat (L.drop n) := by rw [← K.flat_append, List.take_append_drop]
  rw [h1, List.getElem?_append_left (List.getElem?_eq_some_iff.1 hj).1]
  exact hj
/-- A piece up to the end. -/
theorem range_drop {g o : Nat} (hr : w.rangeAt g o (K.flat L)) (n : Nat) (hn : n ≤ L.length) : w.rangeAt g (o + n * K.size) (K.flat (L.drop n)) := fun j u hj => by
  have h1 : K.flat L = K.flat (L.take n) ++ K.flat (L.drop n) := by rw [← K.flat_append, List.take_append_drop]
  have h2 := hr (n * K.size + j) u (by
    rw [h1, List.getElem?_append_right (by rw [K.flat_len, List.length_take, Nat.min_eq_left hn]; omega), K.flat_len, List.length_take, Nat.min_eq_left hn, Nat.add_sub_cancel_left]
    exact hj)
  rw [← Nat.add_assoc] at h2
  exact h2

/-- A row of one's own, from block B on, which grows by append. -/
def Kind.Own (K : Kind P α) (B : Nat) (v : Value) (L : List α) (w : World) : Prop := w.ownsRow B K.T K.size v L.length (K.flat L)
theorem Kind.Own.nil (B : Nat) (w : World) : K.Own B (.slice none 0 0) [] w := ⟨by simp [Kind.flat], Or.inl ⟨rfl, rfl⟩⟩
theorem Kind.Own.form {B : Nat} (h : K.Own B v L w) : v = .slice none 0 0 ∧ L = [] ∨ ∃ g cap, v = .slice (Option.some ⟨g, 0, none⟩) L.length cap ∧ B ≤ g ∧ g < w.heap.size ∧ L.length ≤ cap := by
  rcases h.2 with ⟨hv, h0⟩ | ⟨g, cap, cur, hv, hB, hg, h1, _, _⟩
  · exact Or.inl ⟨hv, List.eq_nil_of_length_eq_zero h0⟩
  · exact Or.inr ⟨g, cap, hv, hB, (Array.getElem?_eq_some_iff.1 hg).1, h1⟩
theorem Kind.Own.base {B : Nat} (h : K.Own B v L w) : ∀ k, v.ownBlock = Option.some k → B ≤ k := by
  intro k hk
  rcases h.form with ⟨rfl, _⟩ | ⟨g, cap, rfl, hB, _, _⟩
  · simp [Value.ownBlock] at hk
  · simp [Value.ownBlock] at hk
    omega
theorem Kind.Own.reads {B : Nat} (h : K.Own B v L w) : K.At w v L := by
  rcases h.form with ⟨rfl, rfl⟩ | ⟨g, cap, rfl, _, _, hc⟩
  · exact Kind.At.nil _ _
  · by_cases h0 : L.length = 0
    · obtain rfl := List.eq_nil_of_length_eq_zero h0
      exact Kind.At.nil _ _
    · refine Or.inr ⟨g, 0, cap, rfl, by omega, hc, fun j u hj => ?_⟩
      have hcell := World.ownsRow.cells h (g := g) rfl j u hj
      rw [Addr.add_mid] at hcell
      exact hcell
theorem Kind.Own.kept {B : Nat} (h : K.Own B v L w) (hb : Below w.heap.size w w') : K.Own B v L w' :=
  World.ownsRow.kept h (row := none) ⟨hb.os, hb.tape, hb.output, hb.size, fun k hk _ => hb.block k hk⟩ (by cases v.ownBlock <;> simp)

/-- append of things that a slice reads as, onto a row of one's own. -/
theorem wpList_append_at {ops : Array Oper} {rest : List Oper} {o : Oper} {a : Act} {Q : Exit → Act → World → Prop} (hgd : o.guard = none) (s x : Operand) (t : TypeId)
    (ho : o.op = .call { callee := .builtin .append, args := #[s, x], argTypes := #[t, t] }) (ht : P.underlying t = Option.some (.slice K.T))
    (B : Nat) (hs : a.eval s = v) (hown : K.Own B v L w) (u : Value) (M : List α) (hx : a.eval x = u) (hat : K.At w u M)
    (hn : (L.length + M.length) * (K.bytes + 1) ≤ 1099511627776) (hB : B ≤ w.heap.size)
    (h : ∀ v' w', K.Own B v' (L ++ M) w' → Below B w w' → wpList P ops Q rest (a.put o.dst v') w') : wpList P ops Q (o :: rest) a w := by
  obtain ⟨ie, hie, hq⟩ := Option.map_eq_some_iff.1 K.info
  simp only [Prod.mk.injEq] at hq
  obtain ⟨hz, hsz, hby⟩ := hq
  have hm1 : L.length + M.length ≤ (L.length + M.length) * (K.bytes + 1) := Nat.le_mul_of_pos_right _ (by omega)
  have hm2 : (L.length + M.length) * K.bytes ≤ (L.length + M.length) * (K.bytes + 1) := Nat.mul_le_mul_left _ (by omega)
  by_cases h0 : M.length = 0
  · obtain rfl := List.eq_nil_of_length_eq_zero h0
    obtain ⟨b, cap, rfl, _⟩ := hat.form
    obtain ⟨b0, n0, c0, rfl, hnc⟩ : ∃ b0 n0 c0, v = .slice b0 n0 c0 ∧ n0 ≤ c0 := by
      rcases hown.form with ⟨rfl, _⟩ | ⟨g, cap, rfl, _, _, h⟩
      · exact ⟨_, _, _, rfl, Nat.le_refl _⟩
      · exact ⟨_, _, _, rfl, h⟩
    have hr := run_append_nothing w t t o.type K.T ie ht hie b0 n0 c0 hnc (.slice b 0 cap) (by
      cases b with
      | none => exact Src.ofNil w ht cap
      | some ad => exact Src.ofSlice w ht ad 0 cap [] (by simp) (fun j u hj => by simp at hj) (fun u hu => by simp at hu))
    refine wpList_plain hgd fun _ hK => ?_
    unfold Oper.wp execOp
    simp only [ho, resolve, invoke, builtin, Sem.run_bind, Sem.run_pure, Result.andThen_ok, List.map_toArray, List.map_cons, List.map_nil, hs, hx, List.length_nil, hr]
    refine hK _ _ (h _ w ?_ (Below.refl _ _))
    rw [List.append_nil]
    exact hown
  · obtain ⟨g1, o1, cap, rfl, _, hr⟩ := hat.some (by omega)
    refine wpList_append_lies w hgd s x t ho B K.T ie K.zero K.size K.bytes ht hie hz hsz hby K.zsize K.pos v L.length (K.flat L) hs hown ⟨g1, o1, none⟩ M.length cap (K.flat M) hx (K.flat_len M) (fun j u hj => ?_) (K.flat_one M) (by omega) (by unfold maxLen; omega) (by omega) hB _ rfl ?_
    · rw [Addr.add_mid]
      exact hr j u hj
    · intro g cap w' hown' hgrow _ _
      refine h _ w' ?_ ((Below.refl _ _).grown hgrow hB hown.base)
      unfold Kind.Own
      rw [K.flat_append, List.length_append]
      exact hown'
/-- A slice literal of things. -/
theorem wp_build_at {o : Oper} {a : Act} {R : Act → World → Prop} {Q : Exit → Act → World → Prop} (t : TypeId) (len : Nat) (parts : Array (Nat × Operand)) (ho : o.op = .buildSlice t len parts) (ht : P.underlying t = Option.some (.slice K.T))
    (L : List α) (hlen : L.length = len) (h0 : 0 < len) (h24 : len * K.size ≤ 1000000)
    (hp : (parts.map fun (i, x) => (i, a.eval x)).toList = ((L.map fun x => Value.agg (K.enc x).toArray).zipIdx 0).map fun x => (x.2, x.1))
    (h : ∀ w', K.At w' (.slice (Option.some ⟨w.heap.size, 0, none⟩) len len) L → w'.heap[w.heap.size]? = Option.some (.cells (K.flat L).toArray K.T (0, 0)) → Below w.heap.size w w' → R (a.put o.dst (.slice (Option.some ⟨w.heap.size, 0, none⟩) len len)) w') : o.wp P a w R Q := by
  obtain ⟨ie, hie, hq⟩ := Option.map_eq_some_iff.1 K.info
  simp only [Prod.mk.injEq] at hq
  obtain ⟨hz, hsz, hby⟩ := hq
  have hpos := K.pos
  have hcs : ((Array.range (len * K.size)).map (K.zero.cells[· % K.zero.cells.size]!)).size = len * K.size := by simp
  have hfill := Great.fill_whole (s := K.size) hpos (L.map fun x => Value.agg (K.enc x).toArray) ((Array.range (len * K.size)).map (K.zero.cells[· % K.zero.cells.size]!)) (fun v hv => by
    obtain ⟨x, hx, rfl⟩ := List.mem_map.1 hv
    show (K.enc x).toArray.size = K.size
    rw [List.size_toArray, K.len]) (by rw [hcs, List.length_map, hlen])
  have hflat : ((L.map fun x => Value.agg (K.enc x).toArray).flatMap fun v => v.cells.toList) = K.flat L := by
    rw [List.flatMap_map]
    rfl
  rw [hflat] at hfill
  refine wp_buildSlice t K.T len parts ho (K.flat L).toArray ie K.zero ht hie hz (by rw [hsz]; omega) (by rw [hsz]; exact Nat.ne_of_gt (Nat.mul_pos h0 hpos)) (by rw [hsz, hp]; exact hfill) ?_
  refine h _ (Or.inr ⟨w.heap.size, 0, len, by rw [hlen], by omega, by omega, fun j u hj => ?_⟩) (heap_alloc_new _ _) ((Below.refl _ _).alloc (Nat.le_refl _) _)
  rw [Nat.zero_add, Lib.cell_of_heap (heap_alloc_new w _), List.getElem?_toArray]
  exact hj
end
end Go.Proofs.YtdgaoebjbhomdaaDoor.Gr
