/- disk: slices.IndexFunc and slices.DeleteFunc over loose changes. -/
import Derived.Test.YtepcfmigkhacgaaDoorG5
import Derived.Laws.EntriesVeiled
import Derived.Lib.SliceRun
import Derived.Deep.Cut
import Derived.StillTailTactics
import Derived.Deep.WholeRow
namespace Go.Proofs.YtepcfmigkhacgaaDoor.Dk
open Go.RowKit Go.Proofs.YtepcfmigkhacgaaDoor.Gr

theorem cast_eq (a b : Nat) : (decide ((a : Int) = (b : Int))) = (a == b) := by
  by_cases h : a = b
  · subst h; simp
  · have h2 : ¬ (a : Int) = (b : Int) := by omega
    simp [h, h2]
theorem clos_any (c : Ch) (k b : Nat) (W : World) (hc : W.cell? ⟨b, 0, none⟩ = some (.int .i64 k)) (hb : b < W.heap.size) :
    Calls Tryd.prog 63 #[.agg #[.int .i64 c.file, .int .i64 c.at_, .bool c.cut, .string c.s], .pointer (some ⟨b, 0, none⟩)] W fun e w' => e = .returned (.bool (c.file == k)) ∧ Below W.heap.size W w' := by
  have hne : b ≠ W.heap.size := by omega
  cases hr : c.file == k with
  | true =>
    obtain rfl : c.file = k := by simpa using hr
    clear hr
    go_enter Tryd.func63, Tryd.ntmps63
    go_wp2
    go_ret
    exact ⟨by simp, (Below.refl _ _).alloc (Nat.le_refl _) _⟩
  | false =>
    have hn : (((c.file : Int)) == (k : Int)) = false := by
      have : c.file ≠ k := by simpa using hr
      simpa using (show ¬ (c.file : Int) = (k : Int) by omega)
    clear hr
    go_enter Tryd.func63, Tryd.ntmps63
    go_wp2
    go_ret
    exact ⟨by first | rfl | simp_all, (Below.refl _ _).alloc (Nat.le_refl _) _⟩

/-- How many stand ahead of the first one of this file. -/
def idxN (k : Nat) (L : List Ch) : Nat := (L.takeWhile fun c => !(c.file == k)).length
def idxI (k : Nat) (L : List Ch) : Int := if idxN k L < L.length then (idxN k L : Int) else -1
theorem idxN_le (k : Nat) (L : List Ch) : idxN k L ≤ L.length := by
  unfold idxN
  exact (List.takeWhile_prefix _).length_le
theorem idxN_hit (k : Nat) : ∀ (L : List Ch) (i : Nat) (x : Ch), L[i]? = some x → i ≤ idxN k L → (x.file == k) = true → idxN k L = i
  | [], i, x, h, _, _ => by simp at h
  | y :: L, 0, x, h, _, hx => by
    simp at h
    subst h
    unfold idxN
    rw [List.takeWhile_cons_of_neg (by simp [hx])]
    rfl
  | y :: L, i + 1, x, h, hi, hx => by
    unfold idxN at hi ⊢
    by_cases hy : (y.file == k) = true
    · rw [List.takeWhile_cons_of_neg (by simp [hy])] at hi
      simp at hi
    · rw [List.takeWhile_cons_of_pos (by simp [hy]), List.length_cons] at hi ⊢
      have := idxN_hit k L i x (by simpa using h) (by unfold idxN; omega) hx
      unfold idxN at this
      omega
theorem idxN_miss (k : Nat) : ∀ (L : List Ch) (i : Nat) (x : Ch), L[i]? = some x → i ≤ idxN k L → (x.file == k) = false → i + 1 ≤ idxN k L
  | [], i, x, h, _, _ => by simp at h
  | y :: L, 0, x, h, _, hx => by
    simp at h
    subst h
    unfold idxN
    rw [List.takeWhile_cons_of_pos (by simp [hx])]
    simp
  | y :: L, i + 1, x, h, hi, hx => by
    unfold idxN at hi ⊢
    by_cases hy : (y.file == k) = true
    · rw [List.takeWhile_cons_of_neg (by simp [hy])] at hi
      simp at hi
    · rw [List.takeWhile_cons_of_pos (by simp [hy]), List.length_cons] at hi ⊢
      have := idxN_miss k L i x (by simpa using h) (by unfold idxN; omega) hx
      unfold idxN at this
      omega
/-- A change in a row of changes. -/
theorem at_ch {w : World} {g o : Nat} {L : List Ch} (hr : w.rangeAt g o (KC.flat L)) {i : Nat} {x : Ch} (hi : L[i]? = some x) : w.rangeAt g (o + i * 4) [.int .i64 x.file, .int .i64 x.at_, .bool x.cut, .string x.s] := fun j u hj => by
  have := range_thing (K := KC) hr hi (j := j) (u := u) hj
  rw [show o + i * 4 + j = o + (i * 4 + j) by omega]
  exact this

set_option maxHeartbeats 1600000 in
theorem code_IndexFunc (v : Value) (L : List Ch) (k b : Nat) (w : World) (hA : KC.At w v L) (hb : w.heap[b]? = some (.cells #[.int .i64 k] 3 (0, 0))) (hL : L.length ≤ 1000000000) :
    Calls Tryd.prog 80 #[v, .func (.func 63) #[] #[.pointer (some ⟨b, 0, none⟩)]] w fun e w' => e = .returned (.int .i64 (idxI k L)) ∧ Below w.heap.size w w' := by
  obtain ⟨va, vc, rfl, hvc⟩ := hA.form
  have HA := Lib.hid hA
  have HB := Lib.hid hb
  clear hA hb
  obtain ⟨m, hm⟩ : ∃ m, L.length = m := ⟨_, rfl⟩
  rw [hm] at hL hvc ⊢
  have hle := idxN_le k L
  have HM := Lib.hid hm
  rw [hm] at hle HA
  clear hm
  go_enter Tryd.func80, Tryd.ntmps80
  go_wp2_with fail
  go_loopw [8] (fun iv wr => ∃ i : Nat, i ≤ m ∧ i ≤ idxN k L ∧ iv = .int .i64 i ∧ Below w.heap.size w wr) (fun iv _ => m - (intOf iv).toNat)
  case atStart => exact ⟨0, Nat.zero_le _, Nat.zero_le _, rfl, Below.refl _ _⟩
  case round =>
    obtain ⟨i, hi, hin, rfl, hbl⟩ := hrel
    by_cases hlt : i < m
    · have hlt2 : (i : Int) < (m : Int) := by omega
      obtain ⟨g, o, cap', hav, _, hr⟩ := (HA.out.kept hbl).some (by rw [HM.out]; omega)
      injection hav with hav1 hav2 hav3
      subst hav1 hav3
      have hx := List.getElem?_eq_getElem (show i < L.length by rw [HM.out]; exact hlt)
      obtain ⟨x, hxx⟩ : ∃ x, L[i]'(by rw [HM.out]; exact hlt) = x := ⟨_, rfl⟩
      rw [hxx] at hx
      have HX := Lib.hid (at_ch hr hx)
      have hbw := (Array.getElem?_eq_some_iff.1 HB.out).1
      have HC := Lib.hid (clos_any x k b wr (Lib.cell_of_heap ((hbl.block b hbw).trans HB.out) 0) (Nat.lt_of_lt_of_le hbw hbl.size))
      have HBL := Lib.hid hbl
      have H1 := Lib.hid (idxN_hit k L i x hx hin)
      have H2 := Lib.hid (idxN_miss k L i x hx hin)
      clear hav2 hr hx hxx hbw hbl
      go_wp2_with (refine wpList_load_mid rfl 84 (.tmp 14) rfl g (o + i * 4) rfl [.int .i64 x.file, .int .i64 x.at_, .bool x.cut, .string x.s] _ HX.out Tryd.underlying84 rfl (by kernel_rfl) ?_)
      refine HC.out.mono ?_
      rintro e w2 ⟨rfl, hb2⟩
      have HB2 := Lib.hid (HBL.out.trans (hb2.mono HBL.out.size))
      clear hb2
      cases hf : x.file == k with
      | true =>
        have HI := Lib.hid (H1.out hf)
        clear hf HX HC H1 H2
        go_wp2_with fail
        go_ret
        exact ⟨by unfold idxI; rw [HI.out, HM.out, if_pos hlt]; rfl, HB2.out⟩
      | false =>
        have hn := H2.out hf
        clear hf HX HC H1 H2
        go_wp2_with fail
        go_roundw
        case rel => exact ⟨i + 1, by omega, hn, by go_num, HB2.out⟩
        case measure => simp [intOf]; omega
    · obtain rfl : i = m := by omega
      have HBL := Lib.hid hbl
      clear hbl
      go_wp2_with fail
      go_ret
      exact ⟨by unfold idxI; rw [HM.out, if_neg (by omega)]; rfl, HBL.out⟩
end Go.Proofs.YtepcfmigkhacgaaDoor.Dk

namespace Go.Proofs.YtepcfmigkhacgaaDoor.Dk
open Go.RowKit Go.Proofs.YtepcfmigkhacgaaDoor.Gr

theorem flat_inv {P : Program} {α : Type} (K : Kind P α) : ∀ (L : List α) (j : Nat) (v : Value), (K.flat L)[j]? = some v → ∃ q r x, L[q]? = some x ∧ (K.enc x)[r]? = some v ∧ r < K.size ∧ j = q * K.size + r
  | [], j, v, h => by simp [Kind.flat] at h
  | x :: L, j, v, h => by
    rw [K.flat_cons] at h
    by_cases hj : j < K.size
    · rw [List.getElem?_append_left (by rw [K.len]; exact hj)] at h
      exact ⟨0, j, x, rfl, h, hj, by omega⟩
    · rw [List.getElem?_append_right (by rw [K.len]; omega), K.len] at h
      obtain ⟨q, r, y, h1, h2, h3, h4⟩ := flat_inv K L _ v h
      exact ⟨q + 1, r, y, by simpa using h1, h2, h3, by rw [Nat.add_mul]; omega⟩
theorem setCells_heap (g : Nat) (t : TypeId) (fz : Nat × Nat) : ∀ (vs : List Value) (o : Nat) (w : World) (cur : Array Value), w.heap[g]? = some (.cells cur t fz) → ∃ cur', (w.setCells g o vs).heap[g]? = some (.cells cur' t fz) ∧ cur'.size = cur.size
  | [], _, _, cur, h => ⟨cur, h, rfl⟩
  | v :: r, o, w, cur, h => by
    have h1 : (w.setCell ⟨g, o, none⟩ v).heap[g]? = some (.cells (cur.setIfInBounds o v) t fz) := by
      rw [setCell_eq_setRow w g o cur t fz v h]
      exact setRow_heap w g cur _ t fz h
    obtain ⟨cur', h2, h3⟩ := setCells_heap g t fz r (o + 1) _ _ h1
    exact ⟨cur', h2, by rw [h3]; simp⟩
theorem Frm.setCells {F : Nat → Prop} {a : World} {g : Nat} (hg : F g ∨ a.heap.size ≤ g) : ∀ (vs : List Value) (o : Nat) (b : World), Frm F a b → Frm F a (b.setCells g o vs)
  | [], _, _, h => h
  | v :: r, o, _, h => Frm.setCells hg r (o + 1) _ (h.setCell (p := ⟨g, o, none⟩) hg v)
theorem own_of {P : Program} {α : Type} {K : Kind P α} {w : World} {g n cap : Nat} {cur : Array Value} {L : List α} (hg : w.heap[g]? = some (.cells cur K.T (0, 0))) (hs : cur.size = cap * K.size) (hn : L.length = n) (hc : n ≤ cap) (hm : cap ≤ maxLen) (hr : w.rangeAt g 0 (K.flat L)) : K.Own 0 (.slice (some ⟨g, 0, none⟩) n cap) L w := by
  refine ⟨K.flat_len L, Or.inr ⟨g, cap, cur, by rw [hn], Nat.zero_le _, hg, by omega, hm, hs, ?_⟩⟩
  have hl : (K.flat L).length = L.length * K.size := K.flat_len L
  have hle : L.length * K.size ≤ cap * K.size := Nat.mul_le_mul_right _ (by omega)
  apply List.ext_getElem?
  intro j
  rcases Nat.lt_or_ge j (L.length * K.size) with hj | hj
  · rw [List.getElem?_take_of_lt hj]
    have h1 : (K.flat L)[j]? = some (K.flat L)[j] := List.getElem?_eq_getElem (by omega)
    have h2 := hr j _ h1
    rw [Nat.zero_add, Lib.cell_of_heap hg] at h2
    rw [h1, ← h2]
    simp
  · rw [List.getElem?_eq_none (by simp; omega), List.getElem?_eq_none (by omega)]
theorem own_block {P : Program} {α : Type} {K : Kind P α} {w : World} {g n cap : Nat} {L : List α} (h : K.Own 0 (.slice (some ⟨g, 0, none⟩) n cap) L w) : ∃ cur, w.heap[g]? = some (.cells cur K.T (0, 0)) ∧ cur.size = cap * K.size ∧ L.length = n ∧ n ≤ cap ∧ cap ≤ maxLen ∧ w.rangeAt g 0 (K.flat L) := by
  rcases h.2 with ⟨hv, _⟩ | ⟨g', cap', cur, hv, _, hg, h1, h2, h3, _⟩
  · simp at hv
  · simp only [Value.slice.injEq, Option.some.injEq, Addr.mk.injEq] at hv
    obtain ⟨⟨rfl, _⟩, hn, rfl⟩ := hv
    refine ⟨cur, hg, h3, hn.symm, by omega, h2, fun j u hj => ?_⟩
    have hcell := World.ownsRow.cells h (g := g) rfl j u hj
    rw [Addr.add_mid] at hcell
    exact hcell
/-- One thing of a row is written over. -/
theorem own_set {P : Program} {α : Type} {K : Kind P α} {w : World} {g n cap : Nat} {L : List α} (h : K.Own 0 (.slice (some ⟨g, 0, none⟩) n cap) L w) {i : Nat} (hi : i < n) (x : α) : w.there g (i * K.size) K.size ∧ K.Own 0 (.slice (some ⟨g, 0, none⟩) n cap) (L.set i x) (w.setCells g (i * K.size) (K.enc x)) := by
  obtain ⟨cur, hg, hs, hn, hc, hm, hr⟩ := own_block h
  have hfit : i * K.size + K.size ≤ cap * K.size := by
    rw [← Nat.succ_mul]
    exact Nat.mul_le_mul_right _ (by omega)
  have hth : w.there g (i * K.size) K.size := fun j hj => ⟨by
    rw [Lib.cell_of_heap hg, Array.getElem?_eq_getElem (by omega)]
    rfl, by simp [World.frozen?, hg]⟩
  obtain ⟨cur', hg', hs'⟩ := setCells_heap g _ _ (K.enc x) (i * K.size) w cur hg
  refine ⟨hth, own_of hg' (by rw [hs', hs]) (by simpa using hn) hc hm fun j u hj => ?_⟩
  obtain ⟨q, r, y, hq, hu, hlt, rfl⟩ := flat_inv K _ j u hj
  by_cases e : q = i
  · subst e
    rw [List.getElem?_set_self (by omega)] at hq
    injection hq with hq
    subst hq
    rw [Nat.zero_add, World.cell?_setCells_in g (K.enc x) (q * K.size) w (fun t ht => (hth t (by rw [← K.len x]; exact ht)).1) r (by rw [K.len]; exact hlt)]
    rw [← hu, List.getElem?_eq_getElem (by rw [K.len]; exact hlt)]
  · rw [List.getElem?_set_ne (Ne.symm e)] at hq
    rw [World.cell?_setCells_out g _ _ _ _ (fun _ _ => ?_)]
    · exact hr _ u (K.flat_at L q y r u hq hu)
    · rw [K.len, Nat.zero_add]
      rcases Nat.lt_or_ge q i with hlt' | hge
      · left
        have : (q + 1) * K.size ≤ i * K.size := Nat.mul_le_mul_right _ (by omega)
        rw [Nat.add_mul] at this
        show q * K.size + r < i * K.size
        omega
      · right
        have : (i + 1) * K.size ≤ q * K.size := Nat.mul_le_mul_right _ (by omega)
        rw [Nat.add_mul] at this
        show i * K.size + K.size ≤ q * K.size + r
        omega
/-- What stands behind the first ones is written over. -/
theorem own_cut {P : Program} {α : Type} {K : Kind P α} {w : World} {g n cap : Nat} {L : List α} (h : K.Own 0 (.slice (some ⟨g, 0, none⟩) n cap) L w) {i : Nat} (hi : i ≤ n) (vs : List Value) (hv : vs.length = (n - i) * K.size) : w.there g (i * K.size) vs.length ∧ K.Own 0 (.slice (some ⟨g, 0, none⟩) i cap) (L.take i) (w.setCells g (i * K.size) vs) := by
  obtain ⟨cur, hg, hs, hn, hc, hm, hr⟩ := own_block h
  have hfit : i * K.size + vs.length ≤ cap * K.size := by
    rw [hv, ← Nat.add_mul]
    exact Nat.mul_le_mul_right _ (by omega)
  have hth : w.there g (i * K.size) vs.length := fun j hj => ⟨by
    rw [Lib.cell_of_heap hg, Array.getElem?_eq_getElem (by omega)]
    rfl, by simp [World.frozen?, hg]⟩
  obtain ⟨cur', hg', hs'⟩ := setCells_heap g _ _ vs (i * K.size) w cur hg
  refine ⟨hth, own_of hg' (by rw [hs', hs]) (by rw [List.length_take]; omega) (by omega) hm fun j u hj => ?_⟩
  have hlt := (List.getElem?_eq_some_iff.1 hj).1
  rw [K.flat_len, List.length_take, Nat.min_eq_left (by omega)] at hlt
  rw [World.cell?_setCells_out g _ _ _ _ (fun _ _ => Or.inl (by simpa using hlt))]
  exact range_take hr i j u hj
theorem own_frm {P : Program} {α : Type} {K : Kind P α} {F : Nat → Prop} {w w' : World} {v : Value} {L : List α} (h : K.Own 0 v L w) (hf : Frm F w w') (hl : ∀ k, v.ownBlock = some k → ¬ F k) : K.Own 0 v L w' := by
  rcases h.2 with ⟨rfl, h0⟩ | ⟨b, cap, cur, rfl, hb, hc, r⟩
  · exact ⟨h.1, Or.inl ⟨rfl, h0⟩⟩
  · exact ⟨h.1, Or.inr ⟨b, cap, cur, rfl, hb, (hf.block b (Array.getElem?_eq_some_iff.1 hc).1 (hl b rfl)).trans hc, r⟩⟩

theorem run_clear_row {P : Program} (w : World) (t e ty : TypeId) (z : Value) (ht : P.underlying t = some (.slice e)) (hv : ∀ w, (zeroValue e).run P w = .ok z w) (h1 : ∀ u ∈ z.cells, u.oneCell' = true) (b o n c : Nat) (hn : 0 < n)
    (hth : w.there b o (Builtin.zeroCells z.cells n).toList.length) :
    (Builtin.clear_ #[t] ty #[.slice (some ⟨b, o, none⟩) n c]).run P w = .ok (.tuple #[]) (w.setCells b o (Builtin.zeroCells z.cells n).toList) := by
  have hst := run_storeCells_cells (P := P) b o (Builtin.zeroCells z.cells n).toList 0 w (fun j hj => (hth j hj).1) (fun j hj => (hth j hj).2) (by
    intro v hv'
    unfold Builtin.zeroCells at hv'
    rw [Array.toList_map, List.mem_map] at hv'
    obtain ⟨i, hi, rfl⟩ := hv'
    have hi2 : i < n * z.cells.size := by simpa using hi
    have hpos : 0 < z.cells.size := by
      rcases Nat.eq_zero_or_pos z.cells.size with h | h
      · rw [h] at hi2; omega
      · exact h
    rw [getElem!_pos z.cells (i % z.cells.size) (Nat.mod_lt _ hpos)]
    exact h1 _ (Array.getElem_mem _))
  simp only [Nat.add_zero] at hst
  obtain ⟨m, rfl⟩ : ∃ m, n = m + 1 := ⟨n - 1, by omega⟩
  simp [Builtin.clear_, run_underlying ht, hv, hst]

/-! ### lists -/
def keepF (k : Nat) (L : List Ch) : List Ch := L.filter fun c => !(c.file == k)
theorem keepF_none (k : Nat) : ∀ (L : List Ch), idxN k L = L.length → keepF k L = L
  | [], _ => rfl
  | y :: L, h => by
    unfold idxN at h
    by_cases hy : (y.file == k) = true
    · rw [List.takeWhile_cons_of_neg (by simp [hy])] at h
      simp at h
    · rw [List.takeWhile_cons_of_pos (by simp [hy]), List.length_cons, List.length_cons] at h
      unfold keepF
      rw [List.filter_cons_of_pos (by simp [hy])]
      congr 1
      exact keepF_none k L (by unfold idxN; omega)
theorem keepF_head (k : Nat) : ∀ (L : List Ch), idxN k L < L.length → keepF k (L.take (idxN k L + 1)) = L.take (idxN k L)
  | [], h => by simp at h
  | y :: L, h => by
    unfold idxN at h ⊢
    by_cases hy : (y.file == k) = true
    · rw [List.takeWhile_cons_of_neg (by simp [hy])]
      simp [keepF, hy]
    · rw [List.takeWhile_cons_of_pos (by simp [hy]), List.length_cons] at h ⊢
      rw [List.take_succ_cons, List.take_succ_cons]
      unfold keepF
      rw [List.filter_cons_of_pos (by simp [hy])]
      congr 1
      exact keepF_head k L (by unfold idxN; simp at h; omega)
theorem keepF_le (k : Nat) (L : List Ch) : (keepF k L).length ≤ L.length := List.length_filter_le _ _
theorem keepF_snoc (k : Nat) (L : List Ch) (j : Nat) (x : Ch) (h : L[j]? = some x) : keepF k (L.take (j + 1)) = keepF k (L.take j) ++ (if x.file == k then [] else [x]) := by
  rw [List.take_add_one, h]
  unfold keepF
  rw [List.filter_append]
  congr 1
  cases hx : x.file == k <;> simp [hx]
/-- What the row has while it is gone over. -/
structure DelA (k : Nat) (L A : List Ch) (i j : Nat) : Prop where
  len : A.length = L.length
  done : A.take i = keepF k (L.take j)
  rest : A.drop j = L.drop j
  lt : i < j
  cnt : (keepF k (L.take j)).length = i
theorem DelA.start {k : Nat} {L : List Ch} (h : idxN k L < L.length) : DelA k L L (idxN k L) (idxN k L + 1) :=
  ⟨rfl, (keepF_head k L h).symm, rfl, by omega, by rw [keepF_head k L h, List.length_take]; omega⟩
theorem DelA.at_ {k : Nat} {L A : List Ch} {i j : Nat} (h : DelA k L A i j) {x : Ch} (hx : L[j]? = some x) : A[j]? = some x := by
  have := congrArg (·[0]?) h.rest
  simpa [hx] using this
theorem DelA.skip {k : Nat} {L A : List Ch} {i j : Nat} (h : DelA k L A i j) {x : Ch} (hx : L[j]? = some x) (hk : (x.file == k) = true) : DelA k L A i (j + 1) := by
  have e : keepF k (L.take (j + 1)) = keepF k (L.take j) := by rw [keepF_snoc k L j x hx, if_pos hk, List.append_nil]
  refine ⟨h.len, by rw [e]; exact h.done, ?_, by have := h.lt; omega, by rw [e]; exact h.cnt⟩
  have := congrArg (List.drop 1) h.rest
  simpa [List.drop_drop] using this
theorem DelA.keep {k : Nat} {L A : List Ch} {i j : Nat} (h : DelA k L A i j) {x : Ch} (hx : L[j]? = some x) (hk : (x.file == k) = false) : DelA k L (A.set i x) (i + 1) (j + 1) := by
  have e : keepF k (L.take (j + 1)) = keepF k (L.take j) ++ [x] := by rw [keepF_snoc k L j x hx, hk]; rfl
  have hj : j < L.length := (List.getElem?_eq_some_iff.1 hx).1
  have hl := h.lt
  have hlen := h.len
  refine ⟨by simpa using h.len, ?_, ?_, by omega, by rw [e, List.length_append, h.cnt]; rfl⟩
  · rw [e, ← h.done, List.take_add_one, List.getElem?_set_self (by omega), List.take_set_of_le (Nat.le_refl _)]
    rfl
  · rw [List.drop_set_of_lt (by omega)]
    have := congrArg (List.drop 1) h.rest
    simpa [List.drop_drop] using this
end Go.Proofs.YtepcfmigkhacgaaDoor.Dk

namespace Go.Proofs.YtepcfmigkhacgaaDoor.Dk
open Go.RowKit Go.Proofs.YtepcfmigkhacgaaDoor.Gr

theorem change_zero : ∀ w, (zeroValue 84).run Tryd.prog w = .ok (.agg #[.int .i64 0, .int .i64 0, .bool false, .string ⟨#[]⟩]) w := Tryd.zeroValue84

set_option maxRecDepth 100000 in
set_option maxHeartbeats 3200000 in
theorem code_DeleteFunc (v : Value) (L : List Ch) (k b : Nat) (w : World) (hO : KC.Own 0 v L w) (hb : w.heap[b]? = some (.cells #[.int .i64 k] 3 (0, 0))) (hL : L.length ≤ 1000000000) :
    Calls Tryd.prog 62 #[v, .func (.func 63) #[] #[.pointer (some ⟨b, 0, none⟩)]] w fun e w' => ∃ v', e = .returned v' ∧ KC.Own 0 v' (keepF k L) w' ∧ Frm (fun i => v.ownBlock = some i) w w' ∧ ∀ i, v'.ownBlock = some i → v.ownBlock = some i := by
  have HI := Lib.hid (code_IndexFunc v L k b w hO.reads hb hL)
  have hle := idxN_le k L
  by_cases hf : idxN k L < L.length
  case neg =>
    have hi : idxI k L = -1 := by unfold idxI; rw [if_neg hf]
    rw [hi] at HI
    have HK := Lib.hid (keepF_none k L (by omega))
    have HO := Lib.hid hO
    clear hO hb hL hle hf hi
    go_enter Tryd.func62, Tryd.ntmps62
    go_wp2_with fail
    refine HI.out.mono ?_
    rintro e w1 ⟨rfl, hb1⟩
    have HB1 := Lib.hid hb1
    clear hb1
    go_wp2_with fail
    go_ret
    exact ⟨_, rfl, by rw [HK.out]; exact own_frm HO.out (F := fun _ => False) (Frm.of_below HB1.out) (fun _ _ => id), Frm.of_below HB1.out, fun _ h => h⟩
  case pos =>
    have hi : idxI k L = (idxN k L : Int) := by unfold idxI; rw [if_pos hf]
    rw [hi] at HI
    have HD := Lib.hid (DelA.start (k := k) (L := L) hf)
    obtain ⟨n, hn⟩ : ∃ n, L.length = n := ⟨_, rfl⟩
    have hform := hO.form
    rw [hn] at hform hf hL
    obtain ⟨l, cap, rfl, hlt0, hcap⟩ : ∃ l cap, v = .slice (some ⟨l, 0, none⟩) n cap ∧ l < w.heap.size ∧ n ≤ cap := by
      rcases hform with ⟨_, h0⟩ | ⟨l, cap, h1, _, h2, h3⟩
      · rw [h0] at hn; simp at hn; omega
      · exact ⟨l, cap, h1, h2, h3⟩
    have hlb : l ≠ b := by
      obtain ⟨cs, hc⟩ := own_type hO l rfl
      intro e
      rw [e, hb] at hc
      simp at hc
      exact absurd hc.2 (by decide)
    obtain ⟨i0, hi0⟩ : ∃ i0, idxN k L = i0 := ⟨_, rfl⟩
    rw [hi0] at HI HD hf
    have hi1 : (i0 : Int) < n := by omega
    have hi2 : ((i0 : Int) == -1) = false := by simp
    have hcapm : cap ≤ maxLen := by obtain ⟨_, _, _, _, _, h, _⟩ := own_block hO; exact h
    have HO := Lib.hid hO
    have HB := Lib.hid hb
    have HN := Lib.hid hn
    have HLB := Lib.hid hlb
    have HCM := Lib.hid hcapm
    have HLT := Lib.hid hlt0
    clear hform hi hle hO hb hn hlb hi0 hcapm hlt0
    go_enter Tryd.func62, Tryd.ntmps62
    go_wp2_with fail
    refine HI.out.mono ?_
    rintro e w1 ⟨rfl, hb1⟩
    have HF1 := Lib.hid (Frm.of_below (F := fun i => i = l) hb1)
    have HB1 := Lib.hid ((hb1.block b (Array.getElem?_eq_some_iff.1 HB.out).1).trans HB.out)
    have HO1 := Lib.hid (own_frm HO.out (F := fun _ => False) (Frm.of_below hb1) (fun _ _ => id))
    clear hb1 HI
    go_wp2_with fail
    go_loopw [5, 6] (fun iv jv wr => ∃ (i j : Nat) (A : List Ch), iv = .int .i64 i ∧ jv = .int .i64 j ∧ j ≤ n ∧ i ≤ n ∧ DelA k L A i j ∧ KC.Own 0 (.slice (some ⟨l, 0, none⟩) n cap) A wr ∧ wr.heap[b]? = some (.cells #[.int .i64 k] 3 (0, 0)) ∧ Frm (fun i => i = l) w wr) (fun _ jv _ => n - (intOf jv).toNat)
    case atStart => exact ⟨i0, i0 + 1, L, rfl, by go_num, by omega, by omega, HD.out, HO1.out, HB1.out, HF1.out⟩
    case round =>
      obtain ⟨i, j, A, rfl, rfl, hj, hin, hD, hOA, hbw, hfr⟩ := hrel
      by_cases hlt : j < n
      · have hlt2 : (j : Int) < (n : Int) := by omega
        have hx := List.getElem?_eq_getElem (show j < L.length by rw [HN.out]; exact hlt)
        obtain ⟨x, hxx⟩ : ∃ x, L[j]'(by rw [HN.out]; exact hlt) = x := ⟨_, rfl⟩
        rw [hxx] at hx
        have hij := hD.lt
        obtain ⟨cur, hgc, _, hlA, _, _, hr⟩ := own_block hOA
        have hrx := at_ch hr (hD.at_ hx)
        rw [Nat.zero_add] at hrx
        have HRX := Lib.hid hrx
        have hb2 : Below wr.heap.size wr (wr.alloc (.cells #[.int .i64 x.file, .int .i64 x.at_, .bool x.cut, .string x.s] 84)) := (Below.refl _ _).alloc (Nat.le_refl _) _
        have hp := heap_alloc_new wr (.cells #[.int .i64 x.file, .int .i64 x.at_, .bool x.cut, .string x.s] 84)
        have HOA := Lib.hid (own_frm hOA (F := fun _ => False) (Frm.of_below hb2) (fun _ _ => id))
        have HBW := Lib.hid ((hb2.block b (Array.getElem?_eq_some_iff.1 hbw).1).trans hbw)
        have HFR := Lib.hid (hfr.trans (Frm.of_below (F := fun i => i = l) hb2) (fun i hi => Or.inl hi))
        have HPL := Lib.hid (show wr.heap.size ≠ l by have := (Array.getElem?_eq_some_iff.1 hgc).1; omega)
        have HSK := Lib.hid (hD.skip hx)
        have HKP := Lib.hid (hD.keep hx)
        have HIN := Lib.hid (show i < n ∧ (i : Int) < n ∧ i + 1 ≤ n by omega)
        have hiw : (i : Int) ≤ 1000000000 := by omega
        have hjw : (j : Int) ≤ 1000000000 := by omega
        clear hxx hx hD hOA hbw hfr hgc hlA hr hrx hij hb2
        go_upto_region 8 with (refine wpList_load_mid rfl 84 (.tmp 24) rfl l (j * 4) rfl [.int .i64 x.file, .int .i64 x.at_, .bool x.cut, .string x.s] _ HRX.out Tryd.underlying84 rfl (by kernel_rfl) ?_)
        have HBX := Lib.hid (show b < (wr.alloc (.cells #[.int .i64 x.file, .int .i64 x.at_, .bool x.cut, .string x.s] 84)).heap.size from (Array.getElem?_eq_some_iff.1 HBW.out).1)
        have HPX := Lib.hid (show wr.heap.size < (wr.alloc (.cells #[.int .i64 x.file, .int .i64 x.at_, .bool x.cut, .string x.s] 84)).heap.size from (Array.getElem?_eq_some_iff.1 hp).1)
        generalize wr.alloc (.cells #[.int .i64 x.file, .int .i64 x.at_, .bool x.cut, .string x.s] 84) = w2 at hp HOA HBW HFR HBX HPX ⊢
        obtain ⟨p, hpe⟩ : ∃ p, wr.heap.size = p := ⟨_, rfl⟩
        rw [hpe] at hp HPL HPX
        rw [hpe]
        have HP := Lib.hid hp
        have HC := Lib.hid (clos_any x k b w2 (Lib.cell_of_heap HBW.out 0) HBX.out)
        clear hp hpe HRX
        go_wp2_with (refine wpList_load_row rfl 84 (.tmp 7) rfl p rfl 84 #[.int .i64 x.file, .int .i64 x.at_, .bool x.cut, .string x.s] (0, 0) _ HP.out Tryd.underlying84 rfl (by kernel_rfl) ?_)
        refine HC.out.mono ?_
        rintro e w3 ⟨rfl, hb3⟩
        have HP3 := Lib.hid ((hb3.block p HPX.out).trans HP.out)
        have HO3 := Lib.hid (own_frm HOA.out (F := fun _ => False) (Frm.of_below hb3) (fun _ _ => id))
        have HB3 := Lib.hid ((hb3.block b HBX.out).trans HBW.out)
        have HF3 := Lib.hid (HFR.out.trans (Frm.of_below (F := fun i => i = l) hb3) (fun i hi => Or.inl hi))
        clear hb3 HP HC HOA HBW HFR HBX HPX
        cases hf : x.file == k with
        | true =>
          have HD2 := Lib.hid (HSK.out hf)
          clear hf HSK HKP
          go_wp2_with fail
          go_roundw
          case rel => exact ⟨i, j + 1, A, rfl, by go_num, by omega, hin, HD2.out, HO3.out, HB3.out, HF3.out⟩
          case measure => simp [intOf]; omega
        | false =>
          have HD2 := Lib.hid (HKP.out hf)
          obtain ⟨hth, hos⟩ := own_set HO3.out HIN.out.1 x
          have HTH := Lib.hid hth
          have HOS := Lib.hid hos
          have HFS := Lib.hid (Frm.setCells (F := fun i => i = l) (a := w) (g := l) (Or.inl rfl) (KC.enc x) (i * KC.size) _ HF3.out)
          have HBS := Lib.hid (((Frm.setCells (F := fun i => i = l) (a := w3) (g := l) (Or.inl rfl) (KC.enc x) (i * KC.size) _ (Frm.refl _ _)).block b (Array.getElem?_eq_some_iff.1 HB3.out).1 (fun e => HLB.out e.symm)).trans HB3.out)
          have hi3 := HIN.out.2.1
          clear hf HSK HKP hth hos
          go_wp2_with (first | (refine wpList_load_row rfl 84 (.tmp 7) rfl p rfl 84 #[.int .i64 x.file, .int .i64 x.at_, .bool x.cut, .string x.s] (0, 0) _ HP3.out Tryd.underlying84 rfl (by kernel_rfl) ?_) | (refine wpList_store_mid rfl 84 (.tmp 33) (.tmp 32) rfl l (i * 4) #[.int .i64 x.file, .int .i64 x.at_, .bool x.cut, .string x.s] rfl rfl HTH.out (by kernel_rfl) (by simp [Value.oneCell']) ?_))
          go_roundw
          case rel => exact ⟨i + 1, j + 1, A.set i x, by go_num, by go_num, by omega, HIN.out.2.2, HD2.out, HOS.out, HBS.out, HFS.out⟩
          case measure => simp [intOf]; omega
      · obtain rfl : j = n := by omega
        have hij := hD.lt
        have hcapi : (i : Int) ≤ (cap : Int) := by omega
        have hcapj : (i : Int) ≤ (j : Int) := by omega
        have hne : ¬ (cap : Int) = i := by omega
        have hne2 : ¬ cap = i := by omega
        have hjl : j ≤ 1000000000 := hL
        have hz := own_cut hOA hin (Builtin.zeroCells #[.int .i64 0, .int .i64 0, .bool false, .string ⟨#[]⟩] (j - i)).toList (by simp [Builtin.zeroCells, KC])
        have htk : A.take i = keepF k L := by rw [hD.done, List.take_of_length_le (by rw [HN.out]; exact Nat.le_refl _)]
        rw [htk] at hz
        have HZ := Lib.hid hz.2
        have hrc := run_clear_row (P := Tryd.prog) wr 65 84 0 (.agg #[.int .i64 0, .int .i64 0, .bool false, .string ⟨#[]⟩]) Tryd.underlying65 change_zero (by intro u hu; simp [Value.cells] at hu; rcases hu with rfl | rfl | rfl | rfl <;> rfl) l (i * 4) (j - i) (cap - i) (by omega) hz.1
        have HFS := Lib.hid (Frm.setCells (F := fun i => i = l) (a := w) (g := l) (Or.inl rfl) (Builtin.zeroCells #[.int .i64 0, .int .i64 0, .bool false, .string ⟨#[]⟩] (j - i)).toList (i * KC.size) _ hfr)
        clear hz htk hD hOA hbw hfr hij
        go_wp2_with fail
        go_ret
        exact ⟨_, rfl, HZ.out, HFS.out.mono (fun i hi => by subst hi; rfl), fun _ h => h⟩
end Go.Proofs.YtepcfmigkhacgaaDoor.Dk

namespace Go.Proofs.YtepcfmigkhacgaaDoor.Dk
open Go.RowKit Go.Proofs.YtepcfmigkhacgaaDoor.Gr

def syncS (S : St) (f : Nat) : St := { S with sure := S.sure.set f (S.now.getD f ⟨#[]⟩), loose := keepF f S.loose }
def syncerS (S : St) (f : Int) : Int × St :=
  if errF S.on f ≠ 0 then (errF S.on f, S)
  else if (opS S).1 ≠ 0 then opS S
  else (0, syncS (opS S).2 f.toNat)

theorem Left.sure {w w' : World} {g : Nat} {lv lv' : Value} {S : St} (h : Left w g lv S w' lv') (f : Nat) (hf : f < 64) (s : ByteArray) : Left w g lv { S with sure := S.sure.set f s } (w'.setCell ⟨g, 64 + f, none⟩ (.string s)) lv' :=
  h.put (set_sure lv' h.at_.now h.at_.sure f hf s) h.at_.now (by simp [h.at_.sure]) rfl
theorem Left.alloc {w : World} {g : Nat} {lv : Value} {S : St} (h : DAt w g lv S) (o : Obj) : Left w g lv S (w.alloc o) lv :=
  ⟨h.kept (F := fun _ => False) (Frm.of_below ((Below.refl _ _).alloc (Nat.le_refl _) _)) id (fun _ _ => id), Frm.of_below ((Below.refl _ _).alloc (Nat.le_refl _) _), fun _ h => Or.inl h⟩

/-- Another row of loose changes is laid. -/
theorem Left.swap {w w' w2 : World} {g : Nat} {lv lv' lu : Value} {S : St} (h : Left w g lv S w' lv') {L : List Ch} (hown : KC.Own 0 lu L w2) (hf : Frm (fun i => lv'.ownBlock = some i) w' w2) (hlu : ∀ i, lu.ownBlock = some i → lv'.ownBlock = some i) :
    Left w g lv { S with loose := L } (w2.setCell ⟨g, 128, none⟩ lu) lu ∧ w2.cell? ⟨g, 128, none⟩ = some lv' ∧ w2.frozen? ⟨g, 128, none⟩ = false := by
  have hh : w2.heap[g]? = some (.cells (S.vals lv').toArray 67 (0, 0)) := (hf.block g h.at_.lt h.at_.ne).trans h.at_.heap
  refine ⟨⟨⟨?_, h.at_.now, h.at_.sure, ?_⟩, ?_, fun i hi => h.foot i (hlu i hi)⟩, cell_row hh (vals_rest S lv' h.at_.now h.at_.sure 0), by simp [World.frozen?, hh]⟩
  · rw [vals_set (T := { S with loose := L }) (lu := lu) _ hh]
    · exact setRow_heap _ _ _ _ _ _ hh
    · rw [set_rest lv' h.at_.now h.at_.sure 0]
      rfl
  · rcases hown.2 with ⟨rfl, e⟩ | ⟨b, cp, cur, rfl, hb, hc, r⟩
    · exact ⟨hown.1, Or.inl ⟨rfl, e⟩⟩
    · refine ⟨hown.1, Or.inr ⟨b, cp, cur, rfl, hb, ?_, r⟩⟩
      rw [Below.heap_setCell _ _ _ _ (fun e2 => h.at_.ne (by rw [hlu b rfl, e2]))]
      exact hc
  · refine Frm.setCell (h.frm.trans hf (fun i hi => ?_)) (Or.inl (Or.inl rfl)) _
    rcases h.foot i hi with h1 | h1
    · exact Or.inl (Or.inr h1)
    · exact Or.inr h1

set_option maxRecDepth 100000 in
set_option maxHeartbeats 1600000 in
theorem code_Sync (g : Nat) (lv : Value) (S : St) (f : Int) (w : World) (h : DAt w g lv S) (hS : Fits S) :
    Calls Tryd.prog 33 #[.pointer (some ⟨g, 0, none⟩), .int .i64 f] w fun e w' => e = .returned (.int .i64 (syncerS S f).1) ∧ ∃ lv', Left w g lv (syncerS S f).2 w' lv' := by
  have HL := Lib.hid (Left.alloc h (.cells #[.int .i64 f] 3))
  have HS := Lib.hid (code_serves g S.on f (w.alloc (.cells #[.int .i64 f] 3)) (HL.out.at_.cOn))
  by_cases he : errF S.on f = 0
  · obtain ⟨hon, hf⟩ := errF_zero he
    obtain ⟨k, rfl⟩ : ∃ k : Nat, f = k := ⟨f.toNat, by omega⟩
    have hk : k < 64 := by omega
    unfold syncerS
    rw [if_neg (fun x => x he), Int.toNat_natCast]
    rw [he] at HS
    have hi : (k : Int) < 64 := by omega
    have HO := Lib.hid (code_operation g lv S (w.alloc (.cells #[.int .i64 k] 3)) HL.out.at_ (by have := hS.ops; omega) hS.lasts.1 hS.lasts.2)
    have hcb : (w.alloc (.cells #[.int .i64 k] 3)).heap[w.heap.size]? = some (.cells #[.int .i64 k] 3 (0, 0)) := heap_alloc_new _ _
    have hgb : w.heap.size ≠ g := by have := h.lt; omega
    have hlb : ∀ i, lv.ownBlock = some i → w.heap.size ≠ i := fun i hi => by
      obtain ⟨cs, hc⟩ := own_type h.own i hi
      have := (Array.getElem?_eq_some_iff.1 hc).1
      omega
    rcases opS_two S with ho | ho
    · have hn1 := opS_now S
      have hl1 := opS_loose S
      have HF := Lib.hid hS.loose
      rw [if_neg (fun x => x ho)]
      rw [ho] at HO
      generalize (opS S).2 = S1 at HO hn1 hl1 ⊢
      rw [← hl1] at HF
      obtain ⟨t, ht⟩ : ∃ t, S1.now.getD k ⟨#[]⟩ = t := ⟨_, rfl⟩
      unfold syncS
      rw [ht]
      have HT := Lib.hid ht
      have HK := Lib.hid hk
      have HCB := Lib.hid hcb
      have HGB := Lib.hid hgb
      have HLB := Lib.hid hlb
      clear h hS hf hon he ho hk hn1 hl1 ht hcb hgb hlb
      go_enter Tryd.func33, Tryd.ntmps33
      go_wp2_with fail
      refine HS.out.mono ?_
      rintro e w' ⟨rfl, rfl⟩
      go_wp2_with fail
      refine HO.out.mono ?_
      rintro e w1 ⟨rfl, hl1⟩
      have hb1 : w1.heap[w.heap.size]? = some (.cells #[.int .i64 k] 3 (0, 0)) := (hl1.frm.block _ (by simp) (fun hfo => by
        rcases hfo with e | e
        · exact HGB.out e
        · exact HLB.out _ e rfl)).trans HCB.out
      obtain ⟨b, hb⟩ : ∃ b, w.heap.size = b := ⟨_, rfl⟩
      rw [hb] at hb1
      rw [hb]
      have hgb2 : b ≠ (⟨g, 64 + k, none⟩ : Addr).block := by rw [← hb]; exact HGB.out
      have HGB2 := Lib.hid hgb2
      clear hgb2
      have HL1 := Lib.hid hl1
      have HB1 := Lib.hid hb1
      have hcb := Lib.cell_of_heap hb1 0
      clear hl1 hb1 hb
      go_wp2_with fail
      refine wp_region_still_tail 10 (by kernel_rfl) (by kernel_rfl) ?_
      simp only [List.take_succ_cons, List.take_zero, List.drop_succ_cons, List.drop_zero]
      have hl2 := HL1.out.drew
      have hb2 : w1.drew.heap[b]? = some (.cells #[.int .i64 k] 3 (0, 0)) := HB1.out
      show wpStill _ _ w1.drew (fun a' => wpList _ _ _ _ a' w1.drew) _ _
      generalize w1.drew = w2 at hl2 hb2 ⊢
      have hc1 := hl2.at_.cNow (hl2.at_.file HK.out)
      rw [HT.out] at hc1
      have hc3 := hl2.at_.cSure (hl2.at_.fileS HK.out)
      have hfz1 := hl2.at_.fz
      have HB2 := Lib.hid hb2
      clear hcb
      have hcb := Lib.cell_of_heap hb2 0
      have HL2 := Lib.hid (hl2.sure k HK.out t)
      clear hl2 HL1 hb2
      repeat still_step
      refine wpStill_nil ?_
      go_upto_region 8 with (fail)
      have hb3 : (w2.setCell ⟨g, 64 + k, none⟩ (.string t)).heap[b]? = some (.cells #[.int .i64 k] 3 (0, 0)) := (Below.heap_setCell _ _ _ _ HGB2.out).trans HB2.out
      generalize w2.setCell ⟨g, 64 + k, none⟩ (.string t) = w3 at HL2 hb3 ⊢
      have HB3 := Lib.hid hb3
      clear hc1 hc3 hfz1 hcb HB2 hb3
      have hc1 := HL2.out.at_.cLoose
      have HD := Lib.hid (code_DeleteFunc lv S1.loose k b w3 HL2.out.at_.own HB3.out HF.out)
      go_wp2_with fail
      refine HD.out.mono ?_
      rintro e w4 ⟨lu, rfl, hown4, hfr4, hlu⟩
      obtain ⟨ua, un, uc, rfl⟩ : ∃ a n c, lu = .slice a n c := by
        rcases hown4.form with ⟨h1, _⟩ | ⟨_, _, h1, _⟩
        · exact ⟨_, _, _, h1⟩
        · exact ⟨_, _, _, h1⟩
      obtain ⟨hL4, hc4, hf4⟩ := HL2.out.swap hown4 hfr4 hlu
      have HL4 := Lib.hid (HL.out.trans hL4)
      clear hown4 hfr4 hlu hL4 hc1
      go_wp2_with fail
      go_ret
      exact ⟨rfl, _, HL4.out⟩
    · have hr : (opS S).1 ≠ 0 := by rw [ho]; decide
      rw [if_pos hr]
      rw [ho] at HO ⊢
      generalize (opS S).2 = S1 at HO ⊢
      clear h hS hf hon he ho hk hr hcb hgb hlb
      go_enter Tryd.func33, Tryd.ntmps33
      go_wp2_with fail
      refine HS.out.mono ?_
      rintro e w' ⟨rfl, rfl⟩
      go_wp2_with fail
      refine HO.out.mono ?_
      rintro e w1 ⟨rfl, hl1⟩
      have HL1 := Lib.hid (HL.out.trans hl1)
      clear hl1
      go_wp2_with fail
      go_ret
      exact ⟨rfl, _, HL1.out⟩
  · unfold syncerS
    rw [if_pos he]
    generalize errF S.on f = x at HS he ⊢
    have he2 : (x == 0) = false := by simpa using he
    have he3 : (x != 0) = true := by simpa using he
    clear h hS
    go_enter Tryd.func33, Tryd.ntmps33
    go_wp2_with fail
    refine HS.out.mono ?_
    rintro e w' ⟨rfl, rfl⟩
    go_wp2_with fail
    go_ret
    exact ⟨rfl, _, HL.out⟩
theorem code_Sync_nil (f : Int) (w : World) : Calls Tryd.prog 33 #[.pointer none, .int .i64 f] w fun e w' => e = .returned (.int .i64 1) ∧ Below w.heap.size w w' := by
  go_enter Tryd.func33, Tryd.ntmps33
  go_wp2_with fail
  refine (code_serves_nil _ _).mono ?_
  rintro e w' ⟨rfl, rfl⟩
  go_wp2_with fail
  go_ret
  exact ⟨rfl, (Below.refl _ _).alloc (Nat.le_refl _) _⟩
end Go.Proofs.YtepcfmigkhacgaaDoor.Dk

namespace Go.Proofs.YtepcfmigkhacgaaDoor.Dk
open Go.RowKit Go.Proofs.YtepcfmigkhacgaaDoor.Gr

theorem own_mono {P : Program} {α : Type} {K : Kind P α} {B C : Nat} {w : World} {v : Value} {L : List α} (h : K.Own B v L w) (hC : C ≤ B) : K.Own C v L w := by
  rcases h.2 with ⟨rfl, e⟩ | ⟨b, cp, cur, rfl, hb, r⟩
  · exact ⟨h.1, Or.inl ⟨rfl, e⟩⟩
  · exact ⟨h.1, Or.inr ⟨b, cp, cur, rfl, by omega, r⟩⟩
def zeroC : Array Value := (List.replicate 128 (Value.string ⟨#[]⟩) ++ [Value.slice none 0 0, Value.bool false, Value.int .i64 0, Value.int .i64 0]).toArray
theorem disk_zero : (Tryd.prog.info? 67).map (·.zero) = some (some (.agg zeroC)) := by kernel_rfl
theorem zero_run {P : Program} {t : TypeId} {z : Value} (h : (P.info? t).map (·.zero) = some (some z)) (w : World) : (zeroValue t).run P w = .ok z w := by
  cases hq : P.info? t with
  | none => simp [hq] at h
  | some i =>
    have hz : i.zero = some z := by simpa [hq] using h
    simp [zeroValue, typeInfo, hq, hz]
set_option maxRecDepth 100000 in
theorem zero_all : zeroC.size = 132 := by decide
theorem empty_own (B : Nat) (w : World) (hB : B ≤ w.heap.size) : KC.Own B (.slice (some ⟨w.heap.size, 0, none⟩) 0 0) [] (w.alloc (.cells #[] 84)) :=
  ⟨rfl, Or.inr ⟨w.heap.size, 0, #[], rfl, hB, heap_alloc_new _ _, Nat.le_refl _, Nat.zero_le _, rfl, rfl⟩⟩

theorem eql_nil {t : TypeId} (e : TypeId) (ht : Tryd.prog.underlying t = some (.slice e)) (w : World) (a : Option Addr) (n c : Nat) : (binOp .eql t (.slice a n c) (.slice none 0 0)).run Tryd.prog w = .ok (.bool a.isNone) w := Lib.run_eql_slice_nil w t e a n c 0 0 ht
set_option maxRecDepth 100000 in
set_option maxHeartbeats 1600000 in
theorem code_Clone (v : Value) (L : List Ch) (w : World) (hO : KC.Own 0 v L w) (hL : L.length ≤ 1000000000) :
    Calls Tryd.prog 61 #[v] w fun e w' => ∃ v', e = .returned v' ∧ KC.Own w.heap.size v' L w' ∧ Below w.heap.size w w' := by
  have heq := eql_nil 84 Tryd.underlying65
  rcases hO.form with ⟨rfl, rfl⟩ | ⟨l, cap, rfl, _, hl, hc⟩
  · clear hO hL
    go_enter Tryd.func61, Tryd.ntmps61
    go_wp2_with fail
    go_ret
    exact ⟨_, rfl, Kind.Own.nil _ _, Below.refl _ _⟩
  · have hb1 : Below w.heap.size w (w.alloc (.cells #[] 84)) := (Below.refl _ _).alloc (Nat.le_refl _) _
    have HB1 := Lib.hid hb1
    have HE := Lib.hid (empty_own w.heap.size w (Nat.le_refl _))
    have HA := Lib.hid (hO.reads.kept hb1)
    have hn : (([] : List Ch).length + L.length) * (KC.bytes + 1) ≤ 1099511627776 := by simp [KC]; omega
    have HN := Lib.hid hn
    have hs : w.heap.size ≤ (w.alloc (.cells #[] 84)).heap.size := by simp
    have HS := Lib.hid hs
    clear hO hl hc hb1 hn hs hL
    go_enter Tryd.func61, Tryd.ntmps61
    go_wp2_with (refine wpList_append_at (K := KC) rfl (.tmp 5) (.tmp 6) 65 rfl Tryd.underlying65 w.heap.size rfl HE.out _ L rfl HA.out HN.out HS.out ?_; intro v3 w4 hown3 hbb3)
    go_ret
    exact ⟨_, rfl, hown3, HB1.out.trans hbb3⟩

set_option maxRecDepth 100000 in
set_option maxHeartbeats 1600000 in
theorem code_Copy (g : Nat) (lv : Value) (S : St) (w : World) (h : DAt w g lv S) (hL : S.loose.length ≤ 1000000000) :
    Calls Tryd.prog 32 #[.pointer (some ⟨g, 0, none⟩)] w fun e w' => e = .returned (.pointer (some ⟨w.heap.size, 0, none⟩)) ∧ Below w.heap.size w w' ∧ ∃ lu, DAt w' w.heap.size lu S ∧ ∀ i, lu.ownBlock = some i → w.heap.size < i := by
  have hh := h.heap
  have HI : (Tryd.prog.info? 67).map (·.size) = some (S.vals lv).toArray.size := by
    rw [disk_info, List.size_toArray, vals_len h.now h.sure]
  have H1 : (S.vals lv).toArray.all (·.oneCell') = true := by
    refine Array.all_eq_true_iff_forall_mem.2 fun u hu => ?_
    rw [List.mem_toArray] at hu
    unfold St.vals at hu
    simp only [List.mem_append, List.mem_map, List.mem_cons, List.not_mem_nil, or_false] at hu
    rcases hu with ⟨s, _, rfl⟩ | ⟨s, _, rfl⟩ | rfl | rfl | rfl | rfl
    · rfl
    · rfl
    · rcases h.own.form with ⟨rfl, _⟩ | ⟨l, cap, rfl, _⟩ <;> rfl
    · rfl
    · rfl
    · rfl
  obtain ⟨C, hC⟩ : ∃ C, (S.vals lv).toArray = C := ⟨_, rfl⟩
  rw [hC] at hh HI H1
  have HH := Lib.hid hh
  have HI2 := Lib.hid HI
  have H12 := Lib.hid H1
  have HD := Lib.hid h
  have HLL := Lib.hid hL
  have HCC := Lib.hid hC
  clear hh HI H1 h hL hC
  have hz := zero_run disk_zero
  have hzs := zero_all
  generalize zeroC = Z at hz hzs
  have HSZ := Lib.hid (show Z.size = C.size by
    have := HI2.out
    rw [disk_info] at this
    injection this with this
    rw [hzs, this])
  clear hzs
  have HN := Lib.hid (heap_alloc_new w (.cells Z 67))
  go_enter Tryd.func32, Tryd.ntmps32
  go_upto_region 4 with (first | (refine wpList_load_row rfl 67 (.tmp 7) rfl g rfl 67 C (0, 0) _ HH.out Tryd.underlying67 rfl HI2.out ?_) | (refine wpList_store_row rfl 67 (.tmp 3) (.tmp 8) rfl w.heap.size C rfl rfl 67 Z HN.out HI2.out HSZ.out H12.out ?_))
  rw [World.setRow_alloc_new]
  have hb2 : Below w.heap.size w (w.alloc (.cells C 67)) := (Below.refl _ _).alloc (Nat.le_refl _) _
  have hn2 := heap_alloc_new w (.cells C 67)
  generalize w.alloc (.cells C 67) = w2 at hb2 hn2 ⊢
  have hd2 : DAt w2 g lv S := HD.out.kept (F := fun _ => False) (Frm.of_below hb2) id (fun _ _ => id)
  obtain ⟨n, hne⟩ : ∃ n, w.heap.size = n := ⟨_, rfl⟩
  rw [hne] at hb2 hn2
  rw [hne]
  have hc := hd2.cLoose
  have HB2 := Lib.hid hb2
  have HN2 := Lib.hid hn2
  have HC := Lib.hid (code_Clone lv S.loose w2 hd2.own HLL.out)
  have HW := Lib.hid (show w.heap.size = n from hne)
  clear hd2 hb2 hn2 HN HSZ H12 HI2 HH hz hne
  go_wp2_with fail
  refine HC.out.mono ?_
  rintro e w3 ⟨lu, rfl, hown3, hb3⟩
  have hlt := (Array.getElem?_eq_some_iff.1 HN2.out).1
  have hn3 : w3.heap[n]? = some (.cells (S.vals lv).toArray 67 (0, 0)) := by rw [HCC.out]; exact (hb3.block n hlt).trans HN2.out
  have hc3 := cell_row hn3 (vals_rest S lv HD.out.now HD.out.sure 0)
  have hf3 : w3.frozen? ⟨n, 128, none⟩ = false := by simp [World.frozen?, hn3]
  have hnl : ∀ i, lu.ownBlock = some i → n < i := fun i hi => by
    have := hown3.base i hi
    omega
  obtain ⟨ua, un, uc, rfl⟩ : ∃ a n c, lu = .slice a n c := by
    rcases hown3.form with ⟨h1, _⟩ | ⟨_, _, h1, _⟩
    · exact ⟨_, _, _, h1⟩
    · exact ⟨_, _, _, h1⟩
  have HL := Lib.hid (show Below n w (w3.setCell ⟨n, 128, none⟩ (.slice ua un uc)) from (HB2.out.trans (hb3.mono (by have := HB2.out.size; rw [HW.out] at this; exact this))).setCell (p := ⟨n, 128, none⟩) (Nat.le_refl _) _)
  have HDD : DAt (w3.setCell ⟨n, 128, none⟩ (.slice ua un uc)) n (.slice ua un uc) S := by
    refine ⟨?_, HD.out.now, HD.out.sure, ?_⟩
    · rw [vals_set (T := S) (lu := .slice ua un uc) _ hn3]
      · exact setRow_heap _ _ _ _ _ _ hn3
      · rw [set_rest lv HD.out.now HD.out.sure 0]
        rfl
    · have ho := own_mono hown3 (Nat.zero_le _)
      rcases ho.2 with ⟨e1, e⟩ | ⟨b, cp, cur, e1, hb, hc, r⟩
      · exact ⟨ho.1, Or.inl ⟨e1, e⟩⟩
      · refine ⟨ho.1, Or.inr ⟨b, cp, cur, e1, hb, ?_, r⟩⟩
        have := hnl b (by rw [e1]; rfl)
        rw [Below.heap_setCell _ _ _ _ (by show b ≠ n; omega)]
        exact hc
  have HX := Lib.hid HDD
  have HNL := Lib.hid hnl
  clear hown3 hb3 hlt hn3 hnl HDD HC HD HCC
  go_wp2_with fail
  go_ret
  rw [HW.out]
  exact ⟨rfl, HL.out, _, HX.out, HNL.out⟩
theorem code_Copy_nil (w : World) : Calls Tryd.prog 32 #[.pointer none] w fun e w' => e = .returned (.pointer none) ∧ w = w' := by
  go_enter Tryd.func32, Tryd.ntmps32
  go_wp2
  go_ret
  exact ⟨rfl, rfl⟩
end Go.Proofs.YtepcfmigkhacgaaDoor.Dk
