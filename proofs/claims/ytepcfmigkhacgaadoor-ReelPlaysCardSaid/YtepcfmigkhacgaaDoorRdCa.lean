/- disk: bytes, one by one. -/
import Derived.Test.YtepcfmigkhacgaaDoorG7
import Derived.Test.YtepcfmigkhacgaaDoorDkJ
import Derived.Test.YtepcfmigkhacgaaDoorDkR
import Derived.Deep.AppendSrc
namespace Go.Proofs.YtepcfmigkhacgaaDoor.Dk
open Go.RowKit Go.Proofs.YtepcfmigkhacgaaDoor.Gr

/-- One byte more. -/
theorem BAt.push {w : World} {v : Value} {xs : List UInt8} (h : BAt w v xs) (ty : TypeId) (b : UInt8) (gu : Nat) (hu : w.rangeAt gu 0 (bv [b])) (hk : xs.length + 1 ≤ 1099511627776) :
    ∃ v' w', (Builtin.append_ #[81, 81] ty #[v, .slice (some ⟨gu, 0, none⟩) 1 1]).run Tryd.prog w = .ok v' w' ∧ BAt w' v' (xs ++ [b]) ∧ Frm (fun i => v.ownBlock = some i) w w' ∧ ∀ i, v'.ownBlock = some i → v.ownBlock = some i ∨ w.heap.size ≤ i := by
  obtain ⟨i0, hi, hz0, hz1, hz2⟩ := info_parts byte_info
  obtain ⟨g, cap, cur, fz, rfl, hg, hz, h1, h2, h3, hr⟩ := h
  have hsrc : Src Tryd.prog i0.size 81 (.slice (some ⟨gu, 0, none⟩) 1 1) 1 (bv [b]) w := by
    rw [hz1]
    exact Src.ofSlice w Tryd.underlying81 ⟨gu, 0, none⟩ 1 1 (bv [b]) rfl (fun j u hj => by rw [Addr.add_mid]; exact hu j u hj) (bv_one _)
  by_cases hroom : xs.length + 1 ≤ cap
  · have hth : w.there g xs.length 1 := fun j hj => ⟨by
      rw [Lib.cell_of_heap hg, Array.getElem?_eq_getElem (by omega)]
      rfl, frozen_in hg (hz _ (by omega))⟩
    have hrun := run_append_room_src (P := Tryd.prog) (w := w) 81 81 ty 5 i0 Tryd.underlying81 hi g 0 xs.length cap _ 1 (bv [b]) hsrc hroom (fun j hj => by
      have := (hth j (by simpa [bv] using hj)).1
      rw [hz1, Nat.mul_one, Nat.zero_add]; exact this) (fun j hj => by
      have := (hth j (by simpa [bv] using hj)).2
      rw [hz1, Nat.mul_one, Nat.zero_add]; exact this)
    rw [hz1, Nat.mul_one, Nat.zero_add] at hrun
    obtain ⟨cur', hg', hs'⟩ := setCells_heap g _ _ (bv [b]) xs.length w cur hg
    refine ⟨_, _, hrun, ?_, Frm.setCells (F := fun i => (Value.slice (some ⟨g, 0, none⟩) xs.length cap).ownBlock = some i) (a := w) (g := g) (Or.inl rfl) (bv [b]) xs.length w (Frm.refl _ _), fun i hi => Or.inl hi⟩
    refine ⟨g, cap, cur', fz, by simp, hg', by rw [hs']; exact hz, by simpa using hroom, h2, by rw [hs', h3], fun j u hj => ?_⟩
    rw [Nat.zero_add]
    rw [bv_app] at hj
    rcases Nat.lt_or_ge j xs.length with hjo | hjo
    · rw [World.cell?_setCells_out g _ _ _ _ (fun _ _ => Or.inl hjo)]
      rw [List.getElem?_append_left (by rw [bv_len]; exact hjo)] at hj
      have := hr j u hj
      rwa [Nat.zero_add] at this
    · rw [List.getElem?_append_right (by rw [bv_len]; exact hjo), bv_len] at hj
      have hlt := (List.getElem?_eq_some_iff.1 hj).1
      have e := World.cell?_setCells_in g (bv [b]) xs.length w (fun t ht => (hth t (by simpa [bv_len] using ht)).1) (j - xs.length) hlt
      rw [show xs.length + (j - xs.length) = j by omega] at e
      rw [e, ← hj, List.getElem?_eq_getElem hlt]
  · have hold : (Builtin.firstCells i0.size xs.length (.slice (some ⟨g, 0, none⟩) xs.length cap)).run Tryd.prog w.drew = .ok (bv xs).toArray w.drew := by
      rw [hz1]
      exact run_firstCells_some (P := Tryd.prog) w.drew 1 xs.length ⟨g, 0, none⟩ xs.length cap (bv xs) (by rw [bv_len, Nat.mul_one]) (fun j u hj => by
        rw [Addr.add_mid]
        exact hr j u hj)
    have hrun := run_append_grow_src (P := Tryd.prog) (w := w) 81 81 ty 5 i0 (.int .u8 0) Tryd.underlying81 hi hz0 (some ⟨g, 0, none⟩) xs.length cap (bv xs) hold _ 1 (bv [b]) hsrc (by omega) (by omega) (growslice_fits (by omega) (by rw [hz2]; omega))
    have hge := grownCap_ge w (xs.length + 1) cap 5
    have hcm := grownCap_le_maxLen w (xs.length + 1) cap 5 (by unfold maxLen; omega)
    refine ⟨_, _, hrun, ?_, ?_, ?_⟩
    · refine ⟨w.heap.size, _, _, (0, 0), by rw [List.length_append]; rfl, heap_alloc_new w.drew _, fun i _ hc => by simp only at hc; omega, by rw [List.length_append]; exact hge, hcm, ?_, fun j u hj => ?_⟩
      · simp [Builtin.zeroCells, Value.cells, bv_len]
        omega
      · have hg2 : (w.drew.alloc (.cells ((bv xs ++ bv [b]).toArray ++ Builtin.zeroCells (Value.int .u8 0).cells (grownCap w (xs.length + 1) cap 5 - (xs.length + 1))) 5)).heap[w.heap.size]? = _ := heap_alloc_new w.drew _
        rw [Nat.zero_add, Lib.cell_of_heap hg2, ← Array.getElem?_toList]
        rw [Array.toList_append, List.toList_toArray, ← bv_app, List.getElem?_append_left (by rw [bv_len]; have := (List.getElem?_eq_some_iff.1 hj).1; rwa [bv_len] at this)]
        exact hj
    · exact ⟨rfl, rfl, rfl, by simp, fun i hi _ => by
        show (w.drew.alloc _).heap[i]? = _
        rw [heap_alloc_old _ _ (show i < w.drew.heap.size from hi)]
        rfl⟩
    · intro i hi
      simp [Value.ownBlock] at hi
      exact Or.inr (by omega)
theorem wpList_append_push {ops : Array Oper} {rest : List Oper} {o : Oper} {a : Act} {w : World} {Q : Exit → Act → World → Prop} (hgd : o.guard = none) (s x : Operand) (ho : o.op = .call { callee := .builtin .append, args := #[s, x], argTypes := #[81, 81] })
    (v : Value) (xs : List UInt8) (hs : a.eval s = v) (hb : BAt w v xs) (b : UInt8) (gu : Nat) (hx : a.eval x = .slice (some ⟨gu, 0, none⟩) 1 1) (hu : w.rangeAt gu 0 (bv [b])) (hk : xs.length + 1 ≤ 1099511627776)
    (h : ∀ v' w', BAt w' v' (xs ++ [b]) → Frm (fun i => v.ownBlock = some i) w w' → (∀ i, v'.ownBlock = some i → v.ownBlock = some i ∨ w.heap.size ≤ i) → wpList Tryd.prog ops Q rest (a.put o.dst v') w') : wpList Tryd.prog ops Q (o :: rest) a w := by
  obtain ⟨v', w', hrun, h1, h2, h3⟩ := hb.push o.type b gu hu hk
  refine wpList_plain hgd fun K hK => ?_
  unfold Oper.wp
  simp [execOp, ho, resolve, invoke, builtin, hs, hx, hrun, Result.andThen]
  exact hK _ _ (h v' w' h1 h2 h3)

/-! ### mathematics -/
theorem pad_get (b : List UInt8) (n j : Nat) : (b ++ List.replicate (n - b.length) (0 : UInt8))[j]? = if j < b.length then b[j]? else if j < n then some 0 else none := by
  rw [List.getElem?_append]
  split
  · rfl
  · rw [List.getElem?_replicate]
    by_cases h : j < n
    · rw [if_pos h, if_pos (by omega)]
    · rw [if_neg h, if_neg (by omega)]
theorem doneT_get (a : Nat) (t b : List UInt8) (j : Nat) : (doneT a t b)[j]? = if a ≤ j ∧ j < a + t.length then t[j - a]? else if j < b.length then b[j]? else if j < a + t.length then some 0 else none := by
  have hP := pad_get b (a + t.length) j
  have hl : a + t.length ≤ (b ++ List.replicate (a + t.length - b.length) (0 : UInt8)).length := by simp; omega
  unfold doneT
  generalize b ++ List.replicate (a + t.length - b.length) (0 : UInt8) = P at hP hl ⊢
  have e1 : (P.take a).length = a := by simp; omega
  rcases Nat.lt_or_ge j a with h | h
  · rw [if_neg (by omega), ← hP, List.append_assoc, List.getElem?_append_left (by omega), List.getElem?_take_of_lt h]
  · rcases Nat.lt_or_ge j (a + t.length) with h2 | h2
    · rw [if_pos ⟨h, h2⟩, List.append_assoc, List.getElem?_append_right (by omega), e1, List.getElem?_append_left (by omega)]
    · rw [if_neg (by omega), ← hP, List.getElem?_append_right (by rw [List.length_append, e1]; exact h2), List.length_append, e1, List.getElem?_drop]
      congr 1
      omega
def inB (a : Nat) (s b : List UInt8) (k : Nat) : List UInt8 := if k = 0 then b else doneT a (s.take k) b
theorem inB_get (a : Nat) (s b : List UInt8) (k j : Nat) (hk : k ≤ s.length) : (inB a s b k)[j]? = if a ≤ j ∧ j < a + k then s[j - a]? else if j < b.length then b[j]? else if k ≠ 0 ∧ j < a + k then some 0 else none := by
  unfold inB
  by_cases h : k = 0
  · subst h
    rw [if_pos rfl, if_neg (by omega)]
    split
    · rfl
    · rw [if_neg (by omega), List.getElem?_eq_none (by omega)]
  · rw [if_neg h, doneT_get, List.length_take, Nat.min_eq_left hk]
    by_cases h2 : a ≤ j ∧ j < a + k
    · rw [if_pos h2, if_pos h2, List.getElem?_take_of_lt (by omega)]
    · rw [if_neg h2, if_neg h2]
      split
      · rfl
      · by_cases h3 : j < a + k
        · rw [if_pos h3, if_pos ⟨h, h3⟩]
        · rw [if_neg h3, if_neg (by omega)]
theorem inB_len (a : Nat) (s b : List UInt8) (k : Nat) (hk : k ≤ s.length) : (inB a s b k).length = if k = 0 then b.length else max b.length (a + k) := by
  unfold inB
  split
  · rfl
  · rw [doneT_len, List.length_take, Nat.min_eq_left hk]
theorem inB_step (a : Nat) (s b : List UInt8) (k : Nat) (x : UInt8) (h : s[k]? = some x) : (inB a s b k ++ List.replicate (a + k + 1 - (inB a s b k).length) 0).set (a + k) x = inB a s b (k + 1) := by
  have hk := (List.getElem?_eq_some_iff.1 h).1
  have hl := inB_len a s b k (by omega)
  apply List.ext_getElem?
  intro j
  rw [inB_get a s b (k + 1) j (by omega)]
  have hlen : (inB a s b k ++ List.replicate (a + k + 1 - (inB a s b k).length) (0 : UInt8)).length = max (inB a s b k).length (a + k + 1) := by simp; omega
  by_cases e : j = a + k
  · subst e
    rw [List.getElem?_set_self (by omega), if_pos (by omega), show a + k - a = k by omega, h]
  · rw [List.getElem?_set_ne (Ne.symm e), pad_get, inB_get a s b k j (by omega)]
    by_cases h1 : a ≤ j ∧ j < a + k
    · have hL : j < (inB a s b k).length := by
        rw [hl]; split <;> omega
      rw [if_pos hL, if_pos h1, if_pos (show a ≤ j ∧ j < a + (k + 1) by omega)]
    · rw [if_neg h1, if_neg (show ¬ (a ≤ j ∧ j < a + (k + 1)) by omega)]
      by_cases h2 : j < b.length
      · have hL : j < (inB a s b k).length := by
          rw [hl]; split <;> omega
        rw [if_pos hL, if_pos h2, if_pos h2]
      · rw [if_neg h2, if_neg h2]
        by_cases h3 : j < a + (k + 1)
        · rw [if_pos (show k + 1 ≠ 0 ∧ j < a + (k + 1) from ⟨by omega, h3⟩)]
          by_cases h4 : j < (inB a s b k).length
          · rw [if_pos h4, if_pos (show k ≠ 0 ∧ j < a + k by rw [hl] at h4; split at h4 <;> omega)]
          · rw [if_neg h4, if_pos (show j < a + k + 1 by omega)]
        · rw [if_neg (show ¬ (k + 1 ≠ 0 ∧ j < a + (k + 1)) by omega)]
          by_cases h4 : j < (inB a s b k).length
          · rw [if_pos h4, if_neg (show ¬ (k ≠ 0 ∧ j < a + k) by omega)]
          · rw [if_neg h4, if_neg (show ¬ j < a + k + 1 by omega)]
/-- How far bytes are taken one by one. -/
def farK (x : Ch) (n : Nat) : Nat := if x.cut then 0 else min n x.s.size
def cutB (x : Ch) (b : List UInt8) (n : Nat) : List UInt8 := if x.cut ∧ n ≠ 0 then b.take x.at_ else b
theorem inB_done (x : Ch) (b : List UInt8) (n : Nat) : inB x.at_ x.s.data.toList (cutB x b n) (farK x n) = doneB x b n := by
  have hs : x.s.data.toList.length = x.s.size := by rw [Array.length_toList]; rfl
  unfold farK cutB doneB inB
  by_cases hc : x.cut = true
  · simp only [hc, if_true, true_and]
    by_cases h0 : n = 0
    · simp [h0]
    · simp [h0]
  · simp only [hc, Bool.false_eq_true, if_false, false_and]
    by_cases h0 : n = 0
    · simp [h0]
    · rw [if_neg h0]
      by_cases h1 : min n x.s.size = 0
      · rw [if_pos h1, if_pos h1]
      · rw [if_neg h1, if_neg h1]
        congr 1
        rcases Nat.le_total n x.s.size with h | h
        · rw [Nat.min_eq_left h]
        · rw [Nat.min_eq_right h, List.take_of_length_le (by omega), List.take_of_length_le (by omega)]
/-- What is sure, change by change. -/
def refC (sure : List ByteArray) (keep : List Int) (L : List Ch) : Nat → List ByteArray
  | 0 => sure
  | n + 1 => match L[n]? with
    | some c => (refC sure keep L n).set c.file ⟨(doneB c ((refC sure keep L n).getD c.file ⟨#[]⟩).data.toList (keptN keep n)).toArray⟩
    | none => refC sure keep L n
theorem refC_len (sure : List ByteArray) (keep : List Int) (L : List Ch) : ∀ n, (refC sure keep L n).length = sure.length
  | 0 => rfl
  | n + 1 => by
    unfold refC
    split
    · rw [List.length_set]; exact refC_len sure keep L n
    · exact refC_len sure keep L n
theorem refC_get (sure : List ByteArray) (keep : List Int) (L : List Ch) (h : sure.length = 64) (hL : ∀ c ∈ L, c.file < 64) (f : Nat) (hf : f < 64) : ∀ n, ((refC sure keep L n).getD f ⟨#[]⟩).data.toList = getX sure (crashN sure keep L n) f
  | 0 => by
    have e : (List.replicate 64 (none : Fl)).getD f none = none := by rw [List.getD_eq_getElem?_getD, List.getElem?_replicate]; split <;> rfl
    unfold getX crashN refC
    rw [e]
    rfl
  | n + 1 => by
    have ih := refC_get sure keep L h hL f hf n
    unfold refC crashN
    cases hx : L[n]? with
    | none => exact ih
    | some c =>
      have hcf := hL c (List.mem_of_getElem? hx)
      have ihc := refC_get sure keep L h hL c.file hcf n
      show ((List.set (refC sure keep L n) c.file _).getD f ⟨#[]⟩).data.toList = getX sure (stepX sure (crashN sure keep L n) c (keptN keep n)) f
      rw [getX_step (crashN_len sure keep L n) c (keptN keep n) f hf]
      by_cases e : c.file = f
      · rw [if_pos e]
        subst e
        rw [getD_set_self (by rw [refC_len, h]; exact hf), ← ihc]
      · rw [if_neg e, getD_set_other e]
        exact ih
theorem refC_all (S : St) (keep : List Int) (h : S.sure.length = 64) (hL : ∀ c ∈ S.loose, c.file < 64) : refC S.sure keep S.loose S.loose.length = crashQ S keep :=
  list_ext (by rw [refC_len, h]) (by unfold crashQ; rw [mergeN_len, h]) (fun f hf => by rw [refC_get S.sure keep S.loose h hL f hf, crashQ_get S keep h hf])
end Go.Proofs.YtepcfmigkhacgaaDoor.Dk
