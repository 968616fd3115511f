/- Bytes of the call's own, a converted text's among them: append onto them. -/
import Derived.Test.YtlalipomphgcoaaShaI
import Derived.ArgAppend
import Derived.Lib.ConvBytes
import Derived.Deep.Upon
namespace Go.Proofs.Ytlalipomphgcoaa.Sha
open Go.RowKit

/-- A slice of n bytes in a row of one's own (from block B on), of which no cell is frozen. -/
def OwnB (B : Nat) (v : Value) (n : Nat) (xs : List UInt8) (w : World) : Prop :=
  ∃ g cap cur fz, v = .slice (some ⟨g, 0, none⟩) n cap ∧ B ≤ g ∧ w.heap[g]? = some (.cells cur 5 fz) ∧ (∀ i, i < cur.size → ¬ (fz.1 ≤ i ∧ i < fz.2)) ∧ n ≤ cap ∧ cap ≤ maxLen ∧ cur.size = cap ∧ xs.length = n ∧ ∀ (i : Nat) (b : UInt8), xs[i]? = some b → cur[i]? = some (.int .u8 (b.toNat : Int))

theorem OwnB.kept {B : Nat} {v : Value} {n : Nat} {xs : List UInt8} {w w' : World} (h : OwnB B v n xs w) (hb : Below w.heap.size w w') : OwnB B v n xs w' := by
  obtain ⟨g, cap, cur, fz, hv, hB, hg, r⟩ := h
  exact ⟨g, cap, cur, fz, hv, hB, (hb.block g (Array.getElem?_eq_some_iff.1 hg).1).trans hg, r⟩

theorem frozen_in {w : World} {g i : Nat} {cur : Array Value} {t : TypeId} {fz : Nat × Nat} (hg : w.heap[g]? = some (.cells cur t fz)) (h : ¬ (fz.1 ≤ i ∧ i < fz.2)) : w.frozen? ⟨g, i, none⟩ = false := by
  obtain ⟨lo, hi⟩ := fz
  unfold World.frozen?
  rw [hg]
  simp only at h ⊢
  rw [Bool.eq_false_iff]
  intro k
  simp at k
  exact h k

theorem setCells_heap (g : Nat) (t : TypeId) (fz : Nat × Nat) : ∀ (vs : List Value) (o : Nat) (w : World) (cur : Array Value), w.heap[g]? = some (.cells cur t fz) → ∃ cur', (w.setCells g o vs).heap[g]? = some (.cells cur' t fz) ∧ cur'.size = cur.size
  | [], _, _, cur, h => ⟨cur, h, rfl⟩
  | v :: r, o, w, cur, h => by
    have h1 : (w.setCell ⟨g, o, none⟩ v).heap[g]? = some (.cells (cur.setIfInBounds o v) t fz) := by
      rw [setCell_eq_setRow w g o cur t fz v h]
      exact setRow_heap w g cur _ t fz h
    obtain ⟨cur', h2, h3⟩ := setCells_heap g t fz r (o + 1) _ _ h1
    exact ⟨cur', h2, by rw [h3]; simp⟩

theorem below_setCells' {B b : Nat} {a : World} (hb : B ≤ b) : ∀ (vs : List Value) (o : Nat) (w : World), Below B a w → Below B a (w.setCells b o vs)
  | [], _, _, h => h
  | v :: r, o, _, h => below_setCells' hb r (o + 1) _ (h.setCell (p := ⟨b, o, none⟩) hb v)

theorem wpList_append_ownB {w : World} {ops : Array Oper} {rest : List Oper} {o : Oper} {a : Act} {Q : Exit → Act → World → Prop} (hg : o.guard = none) (s x : Operand)
    (hop : o.op = Op.call { callee := Callee.builtin Builtin.append, args := #[s, x], argTypes := #[56, 56] })
    (B : Nat) (v : Value) (n : Nat) (xs : List UInt8) (hs : a.eval s = v) (hown : OwnB B v n xs w) (ad : Addr) (m c : Nat) (news : List UInt8) (hx : a.eval x = .slice (some ad) m c) (hn : news.length = m)
    (hc : ∀ (j : Nat) (b : UInt8), news[j]? = some b → w.cell? (ad.add j) = some (.int .u8 (b.toNat : Int))) (hm : 0 < m) (b1 : n + m ≤ 140737488355328) (hB : B ≤ w.heap.size)
    (hK : ∀ v' w', OwnB B v' (n + m) (xs ++ news) w' → Below B w w' → wpList Try.prog ops Q rest (a.put o.dst v') w') : wpList Try.prog ops Q (o :: rest) a w := by
  obtain ⟨i0, hi, hz0, hz1, hz2⟩ := info_parts info8
  obtain ⟨g, cap, cur, fz, hv, hBg, hgr, hfz, hncap, hcap, hcs, hxl, hcells⟩ := hown
  have hcellg : ∀ i, w.cell? ⟨g, i, none⟩ = cur[i]? := fun i => cell_of_row w g i cur _ _ hgr
  refine wpList_append_arg w hg s x 56 hop 5 i0 (.int .u8 0) 1 1 Try.underlying56 hi hz0 hz1 hz2 rfl (by decide) g 0 n cap (valsB xs) (hs.trans hv) (by simp [valsB, hxl]) ?_ ad m c (valsB news) hx (by simp [valsB, hn]) ?_ ?_ ?_ (by unfold maxLen; omega) (by omega) ?_ ?_
  · intro j u hj
    simp only [valsB, List.getElem?_map] at hj
    obtain ⟨b, hb, rfl⟩ := Option.map_eq_some_iff.1 hj
    rw [Nat.zero_add, hcellg]
    exact hcells j b hb
  · intro j u hj
    simp only [valsB, List.getElem?_map] at hj
    obtain ⟨b, hb, rfl⟩ := Option.map_eq_some_iff.1 hj
    exact hc j b hb
  · intro u hu
    simp only [valsB, List.mem_map] at hu
    obtain ⟨b, _, rfl⟩ := hu
    rfl
  · intro hr j hj
    have hj' : j < m := by simpa [valsB, hn] using hj
    constructor
    · rw [hcellg, Array.getElem?_eq_getElem (by omega)]
      rfl
    · exact frozen_in hgr (hfz _ (by omega))
  · intro hr
    obtain ⟨cur', hg', hs'⟩ := setCells_heap g 5 fz (valsB news) (0 + n * 1) w cur hgr
    refine hK _ _ ⟨g, cap, cur', fz, rfl, hBg, hg', by rw [hs']; exact hfz, hr, hcap, by rw [hs', hcs], by simp [hxl, hn], ?_⟩ (below_setCells' hBg (valsB news) _ w (Below.refl _ _))
    intro i b hb
    rw [← cell_of_row _ g i cur' _ _ hg']
    by_cases hlt : i < n
    · rw [World.cell?_setCells_out g (valsB news) _ w ⟨g, i, none⟩ (fun _ _ => Or.inl (by simp only; omega)), hcellg]
      rw [List.getElem?_append_left (by omega)] at hb
      exact hcells i b hb
    · rw [List.getElem?_append_right (by omega)] at hb
      rw [hxl] at hb
      have hlm : i - n < news.length := (List.getElem?_eq_some_iff.1 hb).1
      have h := World.cell?_setCells_in g (valsB news) (0 + n * 1) w (fun j hj => by
        have hj' : j < m := by simpa [valsB, hn] using hj
        rw [hcellg, Array.getElem?_eq_getElem (by omega)]
        rfl) (i - n) (by simpa [valsB] using hlm)
      rw [show 0 + n * 1 + (i - n) = i by omega] at h
      rw [h]
      simp only [valsB, List.getElem_map]
      obtain ⟨_, rfl⟩ := List.getElem?_eq_some_iff.1 hb
      rfl
  · intro hr v' w' hown' hgrow
    have hBw : Below B w w' := (Below.refl B w).grown hgrow hB (fun k hk => by cases hk)
    rcases hown'.2 with ⟨_, h0⟩ | ⟨g', cap', cur', rfl, hb', hg', hn', hc', hs', htk⟩
    · omega
    · refine hK _ _ ⟨g', cap', cur', (0, 0), rfl, Nat.le_trans hB hb', hg', fun i _ k => by simp only at k; omega, hn', hc', by omega, by simp [hxl, hn], ?_⟩ hBw
      intro i b hb
      have h1 : (valsB xs ++ valsB news)[i]? = some (.int .u8 (b.toNat : Int)) := by
        rw [show valsB xs ++ valsB news = valsB (xs ++ news) by simp [valsB]]
        unfold valsB
        rw [List.getElem?_map, hb]
        rfl
      rw [← htk, List.getElem?_take] at h1
      split at h1
      · simpa using h1
      · cases h1

/-- A text turned to bytes: a row of one's own. -/
theorem conv_text (w : World) (s : ByteArray) (hs : s.size ≤ 140737488355328) :
    ∃ cap W, (convert 9 56 (.string s)).run Try.prog w = .ok (.slice (some ⟨w.heap.size, 0, none⟩) s.size cap) W ∧ OwnB w.heap.size (.slice (some ⟨w.heap.size, 0, none⟩) s.size cap) s.size s.data.toList W ∧ Below w.heap.size w W ∧
      ∀ (j : Nat) (b : UInt8), s.data.toList[j]? = some b → W.cell? ((⟨w.heap.size, 0, none⟩ : Addr).add j) = some (.int .u8 (b.toNat : Int)) := by
  have hsz : s.data.toList.length = s.size := by rw [Array.length_toList]; rfl
  have hcs : (Lib.bytesCells w 5 s).size = grownCap w s.size 0 5 := by
    have := grownCap_ge w s.size 0 5
    simp [Lib.bytesCells]
    have e : s.data.size = s.size := rfl
    omega
  have hget : ∀ (j : Nat) (b : UInt8), s.data.toList[j]? = some b → (Lib.bytesCells w 5 s)[j]? = some (.int .u8 (b.toNat : Int)) := by
    intro j b hb
    have hj : j < s.data.size := by
      have := (List.getElem?_eq_some_iff.1 hb).1
      simpa using this
    unfold Lib.bytesCells
    rw [Array.getElem?_append_left (by simpa using hj), Array.getElem?_map]
    rw [Array.getElem?_toList] at hb
    rw [hb]
    rfl
  refine ⟨_, _, Lib.run_convert_string_bytes w 9 56 5 s Try.underlying9 Try.underlying56 Try.underlying5, ?_, ?_, ?_⟩
  · refine ⟨w.heap.size, _, _, _, rfl, Nat.le_refl _, Lib.bytesWorld_at_new w 5 s, ?_, grownCap_ge _ _ _ _, grownCap_le_maxLen _ _ _ _ (by unfold maxLen; omega), hcs, hsz, hget⟩
    intro i hi k
    simp only at k
    omega
  · refine ⟨rfl, rfl, rfl, by rw [Lib.bytesWorld_size]; omega, fun k hk => Lib.bytesWorld_at_old w 5 s k hk⟩
  · intro j b hb
    have e : (⟨w.heap.size, 0, none⟩ : Addr).add j = ⟨w.heap.size, j, none⟩ := by
      unfold Addr.add
      split
      · rename_i h0
        subst h0
        rfl
      · simp
    rw [e, cell_of_row _ _ j _ _ _ (Lib.bytesWorld_at_new w 5 s)]
    exact hget j b hb

end Go.Proofs.Ytlalipomphgcoaa.Sha
