/- disk: rows of bytes: made of a text, cut, grown by bytes 0, written over, made a text again. -/
import Derived.Test.YtepcfmigkhacgaaDoorG6
import Derived.Lib.ConvBytes
import Derived.Lib.AppendZerosOnto
import Derived.Laws.IdiomCopy
import Derived.ArgAppend
namespace Go.Proofs.YtepcfmigkhacgaaDoor.Dk
open Go.RowKit Go.Proofs.YtepcfmigkhacgaaDoor.Gr

def bv (xs : List UInt8) : List Value := xs.map fun b => .int .u8 (b.toNat : Int)
theorem bv_len (xs : List UInt8) : (bv xs).length = xs.length := by simp [bv]
theorem bv_app (xs ys : List UInt8) : bv (xs ++ ys) = bv xs ++ bv ys := by simp [bv]
theorem bv_one (xs : List UInt8) : ∀ u ∈ bv xs, u.oneCell' = true := fun u hu => by
  obtain ⟨b, _, rfl⟩ := List.mem_map.1 hu
  rfl
/-- A row of bytes, of which no cell is frozen. -/
def BAt (w : World) (v : Value) (xs : List UInt8) : Prop :=
  ∃ g cap cur fz, v = .slice (some ⟨g, 0, none⟩) xs.length cap ∧ w.heap[g]? = some (.cells cur 5 fz) ∧ (∀ i, i < cur.size → ¬ (fz.1 ≤ i ∧ i < fz.2)) ∧ xs.length ≤ cap ∧ cap ≤ maxLen ∧ cur.size = cap ∧ w.rangeAt g 0 (bv xs)

theorem frozen_in {w : World} {g i : Nat} {cur : Array Value} {t : TypeId} {fz : Nat × Nat} (hg : w.heap[g]? = some (.cells cur t fz)) (h : ¬ (fz.1 ≤ i ∧ i < fz.2)) : w.frozen? ⟨g, i, none⟩ = false := by
  obtain ⟨lo, hi⟩ := fz
  unfold World.frozen?
  rw [hg]
  simp only at h ⊢
  rw [Bool.eq_false_iff]
  intro k
  simp at k
  exact h k
theorem BAt.frm {F : Nat → Prop} {w w' : World} {v : Value} {xs : List UInt8} (h : BAt w v xs) (hf : Frm F w w') (hv : ∀ k, v.ownBlock = some k → ¬ F k) : BAt w' v xs := by
  obtain ⟨g, cap, cur, fz, rfl, hg, hz, h1, h2, h3, hr⟩ := h
  have e := hf.block g (Array.getElem?_eq_some_iff.1 hg).1 (hv g rfl)
  refine ⟨g, cap, cur, fz, rfl, e.trans hg, hz, h1, h2, h3, fun j u hj => ?_⟩
  rw [World.cell?_of_block (a := ⟨g, 0 + j, none⟩) e]
  exact hr j u hj
theorem BAt.lt {w : World} {v : Value} {xs : List UInt8} (h : BAt w v xs) (k : Nat) (hk : v.ownBlock = some k) : k < w.heap.size := by
  obtain ⟨g, cap, cur, fz, rfl, hg, _⟩ := h
  simp [Value.ownBlock] at hk
  subst hk
  exact (Array.getElem?_eq_some_iff.1 hg).1
theorem BAt.type {w : World} {v : Value} {xs : List UInt8} (h : BAt w v xs) (k : Nat) (hk : v.ownBlock = some k) : ∃ cur fz, w.heap[k]? = some (.cells cur 5 fz) := by
  obtain ⟨g, cap, cur, fz, rfl, hg, _⟩ := h
  simp [Value.ownBlock] at hk
  subst hk
  exact ⟨cur, fz, hg⟩
theorem BAt.take {w : World} {v : Value} {xs : List UInt8} (h : BAt w v xs) (k : Nat) (hk : k ≤ xs.length) : ∃ a n c, v = .slice a n c ∧ n = xs.length ∧ n ≤ c ∧ BAt w (.slice a k c) (xs.take k) := by
  obtain ⟨g, cap, cur, fz, rfl, hg, hz, h1, h2, h3, hr⟩ := h
  refine ⟨_, _, _, rfl, rfl, h1, g, cap, cur, fz, ?_, hg, hz, ?_, h2, h3, fun j u hj => ?_⟩
  · rw [List.length_take, Nat.min_eq_left hk]
  · rw [List.length_take]; omega
  · refine hr j u ?_
    unfold bv at hj ⊢
    rw [List.map_take] at hj
    rw [List.getElem?_take] at hj
    split at hj
    · exact hj
    · cases hj
/-- Some bytes of a row are written over. -/
theorem BAt.put {w : World} {g n cap : Nat} {xs : List UInt8} (h : BAt w (.slice (some ⟨g, 0, none⟩) n cap) xs) (o : Nat) (vs : List UInt8) (ho : o + vs.length ≤ n) :
    w.there g o vs.length ∧ BAt (w.setCells g o (bv vs)) (.slice (some ⟨g, 0, none⟩) n cap) (xs.take o ++ vs ++ xs.drop (o + vs.length)) := by
  obtain ⟨g', cap', cur, fz, hv, hg, hz, h1, h2, h3, hr⟩ := h
  simp only [Value.slice.injEq, Option.some.injEq, Addr.mk.injEq] at hv
  obtain ⟨⟨rfl, _⟩, hn, rfl⟩ := hv
  have hth : w.there g o vs.length := fun j hj => ⟨by
    rw [Lib.cell_of_heap hg, Array.getElem?_eq_getElem (by omega)]
    rfl, frozen_in hg (hz _ (by omega))⟩
  obtain ⟨cur', hg', hs'⟩ := setCells_heap g _ _ (bv vs) o w cur hg
  have hlen : (xs.take o ++ vs ++ xs.drop (o + vs.length)).length = n := by simp; omega
  refine ⟨hth, g, cap, cur', fz, by rw [hlen], hg', by rw [hs']; exact hz, by omega, h2, by rw [hs', h3], fun j u hj => ?_⟩
  rw [Nat.zero_add]
  rcases Nat.lt_or_ge j o with hjo | hjo
  · rw [World.cell?_setCells_out g _ _ _ _ (fun _ _ => Or.inl hjo)]
    have hj2 : (bv xs)[j]? = some u := by
      rw [bv_app, bv_app, List.append_assoc, List.getElem?_append_left (by rw [bv_len, List.length_take]; omega)] at hj
      unfold bv at hj ⊢
      rw [List.map_take, List.getElem?_take, if_pos hjo] at hj
      exact hj
    have := hr j u hj2
    rwa [Nat.zero_add] at this
  · rcases Nat.lt_or_ge j (o + vs.length) with hjv | hjv
    · have e := World.cell?_setCells_in g (bv vs) o w (fun t ht => (hth t (by rw [← bv_len vs]; exact ht)).1) (j - o) (by rw [bv_len]; omega)
      rw [show o + (j - o) = j by omega] at e
      rw [e]
      have hlt : (xs.take o).length = o := by rw [List.length_take]; omega
      rw [bv_app, bv_app, List.append_assoc, List.getElem?_append_right (by rw [bv_len]; omega), bv_len, hlt, List.getElem?_append_left (by rw [bv_len]; omega)] at hj
      rw [← hj, List.getElem?_eq_getElem (by rw [bv_len]; omega)]
    · rw [World.cell?_setCells_out g _ _ _ _ (fun _ _ => Or.inr (by rw [bv_len]; exact hjv))]
      have hj2 : (bv xs)[j]? = some u := by
        rw [bv_app, bv_app, List.getElem?_append_right (by rw [List.length_append, bv_len, bv_len, List.length_take]; omega), List.length_append, bv_len, bv_len, List.length_take] at hj
        unfold bv at hj ⊢
        rw [List.map_drop, List.getElem?_drop] at hj
        rw [← hj]
        congr 1
        omega
      have := hr j u hj2
      rwa [Nat.zero_add] at this
theorem BAt.range {w : World} {g n cap : Nat} {xs : List UInt8} (h : BAt w (.slice (some ⟨g, 0, none⟩) n cap) xs) : ∀ j u, (bv xs)[j]? = some u → w.cell? ((⟨g, 0, none⟩ : Addr).add j) = some u := fun j u hj => by
  obtain ⟨g', cap', cur, fz, hv, hg, hz, h1, h2, h3, hr⟩ := h
  simp only [Value.slice.injEq, Option.some.injEq, Addr.mk.injEq] at hv
  obtain ⟨⟨rfl, _⟩, hn, rfl⟩ := hv
  rw [Addr.add_mid]
  exact hr j u hj

theorem byte_info : (Tryd.prog.info? 5).map (fun i => (i.zero, i.size, i.bytes)) = some (some (.int .u8 0), 1, 1) := by kernel_rfl
theorem zeros_list (k : Nat) : (Builtin.zeroCells (Value.int .u8 0).cells k).toList = bv (List.replicate k 0) := by
  simp only [Builtin.zeroCells, Value.cells, bv]
  apply List.ext_getElem
  · simp
  · intro i h1 h2
    simp [Nat.mod_one]
/-- append of so many bytes 0. -/
theorem BAt.zeros {w : World} {v : Value} {xs : List UInt8} (h : BAt w v xs) (ty : TypeId) (k : Nat) (h0 : 0 < k) (hk : xs.length + k ≤ 1099511627776) :
    ∃ v' w', (Builtin.append_ #[81, 3] ty #[v, .int .i64 k]).run Tryd.prog w = .ok v' w' ∧ BAt w' v' (xs ++ List.replicate k 0) ∧ Frm (fun i => v.ownBlock = some i) w w' ∧ ∀ i, v'.ownBlock = some i → v.ownBlock = some i ∨ w.heap.size ≤ i := by
  obtain ⟨i0, hi, hz0, hz1, hz2⟩ := info_parts byte_info
  obtain ⟨g, cap, cur, fz, rfl, hg, hz, h1, h2, h3, hr⟩ := h
  by_cases hroom : xs.length + k ≤ cap
  · have hth : w.there g xs.length k := fun j hj => ⟨by
      rw [Lib.cell_of_heap hg, Array.getElem?_eq_getElem (by omega)]
      rfl, frozen_in hg (hz _ (by omega))⟩
    have hst := run_storeCells_cells (P := Tryd.prog) g xs.length (bv (List.replicate k 0)) 0 w (fun j hj => (hth j (by simpa [bv_len] using hj)).1) (fun j hj => (hth j (by simpa [bv_len] using hj)).2) (bv_one _)
    simp only [Nat.add_zero] at hst
    have hw : IntKind.i64.wrap (k : Int) = k := by rw [wrap_in _ (by omega) (by omega)]
    have hneg : ¬ ((k : Int) < 0) := by omega
    have h48i : ¬ (281474976710656 < (k : Int)) := by omega
    have hk0 : ¬ k = 0 := by omega
    have hzl := zeros_list k
    obtain ⟨cur', hg', hs'⟩ := setCells_heap g _ _ (bv (List.replicate k 0)) xs.length w cur hg
    refine ⟨.slice (some ⟨g, 0, none⟩) (xs.length + k) cap, w.setCells g xs.length (bv (List.replicate k 0)), ?_, ?_, Frm.setCells (F := fun i => (Value.slice (some ⟨g, 0, none⟩) xs.length cap).ownBlock = some i) (a := w) (g := g) (Or.inl rfl) (bv (List.replicate k 0)) xs.length w (Frm.refl _ _), fun i hi => Or.inl hi⟩
    · simp [Builtin.append_, run_underlying Tryd.underlying81, run_underlying Tryd.underlying3, sizeOf, typeInfo, zeroValue, hi, hz0, hz1, hz2, asInt, asIntOf, hw, hneg, h48i, hk0, hroom, Addr.add_mid, hzl, hst]
    · have hb : BAt w (.slice (some ⟨g, 0, none⟩) xs.length cap) xs := ⟨g, cap, cur, fz, rfl, hg, hz, h1, h2, h3, hr⟩
      refine ⟨g, cap, cur', fz, by simp, hg', by rw [hs']; exact hz, by simpa using hroom, h2, by rw [hs', h3], fun j u hj => ?_⟩
      rw [Nat.zero_add]
      rw [bv_app] at hj
      rcases Nat.lt_or_ge j xs.length with hjo | hjo
      · rw [World.cell?_setCells_out g _ _ _ _ (fun _ _ => Or.inl hjo)]
        rw [List.getElem?_append_left (by rw [bv_len]; exact hjo)] at hj
        have := hr j u hj
        rwa [Nat.zero_add] at this
      · rw [List.getElem?_append_right (by rw [bv_len]; exact hjo), bv_len] at hj
        have hlt := (List.getElem?_eq_some_iff.1 hj).1
        have e := World.cell?_setCells_in g (bv (List.replicate k 0)) xs.length w (fun t ht => (hth t (by simpa [bv_len] using ht)).1) (j - xs.length) hlt
        rw [show xs.length + (j - xs.length) = j by omega] at e
        rw [e, ← hj, List.getElem?_eq_getElem hlt]
  · have hold : (Builtin.firstCells i0.size xs.length (.slice (some ⟨g, 0, none⟩) xs.length cap)).run Tryd.prog w.drew = .ok (bv xs).toArray w.drew := by
      rw [hz1]
      exact run_firstCells_some (P := Tryd.prog) w.drew 1 xs.length ⟨g, 0, none⟩ xs.length cap (bv xs) (by rw [bv_len, Nat.mul_one]) (fun j u hj => by
        rw [Addr.add_mid]
        exact hr j u hj)
    have hrun := Lib.run_append_grow_zeros (P := Tryd.prog) w 81 3 ty 5 i0 (.int .u8 0) .i64 .i64 Tryd.underlying81 Tryd.underlying3 hi hz0 (some ⟨g, 0, none⟩) xs.length cap (bv xs) hold k h0 (by rw [hz1]; decide) (by omega) (by omega) (by rw [hz2]; omega) (growslice_fits (by omega) (by rw [hz2]; omega))
    have hge := grownCap_ge w (xs.length + k) cap 5
    have hcm := grownCap_le_maxLen w (xs.length + k) cap 5 (by unfold maxLen; omega)
    refine ⟨_, _, hrun, ?_, ?_, ?_⟩
    · refine ⟨w.heap.size, _, _, (0, 0), by rw [List.length_append, List.length_replicate], heap_alloc_new w.drew _, fun i _ hc => by simp only at hc; omega, by rw [List.length_append, List.length_replicate]; exact hge, hcm, ?_, fun j u hj => ?_⟩
      · simp [Builtin.zeroCells, Value.cells, bv_len]
        omega
      · have hg2 : (w.drew.alloc (.cells ((bv xs).toArray ++ Builtin.zeroCells (Value.int .u8 0).cells k ++ Builtin.zeroCells (Value.int .u8 0).cells (grownCap w (xs.length + k) cap 5 - (xs.length + k))) 5)).heap[w.heap.size]? = _ := heap_alloc_new w.drew _
        rw [Nat.zero_add, Lib.cell_of_heap hg2, ← Array.getElem?_toList]
        rw [Array.toList_append, Array.toList_append, zeros_list k, List.toList_toArray, ← bv_app, List.getElem?_append_left (by rw [bv_len]; have := (List.getElem?_eq_some_iff.1 hj).1; rwa [bv_len] at this)]
        exact hj
    · exact ⟨rfl, rfl, rfl, by simp, fun i hi _ => by
        show (w.drew.alloc _).heap[i]? = _
        rw [heap_alloc_old _ _ (show i < w.drew.heap.size from hi)]
        rfl⟩
    · intro i hi
      simp [Value.ownBlock] at hi
      exact Or.inr (by omega)
/-- A text made a row of bytes. -/
theorem conv_text (w : World) (s : ByteArray) (hs : s.size ≤ 140737488355328) :
    ∃ v W, (convert 9 81 (.string s)).run Tryd.prog w = .ok v W ∧ BAt W v s.data.toList ∧ Below w.heap.size w W ∧ ∀ i, v.ownBlock = some i → w.heap.size ≤ i := by
  have hsz : s.data.toList.length = s.size := by rw [Array.length_toList]; rfl
  have hcs : (Lib.bytesCells w 5 s).size = grownCap w s.size 0 5 := by
    have := grownCap_ge w s.size 0 5
    simp [Lib.bytesCells]
    have e : s.data.size = s.size := rfl
    omega
  refine ⟨_, _, Lib.run_convert_string_bytes w 9 81 5 s Tryd.underlying9 Tryd.underlying81 Tryd.underlying5, ?_, ?_, ?_⟩
  · refine ⟨w.heap.size, _, _, _, by rw [hsz], Lib.bytesWorld_at_new w 5 s, ?_, by rw [hsz]; exact grownCap_ge _ _ _ _, grownCap_le_maxLen _ _ _ _ (by unfold maxLen; omega), hcs, fun j u hj => ?_⟩
    · intro i hi k
      simp only at k
      omega
    · rw [Nat.zero_add, Lib.cell_of_heap (Lib.bytesWorld_at_new w 5 s)]
      unfold bv at hj
      rw [List.getElem?_map] at hj
      obtain ⟨b, hb, rfl⟩ := Option.map_eq_some_iff.1 hj
      have hjl : j < s.data.size := by
        have := (List.getElem?_eq_some_iff.1 hb).1
        simpa using this
      unfold Lib.bytesCells
      rw [Array.getElem?_append_left (by simpa using hjl), Array.getElem?_map]
      rw [Array.getElem?_toList] at hb
      rw [hb]
      rfl
  · exact ⟨rfl, rfl, rfl, by rw [Lib.bytesWorld_size]; omega, fun k hk => Lib.bytesWorld_at_old w 5 s k hk⟩
  · intro i hi
    simp [Value.ownBlock] at hi
    omega
/-- A row of bytes made a text. -/
theorem BAt.text {w : World} {v : Value} {xs : List UInt8} (h : BAt w v xs) : (convert 81 9 v).run Tryd.prog w = .ok (.string ⟨xs.toArray⟩) w := by
  obtain ⟨g, cap, cur, fz, rfl, hg, hz, h1, h2, h3, hr⟩ := h
  refine run_convert_bytes_back w 81 9 5 ⟨g, 0, none⟩ cap xs Tryd.underlying81 Tryd.underlying5 Tryd.underlying9 fun j hj => ?_
  rw [Addr.add_mid]
  refine hr j _ ?_
  simp [bv, List.getElem?_eq_getElem hj]
end Go.Proofs.YtepcfmigkhacgaaDoor.Dk
