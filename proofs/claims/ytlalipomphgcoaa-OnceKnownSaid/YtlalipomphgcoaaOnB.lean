/- strings.Builder: WriteString leaves a block as it is that is neither the builder nor its bytes. -/
import Derived.Test.YtlalipomphgcoaaShaOf
import Derived.Deep.Heap
namespace Go.Proofs.Ytlalipomphgcoaa.Bld
open Go.RowKit Go.Proofs.Ytlalipomphgcoaa.Sha

/-- The builder's bytes don't stand in the block k. -/
def Apart (b k : Nat) (w : World) : Prop := ∀ p v fr, w.heap[b]? = some (.cells #[p, v] 58 fr) → v.ownBlock ≠ some k
theorem apart_new {B b : Nat} {bs : List Value} {w w' : World} {k : Nat} (h : Lib.IsBuilder 58 5 B b bs w) (hk : w.heap.size ≤ k) (hw : w'.heap[b]? = w.heap[b]?) : Apart b k w' := by
  have one : ∀ q, Lib.BuilderAt 58 5 B b q bs w → Apart b k w' := by
    intro q hq p v fr hv e
    obtain ⟨_, u, hbk, hown, _⟩ := hq
    rw [hw, hbk] at hv
    cases hv
    have := (hown.lt k e).2
    omega
  rcases h with h | h
  · exact one _ h
  · exact one _ h

theorem check_keep (B b : Nat) (bs : List Value) (w : World) (h : Lib.IsBuilder 58 5 B b bs w) (k : Nat) (hkb : k ≠ b) (hap : Apart b k w) :
    Calls Try.prog 65 #[.pointer (some ⟨b, 0, none⟩)] w fun e w' => e = .returned (.tuple #[]) ∧ (Lib.BuilderAt 58 5 B b (.pointer (some ⟨b, 0, none⟩)) bs w' ∧ Below B w w') ∧ w'.heap[k]? = w.heap[k]? ∧ Apart b k w' := by
  rcases h with h | h
  · refine (check_fresh b w h.cell0 h.shape h.frozen0).mono ?_
    rintro e w' ⟨rfl, rfl⟩
    refine ⟨rfl, ⟨h.used _, (Below.refl B w).setCell (p := ⟨b, 0, none⟩) h.1 _⟩, Deep.blk_setCell_other _ _ _ _ hkb, ?_⟩
    obtain ⟨_, v, hbk, hown, _⟩ := h
    intro p u fr hu
    rw [setCell_eq_setRow _ _ _ _ _ _ _ hbk, setRow_heap _ _ _ _ _ _ hbk] at hu
    simp at hu
    obtain ⟨⟨_, rfl⟩, _⟩ := hu
    exact hap _ _ _ hbk
  · refine (check_used b w h.cell0).mono ?_
    rintro e w' ⟨rfl, rfl⟩
    exact ⟨rfl, ⟨h, Below.refl B _⟩, rfl, hap⟩

set_option maxRecDepth 100000 in
set_option maxHeartbeats 2000000 in
theorem write_keep (B b : Nat) (bs : List Value) (s : ByteArray) (w : World) (h : Lib.IsBuilder 58 5 B b bs w) (hlen : bs.length + s.size ≤ 140737488355328) (hBw : B ≤ w.heap.size) (k : Nat) (hk : k < w.heap.size) (hkb : k ≠ b) (hap : Apart b k w) :
    Calls Try.prog 35 #[.pointer (some ⟨b, 0, none⟩), .string s] w fun e w' => e = .returned (.tuple #[.int .i64 s.size, .nilIface]) ∧ (Lib.BuilderAt 58 5 B b (.pointer (some ⟨b, 0, none⟩)) (bs ++ Lib.strCells s) w' ∧ Below B w w') ∧ w'.heap[k]? = w.heap[k]? := by
  obtain ⟨i0, hi, hz0, hz1, hz2⟩ := info_parts info8
  go_enter Try.func35, Try.ntmps35
  go_wp2_with (go_at_call 65; refine (check_keep B b bs _ h k hkb hap).mono ?_)
  rintro e w1 ⟨rfl, ⟨h1, hb1⟩, hk1, hap1⟩
  obtain ⟨hB, v, hbk, hown, hne⟩ := h1
  have hvk := hap1 _ _ _ hbk
  have c0 : w1.cell? ⟨b, 0, none⟩ = some (.pointer (some ⟨b, 0, none⟩)) := by rw [Lib.cell_of_heap hbk]; rfl
  have c1 : w1.cell? ⟨b, 1, none⟩ = some v := by rw [Lib.cell_of_heap hbk]; rfl
  go_wp2_with (at_builtin; refine Lib.wpList_append_own_string _ rfl _ _ 56 9 rfl B 5 i0 Try.underlying56 Try.underlying9 hi hz0 hz1 hz2 _ _ _ rfl hown s rfl ?c3 ?c4 ?c5 ?_)
  case c3 => unfold maxLen; omega
  case c4 => omega
  case c5 => have := hb1.size; omega
  intro v' w2 hown' hgrow _
  have hlt : b < w1.heap.size := by
    rcases Nat.lt_or_ge b w1.heap.size with h' | h'
    · exact h'
    · simp [Array.getElem?_eq_none h'] at hbk
  have hb2 : w2.heap[b]? = some (.cells #[.pointer (some ⟨b, 0, none⟩), v] 58 (0, 0)) := by
    rw [hgrow.block b hlt (fun e => hne e.symm)]
    exact hbk
  have hk2 : w2.heap[k]? = w.heap[k]? := by
    rw [hgrow.block k (by have := hb1.size; omega) (fun e => hvk e.symm)]
    exact hk1
  have d0 : w2.cell? ⟨b, 0, none⟩ = some (.pointer (some ⟨b, 0, none⟩)) := by rw [Lib.cell_of_heap hb2]; rfl
  have d1 : w2.cell? ⟨b, 1, none⟩ = some v := by rw [Lib.cell_of_heap hb2]; rfl
  have f1 : w2.frozen? ⟨b, 1, none⟩ = false := Lib.frozen_of_heap hb2 1
  obtain ⟨ao, n', cap, rfl⟩ : ∃ ao n' cap, v' = .slice ao n' cap := by
    rcases hown'.2 with ⟨hv, _⟩ | ⟨g, cap, cur, hv, _⟩
    · exact ⟨_, _, _, hv⟩
    · exact ⟨_, _, _, hv⟩
  clear hk1 hvk hap hap1
  have HK2 := Lib.hid hk2
  clear hk2
  go_wp2
  go_ret2
  refine ⟨rfl, ⟨?_, ?_⟩, (Deep.blk_setCell_other _ _ _ _ hkb).trans HK2.out⟩
  · exact Lib.BuilderAt.put (T := 58) (e := 5) hB hb2 (bs' := bs ++ Lib.strCells s) (by simpa [Lib.strCells_length] using hown') (by decide)
  · exact (hb1.grown hgrow (by have := hb1.size; omega) (fun k hk => (hown.lt k hk).1)).setCell (p := ⟨b, 1, none⟩) hB _

end Go.Proofs.Ytlalipomphgcoaa.Bld
