/- The tree: rows of hashes in memory; leaves. -/
import Derived.Test.YtlalipomphgcoaaTrA
import Derived.Deep.OwnRows
import Derived.Deep.MidRow
import Derived.BigQuiet
namespace Go.Proofs.Ytlalipomphgcoaa.Tree
open Go.RowKit Go.Proofs.Ytlalipomphgcoaa.Sha

def H32 (L : List (List UInt8)) : Prop := ∀ h ∈ L, h.length = 32

/-- A slice that reads as these hashes. -/
def Hashes (w : World) (v : Value) (L : List (List UInt8)) : Prop :=
  (∃ a cap, v = .slice a 0 cap ∧ L = []) ∨ ∃ g o cap, v = .slice (some ⟨g, o, none⟩) L.length cap ∧ 0 < L.length ∧ ∀ (i : Nat) (h : List UInt8), L[i]? = some h → w.rangeAt g (o + i * 32) (valsB h)

theorem range_kept {w w' : World} {g o : Nat} {cs : List Value} (hb : Below w.heap.size w w') (h : w.rangeAt g o cs) : w'.rangeAt g o cs := fun j v hv => by
  have hc := h j v hv
  rw [hb.cell (World.block_lt_of_cell? _ _ hc)]
  exact hc
theorem Hashes.kept {w w' : World} {v : Value} {L : List (List UInt8)} (h : Hashes w v L) (hb : Below w.heap.size w w') : Hashes w' v L := by
  rcases h with h | ⟨g, o, cap, hv, h0, hc⟩
  · exact Or.inl h
  · exact Or.inr ⟨g, o, cap, hv, h0, fun i h hi => range_kept hb (hc i h hi)⟩

/-- A row of one's own, with room for n hashes; from the first on it holds these. -/
structure RowOf (w : World) (g n : Nat) (M : List (List UInt8)) : Prop where
  len : H32 M
  row : ∃ C, w.heap[g]? = some (.cells C 23 (0, 0)) ∧ C.size = n * 32
  at_ : ∀ (i : Nat) (h : List UInt8), M[i]? = some h → w.rangeAt g (i * 32) (valsB h)

theorem RowOf.kept {w w' : World} {g n : Nat} {M : List (List UInt8)} (h : RowOf w g n M) (hb : Below w.heap.size w w') : RowOf w' g n M := by
  obtain ⟨hM, ⟨C, hg, hs⟩, hc⟩ := h
  exact ⟨hM, ⟨C, (hb.block g (Array.getElem?_eq_some_iff.1 hg).1).trans hg, hs⟩, fun i h hi => range_kept hb (hc i h hi)⟩
theorem RowOf.lt {w : World} {g n : Nat} {M : List (List UInt8)} (h : RowOf w g n M) : g < w.heap.size := by
  obtain ⟨_, ⟨C, hg, _⟩, _⟩ := h
  exact (Array.getElem?_eq_some_iff.1 hg).1
theorem there_row {w : World} {g n : Nat} {C : Array Value} {t : TypeId} (hg : w.heap[g]? = some (.cells C t (0, 0))) (hs : C.size = n * 32) (i : Nat) (hi : i < n) : w.there g (i * 32) 32 := by
  intro j hj
  refine ⟨?_, frozen_of_row w g _ _ _ hg⟩
  rw [cell_of_row w g _ _ _ _ hg, Array.getElem?_eq_getElem (by omega)]
  rfl
theorem valsB_len (h : List UInt8) : (valsB h).length = h.length := by simp [valsB]
theorem RowOf.there {w : World} {g n : Nat} {M : List (List UInt8)} (h : RowOf w g n M) (i : Nat) (hi : i < n) : w.there g (i * 32) 32 := by
  obtain ⟨_, ⟨C, hg, hs⟩, _⟩ := h
  exact there_row hg hs i hi
theorem RowOf.store {w : World} {g n : Nat} {M : List (List UInt8)} (h : RowOf w g n M) (i : Nat) (hi : i < n) (x : List UInt8) (hx : x.length = 32) (hM : i = M.length) : RowOf (w.setCells g (i * 32) (valsB x)) g n (M ++ [x]) := by
  have ht := h.there i hi
  obtain ⟨h32, ⟨C, hg, hs⟩, hc⟩ := h
  obtain ⟨C', hg', hs'⟩ := setCells_heap g 23 (0, 0) (valsB x) (i * 32) w C hg
  refine ⟨?_, ⟨C', hg', by rw [hs', hs]⟩, fun k y hy => ?_⟩
  · intro y hy
    rcases List.mem_append.1 hy with h | h
    · exact h32 y h
    · simp at h; subst h; exact hx
  by_cases hk : k < M.length
  · rw [List.getElem?_append_left hk] at hy
    refine World.rangeAt_setCells_apart (hc k y hy) g (i * 32) (valsB x) (Or.inr (Or.inl ?_))
    rw [valsB_len, h32 y (List.mem_of_getElem? hy)]
    omega
  · have hk2 : k = M.length := by
      have := (List.getElem?_eq_some_iff.1 hy).1
      simp at this
      omega
    subst hk2
    rw [List.getElem?_append_right (Nat.le_refl _), Nat.sub_self] at hy
    simp at hy
    subst hy
    subst hM
    exact World.rangeAt_setCells_same w g _ (valsB x) (by rw [valsB_len, hx]; exact ht)
theorem RowOf.hashes {w : World} {g n cap : Nat} {M : List (List UInt8)} (h : RowOf w g n M) : Hashes w (.slice (some ⟨g, 0, none⟩) M.length cap) M := by
  by_cases h0 : M.length = 0
  · exact Or.inl ⟨_, _, by rw [h0], List.eq_nil_of_length_eq_zero h0⟩
  · exact Or.inr ⟨g, 0, cap, rfl, by omega, fun i x hx => by rw [Nat.zero_add]; exact h.at_ i x hx⟩

theorem info_row : ∃ i, Try.prog.info? 23 = some i ∧ i.zero = some (.agg (List.replicate 32 (Value.int .u8 0)).toArray) ∧ i.size = 32 ∧ i.bytes = 32 := by
  have h : (Try.prog.info? 23).map (fun i => (i.zero, i.size, i.bytes)) = some (some (.agg (List.replicate 32 (Value.int .u8 0)).toArray), 32, 32) := by kernel_rfl
  obtain ⟨i, hi, hz⟩ := Option.map_eq_some_iff.1 h
  simp only [Prod.mk.injEq] at hz
  exact ⟨i, hi, hz.1, hz.2.1, hz.2.2⟩

theorem desc_hash : ∃ d, Try.prog.underlying 23 = some d ∧ d.isRow = true := ⟨_, Try.underlying23, rfl⟩

/-- make([]Hash, n). -/
theorem run_make_hashes (n : Nat) (hn : n ≤ 1099511627776) (w : World) :
    ∃ C : Array Value, C.size = n * 32 ∧ (Instr.makeSlice 28 (.int .i64 (n : Int)) (.int .i64 (n : Int))).run Try.prog w = .ok (.slice (some ⟨w.heap.size, 0, none⟩) n n) (w.alloc (.cells C 23)) := by
  obtain ⟨i, hi, hz, hs, hb⟩ := info_row
  have h := run_make (P := Try.prog) w 28 23 i _ Try.underlying28 hi hz .i64 .i64 (n : Int) (n : Int) (by omega) (Int.le_refl _) (by rw [hb]; omega) (by omega)
  rw [hs, Int.toNat_natCast] at h
  exact ⟨_, size_madeCells _ _, h⟩

set_option maxRecDepth 100000 in
set_option maxHeartbeats 1600000 in
theorem code_leaves (v : Value) (L : List (List UInt8)) (w : World) (hv : Hashes w v L) (h32 : H32 L) (hn : L.length ≤ 1099511627776) :
    Calls Try.prog 39 #[v] w fun e w' => ∃ g, e = .returned (.slice (some ⟨g, 0, none⟩) L.length L.length) ∧ w.heap.size ≤ g ∧ RowOf w' g L.length (L.map leafF) ∧ Below w.heap.size w w' := by
  obtain ⟨a, n, cap, hv', hn', hcells⟩ : ∃ a n cap, v = .slice a n cap ∧ L.length = n ∧ ∀ (i : Nat) (s : List UInt8), L[i]? = some s → ∃ g o, a = some ⟨g, o, none⟩ ∧ w.rangeAt g (o + i * 32) (valsB s) := by
    rcases hv with ⟨a, cap, rfl, rfl⟩ | ⟨g, o, cap, rfl, _, hc⟩
    · exact ⟨a, 0, cap, rfl, rfl, fun i s h => by simp at h⟩
    · exact ⟨_, _, cap, rfl, rfl, fun i s h => ⟨g, o, rfl, hc i s h⟩⟩
  subst hv'
  rw [hn'] at hn
  obtain ⟨M0, hM0, hmk⟩ := run_make_hashes n hn w
  have HMS := Lib.hid hM0
  have HN := Lib.hid hn'
  have HC := Lib.hid hcells
  have H3 := Lib.hid h32
  clear hv hcells h32 hM0
  rw [hn']
  clear hn'
  go_enter Try.func39, Try.ntmps39
  go_wp2_with fail
  have hB0 : Below w.heap.size w (w.alloc (.cells M0 23)) := (Below.refl _ _).alloc (Nat.le_refl _) _
  have hR0 : RowOf (w.alloc (.cells M0 23)) w.heap.size n [] := ⟨by intro h hh; simp at hh, ⟨M0, heap_alloc_new _ _, HMS.out⟩, fun i h hi => by simp at hi⟩
  clear hmk
  go_loopw [11] (fun i wr => ∃ k : Nat, k ≤ n ∧ i = .int .i64 k ∧ RowOf wr w.heap.size n ((L.take k).map leafF) ∧ Below w.heap.size w wr) (fun i _ => n - (intOf i).toNat)
  case atStart => exact ⟨0, by omega, rfl, hR0, hB0⟩
  case round =>
    clear hB0 hR0
    obtain ⟨k, hk, rfl, hrow, hbel⟩ := hrel
    have HROW := Lib.hid hrow
    have HBEL := Lib.hid hbel
    clear hrow hbel
    by_cases hlt : k < n
    · obtain ⟨h, hh⟩ : ∃ h, L[k]? = some h := ⟨L[k]'(by rw [HN.out]; exact hlt), List.getElem?_eq_getElem _⟩
      obtain ⟨g, o, rfl, hrg⟩ := HC.out k h hh
      have hl := H3.out h (List.mem_of_getElem? hh)
      have HTK := Lib.hid (show (L.take (k + 1)).map leafF = (L.take k).map leafF ++ [leafF h] by rw [List.take_add_one, hh]; simp)
      have hlen : ((L.take k).map leafF).length = k := by rw [List.length_map, List.length_take, HN.out]; omega
      have HL := Lib.hid hlen
      have hgw : g < w.heap.size := by
        have h0 : (valsB h)[0]? = some ((valsB h)[0]'(by rw [valsB_len, hl]; omega)) := List.getElem?_eq_getElem _
        exact World.block_lt_of_cell? _ _ (hrg 0 _ h0)
      have HRG := Lib.hid (range_kept (HBEL.out.mono (by exact Nat.le_refl _)) hrg)
      have HLF := Lib.hid (fun w => code_leaf h hl w)
      have HR32 := Lib.hid (row32 h hl)
      have HRL := Lib.hid (row32 (leafF h) rfl)
      obtain ⟨C, hC⟩ : ∃ C, (valsB h).toArray = C := ⟨_, rfl⟩
      rw [hC] at HLF HR32
      have HCC := Lib.hid hC
      have H32C := Lib.hid (show 32 = C.size from HR32.out.size.symm)
      have HIL := Lib.hid (show (Try.prog.info? 23).map (·.size) = some (valsB h).length by rw [valsB_len, hl]; exact info_hash)
      obtain ⟨D, hD⟩ : ∃ D, (valsB (leafF h)).toArray = D := ⟨_, rfl⟩
      rw [hD] at HLF HRL
      have HDD := Lib.hid hD
      have hk0 : (0 : Int) ≤ (k : Int) := by omega
      have hkn : (k : Int) < (n : Int) := by omega
      clear hh hrg hC hD hlen
      go_wp2_with (first | (refine wpList_load_mid rfl 23 (.tmp 14) rfl g (o + k * 32) rfl (valsB h) _ HRG.out Try.underlying23 rfl HIL.out ?_; rw [HCC.out]) | (refine wpList_store_row rfl 23 (.tmp 5) (.tmp 15) rfl wr.heap.size C rfl rfl 23 _ (heap_alloc_new _ _) HR32.out.info H32C.out HR32.out.one ?_; rw [World.setRow_alloc_new]) | (refine wpList_load_row rfl 23 (.tmp 5) rfl wr.heap.size rfl 23 C (0, 0) _ (heap_alloc_new _ _) Try.underlying23 rfl HR32.out.info ?_))
      refine (HLF.out _).mono ?_
      rintro e w3 ⟨rfl, hb3⟩
      have hb : Below wr.heap.size wr w3 := ((Below.refl _ _).alloc (Nat.le_refl _) _).trans (hb3.mono (by simp))
      have HROW3 := Lib.hid (HROW.out.kept hb)
      have HB3 := Lib.hid (HBEL.out.trans (hb.mono HBEL.out.size))
      have HTH := Lib.hid (show w3.there w.heap.size (k * 32) D.size by rw [HRL.out.size]; exact HROW3.out.there k hlt)
      clear hb hb3
      go_wp2_with (refine wpList_store_mid rfl 23 (.tmp 20) (.tmp 19) rfl w.heap.size (k * 32) D rfl rfl HTH.out HRL.out.info HRL.out.one ?_)
      go_roundw
      case rel =>
        refine ⟨k + 1, by omega, by go_num, ?_, ?_⟩
        · rw [HTK.out, ← HDD.out]
          exact HROW3.out.store k hlt (leafF h) rfl HL.out.symm
        · exact below_setCells' (Nat.le_refl _) _ _ _ HB3.out
      case measure => simp [intOf]; omega
    · obtain rfl : n = k := by omega
      go_wp2_with fail
      go_ret
      refine ⟨_, rfl, Nat.le_refl _, ?_, HBEL.out⟩
      have h := HROW.out
      rw [List.take_of_length_le (Nat.le_of_eq HN.out)] at h
      exact h
end Go.Proofs.Ytlalipomphgcoaa.Tree
