/- evolve: the next key's seeds do not hang on the one that is over: the law EvolveForgets. -/
import Derived.Test.YtpifjeghoapjbaaEvU
import Derived.Test.YtpifjeghoapjbaaEvQ
namespace Go.Proofs.Ytpifjeghoapjbaa.Evolve
open Go.RowKit Go.Proofs.Ytpifjeghoapjbaa.Sha Go.Proofs.Ytpifjeghoapjbaa.Tree Go.Proofs.Ytpifjeghoapjbaa.Once

theorem forgets_bits : ∀ (d : Fin 5) (p : Fin 16) (i j : Fin 4), lastG d.val p.val d.val = (j.val : Int) → j.val < d.val → i.val < d.val → p.val < 2 ^ d.val → p.val + 1 < 2 ^ d.val ∧ (i.val < j.val → rightAt d.val (p.val + 1) i.val = rightAt d.val p.val i.val) ∧ (j.val < i.val → rightAt d.val (p.val + 1) i.val = false) := by decide +kernel
theorem nextT_leaf (d p j : Nat) (l1 l2 : List UInt8) (R S : List (List UInt8)) : (nextT d p j l1 R S).1 = (nextT d p j l2 R S).1 ∧ (nextT d p j l1 R S).2.1 = (nextT d p j l2 R S).2.1 := by
  unfold nextT
  rw [firstT_app d (j + 1) (R.getD j []) _ (S.take j ++ [overE (digitsE d p) S (j + 1) d (pubK l1)]), firstT_app d (j + 1) (R.getD j []) _ (S.take j ++ [overE (digitsE d p) S (j + 1) d (pubK l2)])]
  exact ⟨rfl, rfl⟩
theorem nextT_len (d p j : Nat) (hj : j < d) (leaf : List UInt8) (R S : List (List UInt8)) (hR : R.length = d) (hS : S.length = d) (h32 : H32 R) : (nextT d p j leaf R S).1.length = 32 ∧ (nextT d p j leaf R S).2.1.length = d ∧ (nextT d p j leaf R S).2.2.length = d := by
  have hl : (R.getD j []).length = 32 := by
    obtain ⟨s, hs⟩ : ∃ s, R[j]? = some s := ⟨R[j]'(by omega), List.getElem?_eq_getElem _⟩
    rw [List.getD_eq_getElem?_getD, hs]
    exact h32 s (List.mem_of_getElem? hs)
  have h := firstT_len d (j + 1) (R.getD j []) (R.take j ++ [zeroL]) (S.take j ++ [overE (digitsE d p) S (j + 1) d (pubK leaf)]) hl (d - (j + 1))
  unfold nextT
  refine ⟨h.1, ?_, ?_⟩
  · rw [h.2.1, List.length_append, List.length_take]; simp; omega
  · rw [h.2.2, List.length_append, List.length_take]; simp; omega
theorem nextT_right (d p j : Nat) (hd : d ≤ 4) (hp : p < 2 ^ d) (hj : lastG d p d = (j : Int)) (hjd : j < d) (leaf : List UInt8) (R S : List (List UInt8)) (hR : R.length = d) (hm : ∀ i, i < d → rightAt d p i = true → R.getD i [] = zeroL) :
    p + 1 < 2 ^ d ∧ ∀ i, i < d → rightAt d (p + 1) i = true → (nextT d p j leaf R S).2.1.getD i [] = zeroL := by
  have hp16 : p < 16 := Nat.lt_of_lt_of_le hp (Nat.le_trans (Nat.pow_le_pow_right (by omega) hd) (by decide))
  have hb := fun i (hi : i < d) => forgets_bits ⟨d, by omega⟩ ⟨p, hp16⟩ ⟨i, by omega⟩ ⟨j, by omega⟩ hj hjd hi hp
  refine ⟨(hb j hjd).1, fun i hi hr => ?_⟩
  obtain ⟨_, h1, h2⟩ := hb i hi
  dsimp only at h1 h2
  have hne : ¬ j < i := fun h => by rw [h2 h] at hr; cases hr
  unfold nextT
  rw [firstT_app]
  dsimp only
  have hl : (R.take j ++ [zeroL]).length = j + 1 := by rw [List.length_append, List.length_take]; simp; omega
  rw [List.getD_eq_getElem?_getD, List.getElem?_append_left (by omega)]
  by_cases hij : i < j
  · rw [h1 hij] at hr
    have h := hm i hi hr
    rw [List.getElem?_append_left (by rw [List.length_take]; omega), List.getElem?_take_of_lt hij, ← List.getD_eq_getElem?_getD]
    exact h
  · obtain rfl : i = j := by omega
    rw [List.getElem?_append_right (by rw [List.length_take]; omega), List.length_take, Nat.min_eq_left (by omega), Nat.sub_self]
    rfl

set_option maxRecDepth 100000 in
set_option maxHeartbeats 1600000 in
theorem code_great (d p : Int) (leaf : List UInt8) (hl : leaf.length = 32) (ar as_ : Option Addr) (nr cr ns cs : Nat) (w : World) :
    Calls Try.prog 18 #[.agg (evRow d p leaf (.slice ar nr cr) (.slice as_ ns cs))] w fun e w' => e = .returned (.bool (decide (40 < nr) || decide (40 < ns))) ∧ Below w.heap.size w w' := by
  have hb : Below w.heap.size w (w.alloc (.cells (evRow d p leaf (.slice ar nr cr) (.slice as_ ns cs)) 26)) := (Below.refl _ _).alloc (Nat.le_refl _) _
  have hE := ev_new w d p leaf (.slice ar nr cr) (.slice as_ ns cs) hl
  have c34 := hE.c34
  have c35 := hE.c35
  obtain ⟨E, hEE⟩ : ∃ E, evRow d p leaf (.slice ar nr cr) (.slice as_ ns cs) = E := ⟨_, rfl⟩
  rw [hEE] at hb c34 c35
  rw [hEE]
  clear hE hEE
  by_cases h : 40 < nr
  · have u1 : decide (40 < nr) = true := by simp [h]
    have u2 : decide ((40 : Int) < (nr : Int)) = true := by simp; omega
    rw [u1, Bool.true_or]
    go_enter Try.func18, Try.ntmps18
    go_upto_region 1 with (fail)
    generalize w.alloc (.cells E 26) = W at hb c34 c35 ⊢
    go_wp2_with fail
    go_ret
    exact ⟨rfl, hb⟩
  · have u1 : decide (40 < nr) = false := by simp [h]
    have u2 : decide ((40 : Int) < (nr : Int)) = false := by simp; omega
    rw [u1, Bool.false_or]
    obtain ⟨b, hbb⟩ : ∃ b, decide (40 < ns) = b := ⟨_, rfl⟩
    have u3 : decide ((40 : Int) < (ns : Int)) = b := by rw [← hbb]; simp; omega
    rw [hbb]
    go_enter Try.func18, Try.ntmps18
    go_upto_region 1 with (fail)
    generalize w.alloc (.cells E 26) = W at hb c34 c35 ⊢
    go_wp2_with fail
    go_ret
    exact ⟨rfl, hb⟩

set_option maxRecDepth 100000 in
set_option maxHeartbeats 12800000 in
theorem forgets_err (er : Int) (her : er = 2 ∨ er = 4) (d p : Int) (leaf leaf2 : List UInt8) (hl : leaf.length = 32) (hl2 : leaf2.length = 32) (ar as_ : Option Addr) (nr cr ns cs : Nat) (hnr : nr ≤ 40) (hns : ns ≤ 40) (w : World)
    (hn1 : ∀ w', Below w.heap.size w w' → Calls Try.prog 11 #[.agg (evRow d p leaf (.slice ar nr cr) (.slice as_ ns cs))] w' fun e w'' => e = .returned (.tuple #[.agg ZEv, .int .i64 er]) ∧ Below w'.heap.size w' w'')
    (hn2 : ∀ w', Below w.heap.size w w' → Calls Try.prog 11 #[.agg (evRow d p leaf2 (.slice ar nr cr) (.slice as_ ns cs))] w' fun e w'' => e = .returned (.tuple #[.agg ZEv, .int .i64 er]) ∧ Below w'.heap.size w' w'') :
    Calls Try.prog 9 #[.agg (evRow d p leaf (.slice ar nr cr) (.slice as_ ns cs)), .agg (valsB leaf2).toArray] w fun e w' => e = .returned (.bool true) ∧ Below w.heap.size w w' := by
  have HWK := Lib.hid works_any
  have HGT := Lib.hid (fun w => code_great d p leaf hl ar as_ nr cr ns cs w)
  have HLEN := Lib.hid hl
  have HLEN2 := Lib.hid hl2
  have HRC2 := Lib.hid (row32 leaf2 hl2)
  have HEI := Lib.hid (ev_info d p leaf (.slice ar nr cr) (.slice as_ ns cs) hl)
  have HEI2 := Lib.hid (ev_info d p leaf2 (.slice ar nr cr) (.slice as_ ns cs) hl2)
  have HEO := Lib.hid (ev_one d p leaf ar as_ nr cr ns cs)
  have HEZ := Lib.hid (show ZEv.size = (evRow d p leaf (.slice ar nr cr) (.slice as_ ns cs)).size by rw [zev_size, evRow_size _ _ _ _ _ hl])
  rw [show (decide (40 < nr) || decide (40 < ns)) = false by simp; omega] at HGT
  obtain ⟨E, hE⟩ : ∃ E, evRow d p leaf (.slice ar nr cr) (.slice as_ ns cs) = E := ⟨_, rfl⟩
  obtain ⟨E2, hE2⟩ : ∃ E, evRow d p leaf2 (.slice ar nr cr) (.slice as_ ns cs) = E := ⟨_, rfl⟩
  obtain ⟨C2, hC2⟩ : ∃ C, (valsB leaf2).toArray = C := ⟨_, rfl⟩
  rw [hE] at HGT HEI HEO HEZ hn1
  rw [hE2] at HEI2 hn2
  rw [hC2] at HRC2
  rw [hE, hC2]
  have HEE := Lib.hid hE
  have HEE2 := Lib.hid hE2
  have HC2 := Lib.hid hC2
  clear hE hE2 hC2 hl hl2
  have HN1 := Lib.hid hn1
  have HN2 := Lib.hid hn2
  have HZV := Lib.hid (fun w g h => (⟨rfl, h⟩ : EvAt w g 0 0 zeroL (.slice none 0 0) (.slice none 0 0)))
  have HIZ := Lib.hid (info_len zeroL rfl)
  have HE := fun w => eqIn_hash zeroL zeroL rfl rfl w
  obtain ⟨CZ, hCZ⟩ : ∃ C, (valsB zeroL).toArray = C := ⟨_, rfl⟩
  rw [hCZ, show (zeroL == zeroL) = true by simp] at HE
  have HCZ := Lib.hid hCZ
  clear hn1 hn2 hCZ
  rcases her with rfl | rfl
  · go_enter Try.func9, Try.ntmps9
    go_upto_region 1 with (fail)
    have HA0 := Lib.hid (heap_alloc2_old w (.cells E 26) (.cells C2 23))
    have HA1 := Lib.hid (heap_alloc2_new w (.cells E 26) (.cells C2 23))
    have HBW := Lib.hid (show Below w.heap.size w ((w.alloc (.cells E 26)).alloc (.cells C2 23)) from ((Below.refl _ _).alloc (Nat.le_refl _) _).alloc (by simp) _)
    have hs0 : ((w.alloc (.cells E 26)).alloc (.cells C2 23)).heap.size = w.heap.size + 2 := by simp
    generalize ((w.alloc (.cells E 26)).alloc (.cells C2 23)) = W at HA0 HA1 HBW hs0 ⊢
    obtain ⟨g2, hg2⟩ : ∃ x, w.heap.size = x := ⟨_, rfl⟩
    obtain ⟨g3, hg3⟩ : ∃ x, g2 + 1 = x := ⟨_, rfl⟩
    rw [hg2] at HA0 HA1 HBW hs0
    rw [hg3] at HA1
    rw [hg2, hg3]
    have HGE := Lib.hid hg2
    have HLT := Lib.hid (show g2 < g3 ∧ g3 < W.heap.size by omega)
    clear hg2 hg3 hs0
    go_wp2_with (refine wpList_load_row rfl 26 (.tmp 2) rfl g2 rfl 26 E (0, 0) _ HA0.out Try.underlying26 rfl HEI.out ?_)
    refine (HGT.out _).mono ?_
    rintro e w3 ⟨rfl, hb3⟩
    have H23 := Lib.hid ((hb3.block _ (Nat.lt_trans HLT.out.1 HLT.out.2)).trans HA0.out)
    have H33 := Lib.hid ((hb3.block _ HLT.out.2).trans HA1.out)
    have HB3 := Lib.hid (HBW.out.trans (hb3.mono (by have := HLT.out; omega)))
    have HL3 := Lib.hid (show g2 < g3 ∧ g3 < w3.heap.size by have := HLT.out; have := hb3.size; omega)
    clear hb3
    go_wp2_with (refine wpList_load_row rfl 26 (.tmp 2) rfl g2 rfl 26 E (0, 0) _ H23.out Try.underlying26 rfl HEI.out ?_)
    refine (HN1.out _ (HGE.out ▸ HB3.out)).mono ?_
    rintro e w4 ⟨rfl, hb4⟩
    have H24 := Lib.hid ((hb4.block _ (Nat.lt_trans HL3.out.1 HL3.out.2)).trans H23.out)
    have H34 := Lib.hid ((hb4.block _ HL3.out.2).trans H33.out)
    have HB4 := Lib.hid (HB3.out.trans (hb4.mono (by have := HL3.out; omega)))
    have HL4 := Lib.hid (show g2 < g3 ∧ g3 < w4.heap.size by have := HL3.out; have := hb4.size; omega)
    clear hb4
    go_upto_region 4 with (refine wpList_store_row rfl 26 (.tmp 5) (.tmp 18) rfl w4.heap.size ZEv rfl rfl 26 ZEv (heap_alloc_new _ _) zev_info rfl zev_one ?_; rw [World.setRow_alloc_new])
    have hb5 : Below w4.heap.size w4 (w4.alloc (.cells ZEv 26)) := (Below.refl _ _).alloc (Nat.le_refl _) _
    have h55 := heap_alloc_new w4 (.cells ZEv 26)
    have hs5 : (w4.alloc (.cells ZEv 26)).heap.size = w4.heap.size + 1 := by simp
    generalize w4.alloc (.cells ZEv 26) = w5 at hb5 h55 hs5 ⊢
    obtain ⟨g5, hg5⟩ : ∃ x, w4.heap.size = x := ⟨_, rfl⟩
    have hb5' := hb5
    rw [hg5] at h55 hs5
    rw [hg5]
    have HB45 := Lib.hid hb5'
    have HG5 := Lib.hid hg5
    have H55 := Lib.hid h55
    have H25 := Lib.hid ((hb5.block _ (Nat.lt_trans HL4.out.1 HL4.out.2)).trans H24.out)
    have H35 := Lib.hid ((hb5.block _ HL4.out.2).trans H34.out)
    have HB5 := Lib.hid (HB4.out.trans (hb5.mono (by have := HL4.out; omega)))
    have HL5 := Lib.hid (show g2 < g3 ∧ g3 < g5 ∧ g5 < w5.heap.size by have := HL4.out; omega)
    clear hb5 hb5' h55 hs5 hg5
    go_upto_region 5 with (first
      | (refine wpList_load_row rfl 26 (.tmp 2) rfl g2 rfl 26 E (0, 0) _ H25.out Try.underlying26 rfl HEI.out ?_)
      | (refine wpList_store_row rfl 26 (.tmp 7) (.tmp 20) rfl w5.heap.size E rfl rfl 26 ZEv (heap_alloc_new _ _) HEI.out HEZ.out HEO.out ?_; rw [World.setRow_alloc_new]))
    have hb6 : Below w5.heap.size w5 (w5.alloc (.cells E 26)) := (Below.refl _ _).alloc (Nat.le_refl _) _
    have h77 := heap_alloc_new w5 (.cells E 26)
    have hs6 : (w5.alloc (.cells E 26)).heap.size = w5.heap.size + 1 := by simp
    generalize w5.alloc (.cells E 26) = w6 at hb6 h77 hs6 ⊢
    obtain ⟨g7, hg7⟩ : ∃ x, w5.heap.size = x := ⟨_, rfl⟩
    have HB56 := Lib.hid hb6
    rw [hg7] at h77 hs6
    rw [hg7]
    have H26 := Lib.hid ((hb6.block _ (by have := HL5.out; omega)).trans H25.out)
    have H36 := Lib.hid ((hb6.block _ (by have := HL5.out; omega)).trans H35.out)
    have H56 := Lib.hid ((hb6.block _ HL5.out.2.2).trans H55.out)
    have HB6 := Lib.hid (HB5.out.trans (hb6.mono (by have := HL5.out; omega)))
    have HL6 := Lib.hid (show g2 < g3 ∧ g3 < g5 ∧ g5 < g7 ∧ g7 < w6.heap.size by have := HL5.out; omega)
    have h77e : w6.heap[g7]? = some (.cells (evRow d p leaf (.slice ar nr cr) (.slice as_ ns cs)) 26 (0, 0)) := by rw [HEE.out]; exact h77
    have HTH := Lib.hid (show w6.there g7 2 C2.size from fun j hj => by
      have hz1 := HRC2.out.size
      have hz2 := evRow_size d p leaf (.slice ar nr cr) (.slice as_ ns cs) HLEN.out
      refine ⟨?_, Lib.frozen_of_heap h77e _⟩
      rw [Lib.cell_of_heap h77e, Array.getElem?_eq_getElem (by omega)]
      rfl)
    have HSC := Lib.hid (show w6.setCells g7 2 C2.toList = w6.setRow g7 E2 by
      rw [← HC2.out, ← HEE2.out]
      exact setCells_row g7 26 (0, 0) (valsB leaf2) (valsB leaf) [.int .i64 d, .int .i64 p] [.slice ar nr cr, .slice as_ ns cs] w6 (by simp [valsB, HLEN.out, HLEN2.out]) h77e)
    have H7 := Lib.hid (setRow_heap w6 g7 _ E2 _ _ h77e)
    have H2s := Lib.hid (show (w6.setRow g7 E2).heap[g2]? = some (.cells E 26 (0, 0)) by rw [setRow_other _ _ _ _ (by have := HL6.out; omega)]; exact H26.out)
    have H5s := Lib.hid (show (w6.setRow g7 E2).heap[g5]? = some (.cells ZEv 26 (0, 0)) by rw [setRow_other _ _ _ _ (by have := HL6.out; omega)]; exact H56.out)
    have HBs := Lib.hid (below_setRow HB6.out (show g2 ≤ g7 by have := HL6.out; omega) E2)
    have HLs := Lib.hid (show g2 < g5 ∧ g5 < g7 ∧ g7 < (w6.setRow g7 E2).heap.size by have := HL6.out; rw [setRow_size]; omega)
    clear hb6 h77 hs6 hg7 h77e
    go_upto_region 6 with (first
      | (refine wpList_load_row rfl 23 (.tmp 3) rfl g3 rfl 23 C2 (0, 0) _ H36.out Try.underlying23 rfl HRC2.out.info ?_)
      | (refine wpList_store_mid rfl 23 (.tmp 22) (.tmp 21) rfl g7 2 C2 rfl rfl HTH.out HRC2.out.info HRC2.out.one ?_; rw [HSC.out]))
    generalize w6.setRow g7 E2 = w7 at H7 H2s H5s HBs HLs ⊢
    go_wp2_with (refine wpList_load_row rfl 26 (.tmp 7) rfl g7 rfl 26 E2 (0, 0) _ H7.out Try.underlying26 rfl HEI2.out ?_)
    refine (HN2.out _ (HGE.out ▸ HBs.out)).mono ?_
    rintro e w8 ⟨rfl, hb8⟩
    have H28 := Lib.hid ((hb8.block _ (by have := HLs.out; omega)).trans H2s.out)
    have H58 := Lib.hid ((hb8.block _ (by have := HLs.out; omega)).trans H5s.out)
    have HB8 := Lib.hid (HBs.out.trans (hb8.mono (by have := HLs.out; omega)))
    have HL8 := Lib.hid (show g2 < g5 ∧ g5 < w8.heap.size by have := HLs.out; have := hb8.size; omega)
    clear hb8
    go_upto_region 7 with (refine wpList_store_row rfl 26 (.tmp 8) (.tmp 26) rfl w8.heap.size ZEv rfl rfl 26 ZEv (heap_alloc_new _ _) zev_info rfl zev_one ?_; rw [World.setRow_alloc_new])
    have hb9 : Below w8.heap.size w8 (w8.alloc (.cells ZEv 26)) := (Below.refl _ _).alloc (Nat.le_refl _) _
    have H89 := Lib.hid (heap_alloc_new w8 (.cells ZEv 26))
    have H29 := Lib.hid ((hb9.block _ (by have := HL8.out; omega)).trans H28.out)
    have H59 := Lib.hid ((hb9.block _ HL8.out.2).trans H58.out)
    have HB9 := Lib.hid (HB8.out.trans (hb9.mono (by have := HL8.out; omega)))
    clear hb9
    generalize w8.alloc (.cells ZEv 26) = w9 at H89 H29 H59 HB9 ⊢
    obtain ⟨g8, hg8⟩ : ∃ x, w8.heap.size = x := ⟨_, rfl⟩
    rw [hg8] at H89
    rw [hg8]
    clear hg8
    have hA := HZV.out _ _ H59.out
    have hB := HZV.out _ _ H89.out
    have a0' := hA.c0
    have a1' := hA.c1
    have a34 := hA.c34
    have b1' := hB.c1
    have b34 := hB.c34
    have HLA := Lib.hid hA.lf
    have HLB := Lib.hid hB.lf
    clear hA hB
    go_wp2_with (first
      | (refine wpList_load_mid_g rfl 23 (.tmp 32) rfl g5 2 (by simp [Act.eval]) (valsB zeroL) _ HLA.out Try.underlying23 rfl HIZ.out ?_; rw [HCZ.out])
      | (refine wpList_load_mid_g rfl 23 (.tmp 34) rfl g8 2 (by simp [Act.eval]) (valsB zeroL) _ HLB.out Try.underlying23 rfl HIZ.out ?_; rw [HCZ.out]))
    go_loopw [65] (fun iv wr => iv = .int .i64 0 ∧ wr = w9) (fun _ _ => 0)
    case atStart => exact ⟨rfl, rfl⟩
    case round =>
      obtain ⟨rfl, rfl⟩ := hrel
      go_wp2_with fail
      refine (HWK.out _).mono ?_
      rintro e w10 ⟨rfl, hb10⟩
      have HBF := Lib.hid (HB9.out.trans (hb10.mono (by have := HB9.out.size; have := HGE.out; omega)))
      clear hb10 a0' a1' a34 b1' b34
      go_wp2_with fail
      go_ret
      exact ⟨rfl, HGE.out ▸ HBF.out⟩
  · go_enter Try.func9, Try.ntmps9
    go_upto_region 1 with (fail)
    have HA0 := Lib.hid (heap_alloc2_old w (.cells E 26) (.cells C2 23))
    have HA1 := Lib.hid (heap_alloc2_new w (.cells E 26) (.cells C2 23))
    have HBW := Lib.hid (show Below w.heap.size w ((w.alloc (.cells E 26)).alloc (.cells C2 23)) from ((Below.refl _ _).alloc (Nat.le_refl _) _).alloc (by simp) _)
    have hs0 : ((w.alloc (.cells E 26)).alloc (.cells C2 23)).heap.size = w.heap.size + 2 := by simp
    generalize ((w.alloc (.cells E 26)).alloc (.cells C2 23)) = W at HA0 HA1 HBW hs0 ⊢
    obtain ⟨g2, hg2⟩ : ∃ x, w.heap.size = x := ⟨_, rfl⟩
    obtain ⟨g3, hg3⟩ : ∃ x, g2 + 1 = x := ⟨_, rfl⟩
    rw [hg2] at HA0 HA1 HBW hs0
    rw [hg3] at HA1
    rw [hg2, hg3]
    have HGE := Lib.hid hg2
    have HLT := Lib.hid (show g2 < g3 ∧ g3 < W.heap.size by omega)
    clear hg2 hg3 hs0
    go_wp2_with (refine wpList_load_row rfl 26 (.tmp 2) rfl g2 rfl 26 E (0, 0) _ HA0.out Try.underlying26 rfl HEI.out ?_)
    refine (HGT.out _).mono ?_
    rintro e w3 ⟨rfl, hb3⟩
    have H23 := Lib.hid ((hb3.block _ (Nat.lt_trans HLT.out.1 HLT.out.2)).trans HA0.out)
    have H33 := Lib.hid ((hb3.block _ HLT.out.2).trans HA1.out)
    have HB3 := Lib.hid (HBW.out.trans (hb3.mono (by have := HLT.out; omega)))
    have HL3 := Lib.hid (show g2 < g3 ∧ g3 < w3.heap.size by have := HLT.out; have := hb3.size; omega)
    clear hb3
    go_wp2_with (refine wpList_load_row rfl 26 (.tmp 2) rfl g2 rfl 26 E (0, 0) _ H23.out Try.underlying26 rfl HEI.out ?_)
    refine (HN1.out _ (HGE.out ▸ HB3.out)).mono ?_
    rintro e w4 ⟨rfl, hb4⟩
    have H24 := Lib.hid ((hb4.block _ (Nat.lt_trans HL3.out.1 HL3.out.2)).trans H23.out)
    have H34 := Lib.hid ((hb4.block _ HL3.out.2).trans H33.out)
    have HB4 := Lib.hid (HB3.out.trans (hb4.mono (by have := HL3.out; omega)))
    have HL4 := Lib.hid (show g2 < g3 ∧ g3 < w4.heap.size by have := HL3.out; have := hb4.size; omega)
    clear hb4
    go_upto_region 4 with (refine wpList_store_row rfl 26 (.tmp 5) (.tmp 18) rfl w4.heap.size ZEv rfl rfl 26 ZEv (heap_alloc_new _ _) zev_info rfl zev_one ?_; rw [World.setRow_alloc_new])
    have hb5 : Below w4.heap.size w4 (w4.alloc (.cells ZEv 26)) := (Below.refl _ _).alloc (Nat.le_refl _) _
    have h55 := heap_alloc_new w4 (.cells ZEv 26)
    have hs5 : (w4.alloc (.cells ZEv 26)).heap.size = w4.heap.size + 1 := by simp
    generalize w4.alloc (.cells ZEv 26) = w5 at hb5 h55 hs5 ⊢
    obtain ⟨g5, hg5⟩ : ∃ x, w4.heap.size = x := ⟨_, rfl⟩
    have hb5' := hb5
    rw [hg5] at h55 hs5
    rw [hg5]
    have HB45 := Lib.hid hb5'
    have HG5 := Lib.hid hg5
    have H55 := Lib.hid h55
    have H25 := Lib.hid ((hb5.block _ (Nat.lt_trans HL4.out.1 HL4.out.2)).trans H24.out)
    have H35 := Lib.hid ((hb5.block _ HL4.out.2).trans H34.out)
    have HB5 := Lib.hid (HB4.out.trans (hb5.mono (by have := HL4.out; omega)))
    have HL5 := Lib.hid (show g2 < g3 ∧ g3 < g5 ∧ g5 < w5.heap.size by have := HL4.out; omega)
    clear hb5 hb5' h55 hs5 hg5
    go_upto_region 5 with (first
      | (refine wpList_load_row rfl 26 (.tmp 2) rfl g2 rfl 26 E (0, 0) _ H25.out Try.underlying26 rfl HEI.out ?_)
      | (refine wpList_store_row rfl 26 (.tmp 7) (.tmp 20) rfl w5.heap.size E rfl rfl 26 ZEv (heap_alloc_new _ _) HEI.out HEZ.out HEO.out ?_; rw [World.setRow_alloc_new]))
    have hb6 : Below w5.heap.size w5 (w5.alloc (.cells E 26)) := (Below.refl _ _).alloc (Nat.le_refl _) _
    have h77 := heap_alloc_new w5 (.cells E 26)
    have hs6 : (w5.alloc (.cells E 26)).heap.size = w5.heap.size + 1 := by simp
    generalize w5.alloc (.cells E 26) = w6 at hb6 h77 hs6 ⊢
    obtain ⟨g7, hg7⟩ : ∃ x, w5.heap.size = x := ⟨_, rfl⟩
    have HB56 := Lib.hid hb6
    rw [hg7] at h77 hs6
    rw [hg7]
    have H26 := Lib.hid ((hb6.block _ (by have := HL5.out; omega)).trans H25.out)
    have H36 := Lib.hid ((hb6.block _ (by have := HL5.out; omega)).trans H35.out)
    have H56 := Lib.hid ((hb6.block _ HL5.out.2.2).trans H55.out)
    have HB6 := Lib.hid (HB5.out.trans (hb6.mono (by have := HL5.out; omega)))
    have HL6 := Lib.hid (show g2 < g3 ∧ g3 < g5 ∧ g5 < g7 ∧ g7 < w6.heap.size by have := HL5.out; omega)
    have h77e : w6.heap[g7]? = some (.cells (evRow d p leaf (.slice ar nr cr) (.slice as_ ns cs)) 26 (0, 0)) := by rw [HEE.out]; exact h77
    have HTH := Lib.hid (show w6.there g7 2 C2.size from fun j hj => by
      have hz1 := HRC2.out.size
      have hz2 := evRow_size d p leaf (.slice ar nr cr) (.slice as_ ns cs) HLEN.out
      refine ⟨?_, Lib.frozen_of_heap h77e _⟩
      rw [Lib.cell_of_heap h77e, Array.getElem?_eq_getElem (by omega)]
      rfl)
    have HSC := Lib.hid (show w6.setCells g7 2 C2.toList = w6.setRow g7 E2 by
      rw [← HC2.out, ← HEE2.out]
      exact setCells_row g7 26 (0, 0) (valsB leaf2) (valsB leaf) [.int .i64 d, .int .i64 p] [.slice ar nr cr, .slice as_ ns cs] w6 (by simp [valsB, HLEN.out, HLEN2.out]) h77e)
    have H7 := Lib.hid (setRow_heap w6 g7 _ E2 _ _ h77e)
    have H2s := Lib.hid (show (w6.setRow g7 E2).heap[g2]? = some (.cells E 26 (0, 0)) by rw [setRow_other _ _ _ _ (by have := HL6.out; omega)]; exact H26.out)
    have H5s := Lib.hid (show (w6.setRow g7 E2).heap[g5]? = some (.cells ZEv 26 (0, 0)) by rw [setRow_other _ _ _ _ (by have := HL6.out; omega)]; exact H56.out)
    have HBs := Lib.hid (below_setRow HB6.out (show g2 ≤ g7 by have := HL6.out; omega) E2)
    have HLs := Lib.hid (show g2 < g5 ∧ g5 < g7 ∧ g7 < (w6.setRow g7 E2).heap.size by have := HL6.out; rw [setRow_size]; omega)
    clear hb6 h77 hs6 hg7 h77e
    go_upto_region 6 with (first
      | (refine wpList_load_row rfl 23 (.tmp 3) rfl g3 rfl 23 C2 (0, 0) _ H36.out Try.underlying23 rfl HRC2.out.info ?_)
      | (refine wpList_store_mid rfl 23 (.tmp 22) (.tmp 21) rfl g7 2 C2 rfl rfl HTH.out HRC2.out.info HRC2.out.one ?_; rw [HSC.out]))
    generalize w6.setRow g7 E2 = w7 at H7 H2s H5s HBs HLs ⊢
    go_wp2_with (refine wpList_load_row rfl 26 (.tmp 7) rfl g7 rfl 26 E2 (0, 0) _ H7.out Try.underlying26 rfl HEI2.out ?_)
    refine (HN2.out _ (HGE.out ▸ HBs.out)).mono ?_
    rintro e w8 ⟨rfl, hb8⟩
    have H28 := Lib.hid ((hb8.block _ (by have := HLs.out; omega)).trans H2s.out)
    have H58 := Lib.hid ((hb8.block _ (by have := HLs.out; omega)).trans H5s.out)
    have HB8 := Lib.hid (HBs.out.trans (hb8.mono (by have := HLs.out; omega)))
    have HL8 := Lib.hid (show g2 < g5 ∧ g5 < w8.heap.size by have := HLs.out; have := hb8.size; omega)
    clear hb8
    go_upto_region 7 with (refine wpList_store_row rfl 26 (.tmp 8) (.tmp 26) rfl w8.heap.size ZEv rfl rfl 26 ZEv (heap_alloc_new _ _) zev_info rfl zev_one ?_; rw [World.setRow_alloc_new])
    have hb9 : Below w8.heap.size w8 (w8.alloc (.cells ZEv 26)) := (Below.refl _ _).alloc (Nat.le_refl _) _
    have H89 := Lib.hid (heap_alloc_new w8 (.cells ZEv 26))
    have H29 := Lib.hid ((hb9.block _ (by have := HL8.out; omega)).trans H28.out)
    have H59 := Lib.hid ((hb9.block _ HL8.out.2).trans H58.out)
    have HB9 := Lib.hid (HB8.out.trans (hb9.mono (by have := HL8.out; omega)))
    clear hb9
    generalize w8.alloc (.cells ZEv 26) = w9 at H89 H29 H59 HB9 ⊢
    obtain ⟨g8, hg8⟩ : ∃ x, w8.heap.size = x := ⟨_, rfl⟩
    rw [hg8] at H89
    rw [hg8]
    clear hg8
    have hA := HZV.out _ _ H59.out
    have hB := HZV.out _ _ H89.out
    have a0' := hA.c0
    have a1' := hA.c1
    have a34 := hA.c34
    have b1' := hB.c1
    have b34 := hB.c34
    have HLA := Lib.hid hA.lf
    have HLB := Lib.hid hB.lf
    clear hA hB
    go_wp2_with (first
      | (refine wpList_load_mid_g rfl 23 (.tmp 32) rfl g5 2 (by simp [Act.eval]) (valsB zeroL) _ HLA.out Try.underlying23 rfl HIZ.out ?_; rw [HCZ.out])
      | (refine wpList_load_mid_g rfl 23 (.tmp 34) rfl g8 2 (by simp [Act.eval]) (valsB zeroL) _ HLB.out Try.underlying23 rfl HIZ.out ?_; rw [HCZ.out]))
    go_loopw [65] (fun iv wr => iv = .int .i64 0 ∧ wr = w9) (fun _ _ => 0)
    case atStart => exact ⟨rfl, rfl⟩
    case round =>
      obtain ⟨rfl, rfl⟩ := hrel
      go_wp2_with fail
      refine (HWK.out _).mono ?_
      rintro e w10 ⟨rfl, hb10⟩
      have HBF := Lib.hid (HB9.out.trans (hb10.mono (by have := HB9.out.size; have := HGE.out; omega)))
      clear hb10 a0' a1' a34 b1' b34
      go_wp2_with fail
      go_ret
      exact ⟨rfl, HGE.out ▸ HBF.out⟩

end Go.Proofs.Ytpifjeghoapjbaa.Evolve
