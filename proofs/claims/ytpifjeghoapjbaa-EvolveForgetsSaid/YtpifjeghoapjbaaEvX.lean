/- evolve: the next key's seeds do not hang on the one that is over: both next keys there. -/
import Derived.Test.YtpifjeghoapjbaaEvW
import Derived.Test.YtpifjeghoapjbaaEvV
namespace Go.Proofs.Ytpifjeghoapjbaa.Evolve
open Go.RowKit Go.Proofs.Ytpifjeghoapjbaa.Sha Go.Proofs.Ytpifjeghoapjbaa.Tree Go.Proofs.Ytpifjeghoapjbaa.Once

set_option maxRecDepth 100000 in
set_option maxHeartbeats 12800000 in
attribute [local irreducible] Go.wpQuiet in
theorem forgets_ok (d p : Nat) (leaf leaf2 : List UInt8) (hl : leaf.length = 32) (hl2 : leaf2.length = 32) (ar as_ : Option Addr) (nr cr ns cs : Nat) (hnr : nr ≤ 40) (hns : ns ≤ 40) (w : World) (hd4 : d ≤ 4) (hd0 : 0 < d) (hp16 : p + 1 < 16) (T : List UInt8) (hT : T.length = 32) (R' : List (List UInt8)) (hRl : R'.length = d) (h32 : H32 R') (hri : ∀ i, i < d → rightAt d (p + 1) i = true → R'.getD i [] = zeroL) (S1 S2 : List (List UInt8))
    (hn1 : ∀ w', Below w.heap.size w w' → Calls Try.prog 11 #[.agg (evRow d p leaf (.slice ar nr cr) (.slice as_ ns cs))] w' fun e w'' => ∃ a b, e = .returned (.tuple #[.agg (evRow d ((p + 1 : Nat) : Int) T (.slice a d d) (.slice b d d)), .int .i64 0]) ∧ Hashes w'' (.slice a d d) R' ∧ Hashes w'' (.slice b d d) S1 ∧ Below w'.heap.size w' w'')
    (hn2 : ∀ w', Below w.heap.size w w' → Calls Try.prog 11 #[.agg (evRow d p leaf2 (.slice ar nr cr) (.slice as_ ns cs))] w' fun e w'' => ∃ a b, e = .returned (.tuple #[.agg (evRow d ((p + 1 : Nat) : Int) T (.slice a d d) (.slice b d d)), .int .i64 0]) ∧ Hashes w'' (.slice a d d) R' ∧ Hashes w'' (.slice b d d) S2 ∧ Below w'.heap.size w' w'') :
    Calls Try.prog 9 #[.agg (evRow d p leaf (.slice ar nr cr) (.slice as_ ns cs)), .agg (valsB leaf2).toArray] w fun e w' => e = .returned (.bool true) ∧ Below w.heap.size w w' := by
  have HEV := Lib.hid (fun w g h => (⟨hl, h⟩ : EvAt w g d p leaf (.slice ar nr cr) (.slice as_ ns cs)))
  have HWK := Lib.hid works_any
  have HGT := Lib.hid (fun w => code_great d p leaf hl ar as_ nr cr ns cs w)
  have HLEN := Lib.hid hl
  have HLEN2 := Lib.hid hl2
  have HRC2 := Lib.hid (row32 leaf2 hl2)
  have HEI := Lib.hid (ev_info d p leaf (.slice ar nr cr) (.slice as_ ns cs) hl)
  have HEI2 := Lib.hid (ev_info d p leaf2 (.slice ar nr cr) (.slice as_ ns cs) hl2)
  have HEO := Lib.hid (ev_one d p leaf ar as_ nr cr ns cs)
  have HEZ := Lib.hid (show ZEv.size = (evRow d p leaf (.slice ar nr cr) (.slice as_ ns cs)).size by rw [zev_size, evRow_size _ _ _ _ _ hl])
  rw [show (decide (40 < nr) || decide (40 < ns)) = false by simp; omega] at HGT
  obtain ⟨E, hE⟩ : ∃ E, evRow d p leaf (.slice ar nr cr) (.slice as_ ns cs) = E := ⟨_, rfl⟩
  obtain ⟨E2, hE2⟩ : ∃ E, evRow d p leaf2 (.slice ar nr cr) (.slice as_ ns cs) = E := ⟨_, rfl⟩
  obtain ⟨C2, hC2⟩ : ∃ C, (valsB leaf2).toArray = C := ⟨_, rfl⟩
  rw [hE] at HGT HEI HEO HEZ hn1 HEV
  rw [hE2] at HEI2 hn2
  rw [hC2] at HRC2
  rw [hE, hC2]
  have HEE := Lib.hid hE
  have HEE2 := Lib.hid hE2
  have HC2 := Lib.hid hC2
  clear hE hE2 hC2 hl hl2
  have HN1 := Lib.hid hn1
  have HN2 := Lib.hid hn2
  obtain ⟨p1, hp1⟩ : ∃ x, p + 1 = x := ⟨_, rfl⟩
  rw [hp1] at HN1 HN2 hp16 hri
  have hpi : (p : Int) + 1 = (p1 : Int) := by omega
  have HTL := Lib.hid hT
  have HRL := Lib.hid hRl
  have HR32 := Lib.hid h32
  have HRI := Lib.hid hri
  have HIT := Lib.hid (info_len T hT)
  have HET := fun w => eqIn_hash T T hT hT w
  obtain ⟨CT, hCT⟩ : ∃ C, (valsB T).toArray = C := ⟨_, rfl⟩
  rw [hCT, show (T == T) = true by simp] at HET
  have HCT := Lib.hid hCT
  clear hn1 hn2 hCT hp1 hT hRl h32 hri
  go_enter Try.func9, Try.ntmps9
  go_upto_region 1 with (fail)
  have HA0 := Lib.hid (heap_alloc2_old w (.cells E 26) (.cells C2 23))
  have HA1 := Lib.hid (heap_alloc2_new w (.cells E 26) (.cells C2 23))
  have HBW := Lib.hid (show Below w.heap.size w ((w.alloc (.cells E 26)).alloc (.cells C2 23)) from ((Below.refl _ _).alloc (Nat.le_refl _) _).alloc (by simp) _)
  have hs0 : ((w.alloc (.cells E 26)).alloc (.cells C2 23)).heap.size = w.heap.size + 2 := by simp
  generalize ((w.alloc (.cells E 26)).alloc (.cells C2 23)) = W at HA0 HA1 HBW hs0 ⊢
  obtain ⟨g2, hg2⟩ : ∃ x, w.heap.size = x := ⟨_, rfl⟩
  obtain ⟨g3, hg3⟩ : ∃ x, g2 + 1 = x := ⟨_, rfl⟩
  rw [hg2] at HA0 HA1 HBW hs0
  rw [hg3] at HA1
  rw [hg2, hg3]
  have HGE := Lib.hid hg2
  have HLT := Lib.hid (show g2 < g3 ∧ g3 < W.heap.size by omega)
  clear hg2 hg3 hs0
  go_wp2_with (refine wpList_load_row rfl 26 (.tmp 2) rfl g2 rfl 26 E (0, 0) _ HA0.out Try.underlying26 rfl HEI.out ?_)
  refine (HGT.out _).mono ?_
  rintro e w3 ⟨rfl, hb3⟩
  have H23 := Lib.hid ((hb3.block _ (Nat.lt_trans HLT.out.1 HLT.out.2)).trans HA0.out)
  have H33 := Lib.hid ((hb3.block _ HLT.out.2).trans HA1.out)
  have HB3 := Lib.hid (HBW.out.trans (hb3.mono (by have := HLT.out; omega)))
  have HL3 := Lib.hid (show g2 < g3 ∧ g3 < w3.heap.size by have := HLT.out; have := hb3.size; omega)
  clear hb3
  go_wp2_with (refine wpList_load_row rfl 26 (.tmp 2) rfl g2 rfl 26 E (0, 0) _ H23.out Try.underlying26 rfl HEI.out ?_)
  refine (HN1.out _ (HGE.out ▸ HB3.out)).mono ?_
  rintro e w4 ⟨a1, b1, rfl, h1, _, hb4⟩
  have HAI := Lib.hid (ev_info d (p1 : Int) T (.slice a1 d d) (.slice b1 d d) HTL.out)
  have HAO := Lib.hid (ev_one d (p1 : Int) T a1 b1 d d d d)
  have HAZ := Lib.hid (show ZEv.size = (evRow d (p1 : Int) T (.slice a1 d d) (.slice b1 d d)).size by rw [zev_size, evRow_size _ _ _ _ _ HTL.out])
  have HAV := Lib.hid (fun w g h => (⟨HTL.out, h⟩ : EvAt w g d (p1 : Int) T (.slice a1 d d) (.slice b1 d d)))
  obtain ⟨EA, hEA⟩ : ∃ E, evRow d (p1 : Int) T (.slice a1 d d) (.slice b1 d d) = E := ⟨_, rfl⟩
  rw [hEA] at HAI HAO HAZ HAV
  rw [hEA]
  have HHA := Lib.hid h1
  clear hEA h1
  have H24 := Lib.hid ((hb4.block _ (Nat.lt_trans HL3.out.1 HL3.out.2)).trans H23.out)
  have H34 := Lib.hid ((hb4.block _ HL3.out.2).trans H33.out)
  have HB4 := Lib.hid (HB3.out.trans (hb4.mono (by have := HL3.out; omega)))
  have HL4 := Lib.hid (show g2 < g3 ∧ g3 < w4.heap.size by have := HL3.out; have := hb4.size; omega)
  clear hb4
  go_upto_region 4 with (refine wpList_store_row rfl 26 (.tmp 5) (.tmp 18) rfl w4.heap.size EA rfl rfl 26 ZEv (heap_alloc_new _ _) HAI.out HAZ.out HAO.out ?_; rw [World.setRow_alloc_new])
  have hb5 : Below w4.heap.size w4 (w4.alloc (.cells EA 26)) := (Below.refl _ _).alloc (Nat.le_refl _) _
  have h55 := heap_alloc_new w4 (.cells EA 26)
  have hs5 : (w4.alloc (.cells EA 26)).heap.size = w4.heap.size + 1 := by simp
  generalize w4.alloc (.cells EA 26) = w5 at hb5 h55 hs5 ⊢
  obtain ⟨g5, hg5⟩ : ∃ x, w4.heap.size = x := ⟨_, rfl⟩
  have hb5' := hb5
  rw [hg5] at h55 hs5
  rw [hg5]
  have HB45 := Lib.hid hb5'
  have HG5 := Lib.hid hg5
  have H55 := Lib.hid h55
  have H25 := Lib.hid ((hb5.block _ (Nat.lt_trans HL4.out.1 HL4.out.2)).trans H24.out)
  have H35 := Lib.hid ((hb5.block _ HL4.out.2).trans H34.out)
  have HB5 := Lib.hid (HB4.out.trans (hb5.mono (by have := HL4.out; omega)))
  have HL5 := Lib.hid (show g2 < g3 ∧ g3 < g5 ∧ g5 < w5.heap.size by have := HL4.out; omega)
  clear hb5 hb5' h55 hs5 hg5
  go_upto_region 5 with (first
    | (refine wpList_load_row rfl 26 (.tmp 2) rfl g2 rfl 26 E (0, 0) _ H25.out Try.underlying26 rfl HEI.out ?_)
    | (refine wpList_store_row rfl 26 (.tmp 7) (.tmp 20) rfl w5.heap.size E rfl rfl 26 ZEv (heap_alloc_new _ _) HEI.out HEZ.out HEO.out ?_; rw [World.setRow_alloc_new]))
  have hb6 : Below w5.heap.size w5 (w5.alloc (.cells E 26)) := (Below.refl _ _).alloc (Nat.le_refl _) _
  have h77 := heap_alloc_new w5 (.cells E 26)
  have hs6 : (w5.alloc (.cells E 26)).heap.size = w5.heap.size + 1 := by simp
  generalize w5.alloc (.cells E 26) = w6 at hb6 h77 hs6 ⊢
  obtain ⟨g7, hg7⟩ : ∃ x, w5.heap.size = x := ⟨_, rfl⟩
  have HB56 := Lib.hid hb6
  rw [hg7] at h77 hs6
  rw [hg7]
  have H26 := Lib.hid ((hb6.block _ (by have := HL5.out; omega)).trans H25.out)
  have H36 := Lib.hid ((hb6.block _ (by have := HL5.out; omega)).trans H35.out)
  have H56 := Lib.hid ((hb6.block _ HL5.out.2.2).trans H55.out)
  have HB6 := Lib.hid (HB5.out.trans (hb6.mono (by have := HL5.out; omega)))
  have HL6 := Lib.hid (show g2 < g3 ∧ g3 < g5 ∧ g5 < g7 ∧ g7 < w6.heap.size by have := HL5.out; omega)
  have h77e : w6.heap[g7]? = some (.cells (evRow d p leaf (.slice ar nr cr) (.slice as_ ns cs)) 26 (0, 0)) := by rw [HEE.out]; exact h77
  have HTH := Lib.hid (show w6.there g7 2 C2.size from fun j hj => by
    have hz1 := HRC2.out.size
    have hz2 := evRow_size d p leaf (.slice ar nr cr) (.slice as_ ns cs) HLEN.out
    refine ⟨?_, Lib.frozen_of_heap h77e _⟩
    rw [Lib.cell_of_heap h77e, Array.getElem?_eq_getElem (by omega)]
    rfl)
  have HSC := Lib.hid (show w6.setCells g7 2 C2.toList = w6.setRow g7 E2 by
    rw [← HC2.out, ← HEE2.out]
    exact setCells_row g7 26 (0, 0) (valsB leaf2) (valsB leaf) [.int .i64 d, .int .i64 p] [.slice ar nr cr, .slice as_ ns cs] w6 (by simp [valsB, HLEN.out, HLEN2.out]) h77e)
  have H7 := Lib.hid (setRow_heap w6 g7 _ E2 _ _ h77e)
  have H2s := Lib.hid (show (w6.setRow g7 E2).heap[g2]? = some (.cells E 26 (0, 0)) by rw [setRow_other _ _ _ _ (by have := HL6.out; omega)]; exact H26.out)
  have H5s := Lib.hid (show (w6.setRow g7 E2).heap[g5]? = some (.cells EA 26 (0, 0)) by rw [setRow_other _ _ _ _ (by have := HL6.out; omega)]; exact H56.out)
  have HBs := Lib.hid (below_setRow HB6.out (show g2 ≤ g7 by have := HL6.out; omega) E2)
  have HLs := Lib.hid (show g2 < g5 ∧ g5 < g7 ∧ g7 < (w6.setRow g7 E2).heap.size by have := HL6.out; rw [setRow_size]; omega)
  clear hb6 h77 hs6 hg7 h77e
  go_upto_region 6 with (first
    | (refine wpList_load_row rfl 23 (.tmp 3) rfl g3 rfl 23 C2 (0, 0) _ H36.out Try.underlying23 rfl HRC2.out.info ?_)
    | (refine wpList_store_mid rfl 23 (.tmp 22) (.tmp 21) rfl g7 2 C2 rfl rfl HTH.out HRC2.out.info HRC2.out.one ?_; rw [HSC.out]))
  have HRA7 := Lib.hid (hashes_set (g := g7) ((HHA.out.kept HB45.out).kept HB56.out) (fun k hk => by have := hashes_lt HHA.out HR32.out hd0 k hk; have := HG5.out; have := HL6.out; omega) E2)
  generalize w6.setRow g7 E2 = w7 at H7 H2s H5s HBs HLs HRA7 ⊢
  go_wp2_with (refine wpList_load_row rfl 26 (.tmp 7) rfl g7 rfl 26 E2 (0, 0) _ H7.out Try.underlying26 rfl HEI2.out ?_)
  refine (HN2.out _ (HGE.out ▸ HBs.out)).mono ?_
  rintro e w8 ⟨a2, b2, rfl, h2, _, hb8⟩
  have HBI := Lib.hid (ev_info d (p1 : Int) T (.slice a2 d d) (.slice b2 d d) HTL.out)
  have HBO := Lib.hid (ev_one d (p1 : Int) T a2 b2 d d d d)
  have HBZ := Lib.hid (show ZEv.size = (evRow d (p1 : Int) T (.slice a2 d d) (.slice b2 d d)).size by rw [zev_size, evRow_size _ _ _ _ _ HTL.out])
  have HBV := Lib.hid (fun w g h => (⟨HTL.out, h⟩ : EvAt w g d (p1 : Int) T (.slice a2 d d) (.slice b2 d d)))
  obtain ⟨EB, hEB⟩ : ∃ E, evRow d (p1 : Int) T (.slice a2 d d) (.slice b2 d d) = E := ⟨_, rfl⟩
  rw [hEB] at HBI HBO HBZ HBV
  rw [hEB]
  have HHB := Lib.hid h2
  clear hEB h2
  have H28 := Lib.hid ((hb8.block _ (by have := HLs.out; omega)).trans H2s.out)
  have H58 := Lib.hid ((hb8.block _ (by have := HLs.out; omega)).trans H5s.out)
  have HB8 := Lib.hid (HBs.out.trans (hb8.mono (by have := HLs.out; omega)))
  have HL8 := Lib.hid (show g2 < g5 ∧ g5 < w8.heap.size by have := HLs.out; have := hb8.size; omega)
  have HRA8 := Lib.hid (HRA7.out.kept hb8)
  clear hb8
  go_upto_region 7 with (refine wpList_store_row rfl 26 (.tmp 8) (.tmp 26) rfl w8.heap.size EB rfl rfl 26 ZEv (heap_alloc_new _ _) HBI.out HBZ.out HBO.out ?_; rw [World.setRow_alloc_new])
  have hb9 : Below w8.heap.size w8 (w8.alloc (.cells EB 26)) := (Below.refl _ _).alloc (Nat.le_refl _) _
  have H89 := Lib.hid (heap_alloc_new w8 (.cells EB 26))
  have H29 := Lib.hid ((hb9.block _ (by have := HL8.out; omega)).trans H28.out)
  have H59 := Lib.hid ((hb9.block _ HL8.out.2).trans H58.out)
  have HB9 := Lib.hid (HB8.out.trans (hb9.mono (by have := HL8.out; omega)))
  have HR9A := Lib.hid (HRA8.out.kept hb9)
  have HR9B := Lib.hid (HHB.out.kept hb9)
  clear hb9
  generalize w8.alloc (.cells EB 26) = w9 at H89 H29 H59 HB9 HR9A HR9B ⊢
  obtain ⟨g8, hg8⟩ : ∃ x, w8.heap.size = x := ⟨_, rfl⟩
  rw [hg8] at H89
  rw [hg8]
  clear hg8
  have hA := HAV.out _ _ H59.out
  have hB := HBV.out _ _ H89.out
  have HA9 := Lib.hid hA
  have HB9V := Lib.hid hB
  have a0' := hA.c0
  have a1' := hA.c1
  have a34 := hA.c34
  have b1' := hB.c1
  have b34 := hB.c34
  have HLA := Lib.hid hA.lf
  have HLB := Lib.hid hB.lf
  have HG8 := Lib.hid (show g2 < w9.heap.size by have := HB9.out.size; have := HGE.out; exact (Array.getElem?_eq_some_iff.1 H29.out).1)
  clear hA hB
  go_wp2_with (first
    | (refine wpList_load_mid_g rfl 23 (.tmp 32) rfl g5 2 (by simp [Act.eval]) (valsB T) _ HLA.out Try.underlying23 rfl HIT.out ?_; rw [HCT.out])
    | (refine wpList_load_mid_g rfl 23 (.tmp 34) rfl g8 2 (by simp [Act.eval]) (valsB T) _ HLB.out Try.underlying23 rfl HIT.out ?_; rw [HCT.out]))
  clear HET a0' a1' a34 b1' b34
  go_loopw [65] (fun iv wr => ∃ i : Nat, i ≤ d ∧ iv = .int .i64 i ∧ Below w9.heap.size w9 wr) (fun iv _ => d - (intOf iv).toNat)
  case atStart => exact ⟨0, by omega, rfl, Below.refl _ _⟩
  case round =>
    obtain ⟨i, hi, rfl, hbr⟩ := hrel
    have HBR := Lib.hid hbr
    have hAr := HA9.out.kept hbr
    have hBr := HB9V.out.kept hbr
    have a0' := hAr.c0
    have a1' := hAr.c1
    have a34 := hAr.c34
    have b34 := hBr.c34
    have HRAr := Lib.hid (HR9A.out.kept hbr)
    have HRBr := Lib.hid (HR9B.out.kept hbr)
    have H2r := Lib.hid ((hbr.block _ HG8.out).trans H29.out)
    clear hbr hAr hBr
    by_cases hlt : i < d
    · obtain ⟨k, hk⟩ : ∃ k, d - 1 - i = k := ⟨_, rfl⟩
      have hki : (d : Int) - 1 - (i : Int) = (k : Int) := by omega
      have hqk : p1 / 2 ^ k < 16 := Nat.lt_of_le_of_lt (Nat.div_le_self _ _) (by omega)
      have hbt := bits_one _ hqk
      have hbp : ((p1 / 2 ^ k : Nat) : Int) = (p1 : Int) / 2 ^ k := by simp
      rw [hbp] at hbt
      obtain ⟨t, ht⟩ : ∃ t, (p1 / 2 ^ k % 2 == 1) = t := ⟨_, rfl⟩
      rw [ht] at hbt
      have HZR := Lib.hid (show t = true → R'.getD i [] = zeroL from fun h => HRI.out i hlt (by unfold rightAt; rw [hk, ht, h]))
      have hii : (i : Int) < (d : Int) := by omega
      have hi0 : (0 : Int) ≤ (i : Int) := by omega
      obtain ⟨s, hs⟩ : ∃ s, R'[i]? = some s := ⟨R'[i]'(by rw [HRL.out]; omega), List.getElem?_eq_getElem _⟩
      have hsl := HR32.out s (List.mem_of_getElem? hs)
      obtain ⟨ga, oa, ha1, hra⟩ := hashes_cellE HRAr.out i s hs
      obtain ⟨gb, ob, ha2, hrb⟩ := hashes_cellE HRBr.out i s hs
      rw [ha1] at a34
      rw [ha2] at b34
      have HRA := Lib.hid hra
      have HRB := Lib.hid hrb
      have HIS := Lib.hid (info_len s hsl)
      have hsg : R'.getD i [] = s := by rw [List.getD_eq_getElem?_getD, hs]; rfl
      rw [hsg] at HZR
      have HE1 := fun w => eqIn_hash s s hsl hsl w
      have HE2 := fun w => eqIn_hash s zeroL hsl rfl w
      obtain ⟨CS, hCS⟩ : ∃ C, (valsB s).toArray = C := ⟨_, rfl⟩
      obtain ⟨z, hz⟩ : ∃ z, (s == zeroL) = z := ⟨_, rfl⟩
      have hzt : t = true → z = true := fun h => by rw [← hz, HZR.out h]; simp
      rw [hCS, show (s == s) = true by simp] at HE1
      rw [hCS, hz] at HE2
      have HCS := Lib.hid hCS
      have HBZ := Lib.hid (fun a : Act => (show Try.prog.built 23 ((#[] : Array (Nat × Operand)).map fun (i, x) => (i, a.eval x)).toList = some (valsB zeroL).toArray by kernel_rfl))
      obtain ⟨CZ, hCZ⟩ : ∃ C, (valsB zeroL).toArray = C := ⟨_, rfl⟩
      rw [hCZ] at HE2 HBZ
      clear hs hsl hra hrb hCS hz hCZ ha1 ha2 hk ht hsg hqk
      rcases Bool.eq_false_or_eq_true t with htv | htv
      · rw [htv] at hbt
        have hz1 := hzt htv
        rw [hz1] at HE2
        clear hzt HZR hz1 htv
        go_upto_region 13 with (fail)
        have r34 := cell_regrown a34
        have q34 := cell_regrown b34
        refine wp_region_quiet_below (by kernel_rfl) (by kernel_rfl) ?_
        quiet_step (fail)
        quiet_step (fail)
        quiet_step (fail)
        quiet_step (fail)
        (refine wpQuiet_step (fun K hK => ?_); rw [if_pos (by rfl)]; refine quiet_load_mid 23 (.tmp 81) rfl ga (oa + i * 32) (by simp [Act.eval]) (valsB s) _ HRA.out Try.underlying23 rfl HIS.out ?_; rw [HCS.out]; refine hK _ ?_; clear hK K)
        quiet_step (fail)
        quiet_step (fail)
        quiet_step (fail)
        quiet_step (fail)
        (refine wpQuiet_step (fun K hK => ?_); rw [if_pos (by rfl)]; refine quiet_load_mid 23 (.tmp 86) rfl gb (ob + i * 32) (by simp [Act.eval]) (valsB s) _ HRB.out Try.underlying23 rfl HIS.out ?_; rw [HCS.out]; refine hK _ ?_; clear hK K)
        quiet_step (fail)
        quiet_step (fail)
        quiet_step (fail)
        quiet_step (fail)
        quiet_step (fail)
        quiet_step (fail)
        quiet_step (fail)
        quiet_step (fail)
        (refine wpQuiet_step (fun K hK => ?_); rw [if_pos (by rfl)]; refine quiet_load_mid 23 (.tmp 95) rfl ga (oa + i * 32) (by simp [Act.eval]) (valsB s) _ HRA.out Try.underlying23 rfl HIS.out ?_; rw [HCS.out]; refine hK _ ?_; clear hK K)
        (refine wpQuiet_step (fun K hK => ?_); rw [if_pos (by rfl)]; refine quiet_build 23 #[] rfl CZ (HBZ.out _) ?_; refine hK _ ?_; clear hK K)
        quiet_step (fail)
        quiet_step (fail)
        quiet_step (fail)
        refine wpQuiet_nil ?_
        intro _ hw'
        obtain ⟨⟨dq, osq⟩, hw''⟩ := hw'
        subst hw''
        have hbq := below_regrown wr dq osq
        dsimp only
        generalize Sort.grow (redrawn wr dq) osq = wx at hbq ⊢
        have HBX := Lib.hid (HBR.out.trans (hbq.mono HBR.out.size))
        clear hbq r34 q34
        go_wp2_with fail
        go_roundw
        case rel => exact ⟨i + 1, by omega, by go_num, HBX.out⟩
        case measure => simp [intOf]; omega
      · rw [htv] at hbt
        clear hzt HZR htv
        go_upto_region 13 with (fail)
        have r34 := cell_regrown a34
        have q34 := cell_regrown b34
        refine wp_region_quiet_below (by kernel_rfl) (by kernel_rfl) ?_
        quiet_step (fail)
        quiet_step (fail)
        quiet_step (fail)
        quiet_step (fail)
        (refine wpQuiet_step (fun K hK => ?_); rw [if_pos (by rfl)]; refine quiet_load_mid 23 (.tmp 81) rfl ga (oa + i * 32) (by simp [Act.eval]) (valsB s) _ HRA.out Try.underlying23 rfl HIS.out ?_; rw [HCS.out]; refine hK _ ?_; clear hK K)
        quiet_step (fail)
        quiet_step (fail)
        quiet_step (fail)
        quiet_step (fail)
        (refine wpQuiet_step (fun K hK => ?_); rw [if_pos (by rfl)]; refine quiet_load_mid 23 (.tmp 86) rfl gb (ob + i * 32) (by simp [Act.eval]) (valsB s) _ HRB.out Try.underlying23 rfl HIS.out ?_; rw [HCS.out]; refine hK _ ?_; clear hK K)
        quiet_step (fail)
        quiet_step (fail)
        quiet_step (fail)
        quiet_step (fail)
        quiet_step (fail)
        quiet_step (fail)
        quiet_step (fail)
        quiet_step (fail)
        quiet_step (fail)
        quiet_step (fail)
        quiet_step (fail)
        quiet_step (fail)
        quiet_step (fail)
        refine wpQuiet_nil ?_
        intro _ hw'
        obtain ⟨⟨dq, osq⟩, hw''⟩ := hw'
        subst hw''
        have hbq := below_regrown wr dq osq
        dsimp only
        generalize Sort.grow (redrawn wr dq) osq = wx at hbq ⊢
        have HBX := Lib.hid (HBR.out.trans (hbq.mono HBR.out.size))
        clear hbq r34 q34
        go_wp2_with fail
        go_roundw
        case rel => exact ⟨i + 1, by omega, by go_num, HBX.out⟩
        case measure => simp [intOf]; omega
    · obtain rfl : i = d := by omega
      have hii : ¬ (i : Int) < (i : Int) := by omega
      go_wp2_with fail
      refine (HWK.out _).mono ?_
      rintro e w10 ⟨rfl, hb10⟩
      have HBF := Lib.hid (HB9.out.trans (HBR.out.trans (hb10.mono HBR.out.size) |>.mono (Nat.le_of_lt HG8.out)))
      have hAr := (HA9.out.kept HBR.out).kept hb10
      have hE10 := HEV.out _ _ ((hb10.block _ (Nat.lt_of_lt_of_le HG8.out HBR.out.size)).trans H2r.out)
      clear a0' a1' a34 b34
      have a0' := hAr.c0
      have a1' := hAr.c1
      have a34 := hAr.c34
      have e1' := hE10.c1
      clear hb10 hAr hE10
      go_wp2_with fail
      go_ret
      exact ⟨rfl, HGE.out ▸ HBF.out⟩

set_option maxRecDepth 100000 in
set_option maxHeartbeats 3200000 in
theorem forgets_great (d p : Int) (leaf leaf2 : List UInt8) (hl : leaf.length = 32) (hl2 : leaf2.length = 32) (ar as_ : Option Addr) (nr cr ns cs : Nat) (hg : 40 < nr ∨ 40 < ns) (w : World) :
    Calls Try.prog 9 #[.agg (evRow d p leaf (.slice ar nr cr) (.slice as_ ns cs)), .agg (valsB leaf2).toArray] w fun e w' => e = .returned (.bool true) ∧ Below w.heap.size w w' := by
  have HWK := Lib.hid works_any
  have HGT := Lib.hid (fun w => code_great d p leaf hl ar as_ nr cr ns cs w)
  have HEI := Lib.hid (ev_info d p leaf (.slice ar nr cr) (.slice as_ ns cs) hl)
  have HEO := Lib.hid (ev_one d p leaf ar as_ nr cr ns cs)
  have HRC2 := Lib.hid (row32 leaf2 hl2)
  rw [show (decide (40 < nr) || decide (40 < ns)) = true by simp; omega] at HGT
  obtain ⟨E, hE⟩ : ∃ E, evRow d p leaf (.slice ar nr cr) (.slice as_ ns cs) = E := ⟨_, rfl⟩
  obtain ⟨C2, hC2⟩ : ∃ C, (valsB leaf2).toArray = C := ⟨_, rfl⟩
  rw [hE] at HGT HEI HEO
  rw [hC2] at HRC2
  rw [hE, hC2]
  clear hE hC2 hl hl2
  go_enter Try.func9, Try.ntmps9
  go_upto_region 1 with (fail)
  have HA0 := Lib.hid (heap_alloc2_old w (.cells E 26) (.cells C2 23))
  have HA1 := Lib.hid (heap_alloc2_new w (.cells E 26) (.cells C2 23))
  have HBW := Lib.hid (show Below w.heap.size w ((w.alloc (.cells E 26)).alloc (.cells C2 23)) from ((Below.refl _ _).alloc (Nat.le_refl _) _).alloc (by simp) _)
  have hs0 : ((w.alloc (.cells E 26)).alloc (.cells C2 23)).heap.size = w.heap.size + 2 := by simp
  generalize ((w.alloc (.cells E 26)).alloc (.cells C2 23)) = W at HA0 HA1 HBW hs0 ⊢
  obtain ⟨g2, hg2⟩ : ∃ x, w.heap.size = x := ⟨_, rfl⟩
  obtain ⟨g3, hg3⟩ : ∃ x, g2 + 1 = x := ⟨_, rfl⟩
  rw [hg2] at HA0 HA1 HBW hs0
  rw [hg3] at HA1
  rw [hg2, hg3]
  have HGE := Lib.hid hg2
  have HLT := Lib.hid (show g2 < g3 ∧ g3 < W.heap.size by omega)
  clear hg2 hg3 hs0
  go_wp2_with (refine wpList_load_row rfl 26 (.tmp 2) rfl g2 rfl 26 E (0, 0) _ HA0.out Try.underlying26 rfl HEI.out ?_)
  refine (HGT.out _).mono ?_
  rintro e w3 ⟨rfl, hb3⟩
  have HB3 := Lib.hid (HBW.out.trans (hb3.mono (by have := HLT.out; omega)))
  clear hb3
  go_wp2_with fail
  refine (HWK.out _).mono ?_
  rintro e w10 ⟨rfl, hb10⟩
  have HBF := Lib.hid (HB3.out.trans (hb10.mono (by have := HB3.out.size; have := HGE.out; omega)))
  clear hb10
  go_wp2_with fail
  go_ret
  exact ⟨rfl, HGE.out ▸ HBF.out⟩

theorem law_EvolveForgets (d p : Int) (leaf : List UInt8) (ar : Option Addr) (nr cr : Nat) (as_ : Option Addr) (ns cs : Nat) (R S : List (List UInt8)) (leaf2 : List UInt8) (w : World)
    (hl : leaf.length = 32) (hR : Hashes w (.slice ar nr cr) R) (h32 : H32 R) (hcr : nr ≤ cr) (hS : Hashes w (.slice as_ ns cs) S) (h32S : H32 S) (hcs : ns ≤ cs) (hl2 : leaf2.length = 32) :
    Calls Try.prog 9 #[.agg (evRow d p leaf (.slice ar nr cr) (.slice as_ ns cs)), .agg (valsB leaf2).toArray] w fun e w' => e = .returned (.bool true) ∧ Below w.heap.size w w' := by
  by_cases hg : 40 < nr ∨ 40 < ns
  · exact forgets_great d p leaf leaf2 hl hl2 ar as_ nr cr ns cs hg w
  have hnr : nr ≤ 40 := by omega
  have hns : ns ≤ 40 := by omega
  by_cases hm : mayP d p R ns
  · have hfr := hashes_form hR
    obtain ⟨dn, pn, rfl, rfl, h4, hp, hRl, hsl, hm⟩ := mayP_nat hm
    obtain rfl : nr = dn := by omega
    obtain rfl : ns = nr := hsl
    have hSl := hashes_form hS
    have hlt := lastG_lt ns pn ns
    by_cases hj : lastG ns pn ns = -1
    · exact forgets_err 4 (Or.inr rfl) ns pn leaf leaf2 hl hl2 ar as_ ns cr ns cs hnr hns w
        (fun w' hb => code_NextE_last ns pn h4 hp leaf hl ar as_ cr cs R S w' (hR.kept hb) h32 (hS.kept hb) h32S hm hj)
        (fun w' hb => code_NextE_last ns pn h4 hp leaf2 hl2 ar as_ cr cs R S w' (hR.kept hb) h32 (hS.kept hb) h32S hm hj)
    · obtain ⟨j, hjj⟩ : ∃ j : Nat, lastG ns pn ns = (j : Int) := ⟨(lastG ns pn ns).toNat, by omega⟩
      have hjd : j < ns := by omega
      have hr := nextT_right ns pn j h4 hp hjj hjd leaf R S hRl hm
      have hn := nextT_len ns pn j hjd leaf R S hRl hSl h32
      have hh := nextT_h32 ns pn j leaf R S h32 h32S
      have he := nextT_leaf ns pn j leaf2 leaf R S
      have h16 : (2 : Nat) ^ ns ≤ 16 := Nat.le_trans (Nat.pow_le_pow_right (by omega) h4) (by decide)
      refine forgets_ok ns pn leaf leaf2 hl hl2 ar as_ ns cr ns cs hnr hns w h4 (by omega) (by omega) (nextT ns pn j leaf R S).1 hn.1 (nextT ns pn j leaf R S).2.1 hn.2.1 hh.1 hr.2 (nextT ns pn j leaf R S).2.2 (nextT ns pn j leaf2 R S).2.2
        (fun w' hb => code_NextE ns pn h4 hp leaf hl ar as_ cr cs R S w' (hR.kept hb) h32 (hS.kept hb) h32S hm hcr hcs j hjj hjd)
        (fun w' hb => ?_)
      have h := code_NextE ns pn h4 hp leaf2 hl2 ar as_ cr cs R S w' (hR.kept hb) h32 (hS.kept hb) h32S hm hcr hcs j hjj hjd
      rw [he.1, he.2] at h
      exact h
  · exact forgets_err 2 (Or.inl rfl) d p leaf leaf2 hl hl2 ar as_ nr cr ns cs hnr hns w
      (fun w' hb => code_NextE_no d p leaf hl ar as_ nr cr ns cs R w' (hR.kept hb) h32 hm)
      (fun w' hb => code_NextE_no d p leaf2 hl2 ar as_ nr cr ns cs R w' (hR.kept hb) h32 hm)
end Go.Proofs.Ytpifjeghoapjbaa.Evolve
