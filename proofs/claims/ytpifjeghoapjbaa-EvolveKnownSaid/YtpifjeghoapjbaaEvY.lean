/- evolve: the document's examples: the law EvolveKnown. -/
import Derived.Test.YtpifjeghoapjbaaEvU
namespace Go.Proofs.Ytpifjeghoapjbaa.Evolve
open Go.RowKit Go.Proofs.Ytpifjeghoapjbaa.Sha Go.Proofs.Ytpifjeghoapjbaa.Tree Go.Proofs.Ytpifjeghoapjbaa.Once

set_option maxRecDepth 100000 in
set_option maxHeartbeats 3200000 in
theorem code_MakeF (seed : List UInt8) (hs : seed.length = 32) (d : Nat) (hd : d ≤ 4) (w : World) :
    Calls Try.prog 10 #[.agg (valsB seed).toArray, .int .i64 d] w fun e w' => ∃ ar as_, e = .returned (.tuple #[.agg (evRow d 0 (firstT d 0 seed [] [] d).1 (.slice ar d d) (.slice as_ d d)), .int .i64 0]) ∧ Hashes w' (.slice ar d d) (firstT d 0 seed [] [] d).2.1 ∧ Hashes w' (.slice as_ d d) (firstT d 0 seed [] [] d).2.2 ∧ Below w.heap.size w w' ∧ (∀ k, (Value.slice ar d d).ownBlock = some k → w.heap.size ≤ k) ∧ (∀ k, (Value.slice as_ d d).ownBlock = some k → w.heap.size ≤ k) := by
  have HI := Lib.hid (fun w => code_isDepth (d : Int) w)
  rw [show decide (depthP (d : Int)) = true by simp [depthP]; omega] at HI
  have HFI := Lib.hid (fun w => code_toFirst d 0 0 hd (by omega) zeroL rfl seed hs w.heap.size (.slice none 0 0) (.slice none 0 0) [] [] rfl rfl w (Nat.le_refl _) (OwnH.nil _ _) (OwnH.nil _ _) (fun k hk => by simp [Value.ownBlock] at hk))
  have HRC := Lib.hid (row32 seed hs)
  have hfl := firstT_len d 0 seed [] [] hs d
  obtain ⟨⟨T, R, S⟩, hT⟩ : ∃ t, firstT d 0 seed [] [] d = t := ⟨_, rfl⟩
  rw [Nat.sub_zero, hT] at HFI
  rw [hT] at hfl
  rw [hT]
  have HTL := Lib.hid hfl.1
  obtain ⟨C, hC⟩ : ∃ C, (valsB seed).toArray = C := ⟨_, rfl⟩
  rw [hC] at HRC HFI
  rw [hC]
  obtain ⟨E, hE⟩ : ∃ E, evRow d 0 zeroL (.slice none 0 0) (.slice none 0 0) = E := ⟨_, rfl⟩
  rw [hE] at HFI
  have HEB := Lib.hid (fun a : Act => fun (h1 : a.eval (.tmp 10) = .int .i64 d) => (show Try.prog.built 26 ((#[(0, .tmp 10)] : Array (Nat × Operand)).map fun (i, x) => (i, a.eval x)).toList = some E by
    simp only [List.map_toArray, List.map_cons, List.map_nil, h1]
    rw [← hE]
    kernel_rfl))
  clear hC hE hT hfl
  go_enter Try.func10, Try.ntmps10
  go_upto_region 1 with (fail)
  rw [show #[Value.int .i64 0, Value.int .i64 0, Value.int .u8 0, Value.int .u8 0, Value.int .u8 0, Value.int .u8 0, Value.int .u8 0, Value.int .u8 0, Value.int .u8 0, Value.int .u8 0, Value.int .u8 0, Value.int .u8 0, Value.int .u8 0, Value.int .u8 0, Value.int .u8 0, Value.int .u8 0, Value.int .u8 0, Value.int .u8 0, Value.int .u8 0, Value.int .u8 0, Value.int .u8 0, Value.int .u8 0, Value.int .u8 0, Value.int .u8 0, Value.int .u8 0, Value.int .u8 0, Value.int .u8 0, Value.int .u8 0, Value.int .u8 0, Value.int .u8 0, Value.int .u8 0, Value.int .u8 0, Value.int .u8 0, Value.int .u8 0, Value.slice none 0 0, Value.slice none 0 0] = evRow 0 0 zeroL (.slice none 0 0) (.slice none 0 0) from rfl]
  have HE0 := Lib.hid (evRow_size 0 0 zeroL (.slice none 0 0) (.slice none 0 0) rfl)
  obtain ⟨ZE, hZE⟩ : ∃ Z, evRow 0 0 zeroL (.slice none 0 0) (.slice none 0 0) = Z := ⟨_, rfl⟩
  rw [hZE] at HE0
  rw [hZE]
  have HZE := Lib.hid hZE
  clear hZE
  have HA0 := Lib.hid (heap_alloc2_old w (.cells C 23) (.cells ZE 26))
  have HA1 := Lib.hid (heap_alloc2_new w (.cells C 23) (.cells ZE 26))
  have HBW := Lib.hid (show Below w.heap.size w ((w.alloc (.cells C 23)).alloc (.cells ZE 26)) from ((Below.refl _ _).alloc (Nat.le_refl _) _).alloc (by simp) _)
  have hs0 : ((w.alloc (.cells C 23)).alloc (.cells ZE 26)).heap.size = w.heap.size + 2 := by simp
  generalize ((w.alloc (.cells C 23)).alloc (.cells ZE 26)) = W at HA0 HA1 HBW hs0 ⊢
  obtain ⟨g2, hg2⟩ : ∃ x, w.heap.size = x := ⟨_, rfl⟩
  obtain ⟨g4, hg4⟩ : ∃ x, g2 + 1 = x := ⟨_, rfl⟩
  rw [hg2] at HA0 HA1 HBW hs0
  rw [hg4] at HA1
  rw [hg2, hg4]
  have HGE := Lib.hid hg2
  have HLT := Lib.hid (show g2 < g4 ∧ g4 < W.heap.size by omega)
  clear hg2 hg4 hs0
  go_wp2_with fail
  refine (HI.out _).mono ?_
  rintro e w3 ⟨rfl, rfl⟩
  go_wp2_with (first
    | (refine wpList_build_as rfl 26 #[(0, .tmp 10)] rfl E (HEB.out _ rfl) ?_)
    | (refine wpList_load_row rfl 23 (.tmp 2) rfl g2 rfl 23 C (0, 0) _ HA0.out Try.underlying23 rfl HRC.out.info ?_))
  refine (HFI.out _).mono ?_
  rintro e w4 ⟨ar, as_, rfl, h1, h2, hb4, h5, h6⟩
  have HEI := Lib.hid (ev_info d 0 T (.slice ar d d) (.slice as_ d d) HTL.out)
  have HEA := Lib.hid (ev_one d 0 T ar as_ d d d d)
  have HEZ := Lib.hid (show ZE.size = (evRow d 0 T (.slice ar d d) (.slice as_ d d)).size by rw [HE0.out, evRow_size _ _ _ _ _ HTL.out])
  obtain ⟨EV, hEV⟩ : ∃ E, evRow d 0 T (.slice ar d d) (.slice as_ d d) = E := ⟨_, rfl⟩
  rw [hEV] at HEI HEA HEZ
  rw [hEV]
  have HEV := Lib.hid hEV
  have HR := Lib.hid h1
  have HS := Lib.hid h2
  have H4 := Lib.hid ((hb4.block g4 HLT.out.2).trans HA1.out)
  have HB4 := Lib.hid (HBW.out.trans (hb4.mono (by have := HLT.out; omega)))
  have HRB := Lib.hid (show ∀ k, (Value.slice ar d d).ownBlock = some k → k ≠ g4 from fun k hk => by have := h5 k hk; have := HLT.out; omega)
  have HSB := Lib.hid (show ∀ k, (Value.slice as_ d d).ownBlock = some k → k ≠ g4 from fun k hk => by have := h6 k hk; have := HLT.out; omega)
  have HRG := Lib.hid (show ∀ k, (Value.slice ar d d).ownBlock = some k → g2 ≤ k from fun k hk => by have := h5 k hk; have := HLT.out; omega)
  have HSG := Lib.hid (show ∀ k, (Value.slice as_ d d).ownBlock = some k → g2 ≤ k from fun k hk => by have := h6 k hk; have := HLT.out; omega)
  clear h1 h2 hb4 hEV h5 h6
  go_wp2_with (refine wpList_store_row rfl 26 (.tmp 4) (.tmp 13) rfl g4 EV rfl rfl 26 ZE H4.out HEI.out HEZ.out HEA.out ?_)
  refine bodyPost_ret (Sha.results_cell_tmp (p := 4) (t := 5) (ty := 26) Try.results10 _ _ g4 26 EV (0, 0) _ _ rfl rfl (setRow_heap _ _ _ _ _ _ H4.out) Try.underlying26 rfl HEI.out) rfl ⟨ar, as_, by rw [HEV.out]; rfl, hashes_set HR.out (fun k hk => HRB.out k hk) EV, hashes_set HS.out (fun k hk => HSB.out k hk) EV, HGE.out ▸ below_setRow HB4.out (by have := HLT.out; omega) _, fun k hk => HGE.out ▸ HRG.out k hk, fun k hk => HGE.out ▸ HSG.out k hk⟩

def sevL : List UInt8 := 7 :: List.replicate 31 0
set_option maxRecDepth 100000 in
set_option maxHeartbeats 12800000 in
attribute [local irreducible] Go.wpQuiet in
theorem law_EvolveKnown (w : World) :
    Calls Try.prog 3 #[] w fun e w' => e = .returned (.bool true) ∧ Below w.heap.size w w' := by
  have HWK := Lib.hid works_any
  have HM5 := Lib.hid (show ∀ w, Calls Try.prog 10 #[.agg (valsB zeroL).toArray, .int .i64 5] w fun e w' => e = .returned (.tuple #[.agg ZEv, .int .i64 2]) ∧ Below w.heap.size w w' from fun w => code_Make_no zeroL 5 (by unfold depthP; omega) w)
  have HM0 := Lib.hid (show ∀ w, Calls Try.prog 10 #[.agg (valsB zeroL).toArray, .int .i64 0] w fun e w' => ∃ a b, e = .returned (.tuple #[.agg (evRow 0 0 zeroL (.slice a 0 0) (.slice b 0 0)), .int .i64 0]) ∧ Hashes w' (.slice a 0 0) [] ∧ Hashes w' (.slice b 0 0) [] ∧ Below w.heap.size w w' from fun w => code_Make zeroL rfl 0 (by omega) w)
  have HN0 := Lib.hid (show ∀ a b w, Hashes w (.slice a 0 0) [] → Hashes w (.slice b 0 0) [] → Calls Try.prog 11 #[.agg (evRow 0 0 zeroL (.slice a 0 0) (.slice b 0 0))] w fun e w' => e = .returned (.tuple #[.agg ZEv, .int .i64 4]) ∧ Below w.heap.size w w' from fun a b w h1 h2 => code_NextE_last 0 0 (by omega) (by decide) zeroL rfl a b 0 0 [] [] w h1 (fun y hy => by simp at hy) h2 (fun y hy => by simp at hy) (fun i hi => by omega) rfl)
  have hsl : sevL.length = 32 := rfl
  have hlL := leftF_len sevL
  have hlR := rightF_len sevL
  have hleft := fun w => ref_Left sevL hsl w
  have hright := fun w => ref_Right sevL hsl w
  have hm1 := fun w => code_MakeF sevL hsl 1 (by omega) w
  have hm3 := fun w => code_MakeF sevL hsl 3 (by omega) w
  have hl3 := firstT_len 3 0 sevL [] [] hsl 3
  have h33 := firstT_h32 3 0 sevL [] [] (fun y hy => by simp at hy) (fun y hy => by simp at hy) 3
  rw [show firstT 1 0 sevL [] [] 1 = (leftF sevL, [rightF sevL], [rootE 0 (rightF sevL)]) by simp only [firstT]; simp] at hm1
  obtain ⟨⟨T3, R3, S3⟩, ht3⟩ : ∃ t, firstT 3 0 sevL [] [] 3 = t := ⟨_, rfl⟩
  rw [ht3] at hm3 hl3 h33
  obtain ⟨L7, hL7⟩ : ∃ x, leftF sevL = x := ⟨_, rfl⟩
  obtain ⟨R7, hR7⟩ : ∃ x, rightF sevL = x := ⟨_, rfl⟩
  rw [hL7] at hlL hleft hm1
  rw [hR7] at hlR hright hm1
  have hlO := rootE_len 0 R7
  obtain ⟨O7, hO7⟩ : ∃ x, rootE 0 R7 = x := ⟨_, rfl⟩
  rw [hO7] at hm1 hlO
  dsimp only at hl3 h33 hm3 hm1
  have h32R : H32 [R7] := fun y hy => by simp at hy; rw [hy]; exact hlR
  have h32O : H32 [O7] := fun y hy => by simp at hy; rw [hy]; exact hlO
  have hn1 := fun a b w h1 h2 => code_NextE 1 0 (by omega) (by decide) L7 hlL a b 1 1 [R7] [O7] w h1 h32R h2 h32O (fun i hi h0 => by (obtain rfl : i = 0 := by omega); cases h0) (by omega) (by omega) 0 rfl (by omega)
  rw [show nextT 1 0 0 L7 [R7] [O7] = (R7, [zeroL], [overE (digitsE 1 0) [O7] 1 1 (pubK L7)]) by simp only [nextT]; simp [firstT]] at hn1
  obtain ⟨N7, hN7⟩ : ∃ x, overE (digitsE 1 0) [O7] 1 1 (pubK L7) = x := ⟨_, rfl⟩
  rw [hN7] at hn1
  dsimp only at hn1
  have HS3 := (fun a b w h1 h2 => code_SignE 3 0 (by omega) (by decide) T3 hl3.1 a b 3 3 R3 S3 w h1 h33.1 h2 h33.2 (fun i hi h => by (rcases (show i = 0 ∨ i = 1 ∨ i = 2 by omega) with rfl | rfl | rfl) <;> cases h) zeroL rfl)
  have hbs : (((⟨(sigL T3 zeroL S3 3).toArray⟩ : ByteArray).size : Nat) : Int) = 1120 := by rw [sig_size T3 zeroL S3 h33.2 3 (by have := hl3.2.2; simpa using this)]; rfl
  obtain ⟨B3, hB3⟩ : ∃ b, (⟨(sigL T3 zeroL S3 3).toArray⟩ : ByteArray) = b := ⟨_, rfl⟩
  rw [hB3] at hbs HS3
  have HT3L := Lib.hid hl3.1
  simp only [show ((1 : Nat) : Int) = 1 from rfl, show ((0 : Nat) : Int) = 0 from rfl, show ((3 : Nat) : Int) = 3 from rfl] at hm1 hm3 hn1 HS3
  have HIL := Lib.hid (info_len L7 hlL)
  have HIR := Lib.hid (info_len R7 hlR)
  have HIZ := Lib.hid (info_len zeroL rfl)
  have HE1 := fun w => eqIn_hash L7 L7 hlL hlL w
  have HE2 := fun w => eqIn_hash R7 R7 hlR hlR w
  have HE3 := fun w => eqIn_hash zeroL zeroL rfl rfl w
  have HBZ := Lib.hid (fun a : Act => (show Try.prog.built 23 ((#[] : Array (Nat × Operand)).map fun (i, x) => (i, a.eval x)).toList = some (valsB zeroL).toArray by kernel_rfl))
  have HB7 := Lib.hid (fun a : Act => (show Try.prog.built 23 ((#[(0, .const (.int .u8 7))] : Array (Nat × Operand)).map fun (i, x) => (i, a.eval x)).toList = some (valsB sevL).toArray by kernel_rfl))
  obtain ⟨C7, hC7⟩ : ∃ C, (valsB sevL).toArray = C := ⟨_, rfl⟩
  obtain ⟨CL, hCL⟩ : ∃ C, (valsB L7).toArray = C := ⟨_, rfl⟩
  obtain ⟨CR, hCR⟩ : ∃ C, (valsB R7).toArray = C := ⟨_, rfl⟩
  obtain ⟨CZ, hCZ⟩ : ∃ C, (valsB zeroL).toArray = C := ⟨_, rfl⟩
  rw [hCL, show (L7 == L7) = true by simp] at HE1
  rw [hCR, show (R7 == R7) = true by simp] at HE2
  rw [hCZ, show (zeroL == zeroL) = true by simp] at HE3
  rw [hC7] at HB7 hleft hright hm1 hm3
  rw [hCZ] at HBZ HM5 HM0 HS3
  rw [hCL] at hleft
  rw [hCR] at hright
  have HCL := Lib.hid hCL
  have HCR := Lib.hid hCR
  have HCZ := Lib.hid hCZ
  have HLEFT := Lib.hid hleft
  have HRIGHT := Lib.hid hright
  have HM1 := Lib.hid hm1
  have HM3 := Lib.hid hm3
  have HN1 := Lib.hid hn1
  have HLL := Lib.hid hlL
  have HLR := Lib.hid hlR
  have HSG3 := Lib.hid HS3
  clear HS3
  clear hsl hleft hright hm1 hm3 hl3 h33 ht3 hL7 hR7 hO7 hlO hn1 hN7 hB3 hC7 hCL hCR hCZ hlL hlR h32R h32O
  go_enter Try.func3, Try.ntmps3
  go_wp2_with (refine wpList_build_as rfl 23 #[] rfl CZ (HBZ.out _) ?_)
  refine (HM5.out _).mono ?_
  rintro e w1 ⟨rfl, hb1⟩
  have HB1 := Lib.hid hb1
  clear hb1
  go_upto_region 2 with (refine wpList_store_row rfl 26 (.tmp 1) (.tmp 12) rfl w1.heap.size ZEv rfl rfl 26 ZEv (heap_alloc_new _ _) zev_info rfl zev_one ?_; rw [World.setRow_alloc_new])
  have hbn : Below w1.heap.size w1 (w1.alloc (.cells ZEv 26)) := (Below.refl _ _).alloc (Nat.le_refl _) _
  have h1x := Lib.hid (heap_alloc_new w1 (.cells ZEv 26))
  have hsn : (w1.alloc (.cells ZEv 26)).heap.size = w1.heap.size + 1 := by simp
  have HB2 := Lib.hid (HB1.out.trans (hbn.mono HB1.out.size))
  generalize w1.alloc (.cells ZEv 26) = w2 at hsn h1x HB2 ⊢
  clear h1x hsn hbn
  go_wp2_with (refine wpList_build_as rfl 23 #[] rfl CZ (HBZ.out _) ?_)
  refine (HM0.out _).mono ?_
  rintro e w3 ⟨a0, b0, rfl, h1, h2, hb3⟩
  have hn0 := HN0.out a0 b0
  have E0I := Lib.hid (ev_info 0 0 zeroL (.slice a0 0 0) (.slice b0 0 0) rfl)
  have E0A := Lib.hid (ev_one 0 0 zeroL a0 b0 0 0 0 0)
  have E0Z := Lib.hid (show (evRow 0 0 zeroL (.slice a0 0 0) (.slice b0 0 0)).size = 36 from evRow_size _ _ _ _ _ rfl)
  have E0V := Lib.hid (fun w g h => (⟨rfl, h⟩ : EvAt w g 0 0 zeroL (.slice a0 0 0) (.slice b0 0 0)))
  obtain ⟨E0, hE0⟩ : ∃ E, evRow 0 0 zeroL (.slice a0 0 0) (.slice b0 0 0) = E := ⟨_, rfl⟩
  rw [hE0] at E0I E0A E0Z E0V hn0
  rw [hE0]
  have HNX := Lib.hid hn0
  have HR0 := Lib.hid h1
  have HS0 := Lib.hid h2
  have HB3 := Lib.hid (HB2.out.trans (hb3.mono HB2.out.size))
  clear hE0 hn0 h1 h2 hb3
  go_upto_region 3 with (refine wpList_store_row rfl 26 (.tmp 3) (.tmp 17) rfl w3.heap.size E0 rfl rfl 26 ZEv (heap_alloc_new _ _) E0I.out (by rw [E0Z.out, zev_size]) E0A.out ?_; rw [World.setRow_alloc_new])
  have hbn : Below w3.heap.size w3 (w3.alloc (.cells E0 26)) := (Below.refl _ _).alloc (Nat.le_refl _) _
  have H3 := Lib.hid (heap_alloc_new w3 (.cells E0 26))
  have hsn : (w3.alloc (.cells E0 26)).heap.size = w3.heap.size + 1 := by simp
  have HB4 := Lib.hid (HB3.out.trans (hbn.mono HB3.out.size))
  have HR4 := Lib.hid (HR0.out.kept hbn)
  have HS4 := Lib.hid (HS0.out.kept hbn)
  generalize w3.alloc (.cells E0 26) = w4 at H3 hsn HB4 HR4 HS4 ⊢
  obtain ⟨g3, hg3⟩ : ∃ x, w3.heap.size = x := ⟨_, rfl⟩
  rw [hg3] at H3 hsn
  rw [hg3]
  have HG3 := Lib.hid (show w.heap.size ≤ g3 by have := HB3.out.size; omega)
  have HL4 := Lib.hid (show g3 < w4.heap.size by omega)
  clear hbn hsn hg3
  go_wp2_with (refine wpList_load_row rfl 26 (.tmp 3) rfl g3 rfl 26 E0 (0, 0) _ H3.out Try.underlying26 rfl E0I.out ?_)
  refine (HNX.out _ HR4.out HS4.out).mono ?_
  rintro e w5 ⟨rfl, hb5⟩
  have H35 := Lib.hid ((hb5.block _ HL4.out).trans H3.out)
  have HL5 := Lib.hid (Nat.lt_of_lt_of_le HL4.out hb5.size)
  have HB5 := Lib.hid (HB4.out.trans (hb5.mono HB4.out.size))
  clear hb5
  go_upto_region 4 with (refine wpList_store_row rfl 26 (.tmp 5) (.tmp 22) rfl w5.heap.size ZEv rfl rfl 26 ZEv (heap_alloc_new _ _) zev_info rfl zev_one ?_; rw [World.setRow_alloc_new])
  have hbn : Below w5.heap.size w5 (w5.alloc (.cells ZEv 26)) := (Below.refl _ _).alloc (Nat.le_refl _) _
  have h1x := Lib.hid (heap_alloc_new w5 (.cells ZEv 26))
  have hsn : (w5.alloc (.cells ZEv 26)).heap.size = w5.heap.size + 1 := by simp
  have H36 := Lib.hid ((hbn.block _ HL5.out).trans H35.out)
  have HB6 := Lib.hid (HB5.out.trans (hbn.mono HB5.out.size))
  generalize w5.alloc (.cells ZEv 26) = w6 at hsn h1x H36 HB6 ⊢
  have HL6 := Lib.hid (show g3 < w6.heap.size by have := HL5.out; omega)
  clear h1x hsn hbn
  go_wp2_with fail
  refine (HWK.out _).mono ?_
  rintro e w7 ⟨rfl, hb7⟩
  have H37 := Lib.hid ((hb7.block _ HL6.out).trans H36.out)
  have HL7 := Lib.hid (Nat.lt_of_lt_of_le HL6.out hb7.size)
  have HB7x := Lib.hid (HB6.out.trans (hb7.mono HB6.out.size))
  clear hb7
  go_wp2_with (refine wpList_build_as rfl 23 #[(0, .const (.int .u8 7))] rfl C7 (HB7.out _) ?_)
  refine (HM1.out _).mono ?_
  rintro e w8 ⟨a1, b1, rfl, h1, h2, hb8, h5, h6⟩
  have hn0 := HN1.out a1 b1
  have E1I := Lib.hid (ev_info 1 0 L7 (.slice a1 1 1) (.slice b1 1 1) HLL.out)
  have E1A := Lib.hid (ev_one 1 0 L7 a1 b1 1 1 1 1)
  have E1Z := Lib.hid (show (evRow 1 0 L7 (.slice a1 1 1) (.slice b1 1 1)).size = 36 from evRow_size _ _ _ _ _ HLL.out)
  have E1V := Lib.hid (fun w g h => (⟨HLL.out, h⟩ : EvAt w g 1 0 L7 (.slice a1 1 1) (.slice b1 1 1)))
  obtain ⟨E1, hE1⟩ : ∃ E, evRow 1 0 L7 (.slice a1 1 1) (.slice b1 1 1) = E := ⟨_, rfl⟩
  rw [hE1] at E1I E1A E1Z E1V hn0
  rw [hE1]
  have HNX1 := Lib.hid hn0
  have HR8 := Lib.hid h1
  have HS8 := Lib.hid h2
  have H38 := Lib.hid ((hb8.block _ HL7.out).trans H37.out)
  have HL8 := Lib.hid (Nat.lt_of_lt_of_le HL7.out hb8.size)
  have HB8 := Lib.hid (HB7x.out.trans (hb8.mono HB7x.out.size))
  have HN38 := Lib.hid (fun k (hk : (Value.slice a1 1 1).ownBlock = some k) => show k ≠ g3 by have := h5 k hk; have := HL7.out; omega)
  have HN48 := Lib.hid (fun k (hk : (Value.slice b1 1 1).ownBlock = some k) => show k ≠ g3 by have := h6 k hk; have := HL7.out; omega)
  clear hE1 hn0 h1 h2 hb8 h5 h6
  go_upto_region 7 with (refine wpList_store_row rfl 26 (.tmp 3) (.tmp 41) rfl g3 E1 rfl rfl 26 E0 H38.out E1I.out (by rw [E0Z.out, E1Z.out]) E1A.out ?_)
  have H3s := Lib.hid (setRow_heap w8 g3 _ E1 _ _ H38.out)
  have HRs := Lib.hid (hashes_set (g := g3) HR8.out HN38.out E1)
  have HSs := Lib.hid (hashes_set (g := g3) HS8.out HN48.out E1)
  have HBs := Lib.hid (below_setRow HB8.out HG3.out E1)
  have hls : g3 < (w8.setRow g3 E1).heap.size := by rw [setRow_size]; exact HL8.out
  generalize w8.setRow g3 E1 = w9 at H3s HRs HSs HBs hls ⊢
  have HLs := Lib.hid hls
  clear hls
  go_wp2_with (refine wpList_load_row rfl 26 (.tmp 3) rfl g3 rfl 26 E1 (0, 0) _ H3s.out Try.underlying26 rfl E1I.out ?_)
  refine (HNX1.out _ HRs.out HSs.out).mono ?_
  rintro e w10 ⟨a2, b2, rfl, h1, h2, hb10⟩
  have ENI := Lib.hid (ev_info 1 1 R7 (.slice a2 1 1) (.slice b2 1 1) HLR.out)
  have ENA := Lib.hid (ev_one 1 1 R7 a2 b2 1 1 1 1)
  have ENZ := Lib.hid (show (evRow 1 1 R7 (.slice a2 1 1) (.slice b2 1 1)).size = 36 from evRow_size _ _ _ _ _ HLR.out)
  have ENV := Lib.hid (fun w g h => (⟨HLR.out, h⟩ : EvAt w g 1 1 R7 (.slice a2 1 1) (.slice b2 1 1)))
  obtain ⟨EN, hEN⟩ : ∃ E, evRow 1 1 R7 (.slice a2 1 1) (.slice b2 1 1) = E := ⟨_, rfl⟩
  rw [hEN] at ENI ENA ENZ ENV
  rw [hEN]
  have HRN := Lib.hid h1
  have H310 := Lib.hid ((hb10.block _ HLs.out).trans H3s.out)
  have HR10 := Lib.hid (HRs.out.kept hb10)
  have HL10 := Lib.hid (Nat.lt_of_lt_of_le HLs.out hb10.size)
  have HB10 := Lib.hid (HBs.out.trans (hb10.mono HBs.out.size))
  clear hEN h1 h2 hb10
  go_upto_region 8 with (refine wpList_store_row rfl 26 (.tmp 7) (.tmp 46) rfl w10.heap.size EN rfl rfl 26 ZEv (heap_alloc_new _ _) ENI.out (by rw [ENZ.out, zev_size]) ENA.out ?_; rw [World.setRow_alloc_new])
  have hbn : Below w10.heap.size w10 (w10.alloc (.cells EN 26)) := (Below.refl _ _).alloc (Nat.le_refl _) _
  have H7 := Lib.hid (heap_alloc_new w10 (.cells EN 26))
  have hsn : (w10.alloc (.cells EN 26)).heap.size = w10.heap.size + 1 := by simp
  have H311 := Lib.hid ((hbn.block _ HL10.out).trans H310.out)
  have HR11 := Lib.hid (HR10.out.kept hbn)
  have HRN11 := Lib.hid (HRN.out.kept hbn)
  have HB11 := Lib.hid (HB10.out.trans (hbn.mono HB10.out.size))
  generalize w10.alloc (.cells EN 26) = w11 at H7 hsn H311 HR11 HRN11 HB11 ⊢
  obtain ⟨g7, hg7⟩ : ∃ x, w10.heap.size = x := ⟨_, rfl⟩
  rw [hg7] at H7 hsn
  rw [hg7]
  have HL11 := Lib.hid (show g3 < w11.heap.size by have := HL10.out; omega)
  clear hbn hsn hg7
  have hA := E1V.out _ _ H311.out
  have hB := ENV.out _ _ H7.out
  have a34 := hA.c34
  have b34 := hB.c34
  have HLF3 := Lib.hid hA.lf
  have HLF7 := Lib.hid hB.lf
  obtain ⟨ga, oa, ha1, hra⟩ := hashes_cellE HR11.out 0 R7 rfl
  obtain ⟨gb, ob, ha2, hrb⟩ := hashes_cellE HRN11.out 0 zeroL rfl
  rw [ha1] at a34
  rw [ha2] at b34
  have HRA := Lib.hid hra
  have HRB := Lib.hid hrb
  have r34 := cell_regrown a34
  have q34 := cell_regrown b34
  clear hA hB hra hrb ha1 ha2
  refine wp_region_quiet_below (by kernel_rfl) (by kernel_rfl) ?_
  quiet_step (fail)
  quiet_step (fail)
  quiet_step (fail)
  quiet_step (fail)
  quiet_step (fail)
  quiet_step (fail)
  quiet_step (fail)
  quiet_step (fail)
  (refine wpQuiet_step (fun K hK => ?_); rw [if_pos (by rfl)]; refine quiet_load_mid 23 (.tmp 55) rfl g3 2 (by simp [Act.eval]) (valsB L7) _ HLF3.out Try.underlying23 rfl HIL.out ?_; rw [HCL.out]; refine hK _ ?_; clear hK K)
  (refine wpQuiet_step (fun K hK => ?_); rw [if_pos (by rfl)]; refine quiet_build 23 #[(0, .const (.int .u8 7))] rfl C7 (HB7.out _) ?_; refine hK _ ?_; clear hK K)
  quiet_step (exact Calls.regrown_of (HLEFT.out _))
  quiet_step (fail)
  quiet_step (fail)
  quiet_step (fail)
  quiet_step (fail)
  quiet_step (fail)
  quiet_step (fail)
  quiet_step (fail)
  quiet_step (fail)
  quiet_step (fail)
  quiet_step (fail)
  quiet_step (fail)
  quiet_step (fail)
  (refine wpQuiet_step (fun K hK => ?_); rw [if_pos (by rfl)]; refine quiet_load_mid 23 (.tmp 70) rfl ga (oa + 0 * 32) (by simp [Act.eval]) (valsB R7) _ HRA.out Try.underlying23 rfl HIR.out ?_; rw [HCR.out]; refine hK _ ?_; clear hK K)
  (refine wpQuiet_step (fun K hK => ?_); rw [if_pos (by rfl)]; refine quiet_build 23 #[(0, .const (.int .u8 7))] rfl C7 (HB7.out _) ?_; refine hK _ ?_; clear hK K)
  quiet_step (exact Calls.regrown_of (HRIGHT.out _))
  quiet_step (fail)
  quiet_step (fail)
  quiet_step (fail)
  quiet_step (fail)
  (refine wpQuiet_step (fun K hK => ?_); rw [if_pos (by rfl)]; refine quiet_load_mid 23 (.tmp 77) rfl g7 2 (by simp [Act.eval]) (valsB R7) _ HLF7.out Try.underlying23 rfl HIR.out ?_; rw [HCR.out]; refine hK _ ?_; clear hK K)
  quiet_step (fail)
  quiet_step (fail)
  quiet_step (fail)
  (refine wpQuiet_step (fun K hK => ?_); rw [if_pos (by rfl)]; refine quiet_load_mid 23 (.tmp 81) rfl ga (oa + 0 * 32) (by simp [Act.eval]) (valsB R7) _ HRA.out Try.underlying23 rfl HIR.out ?_; rw [HCR.out]; refine hK _ ?_; clear hK K)
  quiet_step (fail)
  quiet_step (fail)
  quiet_step (fail)
  quiet_step (fail)
  quiet_step (fail)
  quiet_step (fail)
  quiet_step (fail)
  quiet_step (fail)
  quiet_step (fail)
  quiet_step (fail)
  quiet_step (fail)
  quiet_step (fail)
  (refine wpQuiet_step (fun K hK => ?_); rw [if_pos (by rfl)]; refine quiet_load_mid 23 (.tmp 94) rfl gb (ob + 0 * 32) (by simp [Act.eval]) (valsB zeroL) _ HRB.out Try.underlying23 rfl HIZ.out ?_; rw [HCZ.out]; refine hK _ ?_; clear hK K)
  (refine wpQuiet_step (fun K hK => ?_); rw [if_pos (by rfl)]; refine quiet_build 23 #[] rfl CZ (HBZ.out _) ?_; refine hK _ ?_; clear hK K)
  quiet_step (fail)
  quiet_step (fail)
  refine wpQuiet_nil ?_
  intro _ hw'
  obtain ⟨⟨dq, osq⟩, hw''⟩ := hw'
  subst hw''
  have hbq := below_regrown w11 dq osq
  dsimp only
  generalize Sort.grow (redrawn w11 dq) osq = w12 at hbq ⊢
  have H312 := Lib.hid ((hbq.block _ HL11.out).trans H311.out)
  have HL12 := Lib.hid (Nat.lt_of_lt_of_le HL11.out hbq.size)
  have HB12 := Lib.hid (HB11.out.trans (hbq.mono HB11.out.size))
  clear r34 q34 a34 b34 hbq HE1 HE2 HE3
  go_wp2_with (refine wpList_build_as rfl 23 #[(0, .const (.int .u8 7))] rfl C7 (HB7.out _) ?_)
  refine (HM3.out _).mono ?_
  rintro e w13 ⟨a3, b3, rfl, h1, h2, hb13, h5, h6⟩
  have hn0 := HSG3.out a3 b3
  have E3I := Lib.hid (ev_info 3 0 T3 (.slice a3 3 3) (.slice b3 3 3) HT3L.out)
  have E3A := Lib.hid (ev_one 3 0 T3 a3 b3 3 3 3 3)
  have E3Z := Lib.hid (show (evRow 3 0 T3 (.slice a3 3 3) (.slice b3 3 3)).size = 36 from evRow_size _ _ _ _ _ HT3L.out)
  have E3V := Lib.hid (fun w g h => (⟨HT3L.out, h⟩ : EvAt w g 3 0 T3 (.slice a3 3 3) (.slice b3 3 3)))
  obtain ⟨E3, hE3⟩ : ∃ E, evRow 3 0 T3 (.slice a3 3 3) (.slice b3 3 3) = E := ⟨_, rfl⟩
  rw [hE3] at E3I E3A E3Z E3V hn0
  rw [hE3]
  have HNX3 := Lib.hid hn0
  have HR13 := Lib.hid h1
  have HS13 := Lib.hid h2
  have H313 := Lib.hid ((hb13.block _ HL12.out).trans H312.out)
  have HL13 := Lib.hid (Nat.lt_of_lt_of_le HL12.out hb13.size)
  have HB13 := Lib.hid (HB12.out.trans (hb13.mono HB12.out.size))
  have HN33 := Lib.hid (fun k (hk : (Value.slice a3 3 3).ownBlock = some k) => show k ≠ g3 by have := h5 k hk; have := HL12.out; omega)
  have HN43 := Lib.hid (fun k (hk : (Value.slice b3 3 3).ownBlock = some k) => show k ≠ g3 by have := h6 k hk; have := HL12.out; omega)
  clear hE3 hn0 h1 h2 hb13 h5 h6 H3s HRs HSs HBs HLs
  go_upto_region 11 with (refine wpList_store_row rfl 26 (.tmp 3) (.tmp 102) rfl g3 E3 rfl rfl 26 E1 H313.out E3I.out (by rw [E1Z.out, E3Z.out]) E3A.out ?_)
  have H3s := Lib.hid (setRow_heap w13 g3 _ E3 _ _ H313.out)
  have HRs := Lib.hid (hashes_set (g := g3) HR13.out HN33.out E3)
  have HSs := Lib.hid (hashes_set (g := g3) HS13.out HN43.out E3)
  have HBs := Lib.hid (below_setRow HB13.out HG3.out E3)
  have hls : g3 < (w13.setRow g3 E3).heap.size := by rw [setRow_size]; exact HL13.out
  generalize w13.setRow g3 E3 = w14 at H3s HRs HSs HBs hls ⊢
  have HLs := Lib.hid hls
  clear hls
  go_wp2_with (first
    | (refine wpList_load_row rfl 26 (.tmp 3) rfl g3 rfl 26 E3 (0, 0) _ H3s.out Try.underlying26 rfl E3I.out ?_)
    | (refine wpList_build_as rfl 23 #[] rfl CZ (HBZ.out _) ?_))
  refine (HNX3.out _ HRs.out HSs.out).mono ?_
  rintro e w15 ⟨rfl, hb15⟩
  have HB15 := Lib.hid (HBs.out.trans (hb15.mono HBs.out.size))
  clear hb15
  go_wp2_with fail
  go_ret
  exact ⟨rfl, HB15.out⟩
end Go.Proofs.Ytpifjeghoapjbaa.Evolve
