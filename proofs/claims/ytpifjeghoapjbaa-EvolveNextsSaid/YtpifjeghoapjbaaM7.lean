/- evolve: the code's Public. -/
import Derived.Test.YtpifjeghoapjbaaEwE
import Derived.Test.YtpifjeghoapjbaaEvJ
import Derived.Test.YtpifjeghoapjbaaEwK
namespace Go.Proofs.Ytpifjeghoapjbaa.Evolve
open Go.RowKit Go.Proofs.Ytpifjeghoapjbaa.Sha Go.Proofs.Ytpifjeghoapjbaa.Tree Go.Proofs.Ytpifjeghoapjbaa.Once

set_option maxRecDepth 100000 in
set_option maxHeartbeats 3200000 in
theorem code_PublicE_no (d p : Int) (leaf : List UInt8) (hl : leaf.length = 32) (ar as_ : Option Addr) (nr cr ns cs : Nat) (R : List (List UInt8)) (w : World) (hR : Hashes w (.slice ar nr cr) R) (h32 : H32 R) (hno : ¬ mayP d p R ns) :
    Calls Try.prog 21 #[.agg (evRow d p leaf (.slice ar nr cr) (.slice as_ ns cs))] w fun e w' => e = .returned (.tuple #[.agg (valsB zeroL).toArray, .int .i64 2]) ∧ Below w.heap.size w w' := by
  have HM := Lib.hid (fun w' (h : Below w.heap.size w w') => code_May d p leaf hl ar as_ nr cr ns cs R w' (hR.kept h) h32 false (by simp [hno]))
  have HEI := Lib.hid (ev_info d p leaf (.slice ar nr cr) (.slice as_ ns cs) hl)
  obtain ⟨E, hE⟩ : ∃ E, evRow d p leaf (.slice ar nr cr) (.slice as_ ns cs) = E := ⟨_, rfl⟩
  rw [hE] at HM HEI
  rw [hE]
  clear hE hR h32 hno
  go_enter Try.func21, Try.ntmps21
  go_upto_region 1 with (fail)
  rw [zero32]
  obtain ⟨Z, hZ⟩ : ∃ Z, (List.replicate 32 (Value.int .u8 0)).toArray = Z := ⟨_, rfl⟩
  have HZZ := Lib.hid (show Z.size = 32 by rw [← hZ]; rfl)
  rw [hZ]
  clear hZ
  have HA0 := Lib.hid (heap_alloc2_old w (.cells E 26) (.cells Z 23))
  have HA1 := Lib.hid (heap_alloc2_new w (.cells E 26) (.cells Z 23))
  have HBW := Lib.hid (show Below w.heap.size w ((w.alloc (.cells E 26)).alloc (.cells Z 23)) from ((Below.refl _ _).alloc (Nat.le_refl _) _).alloc (by simp) _)
  have hs0 : ((w.alloc (.cells E 26)).alloc (.cells Z 23)).heap.size = w.heap.size + 2 := by simp
  generalize ((w.alloc (.cells E 26)).alloc (.cells Z 23)) = W at HA0 HA1 HBW hs0 ⊢
  obtain ⟨g1, hg1⟩ : ∃ x, w.heap.size = x := ⟨_, rfl⟩
  obtain ⟨g2, hg2⟩ : ∃ x, g1 + 1 = x := ⟨_, rfl⟩
  rw [hg1] at HA0 HA1 HBW hs0
  rw [hg2] at HA1
  rw [hg1, hg2]
  have HGE := Lib.hid hg1
  have HLT := Lib.hid (show g1 < g2 ∧ g2 < W.heap.size by omega)
  clear hg1 hg2 hs0
  go_wp2_with (refine wpList_load_row rfl 26 (.tmp 1) rfl g1 rfl 26 E (0, 0) _ HA0.out Try.underlying26 rfl HEI.out ?_)
  refine (HM.out _ (HGE.out ▸ HBW.out)).mono ?_
  rintro e w3 ⟨rfl, hb3⟩
  have H2 := Lib.hid ((hb3.block _ HLT.out.2).trans HA1.out)
  have HB := Lib.hid (HBW.out.trans (hb3.mono (by have := HLT.out; omega)))
  have HZS := Lib.hid (show Z.size = zeroB.size by rw [HZZ.out]; rfl)
  clear hb3
  go_wp2_with (first
    | (refine wpList_build_as rfl 23 #[] rfl zeroB (by kernel_rfl) ?_)
    | (refine wpList_store_row rfl 23 (.tmp 2) (.tmp 9) rfl g2 zeroB rfl rfl 23 Z H2.out zeroB_info HZS.out (by kernel_rfl) ?_))
  refine bodyPost_ret (Sha.results_cell_tmp (p := 2) (t := 3) (ty := 23) Try.results21 _ _ g2 23 zeroB (0, 0) _ _ rfl rfl (setRow_heap _ _ _ _ _ _ H2.out) Try.underlying23 rfl zeroB_info) rfl ⟨rfl, HGE.out ▸ below_setRow HB.out (by have := HLT.out; omega) _⟩

set_option maxRecDepth 100000 in
set_option maxHeartbeats 6400000 in
theorem code_PublicE (d p : Nat) (hd : d ≤ 4) (hp : p < 2 ^ d) (leaf : List UInt8) (hl : leaf.length = 32) (ar as_ : Option Addr) (cr cs : Nat) (R S : List (List UInt8)) (w : World) (hR : Hashes w (.slice ar d cr) R) (h32 : H32 R) (hS : Hashes w (.slice as_ d cs) S) (h32S : H32 S) (hm : ∀ i, i < d → rightAt d p i = true → R.getD i [] = zeroL) :
    Calls Try.prog 21 #[.agg (evRow d p leaf (.slice ar d cr) (.slice as_ d cs))] w fun e w' => e = .returned (.tuple #[.agg (valsB (overE (digitsE d p) S 0 d (pubK leaf))).toArray, .int .i64 0]) ∧ Below w.heap.size w w' := by
  have HM := Lib.hid (fun w' (h : Below w.heap.size w w') => code_May_in d p hd hp leaf hl ar as_ cr cs R w' (hR.kept h) h32 true (by simpa using hm))
  have HEI := Lib.hid (ev_info d p leaf (.slice ar d cr) (.slice as_ d cs) hl)
  have HEV := Lib.hid (fun w g h => (⟨hl, h⟩ : EvAt w g d p leaf (.slice ar d cr) (.slice as_ d cs)))
  have hp16 : p < 16 := Nat.lt_of_lt_of_le hp (Nat.le_trans (Nat.pow_le_pow_right (by omega) hd) (by decide))
  have hSL := hashes_form hS
  have HS := Lib.hid hS
  have HH32 := Lib.hid h32S
  have HSL := Lib.hid hSL
  have HIL := Lib.hid (info_len leaf hl)
  have HBH := Lib.hid (fun w h => code_behind d p hd hp16 leaf hl (.slice ar d cr) as_ cs S 0 (by omega) w h h32S)
  have HRE := Lib.hid (row32 (overE (digitsE d p) S 0 d (pubK leaf)) (overE_len _ _ _ _ _ (pubK_len leaf)))
  obtain ⟨CE, hCE⟩ : ∃ C, (valsB (overE (digitsE d p) S 0 d (pubK leaf))).toArray = C := ⟨_, rfl⟩
  rw [hCE] at HBH HRE
  rw [hCE]
  clear hCE
  obtain ⟨E, hE⟩ : ∃ E, evRow d p leaf (.slice ar d cr) (.slice as_ d cs) = E := ⟨_, rfl⟩
  rw [hE] at HM HEI HEV HBH
  rw [hE]
  clear hE hR h32 hS h32S hm hSL
  go_enter Try.func21, Try.ntmps21
  go_upto_region 1 with (fail)
  rw [zero32]
  obtain ⟨Z, hZ⟩ : ∃ Z, (List.replicate 32 (Value.int .u8 0)).toArray = Z := ⟨_, rfl⟩
  have HZZ := Lib.hid (show Z.size = 32 by rw [← hZ]; rfl)
  rw [hZ]
  clear hZ
  have HA0 := Lib.hid (heap_alloc2_old w (.cells E 26) (.cells Z 23))
  have HA1 := Lib.hid (heap_alloc2_new w (.cells E 26) (.cells Z 23))
  have HBW := Lib.hid (show Below w.heap.size w ((w.alloc (.cells E 26)).alloc (.cells Z 23)) from ((Below.refl _ _).alloc (Nat.le_refl _) _).alloc (by simp) _)
  have hs0 : ((w.alloc (.cells E 26)).alloc (.cells Z 23)).heap.size = w.heap.size + 2 := by simp
  generalize ((w.alloc (.cells E 26)).alloc (.cells Z 23)) = W at HA0 HA1 HBW hs0 ⊢
  obtain ⟨g1, hg1⟩ : ∃ x, w.heap.size = x := ⟨_, rfl⟩
  obtain ⟨g2, hg2⟩ : ∃ x, g1 + 1 = x := ⟨_, rfl⟩
  rw [hg1] at HA0 HA1 HBW hs0
  rw [hg2] at HA1
  rw [hg1, hg2]
  have HGE := Lib.hid hg1
  have HLT := Lib.hid (show g1 < g2 ∧ g2 < W.heap.size by omega)
  clear hg1 hg2 hs0
  go_wp2_with (refine wpList_load_row rfl 26 (.tmp 1) rfl g1 rfl 26 E (0, 0) _ HA0.out Try.underlying26 rfl HEI.out ?_)
  refine (HM.out _ (HGE.out ▸ HBW.out)).mono ?_
  rintro e w3 ⟨rfl, hb3⟩
  have H2 := Lib.hid ((hb3.block _ HLT.out.2).trans HA1.out)
  have H1 := Lib.hid ((hb3.block _ (Nat.lt_trans HLT.out.1 HLT.out.2)).trans HA0.out)
  have HB := Lib.hid (HBW.out.trans (hb3.mono (by have := HLT.out; omega)))
  have HZS := Lib.hid (show Z.size = CE.size by rw [HZZ.out, HRE.out.size])
  have HL3 := Lib.hid (show g2 < w3.heap.size from Nat.lt_of_lt_of_le HLT.out.2 hb3.size)
  clear hb3
  go_wp2_with (refine wpList_load_row rfl 26 (.tmp 1) rfl g1 rfl 26 E (0, 0) _ H1.out Try.underlying26 rfl HEI.out ?_)
  refine (HBH.out _ (HS.out.kept (HGE.out ▸ HB.out))).mono ?_
  rintro e w4 ⟨rfl, hb4⟩
  have HX2 := Lib.hid ((hb4.block _ HL3.out).trans H2.out)
  have HX := Lib.hid (HB.out.trans (hb4.mono (by have := HLT.out; have := HL3.out; omega)))
  clear hb4
  go_wp2_with (refine wpList_store_row rfl 23 (.tmp 2) (.tmp 12) rfl g2 CE rfl rfl 23 Z HX2.out HRE.out.info HZS.out HRE.out.one ?_)
  refine bodyPost_ret (Sha.results_cell_tmp (p := 2) (t := 3) (ty := 23) Try.results21 _ _ g2 23 CE (0, 0) _ _ rfl rfl (setRow_heap _ _ _ _ _ _ HX2.out) Try.underlying23 rfl HRE.out.info) rfl ⟨rfl, HGE.out ▸ below_setRow HX.out (by have := HLT.out; omega) _⟩

end Go.Proofs.Ytpifjeghoapjbaa.Evolve

namespace Go.Proofs.Ytpifjeghoapjbaa.Evolve
open Go.RowKit Go.Proofs.Ytpifjeghoapjbaa.Sha Go.Proofs.Ytpifjeghoapjbaa.Tree Go.Proofs.Ytpifjeghoapjbaa.Once

set_option maxRecDepth 100000 in
set_option maxHeartbeats 3200000 in
theorem code_Make_no (seed : List UInt8) (d : Int) (hd : ¬ depthP d) (w : World) :
    Calls Try.prog 10 #[.agg (valsB seed).toArray, .int .i64 d] w fun e w' => e = .returned (.tuple #[.agg (evRow 0 0 zeroL (.slice none 0 0) (.slice none 0 0)), .int .i64 2]) ∧ Below w.heap.size w w' := by
  have HI := Lib.hid (fun w => code_isDepth d w)
  rw [show decide (depthP d) = false by simp [hd]] at HI
  obtain ⟨C, hC⟩ : ∃ C, (valsB seed).toArray = C := ⟨_, rfl⟩
  rw [hC]
  clear hC hd
  go_enter Try.func10, Try.ntmps10
  go_upto_region 1 with (fail)
  rw [show #[Value.int .i64 0, Value.int .i64 0, Value.int .u8 0, Value.int .u8 0, Value.int .u8 0, Value.int .u8 0, Value.int .u8 0, Value.int .u8 0, Value.int .u8 0, Value.int .u8 0, Value.int .u8 0, Value.int .u8 0, Value.int .u8 0, Value.int .u8 0, Value.int .u8 0, Value.int .u8 0, Value.int .u8 0, Value.int .u8 0, Value.int .u8 0, Value.int .u8 0, Value.int .u8 0, Value.int .u8 0, Value.int .u8 0, Value.int .u8 0, Value.int .u8 0, Value.int .u8 0, Value.int .u8 0, Value.int .u8 0, Value.int .u8 0, Value.int .u8 0, Value.int .u8 0, Value.int .u8 0, Value.int .u8 0, Value.int .u8 0, Value.slice none 0 0, Value.slice none 0 0] = evRow 0 0 zeroL (.slice none 0 0) (.slice none 0 0) from rfl]
  have HE0 := Lib.hid (evRow_size 0 0 zeroL (.slice none 0 0) (.slice none 0 0) rfl)
  obtain ⟨ZE, hZE⟩ : ∃ Z, evRow 0 0 zeroL (.slice none 0 0) (.slice none 0 0) = Z := ⟨_, rfl⟩
  rw [hZE] at HE0
  rw [hZE]
  have HZE := Lib.hid hZE
  clear hZE
  have HA0 := Lib.hid (heap_alloc2_old w (.cells C 23) (.cells ZE 26))
  have HA1 := Lib.hid (heap_alloc2_new w (.cells C 23) (.cells ZE 26))
  have HBW := Lib.hid (show Below w.heap.size w ((w.alloc (.cells C 23)).alloc (.cells ZE 26)) from ((Below.refl _ _).alloc (Nat.le_refl _) _).alloc (by simp) _)
  have hs0 : ((w.alloc (.cells C 23)).alloc (.cells ZE 26)).heap.size = w.heap.size + 2 := by simp
  generalize ((w.alloc (.cells C 23)).alloc (.cells ZE 26)) = W at HA0 HA1 HBW hs0 ⊢
  obtain ⟨g2, hg2⟩ : ∃ x, w.heap.size = x := ⟨_, rfl⟩
  obtain ⟨g4, hg4⟩ : ∃ x, g2 + 1 = x := ⟨_, rfl⟩
  rw [hg2] at HA0 HA1 HBW hs0
  rw [hg4] at HA1
  rw [hg2, hg4]
  have HGE := Lib.hid hg2
  have HLT := Lib.hid (show g2 < g4 ∧ g4 < W.heap.size by omega)
  clear hg2 hg4 hs0
  have HBE := Lib.hid (fun a : Act => (show Try.prog.built 26 ((#[] : Array (Nat × Operand)).map fun (i, x) => (i, a.eval x)).toList = some ZE by rw [← HZE.out]; kernel_rfl))
  have HEI := Lib.hid (show (Try.prog.info? 26).map (·.size) = some ZE.size by rw [HE0.out]; exact info_ev)
  have HEA := Lib.hid (show ZE.all (·.oneCell') = true by rw [← HZE.out]; exact ev_one _ _ _ _ _ _ _ _ _)
  go_wp2_with fail
  refine (HI.out _).mono ?_
  rintro e w3 ⟨rfl, rfl⟩
  go_wp2_with (first
    | (refine wpList_build_as rfl 26 #[] rfl ZE (HBE.out _) ?_)
    | (refine wpList_store_row rfl 26 (.tmp 4) (.tmp 9) rfl g4 ZE rfl rfl 26 ZE HA1.out HEI.out rfl HEA.out ?_))
  refine bodyPost_ret (Sha.results_cell_tmp (p := 4) (t := 5) (ty := 26) Try.results10 _ _ g4 26 ZE (0, 0) _ _ rfl rfl (setRow_heap _ _ _ _ _ _ HA1.out) Try.underlying26 rfl HEI.out) rfl ⟨by rw [HZE.out]; rfl, HGE.out ▸ below_setRow HBW.out (by have := HLT.out; omega) _⟩

set_option maxRecDepth 100000 in
set_option maxHeartbeats 3200000 in
theorem code_Make (seed : List UInt8) (hs : seed.length = 32) (d : Nat) (hd : d ≤ 4) (w : World) :
    Calls Try.prog 10 #[.agg (valsB seed).toArray, .int .i64 d] w fun e w' => ∃ ar as_, e = .returned (.tuple #[.agg (evRow d 0 (firstT d 0 seed [] [] d).1 (.slice ar d d) (.slice as_ d d)), .int .i64 0]) ∧ Hashes w' (.slice ar d d) (firstT d 0 seed [] [] d).2.1 ∧ Hashes w' (.slice as_ d d) (firstT d 0 seed [] [] d).2.2 ∧ Below w.heap.size w w' := by
  have HI := Lib.hid (fun w => code_isDepth (d : Int) w)
  rw [show decide (depthP (d : Int)) = true by simp [depthP]; omega] at HI
  have HFI := Lib.hid (fun w => code_toFirst d 0 0 hd (by omega) zeroL rfl seed hs w.heap.size (.slice none 0 0) (.slice none 0 0) [] [] rfl rfl w (Nat.le_refl _) (OwnH.nil _ _) (OwnH.nil _ _) (fun k hk => by simp [Value.ownBlock] at hk))
  have HRC := Lib.hid (row32 seed hs)
  have hfl := firstT_len d 0 seed [] [] hs d
  obtain ⟨⟨T, R, S⟩, hT⟩ : ∃ t, firstT d 0 seed [] [] d = t := ⟨_, rfl⟩
  rw [Nat.sub_zero, hT] at HFI
  rw [hT] at hfl
  rw [hT]
  have HTL := Lib.hid hfl.1
  obtain ⟨C, hC⟩ : ∃ C, (valsB seed).toArray = C := ⟨_, rfl⟩
  rw [hC] at HRC HFI
  rw [hC]
  obtain ⟨E, hE⟩ : ∃ E, evRow d 0 zeroL (.slice none 0 0) (.slice none 0 0) = E := ⟨_, rfl⟩
  rw [hE] at HFI
  have HEB := Lib.hid (fun a : Act => fun (h1 : a.eval (.tmp 10) = .int .i64 d) => (show Try.prog.built 26 ((#[(0, .tmp 10)] : Array (Nat × Operand)).map fun (i, x) => (i, a.eval x)).toList = some E by
    simp only [List.map_toArray, List.map_cons, List.map_nil, h1]
    rw [← hE]
    kernel_rfl))
  clear hC hE hT hfl
  go_enter Try.func10, Try.ntmps10
  go_upto_region 1 with (fail)
  rw [show #[Value.int .i64 0, Value.int .i64 0, Value.int .u8 0, Value.int .u8 0, Value.int .u8 0, Value.int .u8 0, Value.int .u8 0, Value.int .u8 0, Value.int .u8 0, Value.int .u8 0, Value.int .u8 0, Value.int .u8 0, Value.int .u8 0, Value.int .u8 0, Value.int .u8 0, Value.int .u8 0, Value.int .u8 0, Value.int .u8 0, Value.int .u8 0, Value.int .u8 0, Value.int .u8 0, Value.int .u8 0, Value.int .u8 0, Value.int .u8 0, Value.int .u8 0, Value.int .u8 0, Value.int .u8 0, Value.int .u8 0, Value.int .u8 0, Value.int .u8 0, Value.int .u8 0, Value.int .u8 0, Value.int .u8 0, Value.int .u8 0, Value.slice none 0 0, Value.slice none 0 0] = evRow 0 0 zeroL (.slice none 0 0) (.slice none 0 0) from rfl]
  have HE0 := Lib.hid (evRow_size 0 0 zeroL (.slice none 0 0) (.slice none 0 0) rfl)
  obtain ⟨ZE, hZE⟩ : ∃ Z, evRow 0 0 zeroL (.slice none 0 0) (.slice none 0 0) = Z := ⟨_, rfl⟩
  rw [hZE] at HE0
  rw [hZE]
  have HZE := Lib.hid hZE
  clear hZE
  have HA0 := Lib.hid (heap_alloc2_old w (.cells C 23) (.cells ZE 26))
  have HA1 := Lib.hid (heap_alloc2_new w (.cells C 23) (.cells ZE 26))
  have HBW := Lib.hid (show Below w.heap.size w ((w.alloc (.cells C 23)).alloc (.cells ZE 26)) from ((Below.refl _ _).alloc (Nat.le_refl _) _).alloc (by simp) _)
  have hs0 : ((w.alloc (.cells C 23)).alloc (.cells ZE 26)).heap.size = w.heap.size + 2 := by simp
  generalize ((w.alloc (.cells C 23)).alloc (.cells ZE 26)) = W at HA0 HA1 HBW hs0 ⊢
  obtain ⟨g2, hg2⟩ : ∃ x, w.heap.size = x := ⟨_, rfl⟩
  obtain ⟨g4, hg4⟩ : ∃ x, g2 + 1 = x := ⟨_, rfl⟩
  rw [hg2] at HA0 HA1 HBW hs0
  rw [hg4] at HA1
  rw [hg2, hg4]
  have HGE := Lib.hid hg2
  have HLT := Lib.hid (show g2 < g4 ∧ g4 < W.heap.size by omega)
  clear hg2 hg4 hs0
  go_wp2_with fail
  refine (HI.out _).mono ?_
  rintro e w3 ⟨rfl, rfl⟩
  go_wp2_with (first
    | (refine wpList_build_as rfl 26 #[(0, .tmp 10)] rfl E (HEB.out _ rfl) ?_)
    | (refine wpList_load_row rfl 23 (.tmp 2) rfl g2 rfl 23 C (0, 0) _ HA0.out Try.underlying23 rfl HRC.out.info ?_))
  refine (HFI.out _).mono ?_
  rintro e w4 ⟨ar, as_, rfl, h1, h2, hb4, h5, h6⟩
  have HEI := Lib.hid (ev_info d 0 T (.slice ar d d) (.slice as_ d d) HTL.out)
  have HEA := Lib.hid (ev_one d 0 T ar as_ d d d d)
  have HEZ := Lib.hid (show ZE.size = (evRow d 0 T (.slice ar d d) (.slice as_ d d)).size by rw [HE0.out, evRow_size _ _ _ _ _ HTL.out])
  obtain ⟨EV, hEV⟩ : ∃ E, evRow d 0 T (.slice ar d d) (.slice as_ d d) = E := ⟨_, rfl⟩
  rw [hEV] at HEI HEA HEZ
  rw [hEV]
  have HEV := Lib.hid hEV
  have HR := Lib.hid h1
  have HS := Lib.hid h2
  have H4 := Lib.hid ((hb4.block g4 HLT.out.2).trans HA1.out)
  have HB4 := Lib.hid (HBW.out.trans (hb4.mono (by have := HLT.out; omega)))
  have HRB := Lib.hid (show ∀ k, (Value.slice ar d d).ownBlock = some k → k ≠ g4 from fun k hk => by have := h5 k hk; have := HLT.out; omega)
  have HSB := Lib.hid (show ∀ k, (Value.slice as_ d d).ownBlock = some k → k ≠ g4 from fun k hk => by have := h6 k hk; have := HLT.out; omega)
  clear h1 h2 hb4 hEV h5 h6
  go_wp2_with (refine wpList_store_row rfl 26 (.tmp 4) (.tmp 13) rfl g4 EV rfl rfl 26 ZE H4.out HEI.out HEZ.out HEA.out ?_)
  refine bodyPost_ret (Sha.results_cell_tmp (p := 4) (t := 5) (ty := 26) Try.results10 _ _ g4 26 EV (0, 0) _ _ rfl rfl (setRow_heap _ _ _ _ _ _ H4.out) Try.underlying26 rfl HEI.out) rfl ⟨ar, as_, by rw [HEV.out]; rfl, hashes_set HR.out (fun k hk => HRB.out k hk) EV, hashes_set HS.out (fun k hk => HSB.out k hk) EV, HGE.out ▸ below_setRow HB4.out (by have := HLT.out; omega) _⟩

end Go.Proofs.Ytpifjeghoapjbaa.Evolve
