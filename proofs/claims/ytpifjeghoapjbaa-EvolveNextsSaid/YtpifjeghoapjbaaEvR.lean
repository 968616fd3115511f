/- evolve: works: a key goes on, and signs. -/
import Derived.Test.YtpifjeghoapjbaaEwG
import Derived.Test.YtpifjeghoapjbaaEwI
import Derived.Test.YtpifjeghoapjbaaEvP
namespace Go.Proofs.Ytpifjeghoapjbaa.Evolve
open Go.RowKit Go.Proofs.Ytpifjeghoapjbaa.Sha Go.Proofs.Ytpifjeghoapjbaa.Tree Go.Proofs.Ytpifjeghoapjbaa.Once

theorem quiet_build {P : Program} {op : Oper} {a : Act} {W : World} {K : Act → Prop} (t : TypeId) (parts : Array (Nat × Operand)) (ho : op.op = .build t parts) (C : Array Value) (hf : P.built t (parts.map fun (i, x) => (i, a.eval x)).toList = some C)
    (h : K (a.put op.dst (.agg C))) : op.quiet P a (fun w' => ∃ p : Regrown, w' = Sort.grow (redrawn W p.d) p.os) K := by
  refine ⟨.agg C, ?_, h⟩
  rintro w' ⟨p, rfl⟩
  unfold Oper.quietAt execOp
  simp only [ho, Sem.run_bind, Sem.run_pure, Result.andThen_ok, run_build _ t _ C hf]
  exact ⟨rfl, rfl⟩
def twoL : List UInt8 := 2 :: List.replicate 31 0
theorem twoL_len : twoL.length = 32 := rfl
theorem key_10 (s : List UInt8) : keyP 1 0 s = (leftF s, [rightF s], [pubK (rightF s)]) := by simp [keyP, keyT, digitsE, digE, rootE]
theorem key_11 (s : List UInt8) : keyP 1 1 s = (rightF s, [zeroL], [pubK (leftF s)]) := by simp [keyP, keyT, digitsE, digE, rootE]
/-- The zero key's block, and what a key's block must be for a store. -/
def ZEv : Array Value := evRow 0 0 zeroL (.slice none 0 0) (.slice none 0 0)
theorem zev_size : ZEv.size = 36 := evRow_size _ _ _ _ _ rfl
/-- A key that may be, in a world. -/
structure KeyIn (w : World) (v : Value) (d p : Nat) (leaf : List UInt8) (R S : List (List UInt8)) : Prop where
  val : ∃ a b c1 c2, v = .agg (evRow d p leaf (.slice a d c1) (.slice b d c2)) ∧ d ≤ c1 ∧ d ≤ c2 ∧ Hashes w (.slice a d c1) R ∧ Hashes w (.slice b d c2) S
  len : leaf.length = 32
  r32 : H32 R
  s32 : H32 S

theorem sums_ne : (sumF (pubK (rightF oneL)) (pubK (leftF oneL)) == rootE 1 oneL) = false := by
  have h := sums_differ
  have e : rootE 1 oneL = sumF (pubK (leftF oneL)) (pubK (rightF oneL)) := by simp only [rootE]
  rw [e]
  simpa using h

set_option maxRecDepth 100000 in
set_option maxHeartbeats 12800000 in
theorem works_any (w : World) :
    Calls Try.prog 12 #[] w fun e w' => e = .returned (.bool true) ∧ Below w.heap.size w w' := by
  have hone : oneL.length = 32 := rfl
  have hmk := fun w => code_Make oneL hone 1 (by omega) w
  rw [keyP_first oneL 1 (by omega), key_10] at hmk
  have HMK := Lib.hid (show ∀ w, Calls Try.prog 10 #[.agg (valsB oneL).toArray, .int .i64 1] w fun e w' => ∃ a b, e = .returned (.tuple #[.agg (evRow 1 0 (leftF oneL) (.slice a 1 1) (.slice b 1 1)), .int .i64 0]) ∧ Hashes w' (.slice a 1 1) [rightF oneL] ∧ Hashes w' (.slice b 1 1) [pubK (rightF oneL)] ∧ Below w.heap.size w w' from hmk)
  have hl0 : (leftF oneL).length = 32 := rfl
  have hr0 : (rightF oneL).length = 32 := rfl
  have h32R : H32 [rightF oneL] := fun y hy => by simp at hy; subst hy; rfl
  have h32S : H32 [pubK (rightF oneL)] := fun y hy => by simp at hy; subst hy; exact pubK_len _
  have h32N : H32 [zeroL] := fun y hy => by simp at hy; subst hy; rfl
  have h32M : H32 [pubK (leftF oneL)] := fun y hy => by simp at hy; subst hy; exact pubK_len _
  have HNX := Lib.hid (fun a b w h1 h2 => code_NextE 1 0 (by omega) (by decide) (leftF oneL) hl0 a b 1 1 [rightF oneL] [pubK (rightF oneL)] w h1 h32R h2 h32S (fun i hi hr => by
    obtain rfl : i = 0 := by omega
    exact absurd hr (by decide)) (by omega) (by omega) 0 (by decide) (by omega))
  have hnx : nextT 1 0 0 (leftF oneL) [rightF oneL] [pubK (rightF oneL)] = keyP 1 1 oneL := by
    obtain ⟨j, hj, hjd, he⟩ := keyP_next oneL 1 0 (by omega) (by decide)
    obtain rfl : j = 0 := by omega
    rw [key_10] at he
    exact he
  have hnn := HNX.out
  rw [hnx, key_11] at hnn
  have HNX := Lib.hid (show ∀ a b w, Hashes w (.slice a 1 1) [rightF oneL] → Hashes w (.slice b 1 1) [pubK (rightF oneL)] → Calls Try.prog 11 #[.agg (evRow 1 0 (leftF oneL) (.slice a 1 1) (.slice b 1 1))] w fun e w' => ∃ c d, e = .returned (.tuple #[.agg (evRow 1 1 (rightF oneL) (.slice c 1 1) (.slice d 1 1)), .int .i64 0]) ∧ Hashes w' (.slice c 1 1) [zeroL] ∧ Hashes w' (.slice d 1 1) [pubK (leftF oneL)] ∧ Below w.heap.size w w' from hnn)
  have HSG := Lib.hid (fun a b w h1 h2 => code_SignE 1 1 (by omega) (by decide) (rightF oneL) hr0 a b 1 1 [zeroL] [pubK (leftF oneL)] w h1 h32N h2 h32M (fun i hi _ => by
    obtain rfl : i = 0 := by omega
    rfl) twoL twoL_len)
  have HSG := Lib.hid (show ∀ a b w, Hashes w (.slice a 1 1) [zeroL] → Hashes w (.slice b 1 1) [pubK (leftF oneL)] → Calls Try.prog 15 #[.agg (evRow 1 1 (rightF oneL) (.slice a 1 1) (.slice b 1 1)), .agg (valsB twoL).toArray] w fun e w' => e = .returned (.tuple #[.string ⟨(sigL (rightF oneL) twoL [pubK (leftF oneL)] 1).toArray⟩, .int .i64 0]) ∧ Below w.heap.size w w' from HSG.out)
  have HPU := Lib.hid (fun a b w h1 h2 => code_PublicE 1 0 (by omega) (by decide) (leftF oneL) hl0 a b 1 1 [rightF oneL] [pubK (rightF oneL)] w h1 h32R h2 h32S (fun i hi hr => by
    obtain rfl : i = 0 := by omega
    exact absurd hr (by decide)))
  have hpu := keyP_root oneL 1 0 (by omega) (by decide)
  rw [key_10] at hpu
  have hpp := HPU.out
  rw [hpu] at hpp
  have HPU := Lib.hid (show ∀ a b w, Hashes w (.slice a 1 1) [rightF oneL] → Hashes w (.slice b 1 1) [pubK (rightF oneL)] → Calls Try.prog 21 #[.agg (evRow 1 0 (leftF oneL) (.slice a 1 1) (.slice b 1 1))] w fun e w' => e = .returned (.tuple #[.agg (valsB (rootE 1 oneL)).toArray, .int .i64 0]) ∧ Below w.heap.size w w' from hpp)
  have hss := sig_size (rightF oneL) twoL [pubK (leftF oneL)] h32M 1 rfl
  have HC1 := Lib.hid (fun w => code_CheckE (rootE 1 oneL) twoL (rootE_len _ _) twoL_len 1 1 (by omega) (by decide) _ hss w)
  have HC0 := Lib.hid (fun w => code_CheckE (rootE 1 oneL) twoL (rootE_len _ _) twoL_len 1 0 (by omega) (by decide) _ hss w)
  have hk1 := check_sign (rootE 1 oneL) (rightF oneL) twoL [pubK (leftF oneL)] h32M 1 1 rfl
  have hk0 := check_sign (rootE 1 oneL) (rightF oneL) twoL [pubK (leftF oneL)] h32M 1 0 rfl
  have hu1 := keyP_root oneL 1 1 (by omega) (by decide)
  rw [key_11] at hu1
  rw [hu1] at hk1
  have hu0 : overE (digitsE 1 0) [pubK (leftF oneL)] 0 1 (pubK (rightF oneL)) = sumF (pubK (rightF oneL)) (pubK (leftF oneL)) := by
    simp [overE, beside, digitsE, digE]
  rw [hu0, sums_ne] at hk0
  have hc1 := HC1.out
  have hc0 := HC0.out
  rw [hk1, show (rootE 1 oneL == rootE 1 oneL) = true by simp] at hc1
  rw [hk0] at hc0
  have HC1 := Lib.hid (show ∀ w, Calls Try.prog 25 #[.agg (valsB (rootE 1 oneL)).toArray, .int .i64 1, .int .i64 1, .agg (valsB twoL).toArray, .string ⟨(sigL (rightF oneL) twoL [pubK (leftF oneL)] 1).toArray⟩] w fun e w' => e = .returned (.bool true) ∧ Below w.heap.size w w' from hc1)
  have HC0 := Lib.hid (show ∀ w, Calls Try.prog 25 #[.agg (valsB (rootE 1 oneL)).toArray, .int .i64 1, .int .i64 0, .agg (valsB twoL).toArray, .string ⟨(sigL (rightF oneL) twoL [pubK (leftF oneL)] 1).toArray⟩] w fun e w' => e = .returned (.bool false) ∧ Below w.heap.size w w' from hc0)
  clear hc1 hc0 hpp hnn hmk
  obtain ⟨SG, hSG⟩ : ∃ S : ByteArray, (⟨(sigL (rightF oneL) twoL [pubK (leftF oneL)] 1).toArray⟩ : ByteArray) = S := ⟨_, rfl⟩
  rw [hSG] at HSG HC1 HC0
  have HE := fun w => eqIn_hash (rightF oneL) (rightF oneL) hr0 hr0 w
  rw [show (rightF oneL == rightF oneL) = true by simp] at HE
  have HIR := Lib.hid (info_len (rightF oneL) hr0)
  have HRT := Lib.hid (row32 (rootE 1 oneL) (rootE_len _ _))
  have HCB1 := Lib.hid (fun a : Act => (show Try.prog.built 23 ((#[(0, .const (.int .u8 1))] : Array (Nat × Operand)).map fun (i, x) => (i, a.eval x)).toList = some (valsB oneL).toArray by kernel_rfl))
  have HCB2 := Lib.hid (fun a : Act => (show Try.prog.built 23 ((#[(0, .const (.int .u8 2))] : Array (Nat × Operand)).map fun (i, x) => (i, a.eval x)).toList = some (valsB twoL).toArray by kernel_rfl))
  obtain ⟨l, hl⟩ : ∃ x, leftF oneL = x := ⟨_, rfl⟩
  obtain ⟨r, hr⟩ : ∃ x, rightF oneL = x := ⟨_, rfl⟩
  obtain ⟨pl, hpl⟩ : ∃ x, pubK l = x := ⟨_, rfl⟩
  obtain ⟨pr, hpr⟩ : ∃ x, pubK r = x := ⟨_, rfl⟩
  obtain ⟨ro, hro⟩ : ∃ x, rootE 1 oneL = x := ⟨_, rfl⟩
  rw [hl] at hl0
  rw [hr] at hr0
  simp only [hl, hr, hpl, hpr] at HMK HNX HSG HPU HE HIR
  rw [hro] at HPU HC1 HC0 HRT
  obtain ⟨C1, hC1⟩ : ∃ C, (valsB oneL).toArray = C := ⟨_, rfl⟩
  obtain ⟨C2, hC2⟩ : ∃ C, (valsB twoL).toArray = C := ⟨_, rfl⟩
  obtain ⟨CR, hCR⟩ : ∃ C, (valsB r).toArray = C := ⟨_, rfl⟩
  obtain ⟨CP, hCP⟩ : ∃ C, (valsB ro).toArray = C := ⟨_, rfl⟩
  rw [hC1] at HMK HCB1
  rw [hC2] at HSG HC1 HC0 HCB2
  rw [hCR] at HE
  rw [hCP] at HPU HC1 HC0 HRT
  have HCR := Lib.hid hCR
  have HL0 := Lib.hid hl0
  have HR0 := Lib.hid hr0
  clear hone h32R h32S h32N h32M hnx hpu hss hk1 hk0 hu1 hu0 hSG hl hr hpl hpr hro hC1 hC2 hCR hCP hl0 hr0
  have HB0 : Below w.heap.size w w := Below.refl _ _
  have HB0 := Lib.hid HB0
  go_enter Try.func12, Try.ntmps12
  go_wp2_with (refine wpList_build_as rfl 23 #[(0, .const (.int .u8 1))] rfl C1 (HCB1.out _) ?_)
  refine (HMK.out _).mono ?_
  rintro e w1 ⟨a1, b1, rfl, h1, h2, hb1⟩
  have HKI := Lib.hid (ev_info 1 0 l (.slice a1 1 1) (.slice b1 1 1) HL0.out)
  have HKA := Lib.hid (ev_one 1 0 l a1 b1 1 1 1 1)
  have HKV := Lib.hid (fun w g h => (⟨HL0.out, h⟩ : EvAt w g 1 0 l (.slice a1 1 1) (.slice b1 1 1)))
  have HKZ := Lib.hid (show ZEv.size = (evRow 1 0 l (.slice a1 1 1) (.slice b1 1 1)).size by rw [zev_size, evRow_size _ _ _ _ _ HL0.out])
  have HNK := Lib.hid (fun w h1 h2 => HNX.out a1 b1 w h1 h2)
  have HPK := Lib.hid (fun w h1 h2 => HPU.out a1 b1 w h1 h2)
  obtain ⟨EK, hEK⟩ : ∃ E, evRow 1 0 l (.slice a1 1 1) (.slice b1 1 1) = E := ⟨_, rfl⟩
  rw [hEK] at HKI HKA HKV HKZ HNK HPK
  rw [hEK]
  have HR1 := Lib.hid h1
  have HS1 := Lib.hid h2
  have HB1 := Lib.hid hb1
  clear h1 h2 hb1 hEK
  go_upto_region 2 with (refine wpList_store_row rfl 26 (.tmp 1) (.tmp 12) rfl w1.heap.size EK rfl rfl 26 ZEv (heap_alloc_new _ _) HKI.out HKZ.out HKA.out ?_; rw [World.setRow_alloc_new])
  have hb2 : Below w1.heap.size w1 (w1.alloc (.cells EK 26)) := (Below.refl _ _).alloc (Nat.le_refl _) _
  have h1k := heap_alloc_new w1 (.cells EK 26)
  have hs2 : (w1.alloc (.cells EK 26)).heap.size = w1.heap.size + 1 := by simp
  have HR2 := Lib.hid (HR1.out.kept hb2)
  have HS2 := Lib.hid (HS1.out.kept hb2)
  have HB2 := Lib.hid (HB1.out.trans (hb2.mono HB1.out.size))
  generalize w1.alloc (.cells EK 26) = w2 at hb2 h1k hs2 HR2 HS2 HB2 ⊢
  obtain ⟨g1, hg1⟩ : ∃ x, w1.heap.size = x := ⟨_, rfl⟩
  rw [hg1] at h1k hs2
  rw [hg1]
  have H1 := Lib.hid h1k
  have HL1 := Lib.hid (show g1 < w2.heap.size by omega)
  clear hb2 h1k hs2 hg1
  go_wp2_with (refine wpList_load_row rfl 26 (.tmp 1) rfl g1 rfl 26 EK (0, 0) _ H1.out Try.underlying26 rfl HKI.out ?_)
  refine (HNK.out _ HR2.out HS2.out).mono ?_
  rintro e w3 ⟨a2, b2, rfl, h1, h2, hb3⟩
  have HNI := Lib.hid (ev_info 1 1 r (.slice a2 1 1) (.slice b2 1 1) HR0.out)
  have HNA := Lib.hid (ev_one 1 1 r a2 b2 1 1 1 1)
  have HNV := Lib.hid (fun w g h => (⟨HR0.out, h⟩ : EvAt w g 1 1 r (.slice a2 1 1) (.slice b2 1 1)))
  have HNZ := Lib.hid (show ZEv.size = (evRow 1 1 r (.slice a2 1 1) (.slice b2 1 1)).size by rw [zev_size, evRow_size _ _ _ _ _ HR0.out])
  have HSN := Lib.hid (fun w h1 h2 => HSG.out a2 b2 w h1 h2)
  obtain ⟨EN, hEN⟩ : ∃ E, evRow 1 1 r (.slice a2 1 1) (.slice b2 1 1) = E := ⟨_, rfl⟩
  rw [hEN] at HNI HNA HNV HNZ HSN
  rw [hEN]
  have HR3 := Lib.hid h1
  have HS3 := Lib.hid h2
  have H13 := Lib.hid ((hb3.block _ HL1.out).trans H1.out)
  have HRK3 := Lib.hid (HR2.out.kept hb3)
  have HSK3 := Lib.hid (HS2.out.kept hb3)
  have HB3 := Lib.hid (HB2.out.trans (hb3.mono HB2.out.size))
  have HL13 := Lib.hid (Nat.lt_of_lt_of_le HL1.out hb3.size)
  clear h1 h2 hb3 hEN
  go_upto_region 3 with (refine wpList_store_row rfl 26 (.tmp 3) (.tmp 17) rfl w3.heap.size EN rfl rfl 26 ZEv (heap_alloc_new _ _) HNI.out HNZ.out HNA.out ?_; rw [World.setRow_alloc_new])
  have hb4 : Below w3.heap.size w3 (w3.alloc (.cells EN 26)) := (Below.refl _ _).alloc (Nat.le_refl _) _
  have h3k := heap_alloc_new w3 (.cells EN 26)
  have hs4 : (w3.alloc (.cells EN 26)).heap.size = w3.heap.size + 1 := by simp
  have HR4 := Lib.hid (HR3.out.kept hb4)
  have HS4 := Lib.hid (HS3.out.kept hb4)
  have H14 := Lib.hid ((hb4.block _ HL13.out).trans H13.out)
  have HRK4 := Lib.hid (HRK3.out.kept hb4)
  have HSK4 := Lib.hid (HSK3.out.kept hb4)
  have HB4 := Lib.hid (HB3.out.trans (hb4.mono HB3.out.size))
  generalize w3.alloc (.cells EN 26) = w4 at hb4 h3k hs4 HR4 HS4 H14 HRK4 HSK4 HB4 ⊢
  obtain ⟨g3, hg3⟩ : ∃ x, w3.heap.size = x := ⟨_, rfl⟩
  have hl13 := HL13.out
  rw [hg3] at h3k hs4 hl13
  rw [hg3]
  have H3 := Lib.hid h3k
  have HL4 := Lib.hid (show g1 < g3 ∧ g3 < w4.heap.size by omega)
  clear hb4 h3k hs4 hg3 hl13
  go_wp2_with (first
    | (refine wpList_load_row rfl 26 (.tmp 3) rfl g3 rfl 26 EN (0, 0) _ H3.out Try.underlying26 rfl HNI.out ?_)
    | (refine wpList_build_as rfl 23 #[(0, .const (.int .u8 2))] rfl C2 (HCB2.out _) ?_))
  refine (HSN.out _ HR4.out HS4.out).mono ?_
  rintro e w5 ⟨rfl, hb5⟩
  have H15 := Lib.hid ((hb5.block _ (Nat.lt_trans HL4.out.1 HL4.out.2)).trans H14.out)
  have H35 := Lib.hid ((hb5.block _ HL4.out.2).trans H3.out)
  have HRK5 := Lib.hid (HRK4.out.kept hb5)
  have HSK5 := Lib.hid (HSK4.out.kept hb5)
  have HB5 := Lib.hid (HB4.out.trans (hb5.mono HB4.out.size))
  have HL5 := Lib.hid (show g1 < g3 ∧ g3 < w5.heap.size by have := HL4.out; have := hb5.size; omega)
  clear hb5
  go_wp2_with (refine wpList_load_row rfl 26 (.tmp 1) rfl g1 rfl 26 EK (0, 0) _ H15.out Try.underlying26 rfl HKI.out ?_)
  refine (HPK.out _ HRK5.out HSK5.out).mono ?_
  rintro e w6 ⟨rfl, hb6⟩
  have H16 := Lib.hid ((hb6.block _ (Nat.lt_trans HL5.out.1 HL5.out.2)).trans H15.out)
  have H36 := Lib.hid ((hb6.block _ HL5.out.2).trans H35.out)
  have HRK6 := Lib.hid (HRK5.out.kept hb6)
  have HB6 := Lib.hid (HB5.out.trans (hb6.mono HB5.out.size))
  have HL6 := Lib.hid (show g1 < g3 ∧ g3 < w6.heap.size by have := HL5.out; have := hb6.size; omega)
  have HZP := Lib.hid (show (List.replicate 32 (Value.int .u8 0)).toArray.size = CP.size by rw [HRT.out.size]; rfl)
  clear hb6
  go_upto_region 5 with (refine wpList_store_row rfl 23 (.tmp 7) (.tmp 28) rfl w6.heap.size CP rfl rfl 23 (List.replicate 32 (Value.int .u8 0)).toArray (heap_alloc_new _ _) HRT.out.info HZP.out HRT.out.one ?_; rw [World.setRow_alloc_new])
  have hb7 : Below w6.heap.size w6 (w6.alloc (.cells CP 23)) := (Below.refl _ _).alloc (Nat.le_refl _) _
  have H77 := Lib.hid (heap_alloc_new w6 (.cells CP 23))
  have H17 := Lib.hid ((hb7.block _ (Nat.lt_trans HL6.out.1 HL6.out.2)).trans H16.out)
  have H37 := Lib.hid ((hb7.block _ HL6.out.2).trans H36.out)
  have hRK7 := HRK6.out.kept hb7
  have HB7 := Lib.hid (HB6.out.trans (hb7.mono HB6.out.size))
  generalize w6.alloc (.cells CP 23) = w7 at hb7 H77 H17 H37 hRK7 HB7 ⊢
  obtain ⟨ga, oa, rfl, hra⟩ := hashes_cellE hRK7 0 r rfl
  rw [Nat.zero_mul, Nat.add_zero] at hra
  have HRA := Lib.hid hra
  have hK7 := HKV.out _ _ H17.out
  have hN7 := HNV.out _ _ H37.out
  have HLF := Lib.hid hN7.lf
  have r34 := cell_regrown hK7.c34
  clear hb7 hra hRK7 hK7 hN7
  refine wp_region_quiet_below (by kernel_rfl) (by kernel_rfl) ?_
  repeat (first
    | (refine wpQuiet_step (fun K hK => ?_); rw [if_pos (by rfl)]; refine quiet_load_mid 23 (.tmp 51) rfl g3 2 (by simp [Act.eval]) (valsB r) _ HLF.out Try.underlying23 rfl HIR.out ?_; rw [HCR.out]; refine hK _ ?_; clear hK K)
    | (refine wpQuiet_step (fun K hK => ?_); rw [if_pos (by rfl)]; refine quiet_load_mid 23 (.tmp 55) rfl ga oa (by simp [Act.eval]) (valsB r) _ HRA.out Try.underlying23 rfl HIR.out ?_; rw [HCR.out]; refine hK _ ?_; clear hK K)
    | (refine wpQuiet_step (fun K hK => ?_); rw [if_pos (by rfl)]; refine quiet_load_row 23 (.tmp 7) rfl w6.heap.size rfl 23 CP (0, 0) _ H77.out Try.underlying23 rfl HRT.out.info ?_; refine hK _ ?_; clear hK K)
    | (refine wpQuiet_step (fun K hK => ?_); rw [if_pos (by rfl)]; refine quiet_build 23 #[(0, .const (.int .u8 2))] rfl C2 (HCB2.out _) ?_; refine hK _ ?_; clear hK K)
    | (quiet_step (first | (with_reducible exact Calls.regrown_of (HC1.out _)) | (with_reducible exact Calls.regrown_of (HC0.out _)))))
  refine wpQuiet_nil ?_
  intro _ hw'
  obtain ⟨⟨dq, osq⟩, hw''⟩ := hw'
  subst hw''
  have hbq := below_regrown w7 dq osq
  dsimp only
  generalize Sort.grow (redrawn w7 dq) osq = w8 at hbq ⊢
  have HB8 := Lib.hid (HB7.out.trans (hbq.mono HB7.out.size))
  clear hbq r34
  go_wp2_with fail
  go_ret
  exact ⟨rfl, HB8.out⟩

end Go.Proofs.Ytpifjeghoapjbaa.Evolve
