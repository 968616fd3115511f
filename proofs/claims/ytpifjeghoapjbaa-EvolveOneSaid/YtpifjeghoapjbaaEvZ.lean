/- evolve: all keys of a seed have one public key, and sign what is checked: the law EvolveOne. -/
import Derived.Test.YtpifjeghoapjbaaEvV
namespace Go.Proofs.Ytpifjeghoapjbaa.Evolve
open Go.RowKit Go.Proofs.Ytpifjeghoapjbaa.Sha Go.Proofs.Ytpifjeghoapjbaa.Tree Go.Proofs.Ytpifjeghoapjbaa.Once

/-- What the key of a period signs. -/
def sigP (a0 m : List UInt8) (d i : Nat) : ByteArray := ⟨(sigL (keyP d i a0).1 m (keyP d i a0).2.2 d).toArray⟩
section
variable (a0 m : List UInt8) (hs : a0.length = 32) (hm : m.length = 32) (d i : Nat) (hd : d ≤ 4)
include hs hd in
theorem pub_key (hi : i < 2 ^ d) (a b : Option Addr) (w : World) (h1 : Hashes w (.slice a d d) (keyP d i a0).2.1) (h2 : Hashes w (.slice b d d) (keyP d i a0).2.2) :
    Calls Try.prog 21 #[.agg (evRow d i (keyP d i a0).1 (.slice a d d) (.slice b d d))] w fun e w' => e = .returned (.tuple #[.agg (valsB (rootE d a0)).toArray, .int .i64 0]) ∧ Below w.heap.size w w' := by
  have hl := keyP_len a0 hs d i
  have h32 := keyP_h32 a0 d i
  have h := code_PublicE d i hd hi (keyP d i a0).1 hl.1 a b d d _ _ w h1 h32.1 h2 h32.2 (keyP_right a0 hs d i)
  rw [keyP_root a0 d i hd hi] at h
  exact h
include hs hm hd in
theorem sign_key (hi : i < 2 ^ d) (a b : Option Addr) (w : World) (h1 : Hashes w (.slice a d d) (keyP d i a0).2.1) (h2 : Hashes w (.slice b d d) (keyP d i a0).2.2) :
    Calls Try.prog 15 #[.agg (evRow d i (keyP d i a0).1 (.slice a d d) (.slice b d d)), .agg (valsB m).toArray] w fun e w' => e = .returned (.tuple #[.string (sigP a0 m d i), .int .i64 0]) ∧ Below w.heap.size w w' := by
  have hl := keyP_len a0 hs d i
  have h32 := keyP_h32 a0 d i
  exact code_SignE d i hd hi (keyP d i a0).1 hl.1 a b d d _ _ w h1 h32.1 h2 h32.2 (keyP_right a0 hs d i) m hm
include hs in
theorem sigP_size : (sigP a0 m d i).size = 1024 + 32 * d := sig_size _ m _ (keyP_h32 a0 d i).2 d (keyP_len a0 hs d i).2.2
include hs hm hd in
theorem check_key (hi : i < 2 ^ d) (w : World) :
    Calls Try.prog 25 #[.agg (valsB (rootE d a0)).toArray, .int .i64 d, .int .i64 i, .agg (valsB m).toArray, .string (sigP a0 m d i)] w fun e w' => e = .returned (.bool true) ∧ Below w.heap.size w w' := by
  have h := code_CheckE (rootE d a0) m (rootE_len d a0) hm d i hd hi (sigP a0 m d i) (sigP_size a0 m hs d i) w
  have hc := check_sign (rootE d a0) (keyP d i a0).1 m (keyP d i a0).2.2 (keyP_h32 a0 d i).2 d i (keyP_len a0 hs d i).2.2
  rw [keyP_root a0 d i hd hi] at hc
  rw [show checkE (rootE d a0) d i m (sigP a0 m d i) = true from hc.trans (by simp)] at h
  exact h
include hs hm in
theorem check_deeper (w : World) :
    Calls Try.prog 25 #[.agg (valsB (rootE d a0)).toArray, .int .i64 ((d : Int) + 1), .int .i64 i, .agg (valsB m).toArray, .string (sigP a0 m d i)] w fun e w' => e = .returned (.bool false) ∧ Below w.heap.size w w' :=
  code_CheckE_no (rootE d a0) m (rootE_len d a0) hm _ _ _ w (fun h => by have h1 := h.2; rw [sigP_size a0 m hs d i] at h1; omega)
include hm in
theorem check_later (w : World) :
    Calls Try.prog 25 #[.agg (valsB (rootE d a0)).toArray, .int .i64 d, .int .i64 ((i : Int) + ((2 ^ d : Nat) : Int)), .agg (valsB m).toArray, .string (sigP a0 m d i)] w fun e w' => e = .returned (.bool false) ∧ Below w.heap.size w w' :=
  code_CheckE_no (rootE d a0) m (rootE_len d a0) hm _ _ _ w (fun h => by
    have h1 := h.1.2.2
    rw [Int.toNat_natCast, show ((2 : Int) ^ d) = ((2 ^ d : Nat) : Int) by push_cast; rfl] at h1
    omega)
end

set_option maxRecDepth 100000 in
set_option maxHeartbeats 12800000 in
attribute [local irreducible] Go.wpQuiet in
theorem law_EvolveOne (a0 : List UInt8) (a1 : Int) (a2 : List UInt8) (w0 : a0.length = 32) (_w1 : (Lit.int .i64 a1).wf = true) (w2 : a2.length = 32) (w : World) :
    Calls Try.prog 7 #[.agg (valsB a0).toArray, .int .i64 a1, .agg (valsB a2).toArray] w fun e w' => e = .returned (.bool true) ∧ Below w.heap.size w w' := by
  have HWK := Lib.hid works_any
  have HRC := Lib.hid (row32 a0 w0)
  have HRM := Lib.hid (row32 a2 w2)
  have H0 := Lib.hid w0
  have H2 := Lib.hid w2
  obtain ⟨C, hC⟩ : ∃ C, (valsB a0).toArray = C := ⟨_, rfl⟩
  obtain ⟨CM, hCM⟩ : ∃ C, (valsB a2).toArray = C := ⟨_, rfl⟩
  rw [hC] at HRC
  rw [hCM] at HRM
  rw [hC, hCM]
  have HC := Lib.hid hC
  have HCM := Lib.hid hCM
  clear hC hCM w0 w2
  by_cases h0 : a1 < 0
  · have u1 : decide (a1 < 0) = true := by simp [h0]
    go_enter Try.func7, Try.ntmps7
    go_upto_region 1 with (fail)
    have HA0 := Lib.hid (heap_alloc2_old w (.cells C 23) (.cells CM 23))
    have HA1 := Lib.hid (heap_alloc2_new w (.cells C 23) (.cells CM 23))
    have HBW := Lib.hid (show Below w.heap.size w ((w.alloc (.cells C 23)).alloc (.cells CM 23)) from ((Below.refl _ _).alloc (Nat.le_refl _) _).alloc (by simp) _)
    have hs0 : ((w.alloc (.cells C 23)).alloc (.cells CM 23)).heap.size = w.heap.size + 2 := by simp
    generalize ((w.alloc (.cells C 23)).alloc (.cells CM 23)) = W at HA0 HA1 HBW hs0 ⊢
    obtain ⟨g3, hg3⟩ : ∃ x, w.heap.size = x := ⟨_, rfl⟩
    obtain ⟨g5, hg5⟩ : ∃ x, g3 + 1 = x := ⟨_, rfl⟩
    rw [hg3] at HA0 HA1 HBW hs0
    rw [hg5] at HA1
    rw [hg3, hg5]
    have HGE := Lib.hid hg3
    have HLT := Lib.hid (show g3 < g5 ∧ g5 < W.heap.size by omega)
    clear hg3 hg5 hs0
    go_wp2_with fail
    refine (HWK.out _).mono ?_
    rintro e w3 ⟨rfl, hb3⟩
    have HB3 := Lib.hid (HBW.out.trans (hb3.mono (by have := HLT.out; omega)))
    clear hb3
    go_wp2_with fail
    go_ret
    exact ⟨rfl, HGE.out ▸ HB3.out⟩
  have u1 : decide (a1 < 0) = false := by simp [h0]
  by_cases h4 : 3 < a1
  · have u2 : decide ((3 : Int) < a1) = true := by simp [h4]
    go_enter Try.func7, Try.ntmps7
    go_upto_region 1 with (fail)
    have HA0 := Lib.hid (heap_alloc2_old w (.cells C 23) (.cells CM 23))
    have HA1 := Lib.hid (heap_alloc2_new w (.cells C 23) (.cells CM 23))
    have HBW := Lib.hid (show Below w.heap.size w ((w.alloc (.cells C 23)).alloc (.cells CM 23)) from ((Below.refl _ _).alloc (Nat.le_refl _) _).alloc (by simp) _)
    have hs0 : ((w.alloc (.cells C 23)).alloc (.cells CM 23)).heap.size = w.heap.size + 2 := by simp
    generalize ((w.alloc (.cells C 23)).alloc (.cells CM 23)) = W at HA0 HA1 HBW hs0 ⊢
    obtain ⟨g3, hg3⟩ : ∃ x, w.heap.size = x := ⟨_, rfl⟩
    obtain ⟨g5, hg5⟩ : ∃ x, g3 + 1 = x := ⟨_, rfl⟩
    rw [hg3] at HA0 HA1 HBW hs0
    rw [hg5] at HA1
    rw [hg3, hg5]
    have HGE := Lib.hid hg3
    have HLT := Lib.hid (show g3 < g5 ∧ g5 < W.heap.size by omega)
    clear hg3 hg5 hs0
    go_wp2_with fail
    refine (HWK.out _).mono ?_
    rintro e w3 ⟨rfl, hb3⟩
    have HB3 := Lib.hid (HBW.out.trans (hb3.mono (by have := HLT.out; omega)))
    clear hb3
    go_wp2_with fail
    go_ret
    exact ⟨rfl, HGE.out ▸ HB3.out⟩
  have u2 : decide ((3 : Int) < a1) = false := by simp [h4]
  obtain ⟨d, rfl⟩ : ∃ dn : Nat, a1 = dn := ⟨a1.toNat, by omega⟩
  have hd3 : d ≤ 3 := by omega
  have hd : d ≤ 4 := by omega
  have HMK := Lib.hid (fun w => make_key a0 H0.out d hd w)
  have HNX := Lib.hid (fun i hi a b w h1 h2 => next_key a0 H0.out d i hd hi a b w h1 h2)
  have HNL := Lib.hid (fun i hi a b w h1 h2 => next_last a0 H0.out d i hd hi a b w h1 h2)
  have HPB := Lib.hid (fun i hi a b w h1 h2 => pub_key a0 H0.out d i hd hi a b w h1 h2)
  have HSN := Lib.hid (fun i hi a b w h1 h2 => sign_key a0 a2 H0.out H2.out d i hd hi a b w h1 h2)
  have HK1 := Lib.hid (fun i hi w => check_key a0 a2 H0.out H2.out d i hd hi w)
  have HK2 := Lib.hid (fun i w => check_deeper a0 a2 H0.out H2.out d i w)
  have HK3 := Lib.hid (fun i w => check_later a0 a2 H2.out d i w)
  have HKL := Lib.hid (fun i => keyP_len a0 H0.out d i)
  have HRP := Lib.hid (row32 (rootE d a0) (rootE_len d a0))
  have HE := fun w => eqIn_hash (rootE d a0) (rootE d a0) (rootE_len d a0) (rootE_len d a0) w
  obtain ⟨CP, hCP⟩ : ∃ C, (valsB (rootE d a0)).toArray = C := ⟨_, rfl⟩
  rw [HC.out] at HMK
  rw [hCP] at HRP HPB HK1 HK2 HK3
  rw [hCP, show (rootE d a0 == rootE d a0) = true by simp] at HE
  rw [HCM.out] at HSN HK1 HK2 HK3
  have HEQ := Lib.hid HE
  clear hCP HE
  obtain ⟨q, hq⟩ : ∃ q : Nat, 2 ^ d = q := ⟨_, rfl⟩
  have hq8 : q ≤ 8 := by rw [← hq]; exact Nat.le_trans (Nat.pow_le_pow_right (by omega) hd3) (by decide)
  have hqi : IntKind.i64.wrap ((2 : Int) ^ d) = (q : Int) := by
    rw [show ((2 : Int) ^ d) = (q : Int) by rw [← hq]; push_cast; rfl]
    unfold IntKind.wrap
    simp [IntKind.bits, IntKind.signed]
    omega
  have hq1 : 1 ≤ q := by rw [← hq]; exact Nat.one_le_two_pow
  rw [hq] at HNX HNL HPB HSN HK1 HK3
  clear hq h0 h4
  go_enter Try.func7, Try.ntmps7
  go_upto_region 1 with (fail)
  have HA0 := Lib.hid (heap_alloc2_old w (.cells C 23) (.cells CM 23))
  have HA1 := Lib.hid (heap_alloc2_new w (.cells C 23) (.cells CM 23))
  have HBW := Lib.hid (show Below w.heap.size w ((w.alloc (.cells C 23)).alloc (.cells CM 23)) from ((Below.refl _ _).alloc (Nat.le_refl _) _).alloc (by simp) _)
  have hs0 : ((w.alloc (.cells C 23)).alloc (.cells CM 23)).heap.size = w.heap.size + 2 := by simp
  generalize ((w.alloc (.cells C 23)).alloc (.cells CM 23)) = W at HA0 HA1 HBW hs0 ⊢
  obtain ⟨g3, hg3⟩ : ∃ x, w.heap.size = x := ⟨_, rfl⟩
  obtain ⟨g5, hg5⟩ : ∃ x, g3 + 1 = x := ⟨_, rfl⟩
  rw [hg3] at HA0 HA1 HBW hs0
  rw [hg5] at HA1
  rw [hg3, hg5]
  have HGE := Lib.hid hg3
  have HLT := Lib.hid (show g3 < g5 ∧ g5 < W.heap.size by omega)
  clear hg3 hg5 hs0
  go_wp2_with (refine wpList_load_row rfl 23 (.tmp 3) rfl g3 rfl 23 C (0, 0) _ HA0.out Try.underlying23 rfl HRC.out.info ?_)
  refine (HMK.out _).mono ?_
  rintro e w1 ⟨a, b, rfl, h1, h2, hb1⟩
  have HKI := Lib.hid (ev_info d ((0 : Nat) : Int) (keyP d 0 a0).1 (.slice a d d) (.slice b d d) (HKL.out 0).1)
  have HKA := Lib.hid (ev_one d ((0 : Nat) : Int) (keyP d 0 a0).1 a b d d d d)
  have HKZ := Lib.hid (show ZEv.size = (evRow d ((0 : Nat) : Int) (keyP d 0 a0).1 (.slice a d d) (.slice b d d)).size by rw [zev_size, evRow_size _ _ _ _ _ (HKL.out 0).1])
  have HP0 := Lib.hid (fun w h1 h2 => HPB.out 0 hq1 a b w h1 h2)
  have HR1 := Lib.hid h1
  have HS1 := Lib.hid h2
  have H51 := Lib.hid ((hb1.block _ HLT.out.2).trans HA1.out)
  have HB1 := Lib.hid (HBW.out.trans (hb1.mono (by have := HLT.out; omega)))
  have HL1 := Lib.hid (show g3 < g5 ∧ g5 < w1.heap.size by have := HLT.out; have := hb1.size; omega)
  obtain ⟨EK, hEK⟩ : ∃ E, evRow d ((0 : Nat) : Int) (keyP d 0 a0).1 (.slice a d d) (.slice b d d) = E := ⟨_, rfl⟩
  rw [hEK] at HKI HKA HKZ HP0
  rw [hEK]
  have HEK := Lib.hid hEK
  clear h1 h2 hb1 hEK
  go_upto_region 4 with (refine wpList_store_row rfl 26 (.tmp 7) (.tmp 27) rfl w1.heap.size EK rfl rfl 26 ZEv (heap_alloc_new _ _) HKI.out HKZ.out HKA.out ?_; rw [World.setRow_alloc_new])
  have hbn : Below w1.heap.size w1 (w1.alloc (.cells EK 26)) := (Below.refl _ _).alloc (Nat.le_refl _) _
  have hnn := heap_alloc_new w1 (.cells EK 26)
  have hsn : (w1.alloc (.cells EK 26)).heap.size = w1.heap.size + 1 := by simp
  have H52 := Lib.hid ((hbn.block g5 (by have := HL1.out; omega)).trans H51.out)
  have HR2 := Lib.hid (HR1.out.kept hbn)
  have HS2 := Lib.hid (HS1.out.kept hbn)
  have HB2 := Lib.hid (HB1.out.trans (hbn.mono (by have := HL1.out; omega)))
  generalize w1.alloc (.cells EK 26) = w2 at H52 HR2 HS2 HB2 hnn hsn ⊢
  obtain ⟨g7, hg7⟩ : ∃ x, w1.heap.size = x := ⟨_, rfl⟩
  rw [hg7] at hnn hsn
  rw [hg7]
  have H72 := Lib.hid hnn
  have HL2 := Lib.hid (show g3 < g5 ∧ g5 < g7 ∧ g7 < w2.heap.size by have := HL1.out; omega)
  clear hbn hsn hnn hg7
  go_wp2_with (refine wpList_load_row rfl 26 (.tmp 7) rfl g7 rfl 26 EK (0, 0) _ H72.out Try.underlying26 rfl HKI.out ?_)
  refine (HP0.out _ HR2.out HS2.out).mono ?_
  rintro e w3 ⟨rfl, hb3⟩
  have H53 := Lib.hid ((hb3.block g5 (by have := HL2.out; omega)).trans H52.out)
  have H73 := Lib.hid ((hb3.block g7 (by have := HL2.out; omega)).trans H72.out)
  have HR3 := Lib.hid (HR2.out.kept hb3)
  have HS3 := Lib.hid (HS2.out.kept hb3)
  have HB3 := Lib.hid (HB2.out.trans (hb3.mono (by have := HL2.out; omega)))
  have HL3 := Lib.hid (show g3 < g5 ∧ g5 < g7 ∧ g7 < w3.heap.size by have := HL2.out; have := hb3.size; omega)
  clear hb3
  go_upto_region 7 with (refine wpList_store_row rfl 23 (.tmp 9) (.tmp 34) rfl w3.heap.size CP rfl rfl 23 _ (heap_alloc_new _ _) HRP.out.info (by rw [HRP.out.size]; rfl) HRP.out.one ?_; rw [World.setRow_alloc_new])
  have hbn : Below w3.heap.size w3 (w3.alloc (.cells CP 23)) := (Below.refl _ _).alloc (Nat.le_refl _) _
  have hnn := heap_alloc_new w3 (.cells CP 23)
  have hsn : (w3.alloc (.cells CP 23)).heap.size = w3.heap.size + 1 := by simp
  have H54 := Lib.hid ((hbn.block g5 (by have := HL3.out; omega)).trans H53.out)
  have H74 := Lib.hid ((hbn.block g7 (by have := HL3.out; omega)).trans H73.out)
  have HR4 := Lib.hid (HR3.out.kept hbn)
  have HS4 := Lib.hid (HS3.out.kept hbn)
  have HB4 := Lib.hid (HB3.out.trans (hbn.mono (by have := HL3.out; omega)))
  generalize w3.alloc (.cells CP 23) = w4 at H54 H74 HR4 HS4 HB4 hnn hsn ⊢
  obtain ⟨g9, hg9⟩ : ∃ x, w3.heap.size = x := ⟨_, rfl⟩
  rw [hg9] at hnn hsn
  rw [hg9]
  have H94 := Lib.hid hnn
  have HL4 := Lib.hid (show g3 < g5 ∧ g5 < g7 ∧ g7 < g9 ∧ g9 < w4.heap.size by have := HL3.out; omega)
  have HK0 := Lib.hid (show keyIn a0 d 0 g7 w4 from ⟨a, b, by rw [HEK.out]; exact H74.out, HR4.out, HS4.out⟩)
  clear hbn hsn hnn hg9
  go_wp2_with fail
  go_loopw [40] (fun iv wr => ∃ i : Nat, i < q ∧ iv = .int .i64 i ∧ wr.heap[g5]? = some (.cells CM 23 (0, 0)) ∧ wr.heap[g9]? = some (.cells CP 23 (0, 0)) ∧ Below g3 w wr ∧ g9 < wr.heap.size ∧ keyIn a0 d i g7 wr) (fun iv _ => q - (intOf iv).toNat)
  case atStart => exact ⟨0, hq1, rfl, H54.out, H94.out, HB4.out, HL4.out.2.2.2, HK0.out⟩
  case round =>
    obtain ⟨i, hi, rfl, h5r, h9r, hbel, hl9, hkin⟩ := hrel
    obtain ⟨a, b, hrow, hR, hS⟩ := hkin
    have hii : (i : Int) < (q : Int) := by omega
    have HKI := Lib.hid (ev_info d (i : Int) (keyP d i a0).1 (.slice a d d) (.slice b d d) (HKL.out i).1)
    have HKE := Lib.hid (evRow_size d (i : Int) (keyP d i a0).1 (.slice a d d) (.slice b d d) (HKL.out i).1)
    have HEV := Lib.hid (fun w g h => (⟨(HKL.out i).1, h⟩ : EvAt w g d i (keyP d i a0).1 (.slice a d d) (.slice b d d)))
    have HPI := Lib.hid (fun w h1 h2 => HPB.out i hi a b w h1 h2)
    have HSI := Lib.hid (fun w h1 h2 => HSN.out i hi a b w h1 h2)
    have HNK := Lib.hid (fun hi1 w h1 h2 => HNX.out i hi1 a b w h1 h2)
    have HNE := Lib.hid (fun hi1 w h1 h2 => HNL.out i hi1 a b w h1 h2)
    have HC1 := Lib.hid (fun w => HK1.out i hi w)
    have HC2 := Lib.hid (fun w => HK2.out i w)
    have HC3 := Lib.hid (fun w => HK3.out i w)
    obtain ⟨SG, hSG⟩ : ∃ b, sigP a0 a2 d i = b := ⟨_, rfl⟩
    rw [hSG] at HSI HC1 HC2 HC3
    obtain ⟨EK, hEK⟩ : ∃ E, evRow d (i : Int) (keyP d i a0).1 (.slice a d d) (.slice b d d) = E := ⟨_, rfl⟩
    rw [hEK] at hrow HKI HPI HSI HNK HNE HKE HEV
    have H50 := Lib.hid h5r
    have H70 := Lib.hid hrow
    have H90 := Lib.hid h9r
    have HR0 := Lib.hid hR
    have HS0 := Lib.hid hS
    have HB0 := Lib.hid hbel
    have HL0 := Lib.hid (show g3 < g5 ∧ g5 < g7 ∧ g7 < g9 ∧ g9 < wr.heap.size by have := HL4.out; omega)
    clear h5r hrow h9r hR hS hbel hl9 hEK hSG
    go_wp2_with (refine wpList_load_row rfl 26 (.tmp 7) rfl g7 rfl 26 EK (0, 0) _ H70.out Try.underlying26 rfl HKI.out ?_)
    refine (HPI.out _ HR0.out HS0.out).mono ?_
    rintro e v1 ⟨rfl, hb1⟩
    have H511 := Lib.hid ((hb1.block g5 (by have := HL0.out; omega)).trans H50.out)
    have H711 := Lib.hid ((hb1.block g7 (by have := HL0.out; omega)).trans H70.out)
    have H911 := Lib.hid ((hb1.block g9 (by have := HL0.out; omega)).trans H90.out)
    have HR11 := Lib.hid (HR0.out.kept hb1)
    have HS11 := Lib.hid (HS0.out.kept hb1)
    have HB11 := Lib.hid (HB0.out.trans (hb1.mono (by have := HL0.out; omega)))
    have HL11 := Lib.hid (show g3 < g5 ∧ g5 < g7 ∧ g7 < g9 ∧ g9 < v1.heap.size by have := HL0.out; have := hb1.size; omega)
    clear hb1
    go_upto_region 13 with (refine wpList_store_row rfl 23 (.tmp 11) (.tmp 46) rfl v1.heap.size CP rfl rfl 23 _ (heap_alloc_new _ _) HRP.out.info (by rw [HRP.out.size]; rfl) HRP.out.one ?_; rw [World.setRow_alloc_new])
    have hbn : Below v1.heap.size v1 (v1.alloc (.cells CP 23)) := (Below.refl _ _).alloc (Nat.le_refl _) _
    have hnn := heap_alloc_new v1 (.cells CP 23)
    have hsn : (v1.alloc (.cells CP 23)).heap.size = v1.heap.size + 1 := by simp
    have H512 := Lib.hid ((hbn.block g5 (by have := HL11.out; omega)).trans H511.out)
    have H712 := Lib.hid ((hbn.block g7 (by have := HL11.out; omega)).trans H711.out)
    have H912 := Lib.hid ((hbn.block g9 (by have := HL11.out; omega)).trans H911.out)
    have HR12 := Lib.hid (HR11.out.kept hbn)
    have HS12 := Lib.hid (HS11.out.kept hbn)
    have HB12 := Lib.hid (HB11.out.trans (hbn.mono (by have := HL11.out; omega)))
    generalize v1.alloc (.cells CP 23) = v2 at H512 H712 H912 HR12 HS12 HB12 hnn hsn ⊢
    obtain ⟨g11, hg11⟩ : ∃ x, v1.heap.size = x := ⟨_, rfl⟩
    rw [hg11] at hnn hsn
    rw [hg11]
    have H1112 := Lib.hid hnn
    have HL12 := Lib.hid (show g3 < g5 ∧ g5 < g7 ∧ g7 < g9 ∧ g9 < g11 ∧ g11 < v2.heap.size by have := HL11.out; omega)
    clear hbn hsn hnn hg11
    go_wp2_with (first
      | (refine wpList_load_row rfl 26 (.tmp 7) rfl g7 rfl 26 EK (0, 0) _ H712.out Try.underlying26 rfl HKI.out ?_)
      | (refine wpList_load_row rfl 23 (.tmp 5) rfl g5 rfl 23 CM (0, 0) _ H512.out Try.underlying23 rfl HRM.out.info ?_))
    refine (HSI.out _ HR12.out HS12.out).mono ?_
    rintro e v3 ⟨rfl, hb3⟩
    have H513 := Lib.hid ((hb3.block g5 (by have := HL12.out; omega)).trans H512.out)
    have H713 := Lib.hid ((hb3.block g7 (by have := HL12.out; omega)).trans H712.out)
    have H913 := Lib.hid ((hb3.block g9 (by have := HL12.out; omega)).trans H912.out)
    have H1113 := Lib.hid ((hb3.block g11 (by have := HL12.out; omega)).trans H1112.out)
    have HR13 := Lib.hid (HR12.out.kept hb3)
    have HS13 := Lib.hid (HS12.out.kept hb3)
    have HB13 := Lib.hid (HB12.out.trans (hb3.mono (by have := HL12.out; omega)))
    have HL13 := Lib.hid (show g3 < g5 ∧ g5 < g7 ∧ g7 < g9 ∧ g9 < g11 ∧ g11 < v3.heap.size by have := HL12.out; have := hb3.size; omega)
    clear hb3
    go_upto_region 14 with (fail)
    have a1' := (HEV.out _ _ H713.out).c1
    have r1' := cell_regrown a1'
    have hE := HEQ.out
    have hw1 : IntKind.i64.wrap ((d : Int) + 1) = (d : Int) + 1 := by
      unfold IntKind.wrap
      simp [IntKind.bits, IntKind.signed]
      omega
    have hw2 : IntKind.i64.wrap ((i : Int) + (q : Int)) = (i : Int) + (q : Int) := by
      unfold IntKind.wrap
      simp [IntKind.bits, IntKind.signed]
      omega
    refine wp_region_quiet_below (by kernel_rfl) (by kernel_rfl) ?_
    quiet_step (fail)
    quiet_step (fail)
    quiet_step (fail)
    quiet_step (fail)
    quiet_step (fail)
    quiet_step (fail)
    quiet_step (fail)
    (refine wpQuiet_step (fun K hK => ?_); rw [if_pos (by rfl)]; refine quiet_load_row 23 (.tmp 11) rfl g11 rfl 23 CP (0, 0) _ H1113.out Try.underlying23 rfl HRP.out.info ?_; refine hK _ ?_; clear hK K)
    (refine wpQuiet_step (fun K hK => ?_); rw [if_pos (by rfl)]; refine quiet_load_row 23 (.tmp 9) rfl g9 rfl 23 CP (0, 0) _ H913.out Try.underlying23 rfl HRP.out.info ?_; refine hK _ ?_; clear hK K)
    quiet_step (fail)
    quiet_step (fail)
    quiet_step (fail)
    quiet_step (fail)
    quiet_step (fail)
    quiet_step (fail)
    quiet_step (fail)
    quiet_step (fail)
    quiet_step (fail)
    (refine wpQuiet_step (fun K hK => ?_); rw [if_pos (by rfl)]; refine quiet_load_row 23 (.tmp 9) rfl g9 rfl 23 CP (0, 0) _ H913.out Try.underlying23 rfl HRP.out.info ?_; refine hK _ ?_; clear hK K)
    quiet_step (fail)
    quiet_step (fail)
    (refine wpQuiet_step (fun K hK => ?_); rw [if_pos (by rfl)]; refine quiet_load_row 23 (.tmp 5) rfl g5 rfl 23 CM (0, 0) _ H513.out Try.underlying23 rfl HRM.out.info ?_; refine hK _ ?_; clear hK K)
    quiet_step (fail)
    quiet_step (exact Calls.regrown_of (HC1.out _))
    quiet_step (fail)
    quiet_step (fail)
    quiet_step (fail)
    (refine wpQuiet_step (fun K hK => ?_); rw [if_pos (by rfl)]; refine quiet_load_row 23 (.tmp 9) rfl g9 rfl 23 CP (0, 0) _ H913.out Try.underlying23 rfl HRP.out.info ?_; refine hK _ ?_; clear hK K)
    quiet_step (fail)
    quiet_step (fail)
    quiet_step (fail)
    (refine wpQuiet_step (fun K hK => ?_); rw [if_pos (by rfl)]; refine quiet_load_row 23 (.tmp 5) rfl g5 rfl 23 CM (0, 0) _ H513.out Try.underlying23 rfl HRM.out.info ?_; refine hK _ ?_; clear hK K)
    quiet_step (fail)
    quiet_step (exact Calls.regrown_of (HC2.out _))
    quiet_step (fail)
    quiet_step (fail)
    (refine wpQuiet_step (fun K hK => ?_); rw [if_pos (by rfl)]; refine quiet_load_row 23 (.tmp 9) rfl g9 rfl 23 CP (0, 0) _ H913.out Try.underlying23 rfl HRP.out.info ?_; refine hK _ ?_; clear hK K)
    quiet_step (fail)
    quiet_step (fail)
    quiet_step (fail)
    quiet_step (fail)
    quiet_step (fail)
    (refine wpQuiet_step (fun K hK => ?_); rw [if_pos (by rfl)]; refine quiet_load_row 23 (.tmp 5) rfl g5 rfl 23 CM (0, 0) _ H513.out Try.underlying23 rfl HRM.out.info ?_; refine hK _ ?_; clear hK K)
    quiet_step (fail)
    quiet_step (exact Calls.regrown_of (HC3.out _))
    quiet_step (fail)
    refine wpQuiet_nil ?_
    intro _ hw'
    obtain ⟨⟨dq, osq⟩, hw''⟩ := hw'
    subst hw''
    have hbq := below_regrown v3 dq osq
    dsimp only
    generalize Sort.grow (redrawn v3 dq) osq = v4 at hbq ⊢
    have H514 := Lib.hid ((hbq.block g5 (by have := HL13.out; omega)).trans H513.out)
    have H714 := Lib.hid ((hbq.block g7 (by have := HL13.out; omega)).trans H713.out)
    have H914 := Lib.hid ((hbq.block g9 (by have := HL13.out; omega)).trans H913.out)
    have HR14 := Lib.hid (HR13.out.kept hbq)
    have HS14 := Lib.hid (HS13.out.kept hbq)
    have HB14 := Lib.hid (HB13.out.trans (hbq.mono (by have := HL13.out; omega)))
    have HL14 := Lib.hid (show g3 < g5 ∧ g5 < g7 ∧ g7 < g9 ∧ g9 < v4.heap.size by have := HL13.out; have := hbq.size; omega)
    clear a1' r1' hE hbq hw1 hw2
    go_wp2_with (refine wpList_load_row rfl 26 (.tmp 7) rfl g7 rfl 26 EK (0, 0) _ H714.out Try.underlying26 rfl HKI.out ?_)
    by_cases hi1 : i + 1 < q
    · refine (HNK.out hi1 _ HR14.out HS14.out).mono ?_
      rintro e v5 ⟨a', b', rfl, h1, h2, hb5, h5, h6⟩
      have HNI := Lib.hid (ev_info d ((i + 1 : Nat) : Int) (keyP d (i + 1) a0).1 (.slice a' d d) (.slice b' d d) (HKL.out (i + 1)).1)
      have HNA := Lib.hid (ev_one d ((i + 1 : Nat) : Int) (keyP d (i + 1) a0).1 a' b' d d d d)
      have HNY := Lib.hid (evRow_size d ((i + 1 : Nat) : Int) (keyP d (i + 1) a0).1 (.slice a' d d) (.slice b' d d) (HKL.out (i + 1)).1)
      obtain ⟨EN, hEN⟩ : ∃ E, evRow d ((i + 1 : Nat) : Int) (keyP d (i + 1) a0).1 (.slice a' d d) (.slice b' d d) = E := ⟨_, rfl⟩
      rw [hEN] at HNI HNA HNY
      rw [hEN]
      have HEN := Lib.hid hEN
      have HHR := Lib.hid h1
      have HHS := Lib.hid h2
      have HH5 := Lib.hid (fun k (hk : (Value.slice a' d d).ownBlock = some k) => show k ≠ g7 by have := h5 k hk; have := HL14.out; omega)
      have HH6 := Lib.hid (fun k (hk : (Value.slice b' d d).ownBlock = some k) => show k ≠ g7 by have := h6 k hk; have := HL14.out; omega)
      have H515 := Lib.hid ((hb5.block g5 (by have := HL14.out; omega)).trans H514.out)
      have H715 := Lib.hid ((hb5.block g7 (by have := HL14.out; omega)).trans H714.out)
      have H915 := Lib.hid ((hb5.block g9 (by have := HL14.out; omega)).trans H914.out)
      have HB15 := Lib.hid (HB14.out.trans (hb5.mono (by have := HL14.out; omega)))
      have HL15 := Lib.hid (show g3 < g5 ∧ g5 < g7 ∧ g7 < g9 ∧ g9 < v5.heap.size by have := HL14.out; have := hb5.size; omega)
      clear h1 h2 hb5 hEN h5 h6
      go_upto_region 17 with (refine wpList_store_row rfl 26 (.tmp 15) (.tmp 103) rfl v5.heap.size EN rfl rfl 26 ZEv (heap_alloc_new _ _) HNI.out (by rw [HNY.out, zev_size]) HNA.out ?_; rw [World.setRow_alloc_new])
      have hbn : Below v5.heap.size v5 (v5.alloc (.cells EN 26)) := (Below.refl _ _).alloc (Nat.le_refl _) _
      have hnn := heap_alloc_new v5 (.cells EN 26)
      have hsn : (v5.alloc (.cells EN 26)).heap.size = v5.heap.size + 1 := by simp
      have H516 := Lib.hid ((hbn.block g5 (by have := HL15.out; omega)).trans H515.out)
      have H716 := Lib.hid ((hbn.block g7 (by have := HL15.out; omega)).trans H715.out)
      have H916 := Lib.hid ((hbn.block g9 (by have := HL15.out; omega)).trans H915.out)
      have HB16 := Lib.hid (HB15.out.trans (hbn.mono (by have := HL15.out; omega)))
      have HHR6 := Lib.hid (HHR.out.kept hbn)
      have HHS6 := Lib.hid (HHS.out.kept hbn)
      generalize v5.alloc (.cells EN 26) = v6 at H516 H716 H916 HB16 HHR6 HHS6 hnn hsn ⊢
      obtain ⟨g15, hg15⟩ : ∃ x, v5.heap.size = x := ⟨_, rfl⟩
      rw [hg15] at hnn hsn
      rw [hg15]
      have H1516 := Lib.hid hnn
      have HL16 := Lib.hid (show g3 < g5 ∧ g5 < g7 ∧ g7 < g9 ∧ g9 < v6.heap.size by have := HL15.out; omega)
      have HKN := Lib.hid (show keyIn a0 d (i + 1) g7 (v6.setRow g7 EN) by rw [← HEN.out]; exact keyIn.laid (g := g7) H716.out HHR6.out HHS6.out HH5.out HH6.out)
      clear hbn hsn hnn hg15
      have hne : ¬ (i : Int) = (q : Int) - 1 := by omega
      go_wp2_with (first
        | (refine wpList_load_row rfl 26 (.tmp 15) rfl g15 rfl 26 EN (0, 0) _ H1516.out Try.underlying26 rfl HNI.out ?_)
        | (refine wpList_store_row rfl 26 (.tmp 7) (.tmp 114) rfl g7 EN rfl rfl 26 EK H716.out HNI.out (by rw [HNY.out, HKE.out]) HNA.out ?_))
      exact ⟨⟨i + 1, hi1, by go_num, by rw [setRow_other _ _ _ _ (by have := HL16.out; omega)]; exact H516.out, by rw [setRow_other _ _ _ _ (by have := HL16.out; omega)]; exact H916.out, below_setRow HB16.out (by have := HL16.out; omega) _, by rw [setRow_size]; exact HL16.out.2.2.2, HKN.out⟩, by simp [intOf]; omega⟩
    · have hi2 : i + 1 = q := by omega
      refine (HNE.out hi2 _ HR14.out HS14.out).mono ?_
      rintro e v5 ⟨rfl, hb5⟩
      have HB15 := Lib.hid (HB14.out.trans (hb5.mono (by have := HL14.out; omega)))
      have HL15 := Lib.hid (show g3 < v5.heap.size by have := HL14.out; have := hb5.size; omega)
      clear hb5
      go_upto_region 17 with (refine wpList_store_row rfl 26 (.tmp 15) (.tmp 103) rfl v5.heap.size ZEv rfl rfl 26 ZEv (heap_alloc_new _ _) zev_info rfl zev_one ?_; rw [World.setRow_alloc_new])
      have hbn : Below v5.heap.size v5 (v5.alloc (.cells ZEv 26)) := (Below.refl _ _).alloc (Nat.le_refl _) _
      have hnn := heap_alloc_new v5 (.cells ZEv 26)
      have hsn : (v5.alloc (.cells ZEv 26)).heap.size = v5.heap.size + 1 := by simp
      have HB16 := Lib.hid (HB15.out.trans (hbn.mono (by have := HL15.out; omega)))
      generalize v5.alloc (.cells ZEv 26) = v6 at HB16 hnn hsn ⊢
      clear hbn hsn hnn
      have hne : (i : Int) = (q : Int) - 1 := by omega
      go_wp2_with fail
      go_ret
      exact ⟨rfl, HGE.out ▸ HB16.out⟩
end Go.Proofs.Ytpifjeghoapjbaa.Evolve
