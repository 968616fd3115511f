/- evolve: the code's Sign. -/
import Derived.Test.YtpifjeghoapjbaaEvL
import Derived.Test.YtpifjeghoapjbaaEwE
namespace Go.Proofs.Ytpifjeghoapjbaa.Evolve
open Go.RowKit Go.Proofs.Ytpifjeghoapjbaa.Sha Go.Proofs.Ytpifjeghoapjbaa.Tree Go.Proofs.Ytpifjeghoapjbaa.Once

set_option maxRecDepth 100000 in
set_option maxHeartbeats 3200000 in
theorem code_SignE_no (d p : Int) (leaf : List UInt8) (hl : leaf.length = 32) (ar as_ : Option Addr) (nr cr ns cs : Nat) (R : List (List UInt8)) (w : World) (hR : Hashes w (.slice ar nr cr) R) (h32 : H32 R) (hno : ¬ mayP d p R ns) (m : List UInt8) (hml : m.length = 32) :
    Calls Try.prog 15 #[.agg (evRow d p leaf (.slice ar nr cr) (.slice as_ ns cs)), .agg (valsB m).toArray] w fun e w' => e = .returned (.tuple #[.string ⟨#[]⟩, .int .i64 2]) ∧ Below w.heap.size w w' := by
  have HM := Lib.hid (fun w' (h : Below w.heap.size w w') => code_May d p leaf hl ar as_ nr cr ns cs R w' (hR.kept h) h32 false (by simp [hno]))
  have HEI := Lib.hid (ev_info d p leaf (.slice ar nr cr) (.slice as_ ns cs) hl)
  have HRM := Lib.hid (row32 m hml)
  obtain ⟨CM, hCM⟩ : ∃ C, (valsB m).toArray = C := ⟨_, rfl⟩
  rw [hCM] at HRM
  rw [hCM]
  clear hCM
  obtain ⟨E, hE⟩ : ∃ E, evRow d p leaf (.slice ar nr cr) (.slice as_ ns cs) = E := ⟨_, rfl⟩
  rw [hE] at HM HEI
  rw [hE]
  clear hE hR h32 hno
  go_enter Try.func15, Try.ntmps15
  go_upto_region 1 with (fail)
  have HA0 := Lib.hid (heap_alloc2_old w (.cells E 26) (.cells CM 23))
  have HA1 := Lib.hid (heap_alloc2_new w (.cells E 26) (.cells CM 23))
  have HBW := Lib.hid (show Below w.heap.size w ((w.alloc (.cells E 26)).alloc (.cells CM 23)) from ((Below.refl _ _).alloc (Nat.le_refl _) _).alloc (by simp) _)
  have hs0 : ((w.alloc (.cells E 26)).alloc (.cells CM 23)).heap.size = w.heap.size + 2 := by simp
  generalize ((w.alloc (.cells E 26)).alloc (.cells CM 23)) = W at HA0 HA1 HBW hs0 ⊢
  obtain ⟨g2, hg2⟩ : ∃ x, w.heap.size = x := ⟨_, rfl⟩
  obtain ⟨g3, hg3⟩ : ∃ x, g2 + 1 = x := ⟨_, rfl⟩
  rw [hg2] at HA0 HA1 HBW hs0
  rw [hg3] at HA1
  rw [hg2, hg3]
  have HGE := Lib.hid hg2
  have HLT := Lib.hid (show g2 < g3 ∧ g3 < W.heap.size by omega)
  clear hg2 hg3 hs0
  go_wp2_with (refine wpList_load_row rfl 26 (.tmp 2) rfl g2 rfl 26 E (0, 0) _ HA0.out Try.underlying26 rfl HEI.out ?_)
  refine (HM.out _ (HGE.out ▸ HBW.out)).mono ?_
  rintro e w3 ⟨rfl, hb3⟩
  have HB := Lib.hid (HBW.out.trans (hb3.mono (by have := HLT.out; omega)))
  clear hb3
  go_wp2_with fail
  go_ret2
  exact ⟨rfl, HGE.out ▸ HB.out⟩

set_option maxRecDepth 100000 in
set_option maxHeartbeats 6400000 in
theorem code_SignE (d p : Nat) (hd : d ≤ 4) (hp : p < 2 ^ d) (leaf : List UInt8) (hl : leaf.length = 32) (ar as_ : Option Addr) (cr cs : Nat) (R S : List (List UInt8)) (w : World) (hR : Hashes w (.slice ar d cr) R) (h32 : H32 R) (hS : Hashes w (.slice as_ d cs) S) (h32S : H32 S) (hm : ∀ i, i < d → rightAt d p i = true → R.getD i [] = zeroL) (m : List UInt8) (hml : m.length = 32) :
    Calls Try.prog 15 #[.agg (evRow d p leaf (.slice ar d cr) (.slice as_ d cs)), .agg (valsB m).toArray] w fun e w' => e = .returned (.tuple #[.string ⟨(sigL leaf m S d).toArray⟩, .int .i64 0]) ∧ Below w.heap.size w w' := by
  have HM := Lib.hid (fun w' (h : Below w.heap.size w w') => code_May_in d p hd hp leaf hl ar as_ cr cs R w' (hR.kept h) h32 true (by simpa using hm))
  have HEI := Lib.hid (ev_info d p leaf (.slice ar d cr) (.slice as_ d cs) hl)
  have HEV := Lib.hid (fun w g h => (⟨hl, h⟩ : EvAt w g d p leaf (.slice ar d cr) (.slice as_ d cs)))
  have hp16 : p < 16 := Nat.lt_of_lt_of_le hp (Nat.le_trans (Nat.pow_le_pow_right (by omega) hd) (by decide))
  have hSL := hashes_form hS
  have HS := Lib.hid hS
  have HH32 := Lib.hid h32S
  have HSL := Lib.hid hSL
  have HIL := Lib.hid (info_len leaf hl)
  have HRM := Lib.hid (row32 m hml)
  obtain ⟨CM, hCM⟩ : ∃ C, (valsB m).toArray = C := ⟨_, rfl⟩
  rw [hCM] at HRM
  rw [hCM]
  obtain ⟨CL, hCL⟩ : ∃ C, (valsB leaf).toArray = C := ⟨_, rfl⟩
  have HSG := Lib.hid (fun w => code_Sign leaf m hl hml w)
  rw [hCM, hCL] at HSG
  have HCL := Lib.hid hCL
  have HLN := Lib.hid (fun k => sigL_len leaf m S h32S k)
  clear hCM hCL
  obtain ⟨E, hE⟩ : ∃ E, evRow d p leaf (.slice ar d cr) (.slice as_ d cs) = E := ⟨_, rfl⟩
  rw [hE] at HM HEI HEV
  rw [hE]
  clear hE hR h32 hS h32S hm hSL
  go_enter Try.func15, Try.ntmps15
  go_upto_region 1 with (fail)
  have HA0 := Lib.hid (heap_alloc2_old w (.cells E 26) (.cells CM 23))
  have HA1 := Lib.hid (heap_alloc2_new w (.cells E 26) (.cells CM 23))
  have HBW := Lib.hid (show Below w.heap.size w ((w.alloc (.cells E 26)).alloc (.cells CM 23)) from ((Below.refl _ _).alloc (Nat.le_refl _) _).alloc (by simp) _)
  have hs0 : ((w.alloc (.cells E 26)).alloc (.cells CM 23)).heap.size = w.heap.size + 2 := by simp
  generalize ((w.alloc (.cells E 26)).alloc (.cells CM 23)) = W at HA0 HA1 HBW hs0 ⊢
  obtain ⟨g2, hg2⟩ : ∃ x, w.heap.size = x := ⟨_, rfl⟩
  obtain ⟨g3, hg3⟩ : ∃ x, g2 + 1 = x := ⟨_, rfl⟩
  rw [hg2] at HA0 HA1 HBW hs0
  rw [hg3] at HA1
  rw [hg2, hg3]
  have HGE := Lib.hid hg2
  have HLT := Lib.hid (show g2 < g3 ∧ g3 < W.heap.size by omega)
  clear hg2 hg3 hs0
  go_wp2_with (refine wpList_load_row rfl 26 (.tmp 2) rfl g2 rfl 26 E (0, 0) _ HA0.out Try.underlying26 rfl HEI.out ?_)
  refine (HM.out _ (HGE.out ▸ HBW.out)).mono ?_
  rintro e w3 ⟨rfl, hb3⟩
  have hE3 := HEV.out _ _ ((hb3.block _ (Nat.lt_trans HLT.out.1 HLT.out.2)).trans HA0.out)
  have H1 := Lib.hid hE3
  have H2 := Lib.hid ((hb3.block _ HLT.out.2).trans HA1.out)
  have HB := Lib.hid (HBW.out.trans (hb3.mono (by have := HLT.out; omega)))
  have HL3 := Lib.hid (show g3 < w3.heap.size from Nat.lt_of_lt_of_le HLT.out.2 hb3.size)
  clear hb3 hE3
  have hfr := Lib.fresh_isBuilder 58 5 w3
  obtain ⟨b, hb⟩ : ∃ b, w3.heap.size = b := ⟨_, rfl⟩
  rw [hb] at hfr
  have HFR := Lib.hid hfr
  have HWB := Lib.hid hb
  clear hfr hb
  go_upto_region 5 with (fail)
  rw [HWB.out]
  have hba : Below b w3 (w3.alloc (.cells #[.pointer none, .slice none 0 0] 58)) := (Below.refl b w3).alloc (Nat.le_of_eq HWB.out.symm) _
  have hE4 := H1.out.kept (HWB.out.symm ▸ hba)
  have HLF := Lib.hid hE4.lf
  have H22 := Lib.hid ((hba.block _ (HWB.out ▸ HL3.out)).trans H2.out)
  have HBA := Lib.hid hba
  have hbz : b < (w3.alloc (.cells #[.pointer none, .slice none 0 0] 58)).heap.size := by simp [HWB.out]
  clear hba hE4
  generalize w3.alloc (.cells #[.pointer none, .slice none 0 0] 58) = w4 at HFR HBA HLF H22 hbz ⊢
  have HBZ := Lib.hid hbz
  clear hbz
  go_wp2_with (first
    | (refine wpList_load_mid rfl 23 (.tmp 15) rfl g2 (2) (by simp [Act.eval]) (valsB leaf) _ HLF.out Try.underlying23 rfl HIL.out ?_; rw [HCL.out])
    | (refine wpList_load_row rfl 23 (.tmp 3) rfl g3 rfl 23 CM (0, 0) _ H22.out Try.underlying23 rfl HRM.out.info ?_))
  refine (HSG.out _).mono ?_
  rintro e w5 ⟨rfl, hb5⟩
  obtain ⟨K0, hK0⟩ : ∃ T : ByteArray, (⟨(signK leaf m).toArray⟩ : ByteArray) = T := ⟨_, rfl⟩
  have hk0s : K0.size = 1024 := by rw [← hK0, size_mk, signK_len]
  have hk0c : Lib.strCells K0 = Lib.byteCells (sigL leaf m S 0) := by rw [← hK0, sig_zero]; exact strCells_mk _
  rw [hK0]
  have HWR := Lib.hid (Bld.write_any b b _ K0 w5 (builder_kept HFR.out hb5) (by simp [hk0s]) (Nat.le_of_lt (Nat.lt_of_lt_of_le HBZ.out hb5.size)))
  have HB5 := Lib.hid (HBA.out.trans (hb5.mono (Nat.le_of_lt HBZ.out)))
  have HKC := Lib.hid hk0c
  clear hb5 hK0 hk0s hk0c
  go_wp2_with fail
  refine HWR.out.mono ?_
  rintro e w6 ⟨rfl, hat6, hb6⟩
  have HAT := Lib.hid (show Lib.IsBuilder 58 5 b b (Lib.byteCells (sigL leaf m S 0)) w6 from Or.inr (by
    have h := hat6
    rw [HKC.out, List.nil_append] at h
    exact h))
  have HB6 := Lib.hid (HB5.out.trans hb6)
  have hE6 := H1.out.kept (HWB.out.symm ▸ HB6.out)
  have c35 := hE6.c35
  have HS6 := Lib.hid (HS.out.kept (HGE.out ▸ HB.out.trans (HB6.out.mono (by have := HL3.out; have := HLT.out; have := HWB.out; omega))))
  have HBS := Lib.hid (show b ≤ w6.heap.size from Nat.le_trans (Nat.le_of_eq HWB.out.symm) HB6.out.size)
  clear hat6 hb6 hE6
  go_wp2_with fail
  go_loopw [23] (fun iv wr => ∃ k : Nat, k ≤ d ∧ iv = .int .i64 k ∧ Lib.IsBuilder 58 5 b b (Lib.byteCells (sigL leaf m S k)) wr ∧ Below b w6 wr) (fun iv _ => d - (intOf iv).toNat)
  case atStart => exact ⟨0, by omega, rfl, HAT.out, Below.refl _ _⟩
  case round =>
    obtain ⟨k, hk, rfl, hbld, hbr⟩ := hrel
    have HBLD := Lib.hid hbld
    have HBR := Lib.hid hbr
    have HSW := Lib.hid (Nat.le_trans HBS.out hbr.size)
    clear hbld hbr
    by_cases hlt : k < d
    · have hki : (k : Int) < (d : Int) := by omega
      have hk0 : (0 : Int) ≤ (k : Int) := by omega
      obtain ⟨s, hs⟩ : ∃ s, S[k]? = some s := ⟨S[k]'(by rw [HSL.out]; omega), List.getElem?_eq_getElem _⟩
      have hsl := HH32.out s (List.mem_of_getElem? hs)
      have hS7 : Hashes wr (.slice as_ d cs) S := HS.out.kept (HGE.out ▸ HB.out.trans ((HB6.out.trans HBR.out).mono (by have := HL3.out; have := HLT.out; have := HWB.out; omega)))
      obtain ⟨gs, os, rfl, hrs⟩ := hashes_cellE hS7 k s hs
      have HRS := Lib.hid hrs
      have HIS := Lib.hid (info_len s hsl)
      have HRC := Lib.hid (row32 s hsl)
      have HBY := Lib.hid (fun w => code_bytes s hsl w)
      have HSC := Lib.hid (sigL_succ leaf m S k s hs)
      have hln := HLN.out k
      have HZS := Lib.hid (show (List.replicate 32 (Value.int .u8 0)).toArray.size = (valsB s).toArray.size by rw [HRC.out.size]; rfl)
      obtain ⟨CS, hCS⟩ : ∃ C, (valsB s).toArray = C := ⟨_, rfl⟩
      rw [hCS] at HBY HRC HZS
      have HCS := Lib.hid hCS
      obtain ⟨T, hT⟩ : ∃ T : ByteArray, (⟨s.toArray⟩ : ByteArray) = T := ⟨_, rfl⟩
      have hTs : T.size = 32 := by rw [← hT, size_mk, hsl]
      have hTc : Lib.strCells T = Lib.byteCells s := by rw [← hT]; exact strCells_mk _
      rw [hT] at HBY
      have HTZ := Lib.hid (And.intro hTs hTc)
      have HLE := Lib.hid (show (Lib.byteCells (sigL leaf m S k)).length + T.size ≤ 140737488355328 by rw [Lib.byteCells_length, hTs]; omega)
      clear hs hsl hrs hCS hT hTs hTc hln hS7
      go_upto_region 9 with (first
        | (refine wpList_load_mid rfl 23 (.tmp 25) rfl gs (os + k * 32) (by simp [Act.eval]) (valsB s) _ HRS.out Try.underlying23 rfl HIS.out ?_; rw [HCS.out])
        | (refine wpList_store_row rfl 23 (.tmp 9) (.tmp 26) rfl wr.heap.size CS rfl rfl 23 (List.replicate 32 (Value.int .u8 0)).toArray (heap_alloc_new _ _) HRC.out.info HZS.out HRC.out.one ?_; rw [World.setRow_alloc_new]))
      have hb7 : Below wr.heap.size wr (wr.alloc (.cells CS 23)) := (Below.refl _ _).alloc (Nat.le_refl _) _
      have H7 := Lib.hid (heap_alloc_new wr (.cells CS 23))
      have HBD7 := Lib.hid (builder_kept HBLD.out hb7)
      have HB7 := Lib.hid (HBR.out.trans (hb7.mono HSW.out))
      have HS7 := Lib.hid (Nat.le_trans HSW.out hb7.size)
      clear hb7
      generalize wr.alloc (.cells CS 23) = w7 at H7 HBD7 HB7 HS7 ⊢
      go_wp2_with (refine wpList_load_row rfl 23 (.tmp 9) rfl wr.heap.size rfl 23 CS (0, 0) _ H7.out Try.underlying23 rfl HRC.out.info ?_)
      refine (HBY.out _).mono ?_
      rintro e w8 ⟨rfl, hb8⟩
      have HWN := Lib.hid (Bld.write_any b b _ T w8 (builder_kept HBD7.out hb8) HLE.out (Nat.le_trans HS7.out hb8.size))
      have HB8 := Lib.hid (HB7.out.trans (hb8.mono HS7.out))
      clear hb8
      go_wp2_with fail
      refine HWN.out.mono ?_
      rintro e w9 ⟨rfl, hat9, hb9⟩
      have HAT9 := Lib.hid hat9
      have HB9 := Lib.hid (HB8.out.trans hb9)
      clear hat9 hb9
      go_wp2_with fail
      go_roundw
      case rel => exact ⟨k + 1, by omega, by go_num, Or.inr (by
        have h := HAT9.out
        rw [HTZ.out.2, ← Lib.byteCells_append] at h
        rw [HSC.out]
        exact h), HB9.out⟩
      case measure => simp [intOf]; omega
    · obtain rfl : k = d := by omega
      have HST := Lib.hid (Try.Builder_String_any b b (sigL leaf m S k) wr HBLD.out HSW.out)
      obtain ⟨T, hT⟩ : ∃ T : ByteArray, (⟨(sigL leaf m S k).toArray⟩ : ByteArray) = T := ⟨_, rfl⟩
      rw [hT] at HST
      have HT := Lib.hid hT
      clear hT
      go_wp2_with fail
      refine HST.out.mono ?_
      rintro e w8 ⟨rfl, hb8⟩
      have HB8 := Lib.hid (HB6.out.trans (HBR.out.trans hb8))
      clear hb8
      go_wp2_with fail
      go_ret2
      exact ⟨by rw [HT.out]; rfl, HGE.out ▸ HB.out.trans (HB8.out.mono (by have := HL3.out; have := HLT.out; have := HWB.out; omega))⟩

end Go.Proofs.Ytpifjeghoapjbaa.Evolve
