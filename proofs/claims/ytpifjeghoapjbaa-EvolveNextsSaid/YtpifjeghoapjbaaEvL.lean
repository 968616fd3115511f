/- evolve: a signature: the document's Sign. -/
import Derived.Test.YtpifjeghoapjbaaEvJ
namespace Go.Proofs.Ytpifjeghoapjbaa.Evolve
open Go.RowKit Go.Proofs.Ytpifjeghoapjbaa.Sha Go.Proofs.Ytpifjeghoapjbaa.Tree Go.Proofs.Ytpifjeghoapjbaa.Once

/-- A signature, as far as k sides. -/
def sigL (leaf m : List UInt8) (S : List (List UInt8)) (k : Nat) : List UInt8 := signK leaf m ++ (S.take k).flatten
theorem sigL_succ (leaf m : List UInt8) (S : List (List UInt8)) (k : Nat) (s : List UInt8) (hs : S[k]? = some s) : sigL leaf m S (k + 1) = sigL leaf m S k ++ s := by
  unfold sigL
  rw [List.take_add_one, hs]
  simp
theorem sigL_len (leaf m : List UInt8) (S : List (List UInt8)) (h32 : H32 S) (k : Nat) : (sigL leaf m S k).length ≤ 1024 + 32 * k := by
  induction k with
  | zero => simp [sigL, signK_len]
  | succ k ih =>
    cases hs : S[k]? with
    | none =>
      have e : sigL leaf m S (k + 1) = sigL leaf m S k := by unfold sigL; rw [List.take_add_one, hs]; simp
      rw [e]; omega
    | some s =>
      rw [sigL_succ leaf m S k s hs, List.length_append, h32 s (List.mem_of_getElem? hs)]
      omega
theorem sig_zero (leaf m : List UInt8) (S : List (List UInt8)) : sigL leaf m S 0 = signK leaf m := by simp [sigL]

set_option maxRecDepth 100000 in
set_option maxHeartbeats 3200000 in
theorem ref_SignE_no (d p : Int) (leaf : List UInt8) (hl : leaf.length = 32) (ar as_ : Option Addr) (nr cr ns cs : Nat) (R : List (List UInt8)) (w : World) (hR : Hashes w (.slice ar nr cr) R) (h32 : H32 R) (hno : ¬ mayP d p R ns) (m : List UInt8) (hml : m.length = 32) :
    Calls Try.prog 24 #[.agg (evRow d p leaf (.slice ar nr cr) (.slice as_ ns cs)), .agg (valsB m).toArray] w fun e w' => e = .returned (.tuple #[.string ⟨#[]⟩, .int .i64 2]) ∧ Below w.heap.size w w' := by
  have HM := Lib.hid (fun w' (h : Below w.heap.size w w') => ref_May d p leaf hl ar as_ nr cr ns cs R w' (hR.kept h) h32 false (by simp [hno]))
  have HEI := Lib.hid (ev_info d p leaf (.slice ar nr cr) (.slice as_ ns cs) hl)
  have HRM := Lib.hid (row32 m hml)
  obtain ⟨CM, hCM⟩ : ∃ C, (valsB m).toArray = C := ⟨_, rfl⟩
  rw [hCM] at HRM
  rw [hCM]
  clear hCM
  obtain ⟨E, hE⟩ : ∃ E, evRow d p leaf (.slice ar nr cr) (.slice as_ ns cs) = E := ⟨_, rfl⟩
  rw [hE] at HM HEI
  rw [hE]
  clear hE hR h32 hno
  go_enter Try.func24, Try.ntmps24
  go_upto_region 1 with (fail)
  have HA0 := Lib.hid (heap_alloc2_old w (.cells E 26) (.cells CM 23))
  have HA1 := Lib.hid (heap_alloc2_new w (.cells E 26) (.cells CM 23))
  have HBW := Lib.hid (show Below w.heap.size w ((w.alloc (.cells E 26)).alloc (.cells CM 23)) from ((Below.refl _ _).alloc (Nat.le_refl _) _).alloc (by simp) _)
  have hs0 : ((w.alloc (.cells E 26)).alloc (.cells CM 23)).heap.size = w.heap.size + 2 := by simp
  generalize ((w.alloc (.cells E 26)).alloc (.cells CM 23)) = W at HA0 HA1 HBW hs0 ⊢
  obtain ⟨g2, hg2⟩ : ∃ x, w.heap.size = x := ⟨_, rfl⟩
  obtain ⟨g3, hg3⟩ : ∃ x, g2 + 1 = x := ⟨_, rfl⟩
  rw [hg2] at HA0 HA1 HBW hs0
  rw [hg3] at HA1
  rw [hg2, hg3]
  have HGE := Lib.hid hg2
  have HLT := Lib.hid (show g2 < g3 ∧ g3 < W.heap.size by omega)
  clear hg2 hg3 hs0
  go_wp2_with (refine wpList_load_row rfl 26 (.tmp 2) rfl g2 rfl 26 E (0, 0) _ HA0.out Try.underlying26 rfl HEI.out ?_)
  refine (HM.out _ (HGE.out ▸ HBW.out)).mono ?_
  rintro e w3 ⟨rfl, hb3⟩
  have HB := Lib.hid (HBW.out.trans (hb3.mono (by have := HLT.out; omega)))
  clear hb3
  go_wp2_with fail
  go_ret2
  exact ⟨rfl, HGE.out ▸ HB.out⟩

set_option maxRecDepth 100000 in
set_option maxHeartbeats 6400000 in
theorem ref_SignE (d p : Nat) (hd : d ≤ 4) (hp : p < 2 ^ d) (leaf : List UInt8) (hl : leaf.length = 32) (ar as_ : Option Addr) (cr cs : Nat) (R S : List (List UInt8)) (w : World) (hR : Hashes w (.slice ar d cr) R) (h32 : H32 R) (hS : Hashes w (.slice as_ d cs) S) (h32S : H32 S) (hm : ∀ i, i < d → rightAt d p i = true → R.getD i [] = zeroL) (m : List UInt8) (hml : m.length = 32) :
    Calls Try.prog 24 #[.agg (evRow d p leaf (.slice ar d cr) (.slice as_ d cs)), .agg (valsB m).toArray] w fun e w' => e = .returned (.tuple #[.string ⟨(sigL leaf m S d).toArray⟩, .int .i64 0]) ∧ Below w.heap.size w w' := by
  have HM := Lib.hid (fun w' (h : Below w.heap.size w w') => ref_May_in d p hd hp leaf hl ar as_ cr cs R w' (hR.kept h) h32 true (by simpa using hm))
  have HEI := Lib.hid (ev_info d p leaf (.slice ar d cr) (.slice as_ d cs) hl)
  have HEV := Lib.hid (fun w g h => (⟨hl, h⟩ : EvAt w g d p leaf (.slice ar d cr) (.slice as_ d cs)))
  have hp16 : p < 16 := Nat.lt_of_lt_of_le hp (Nat.le_trans (Nat.pow_le_pow_right (by omega) hd) (by decide))
  have hSL := hashes_form hS
  have HS := Lib.hid hS
  have HH32 := Lib.hid h32S
  have HSL := Lib.hid hSL
  have HIL := Lib.hid (info_len leaf hl)
  have HRM := Lib.hid (row32 m hml)
  obtain ⟨CM, hCM⟩ : ∃ C, (valsB m).toArray = C := ⟨_, rfl⟩
  rw [hCM] at HRM
  rw [hCM]
  obtain ⟨CL, hCL⟩ : ∃ C, (valsB leaf).toArray = C := ⟨_, rfl⟩
  have HSG := Lib.hid (fun w => ref_Sign leaf m hl hml w)
  rw [hCM, hCL] at HSG
  have HCL := Lib.hid hCL
  have HLN := Lib.hid (fun k => sigL_len leaf m S h32S k)
  clear hCM hCL
  obtain ⟨E, hE⟩ : ∃ E, evRow d p leaf (.slice ar d cr) (.slice as_ d cs) = E := ⟨_, rfl⟩
  rw [hE] at HM HEI HEV
  rw [hE]
  clear hE hR h32 hS h32S hm hSL
  go_enter Try.func24, Try.ntmps24
  go_upto_region 1 with (fail)
  have HA0 := Lib.hid (heap_alloc2_old w (.cells E 26) (.cells CM 23))
  have HA1 := Lib.hid (heap_alloc2_new w (.cells E 26) (.cells CM 23))
  have HBW := Lib.hid (show Below w.heap.size w ((w.alloc (.cells E 26)).alloc (.cells CM 23)) from ((Below.refl _ _).alloc (Nat.le_refl _) _).alloc (by simp) _)
  have hs0 : ((w.alloc (.cells E 26)).alloc (.cells CM 23)).heap.size = w.heap.size + 2 := by simp
  generalize ((w.alloc (.cells E 26)).alloc (.cells CM 23)) = W at HA0 HA1 HBW hs0 ⊢
  obtain ⟨g2, hg2⟩ : ∃ x, w.heap.size = x := ⟨_, rfl⟩
  obtain ⟨g3, hg3⟩ : ∃ x, g2 + 1 = x := ⟨_, rfl⟩
  rw [hg2] at HA0 HA1 HBW hs0
  rw [hg3] at HA1
  rw [hg2, hg3]
  have HGE := Lib.hid hg2
  have HLT := Lib.hid (show g2 < g3 ∧ g3 < W.heap.size by omega)
  clear hg2 hg3 hs0
  go_wp2_with (refine wpList_load_row rfl 26 (.tmp 2) rfl g2 rfl 26 E (0, 0) _ HA0.out Try.underlying26 rfl HEI.out ?_)
  refine (HM.out _ (HGE.out ▸ HBW.out)).mono ?_
  rintro e w3 ⟨rfl, hb3⟩
  have hE3 := HEV.out _ _ ((hb3.block _ (Nat.lt_trans HLT.out.1 HLT.out.2)).trans HA0.out)
  have H1 := Lib.hid hE3
  have HLF := Lib.hid hE3.lf
  have H2 := Lib.hid ((hb3.block _ HLT.out.2).trans HA1.out)
  have HB := Lib.hid (HBW.out.trans (hb3.mono (by have := HLT.out; omega)))
  clear hb3 hE3
  go_wp2_with (first
    | (refine wpList_load_mid rfl 23 (.tmp 11) rfl g2 (2) (by simp [Act.eval]) (valsB leaf) _ HLF.out Try.underlying23 rfl HIL.out ?_; rw [HCL.out])
    | (refine wpList_load_row rfl 23 (.tmp 3) rfl g3 rfl 23 CM (0, 0) _ H2.out Try.underlying23 rfl HRM.out.info ?_))
  refine (HSG.out _).mono ?_
  rintro e w4 ⟨rfl, hb4⟩
  have HE4 := Lib.hid (H1.out.kept hb4)
  have HB4 := Lib.hid (HB.out.trans (hb4.mono (by have := HB.out.size; have := HGE.out; omega)))
  have HS4 := Lib.hid (HS.out.kept (HGE.out ▸ HB4.out))
  rw [← sig_zero leaf m S]
  clear hb4
  go_wp2_with fail
  go_loopw [6, 7] (fun sv iv wr => ∃ k : Nat, k ≤ d ∧ iv = .int .i64 k ∧ sv = .string ⟨(sigL leaf m S k).toArray⟩ ∧ Below w4.heap.size w4 wr) (fun _ iv _ => d - (intOf iv).toNat)
  case atStart => exact ⟨0, by omega, rfl, rfl, Below.refl _ _⟩
  case round =>
    obtain ⟨k, hk, rfl, rfl, hbr⟩ := hrel
    have HBR := Lib.hid hbr
    have hE5 := HE4.out.kept hbr
    have c0 := hE5.c0
    have c35 := hE5.c35
    clear hbr hE5
    by_cases hlt : k < d
    · have hki : (k : Int) < (d : Int) := by omega
      have hk0 : (0 : Int) ≤ (k : Int) := by omega
      obtain ⟨s, hs⟩ : ∃ s, S[k]? = some s := ⟨S[k]'(by rw [HSL.out]; omega), List.getElem?_eq_getElem _⟩
      have hsl := HH32.out s (List.mem_of_getElem? hs)
      obtain ⟨gs, os, rfl, hrs⟩ := hashes_cellE (HS4.out.kept HBR.out) k s hs
      have HRS := Lib.hid hrs
      have HIS := Lib.hid (info_len s hsl)
      have HBY := Lib.hid (fun w => bytes_any s hsl w)
      have HSC := Lib.hid (sigL_succ leaf m S k s hs)
      have hln := HLN.out k
      obtain ⟨CS, hCS⟩ : ∃ C, (valsB s).toArray = C := ⟨_, rfl⟩
      rw [hCS] at HBY
      have HCS := Lib.hid hCS
      obtain ⟨T, hT⟩ : ∃ T : ByteArray, (⟨s.toArray⟩ : ByteArray) = T := ⟨_, rfl⟩
      obtain ⟨K, hK⟩ : ∃ T : ByteArray, (⟨(sigL leaf m S k).toArray⟩ : ByteArray) = T := ⟨_, rfl⟩
      have hKT : K ++ T = ⟨(sigL leaf m S (k + 1)).toArray⟩ := by rw [← hK, ← hT, mk_append, HSC.out]
      have hz : K.size + T.size ≤ 9223372036854775807 := by
        rw [← hK, ← hT, size_mk, size_mk, hsl]; omega
      rw [hT] at HBY
      rw [hK]
      have HKT := Lib.hid hKT
      clear hs hsl hrs hCS hT hK hKT hln
      go_wp2_with (refine wpList_load_mid rfl 23 (.tmp 25) rfl gs (os + k * 32) (by simp [Act.eval]) (valsB s) _ HRS.out Try.underlying23 rfl HIS.out ?_; rw [HCS.out])
      refine (HBY.out _).mono ?_
      rintro e w6 ⟨rfl, hb6⟩
      have HB6 := Lib.hid (HBR.out.trans (hb6.mono HBR.out.size))
      clear hb6
      go_wp2_with fail
      go_roundw
      case rel => exact ⟨k + 1, by omega, by go_num, by rw [HKT.out], HB6.out⟩
      case measure => simp [intOf]; omega
    · obtain rfl : k = d := by omega
      go_wp2_with fail
      go_ret2
      exact ⟨rfl, HGE.out ▸ HB4.out.trans (HBR.out.mono (by have := HB4.out.size; have := HGE.out; omega))⟩

end Go.Proofs.Ytpifjeghoapjbaa.Evolve
