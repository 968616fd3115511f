/- evolve: the document's Same: two keys that read alike are one. -/
import Derived.Test.YtpifjeghoapjbaaEvJ
namespace Go.Proofs.Ytpifjeghoapjbaa.Evolve
open Go.RowKit Go.Proofs.Ytpifjeghoapjbaa.Sha Go.Proofs.Ytpifjeghoapjbaa.Tree Go.Proofs.Ytpifjeghoapjbaa.Once

set_option maxRecDepth 100000 in
set_option maxHeartbeats 6400000 in
theorem ref_Same (d p : Int) (leaf : List UInt8) (hl : leaf.length = 32) (u1 u2 v1 v2 : Option Addr) (n m c1 c2 e1 e2 : Nat) (R S : List (List UInt8)) (w : World) (h1 : Hashes w (.slice u1 n c1) R) (h2 : Hashes w (.slice u2 n c2) R) (h3 : Hashes w (.slice v1 m e1) S) (h4 : Hashes w (.slice v2 m e2) S) (h32R : H32 R) (h32S : H32 S) (hn : n ≤ 1099511627776) (hm : m ≤ 1099511627776) :
    Calls Try.prog 16 #[.agg (evRow d p leaf (.slice u1 n c1) (.slice v1 m e1)), .agg (evRow d p leaf (.slice u2 n c2) (.slice v2 m e2))] w fun e w' => e = .returned (.bool true) ∧ Below w.heap.size w w' := by
  have HL1 := Lib.hid (hashes_form h1)
  have HL2 := Lib.hid (hashes_form h3)
  have HIL := Lib.hid (info_len leaf hl)
  have HE := fun w => eqIn_hash leaf leaf hl hl w
  obtain ⟨CL, hCL⟩ : ∃ C, (valsB leaf).toArray = C := ⟨_, rfl⟩
  rw [hCL, show (leaf == leaf) = true by simp] at HE
  have HCL := Lib.hid hCL
  have HEA := Lib.hid (fun w g h => (⟨hl, h⟩ : EvAt w g d p leaf (.slice u1 n c1) (.slice v1 m e1)))
  have HEB := Lib.hid (fun w g h => (⟨hl, h⟩ : EvAt w g d p leaf (.slice u2 n c2) (.slice v2 m e2)))
  obtain ⟨E1, hE1⟩ : ∃ E, evRow d p leaf (.slice u1 n c1) (.slice v1 m e1) = E := ⟨_, rfl⟩
  obtain ⟨E2, hE2⟩ : ∃ E, evRow d p leaf (.slice u2 n c2) (.slice v2 m e2) = E := ⟨_, rfl⟩
  rw [hE1] at HEA
  rw [hE2] at HEB
  rw [hE1, hE2]
  have H11 := Lib.hid h1
  have H12 := Lib.hid h2
  have H21 := Lib.hid h3
  have H22 := Lib.hid h4
  have H321 := Lib.hid h32R
  have H322 := Lib.hid h32S
  clear hE1 hE2 hCL h1 h2 h3 h4 h32R h32S
  go_enter Try.func16, Try.ntmps16
  go_upto_region 1 with (fail)
  have HA0 := Lib.hid (heap_alloc2_old w (.cells E1 26) (.cells E2 26))
  have HA1 := Lib.hid (heap_alloc2_new w (.cells E1 26) (.cells E2 26))
  have HBW := Lib.hid (show Below w.heap.size w ((w.alloc (.cells E1 26)).alloc (.cells E2 26)) from ((Below.refl _ _).alloc (Nat.le_refl _) _).alloc (by simp) _)
  have hs0 : ((w.alloc (.cells E1 26)).alloc (.cells E2 26)).heap.size = w.heap.size + 2 := by simp
  generalize ((w.alloc (.cells E1 26)).alloc (.cells E2 26)) = W at HA0 HA1 HBW hs0 ⊢
  obtain ⟨g2, hg2⟩ : ∃ x, w.heap.size = x := ⟨_, rfl⟩
  obtain ⟨g3, hg3⟩ : ∃ x, g2 + 1 = x := ⟨_, rfl⟩
  rw [hg2] at HA0 HA1 HBW hs0
  rw [hg3] at HA1
  rw [hg2, hg3]
  have HGE := Lib.hid hg2
  have HLT := Lib.hid (show g2 < g3 ∧ g3 < W.heap.size by omega)
  clear hg2 hg3 hs0
  have hA := HEA.out _ _ HA0.out
  have hB := HEB.out _ _ HA1.out
  have HLA := Lib.hid hA.lf
  have HLB := Lib.hid hB.lf
  have a0 := hA.c0
  have a1 := hA.c1
  have a34 := hA.c34
  have a35 := hA.c35
  have b0 := hB.c0
  have b1 := hB.c1
  have b34 := hB.c34
  have b35 := hB.c35
  have HA := Lib.hid hA
  have HB := Lib.hid hB
  have HB3 := HBW
  have HX11 := Lib.hid (H11.out.kept (HGE.out ▸ HB3.out))
  have HX12 := Lib.hid (H12.out.kept (HGE.out ▸ HB3.out))
  have HX21 := Lib.hid (H21.out.kept (HGE.out ▸ HB3.out))
  have HX22 := Lib.hid (H22.out.kept (HGE.out ▸ HB3.out))
  clear hA hB H11 H12 H21 H22
  go_wp2_with (first
    | (refine wpList_load_mid_g rfl 23 (.tmp 20) rfl g2 2 (by simp [Act.eval]) (valsB leaf) _ HLA.out Try.underlying23 rfl HIL.out ?_; rw [HCL.out])
    | (refine wpList_load_mid_g rfl 23 (.tmp 22) rfl g3 2 (by simp [Act.eval]) (valsB leaf) _ HLB.out Try.underlying23 rfl HIL.out ?_; rw [HCL.out]))
  clear a0 a1 a34 a35 b0 b1 b34 b35 HE
  go_loopw [5] (fun iv wr => ∃ k : Nat, k ≤ n ∧ iv = .int .i64 k ∧ Below W.heap.size W wr) (fun iv _ => n - (intOf iv).toNat)
  case atStart => exact ⟨0, by omega, rfl, Below.refl _ _⟩
  case round =>
    obtain ⟨k, hk, rfl, hbr⟩ := hrel
    have HBR := Lib.hid hbr
    have hA := HA.out.kept hbr
    have hB := HB.out.kept hbr
    have ca := hA.c34
    have cb := hB.c34
    have HAL := Lib.hid (HX11.out.kept hbr)
    have HBL := Lib.hid (HX12.out.kept hbr)
    clear hbr hA hB
    by_cases hlt : k < n
    · have hki : (k : Int) < (n : Int) := by omega
      have hk0 : (0 : Int) ≤ (k : Int) := by omega
      obtain ⟨s, hs⟩ : ∃ s, R[k]? = some s := ⟨R[k]'(by rw [HL1.out]; omega), List.getElem?_eq_getElem _⟩
      have hsl := H321.out s (List.mem_of_getElem? hs)
      obtain ⟨ga, oa, rfl, hra⟩ := hashes_cellE HAL.out k s hs
      obtain ⟨gb, ob, rfl, hrb⟩ := hashes_cellE HBL.out k s hs
      have HRA := Lib.hid hra
      have HRB := Lib.hid hrb
      have HIS := Lib.hid (info_len s hsl)
      have HE := fun w => eqIn_hash s s hsl hsl w
      obtain ⟨CS, hCS⟩ : ∃ C, (valsB s).toArray = C := ⟨_, rfl⟩
      rw [hCS, show (s == s) = true by simp] at HE
      have HCS := Lib.hid hCS
      clear hs hsl hra hrb hCS
      go_wp2_with fail
      have ra := cell_regrown ca
      have rb := cell_regrown cb
      refine wp_region_quiet_below (by kernel_rfl) (by kernel_rfl) ?_
      repeat (first
        | (refine wpQuiet_step (fun K hK => ?_); rw [if_pos (by rfl)]; refine quiet_load_mid 23 (.tmp 54) rfl ga (oa + k * 32) (by simp [Act.eval]) (valsB s) _ HRA.out Try.underlying23 rfl HIS.out ?_; rw [HCS.out]; refine hK _ ?_; clear hK K)
        | (refine wpQuiet_step (fun K hK => ?_); rw [if_pos (by rfl)]; refine quiet_load_mid 23 (.tmp 59) rfl gb (ob + k * 32) (by simp [Act.eval]) (valsB s) _ HRB.out Try.underlying23 rfl HIS.out ?_; rw [HCS.out]; refine hK _ ?_; clear hK K)
        | (quiet_step (fail)))
      refine wpQuiet_nil ?_
      intro _ hw'
      obtain ⟨⟨dq, osq⟩, hw''⟩ := hw'
      subst hw''
      have hbq := below_regrown wr dq osq
      dsimp only
      generalize Sort.grow (redrawn wr dq) osq = w5 at hbq ⊢
      have HB5 := Lib.hid (HBR.out.trans (hbq.mono HBR.out.size))
      clear ra rb ca cb hbq
      go_wp2_with fail
      go_roundw
      case rel => exact ⟨k + 1, by omega, by go_num, HB5.out⟩
      case measure => simp [intOf]; omega
    · obtain rfl : k = n := by omega
      have HA2 := Lib.hid (HA.out.kept HBR.out)
      have HB2 := Lib.hid (HB.out.kept HBR.out)
      have HY21 := Lib.hid (HX21.out.kept HBR.out)
      have HY22 := Lib.hid (HX22.out.kept HBR.out)
      have HB4 := Lib.hid (HB3.out.trans (HBR.out.mono (by have := HB3.out.size; have := HGE.out; omega)))
      clear HA HB HX21 HX22 HX11 HX12 HAL HBL cb HBR
      go_wp2_with fail
      clear ca
      rename World => w4
      have HA := HA2
      have HB := HB2
      have HX21 := HY21
      have HX22 := HY22
      clear HA2 HB2 HY21 HY22
      go_loopw [6] (fun iv wr => ∃ k : Nat, k ≤ m ∧ iv = .int .i64 k ∧ Below w4.heap.size w4 wr) (fun iv _ => m - (intOf iv).toNat)
      case atStart => exact ⟨0, by omega, rfl, Below.refl _ _⟩
      case round =>
        obtain ⟨k, hk, rfl, hbr⟩ := hrel
        have HBR := Lib.hid hbr
        have hA := HA.out.kept hbr
        have hB := HB.out.kept hbr
        have ca := hA.c35
        have cb := hB.c35
        have HAL := Lib.hid (HX21.out.kept hbr)
        have HBL := Lib.hid (HX22.out.kept hbr)
        clear hbr hA hB
        by_cases hlt : k < m
        · have hki : (k : Int) < (m : Int) := by omega
          have hk0 : (0 : Int) ≤ (k : Int) := by omega
          obtain ⟨s, hs⟩ : ∃ s, S[k]? = some s := ⟨S[k]'(by rw [HL2.out]; omega), List.getElem?_eq_getElem _⟩
          have hsl := H322.out s (List.mem_of_getElem? hs)
          obtain ⟨ga, oa, rfl, hra⟩ := hashes_cellE HAL.out k s hs
          obtain ⟨gb, ob, rfl, hrb⟩ := hashes_cellE HBL.out k s hs
          have HRA := Lib.hid hra
          have HRB := Lib.hid hrb
          have HIS := Lib.hid (info_len s hsl)
          have HE := fun w => eqIn_hash s s hsl hsl w
          obtain ⟨CS, hCS⟩ : ∃ C, (valsB s).toArray = C := ⟨_, rfl⟩
          rw [hCS, show (s == s) = true by simp] at HE
          have HCS := Lib.hid hCS
          clear hs hsl hra hrb hCS
          go_wp2_with fail
          have ra := cell_regrown ca
          have rb := cell_regrown cb
          refine wp_region_quiet_below (by kernel_rfl) (by kernel_rfl) ?_
          repeat (first
            | (refine wpQuiet_step (fun K hK => ?_); rw [if_pos (by rfl)]; refine quiet_load_mid 23 (.tmp 72) rfl ga (oa + k * 32) (by simp [Act.eval]) (valsB s) _ HRA.out Try.underlying23 rfl HIS.out ?_; rw [HCS.out]; refine hK _ ?_; clear hK K)
            | (refine wpQuiet_step (fun K hK => ?_); rw [if_pos (by rfl)]; refine quiet_load_mid 23 (.tmp 77) rfl gb (ob + k * 32) (by simp [Act.eval]) (valsB s) _ HRB.out Try.underlying23 rfl HIS.out ?_; rw [HCS.out]; refine hK _ ?_; clear hK K)
            | (quiet_step (fail)))
          refine wpQuiet_nil ?_
          intro _ hw'
          obtain ⟨⟨dq, osq⟩, hw''⟩ := hw'
          subst hw''
          have hbq := below_regrown wr dq osq
          dsimp only
          generalize Sort.grow (redrawn wr dq) osq = w5 at hbq ⊢
          have HB5 := Lib.hid (HBR.out.trans (hbq.mono HBR.out.size))
          clear ra rb ca cb hbq
          go_wp2_with fail
          go_roundw
          case rel => exact ⟨k + 1, by omega, by go_num, HB5.out⟩
          case measure => simp [intOf]; omega
        · obtain rfl : k = m := by omega
          go_wp2_with fail
          go_ret
          exact ⟨rfl, HGE.out ▸ HB4.out.trans (HBR.out.mono (by have := HB4.out.size; have := HGE.out; omega))⟩

end Go.Proofs.Ytpifjeghoapjbaa.Evolve
