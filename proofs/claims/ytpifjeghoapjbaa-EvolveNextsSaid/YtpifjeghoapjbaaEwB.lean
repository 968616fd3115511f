/- evolve: the code's halves, sums, public keys of seeds of a depth. -/
import Derived.Test.YtpifjeghoapjbaaEvG
namespace Go.Proofs.Ytpifjeghoapjbaa.Evolve
open Go.RowKit Go.Proofs.Ytpifjeghoapjbaa.Sha Go.Proofs.Ytpifjeghoapjbaa.Tree Go.Proofs.Ytpifjeghoapjbaa.Once

set_option maxRecDepth 100000 in
set_option maxHeartbeats 1600000 in
theorem code_esum (a b : List UInt8) (ha : a.length = 32) (hb : b.length = 32) (w : World) :
    Calls Try.prog 64 #[.agg (valsB a).toArray, .agg (valsB b).toArray] w fun e w' => e = .returned (.agg (valsB (sumF a b)).toArray) ∧ Below w.heap.size w w' := by
  have HBA := Lib.hid (fun w => code_bytes a ha w)
  have HBB := Lib.hid (fun w => code_bytes b hb w)
  have HO := Lib.hid (fun (w : World) => code_ofT sumT (.slice (some ⟨w.heap.size, 0, none⟩) 2 2) [⟨a.toArray⟩, ⟨b.toArray⟩] _ (texts_two w ⟨a.toArray⟩ ⟨b.toArray⟩) (by decide) (by simp) (by simp [size_of a 32 ha, size_of b 32 hb]))
  have HRCA := Lib.hid (row32 a ha)
  have HRCB := Lib.hid (row32 b hb)
  obtain ⟨CA, hCA⟩ : ∃ C, (valsB a).toArray = C := ⟨_, rfl⟩
  obtain ⟨CB, hCB⟩ : ∃ C, (valsB b).toArray = C := ⟨_, rfl⟩
  rw [hCA] at HBA HRCA
  rw [hCB] at HBB HRCB
  rw [hCA, hCB]
  clear hCA hCB
  obtain ⟨SA, hSA⟩ : ∃ S : ByteArray, (⟨a.toArray⟩ : ByteArray) = S := ⟨_, rfl⟩
  obtain ⟨SB, hSB⟩ : ∃ S : ByteArray, (⟨b.toArray⟩ : ByteArray) = S := ⟨_, rfl⟩
  rw [hSA] at HBA
  rw [hSB] at HBB
  have HS := Lib.hid (And.intro hSA hSB)
  simp only [hSA, hSB] at HO
  clear hSA hSB
  have HPF := Lib.hid (show ofT sumT [SA, SB] = sumF a b by rw [← HS.out.1, ← HS.out.2]; rfl)
  rw [HPF.out] at HO
  obtain ⟨D0, hD0⟩ : ∃ D, (valsB (sumF a b)).toArray = D := ⟨_, rfl⟩
  go_enter Try.func64, Try.ntmps64
  go_upto_region 1 with (fail)
  rw [zero32]
  obtain ⟨Z, hZ⟩ : ∃ Z, (List.replicate 32 (Value.int .u8 0)).toArray = Z := ⟨_, rfl⟩
  have HZS := Lib.hid (show Z.size = 32 by rw [← hZ]; rfl)
  rw [hZ]
  clear hZ
  have hs0 : (((w.alloc (.cells CA 23)).alloc (.cells CB 23)).alloc (.cells Z 23)).heap.size = w.heap.size + 3 := by simp
  have hw1 : (w.alloc (.cells CA 23)).heap.size = w.heap.size + 1 := by simp
  have HA := Lib.hid ((Below.heap_alloc _ (.cells Z 23) w.heap.size (by simp; omega)).trans (heap_alloc2_old w (.cells CA 23) (.cells CB 23)))
  have HB := Lib.hid ((Below.heap_alloc _ (.cells Z 23) (w.heap.size + 1) (by simp)).trans (heap_alloc2_new w (.cells CA 23) (.cells CB 23)))
  have HZ := Lib.hid (show (((w.alloc (.cells CA 23)).alloc (.cells CB 23)).alloc (.cells Z 23)).heap[w.heap.size + 2]? = some (.cells Z 23 (0, 0)) by
    have h := heap_alloc2_new (w.alloc (.cells CA 23)) (.cells CB 23) (.cells Z 23)
    rw [hw1] at h
    exact h)
  have HBW := Lib.hid (show Below w.heap.size w (((w.alloc (.cells CA 23)).alloc (.cells CB 23)).alloc (.cells Z 23)) from (((Below.refl _ _).alloc (Nat.le_refl _) _).alloc (by simp) _).alloc (by simp; omega) _)
  have HS0 := Lib.hid hs0
  clear hs0 hw1
  generalize ((w.alloc (.cells CA 23)).alloc (.cells CB 23)).alloc (.cells Z 23) = W at HA HB HZ HBW HS0 ⊢
  have hW : w.heap.size + 2 < W.heap.size := by rw [HS0.out]; omega
  refine QT.wp_region_below_tail 4 (by kernel_rfl) (by kernel_rfl) ?_
  simp only [List.take_succ_cons, List.take_zero, List.drop_succ_cons, List.drop_zero]
  repeat (first
    | (refine wpQuiet_step (fun K hK => ?_); rw [if_pos (by rfl)]; refine quiet_load_row 23 (.tmp 2) rfl w.heap.size rfl 23 CA (0, 0) _ HA.out Try.underlying23 rfl HRCA.out.info ?_; refine hK _ ?_; clear hK K)
    | (refine wpQuiet_step (fun K hK => ?_); rw [if_pos (by rfl)]; refine quiet_load_row 23 (.tmp 3) rfl (w.heap.size + 1) rfl 23 CB (0, 0) _ HB.out Try.underlying23 rfl HRCB.out.info ?_; refine hK _ ?_; clear hK K)
    | (quiet_step (first | (with_reducible exact Calls.regrown_of (HBA.out _)) | (with_reducible exact Calls.regrown_of (HBB.out _))))
  )
  refine wpQuiet_nil ?_
  intro _ hw'
  obtain ⟨⟨dq, osq⟩, hw''⟩ := hw'
  subst hw''
  have hbq := below_regrown W dq osq
  dsimp only
  generalize Sort.grow (redrawn W dq) osq = w3 at hbq ⊢
  have HB3 := Lib.hid hbq
  clear hbq
  go_wp2_with fail
  refine (HO.out _).mono ?_
  rintro e w4 ⟨rfl, hb4⟩
  have hb : Below W.heap.size W w4 := HB3.out.trans ((((Below.refl _ _).alloc (Nat.le_refl _) _).trans (hb4.mono (by simp)) : Below w3.heap.size w3 w4).mono HB3.out.size)
  clear hb4
  have HZ2 := Lib.hid ((hb.block _ hW).trans HZ.out)
  have HB2 := Lib.hid (HBW.out.trans (hb.mono (by omega)))
  clear hb hD0
  obtain ⟨D, hD⟩ : ∃ D, (valsB (sumF a b)).toArray = D := ⟨_, rfl⟩
  have HD := Lib.hid hD
  have HRD := Lib.hid (show Row32 D by rw [← hD]; exact row32 _ rfl)
  have HZD := Lib.hid (show Z.size = D.size by rw [HZS.out, HRD.out.size])
  rw [hD]
  clear hD
  go_wp2_with (refine wpList_store_row rfl 23 (.tmp 4) (.tmp 10) rfl (w.heap.size + 2) D rfl rfl 23 Z HZ2.out HRD.out.info HZD.out HRD.out.one ?_)
  refine bodyPost_ret (results_cell_row (p := 4) (ty := 23) Try.results64 _ _ (w.heap.size + 2) 23 D (0, 0) _ rfl (setRow_heap _ _ _ _ _ _ HZ2.out) Try.underlying23 rfl HRD.out.info) rfl ⟨by rw [HD.out], below_setRow HB2.out (by omega) _⟩

set_option maxRecDepth 100000 in
set_option maxHeartbeats 1600000 in
theorem code_half (tag : ByteArray) (ht : tag.size ≤ 100) (h : List UInt8) (hl : h.length = 32) (w : World) :
    Calls Try.prog 49 #[.string tag, .agg (valsB h).toArray] w fun e w' => e = .returned (.agg (valsB (ofT tag [⟨h.toArray⟩])).toArray) ∧ Below w.heap.size w w' := by
  have HBA := Lib.hid (fun w => code_bytes h hl w)
  have HO := Lib.hid (fun (w : World) => code_ofT tag (.slice (some ⟨w.heap.size, 0, none⟩) 1 1) [⟨h.toArray⟩] _ (texts_one w ⟨h.toArray⟩) ht (by simp) (by simp [size_of h 32 hl]))
  have HRC := Lib.hid (row32 h hl)
  have HRD := Lib.hid (row32 (ofT tag [⟨h.toArray⟩]) rfl)
  obtain ⟨C, hC⟩ : ∃ C, (valsB h).toArray = C := ⟨_, rfl⟩
  obtain ⟨D, hD⟩ : ∃ C, (valsB (ofT tag [⟨h.toArray⟩])).toArray = C := ⟨_, rfl⟩
  obtain ⟨S, hS⟩ : ∃ S : ByteArray, (⟨h.toArray⟩ : ByteArray) = S := ⟨_, rfl⟩
  rw [hC] at HBA HRC
  rw [hD] at HRD
  simp only [hD] at HO
  simp only [hS] at HBA HO
  rw [hC, hD]
  clear hC hD hS
  go_enter Try.func49, Try.ntmps49
  go_upto_region 1 with (fail)
  rw [zero32]
  obtain ⟨Z, hZ⟩ : ∃ Z, (List.replicate 32 (Value.int .u8 0)).toArray = Z := ⟨_, rfl⟩
  have HZD := Lib.hid (show Z.size = D.size by rw [← hZ, HRD.out.size]; rfl)
  rw [hZ]
  clear hZ
  have hs0 : ((w.alloc (.cells C 23)).alloc (.cells Z 23)).heap.size = w.heap.size + 2 := by simp
  have H0 := Lib.hid (heap_alloc2_old w (.cells C 23) (.cells Z 23))
  have HZ := Lib.hid (heap_alloc2_new w (.cells C 23) (.cells Z 23))
  have HBW := Lib.hid (show Below w.heap.size w ((w.alloc (.cells C 23)).alloc (.cells Z 23)) from ((Below.refl _ _).alloc (Nat.le_refl _) _).alloc (by simp) _)
  generalize (w.alloc (.cells C 23)).alloc (.cells Z 23) = W at hs0 H0 HZ HBW ⊢
  have hW : w.heap.size + 1 < W.heap.size := by omega
  go_wp2_with (refine wpList_load_row rfl 23 (.tmp 3) rfl w.heap.size rfl 23 C (0, 0) _ H0.out Try.underlying23 rfl HRC.out.info ?_)
  refine (HBA.out _).mono ?_
  rintro e w3 ⟨rfl, hb3⟩
  have HB3 := Lib.hid hb3
  clear hb3
  go_wp2_with fail
  refine (HO.out _).mono ?_
  rintro e w4 ⟨rfl, hb4⟩
  have hb : Below W.heap.size W w4 := HB3.out.trans ((((Below.refl _ _).alloc (Nat.le_refl _) _).trans (hb4.mono (by simp)) : Below w3.heap.size w3 w4).mono HB3.out.size)
  clear hb4
  have HZ2 := Lib.hid ((hb.block _ hW).trans HZ.out)
  have HB2 := Lib.hid (HBW.out.trans (hb.mono (by omega)))
  clear hb
  go_wp2_with (refine wpList_store_row rfl 23 (.tmp 4) (.tmp 9) rfl (w.heap.size + 1) D rfl rfl 23 Z HZ2.out HRD.out.info HZD.out HRD.out.one ?_)
  refine bodyPost_ret (results_cell_row (p := 4) (ty := 23) Try.results49 _ _ (w.heap.size + 1) 23 D (0, 0) _ rfl (setRow_heap _ _ _ _ _ _ HZ2.out) Try.underlying23 rfl HRD.out.info) rfl ⟨rfl, below_setRow HB2.out (by omega) _⟩

theorem code_left (h : List UInt8) (hl : h.length = 32) (w : World) :
    Calls Try.prog 49 #[.string leftT, .agg (valsB h).toArray] w fun e w' => e = .returned (.agg (valsB (leftF h)).toArray) ∧ Below w.heap.size w w' := code_half leftT (by decide) h hl w
theorem code_right (h : List UInt8) (hl : h.length = 32) (w : World) :
    Calls Try.prog 49 #[.string rightT, .agg (valsB h).toArray] w fun e w' => e = .returned (.agg (valsB (rightF h)).toArray) ∧ Below w.heap.size w w' := code_half rightT (by decide) h hl w

set_option maxRecDepth 100000 in
set_option maxHeartbeats 3200000 in
theorem code_publicOf (d : Nat) : ∀ (_ : d ≤ 1000) (seed : List UInt8) (_ : seed.length = 32) (w : World),
    Calls Try.prog 50 #[.agg (valsB seed).toArray, .int .i64 d] w fun e w' => e = .returned (.agg (valsB (rootE d seed)).toArray) ∧ Below w.heap.size w w' := by
  induction d with
  | zero =>
    intro _ seed hs w
    have HP := Lib.hid (fun w => code_Public seed hs w)
    rw [show rootE 0 seed = pubK seed from rfl]
    have HRC := Lib.hid (row32 seed hs)
    have HRD := Lib.hid (row32 (pubK seed) (pubK_len seed))
    obtain ⟨C, hC⟩ : ∃ C, (valsB seed).toArray = C := ⟨_, rfl⟩
    obtain ⟨D, hD⟩ : ∃ C, (valsB (pubK seed)).toArray = C := ⟨_, rfl⟩
    rw [hC, hD] at HP
    rw [hC] at HRC
    rw [hD] at HRD
    rw [hC, hD]
    clear hC hD
    go_enter Try.func50, Try.ntmps50
    go_upto_region 1 with (fail)
    rw [zero32]
    obtain ⟨Z, hZ⟩ : ∃ Z, (List.replicate 32 (Value.int .u8 0)).toArray = Z := ⟨_, rfl⟩
    have HZD := Lib.hid (show Z.size = D.size by rw [← hZ, HRD.out.size]; rfl)
    rw [hZ]
    clear hZ
    have hs0 : ((w.alloc (.cells C 23)).alloc (.cells Z 23)).heap.size = w.heap.size + 2 := by simp
    have H0 := Lib.hid (heap_alloc2_old w (.cells C 23) (.cells Z 23))
    have HZ := Lib.hid (heap_alloc2_new w (.cells C 23) (.cells Z 23))
    have HBW := Lib.hid (show Below w.heap.size w ((w.alloc (.cells C 23)).alloc (.cells Z 23)) from ((Below.refl _ _).alloc (Nat.le_refl _) _).alloc (by simp) _)
    generalize (w.alloc (.cells C 23)).alloc (.cells Z 23) = W at hs0 H0 HZ HBW ⊢
    have hW : w.heap.size + 1 < W.heap.size := by omega
    go_wp2_with (refine wpList_load_row rfl 23 (.tmp 2) rfl w.heap.size rfl 23 C (0, 0) _ H0.out Try.underlying23 rfl HRC.out.info ?_)
    refine (HP.out _).mono ?_
    rintro e w3 ⟨rfl, hb3⟩
    have HZ3 := Lib.hid ((hb3.block _ hW).trans HZ.out)
    have HB3 := Lib.hid (HBW.out.trans (hb3.mono (by omega)))
    clear hb3
    go_wp2_with (refine wpList_store_row rfl 23 (.tmp 4) (.tmp 8) rfl (w.heap.size + 1) D rfl rfl 23 Z HZ3.out HRD.out.info HZD.out HRD.out.one ?_)
    refine bodyPost_ret (results_cell_row (p := 4) (ty := 23) Try.results50 _ _ (w.heap.size + 1) 23 D (0, 0) _ rfl (setRow_heap _ _ _ _ _ _ HZ3.out) Try.underlying23 rfl HRD.out.info) rfl ⟨rfl, below_setRow HB3.out (by omega) _⟩
  | succ d ih =>
    intro hd seed hs w
    have HLF := Lib.hid (fun w => code_left seed hs w)
    have HRI := Lib.hid (fun w => code_right seed hs w)
    have HRL := Lib.hid (fun w => ih (by omega) (leftF seed) (leftF_len seed) w)
    have HRR := Lib.hid (fun w => ih (by omega) (rightF seed) (rightF_len seed) w)
    have HSM := Lib.hid (fun w => code_esum (rootE d (leftF seed)) (rootE d (rightF seed)) (rootE_len d _) (rootE_len d _) w)
    rw [show sumF (rootE d (leftF seed)) (rootE d (rightF seed)) = rootE (d + 1) seed from rfl] at HSM
    have HRC := Lib.hid (row32 seed hs)
    have HRD := Lib.hid (row32 (rootE (d + 1) seed) rfl)
    obtain ⟨C, hC⟩ : ∃ C, (valsB seed).toArray = C := ⟨_, rfl⟩
    obtain ⟨CL, hCL⟩ : ∃ C, (valsB (leftF seed)).toArray = C := ⟨_, rfl⟩
    obtain ⟨CR, hCR⟩ : ∃ C, (valsB (rightF seed)).toArray = C := ⟨_, rfl⟩
    obtain ⟨RL, hRL⟩ : ∃ C, (valsB (rootE d (leftF seed))).toArray = C := ⟨_, rfl⟩
    obtain ⟨RR, hRR⟩ : ∃ C, (valsB (rootE d (rightF seed))).toArray = C := ⟨_, rfl⟩
    obtain ⟨D, hD⟩ : ∃ C, (valsB (rootE (d + 1) seed)).toArray = C := ⟨_, rfl⟩
    rw [hC, hCL] at HLF
    rw [hC, hCR] at HRI
    rw [hCL, hRL] at HRL
    rw [hCR, hRR] at HRR
    rw [hRL, hRR, hD] at HSM
    rw [hC] at HRC
    rw [hD] at HRD
    rw [hC, hD]
    obtain ⟨e, he⟩ : ∃ e, d + 1 = e := ⟨_, rfl⟩
    rw [he]
    have hed : (e : Int) - 1 = (d : Int) := by omega
    have he0 : ((e : Int) == 0) = false := by simp; omega
    have hwd : IntKind.i64.wrap (d : Int) = (d : Int) := by unfold IntKind.wrap; simp [IntKind.bits, IntKind.signed]; omega
    clear hC hCL hCR hRL hRR hD ih he
    go_enter Try.func50, Try.ntmps50
    go_upto_region 1 with (fail)
    rw [zero32]
    obtain ⟨Z, hZ⟩ : ∃ Z, (List.replicate 32 (Value.int .u8 0)).toArray = Z := ⟨_, rfl⟩
    have HZD := Lib.hid (show Z.size = D.size by rw [← hZ, HRD.out.size]; rfl)
    rw [hZ]
    clear hZ
    have hs0 : ((w.alloc (.cells C 23)).alloc (.cells Z 23)).heap.size = w.heap.size + 2 := by simp
    have H0 := Lib.hid (heap_alloc2_old w (.cells C 23) (.cells Z 23))
    have HZ := Lib.hid (heap_alloc2_new w (.cells C 23) (.cells Z 23))
    have HBW := Lib.hid (show Below w.heap.size w ((w.alloc (.cells C 23)).alloc (.cells Z 23)) from ((Below.refl _ _).alloc (Nat.le_refl _) _).alloc (by simp) _)
    generalize (w.alloc (.cells C 23)).alloc (.cells Z 23) = W at hs0 H0 HZ HBW ⊢
    obtain ⟨g0, hg0⟩ : ∃ x, w.heap.size = x := ⟨_, rfl⟩
    obtain ⟨g1, hg1⟩ : ∃ x, g0 + 1 = x := ⟨_, rfl⟩
    rw [hg0] at hs0 H0 HZ HBW
    rw [hg1] at HZ
    rw [hg0, hg1]
    have HG := Lib.hid hg0
    have HS := Lib.hid (show g0 < W.heap.size ∧ g1 < W.heap.size ∧ g0 ≤ g1 by omega)
    have HL0 := Lib.hid HS.out.1
    clear hg0 hg1 hs0
    go_wp2_with fail
    refine QT.wp_region_facts_tail 11 (by kernel_rfl) (fun w' => Below W.heap.size W w') (fun n v w' => (([.val (.agg C), .val (.agg CL), .val (.int .i64 e), .val (.int .i64 d), .val (.agg RL), .val (.agg C), .val (.agg CR), .val (.int .i64 e), .val (.int .i64 d), .val (.agg RR), .val (.agg D)] : List Fact).getD n (.val undef) : Fact).holds v w') (by kernel_rfl) (by kernel_rfl) (Below.refl _ _).drew (fun w1 w2 h1 hb => h1.trans (hb.mono h1.size)) (fun n v w1 w2 h hb => Fact.kept _ v w1 w2 h hb) (fun n o hn ho a wz hI hag hdep => ?_) (fun a wz hI hag hf => ?_)
    · have t1 : a.eval (.tmp 1) = .int .i64 e := hag.old 1 _ (by kernel_rfl) rfl
      have t2 : a.eval (.tmp 2) = .pointer (some ⟨g0, 0, none⟩) := hag.old 2 _ (by kernel_rfl) rfl
      match n, ho with
      | 0, ho =>
        obtain rfl := (Option.some.inj ho).symm
        exact ⟨rfl, wp_load_row 23 (.tmp 2) rfl g0 t2 23 C (0, 0) _ ((hI.block g0 HL0.out).trans H0.out) Try.underlying23 rfl HRC.out.info ⟨_, rfl, rfl, Below.refl _ _⟩⟩
      | 1, ho =>
        obtain rfl := (Option.some.inj ho).symm
        have d9 : a.eval (.tmp 9) = .agg C := hdep _ (Array.mem_of_getElem? (i := 0) rfl) rfl _ _ rfl rfl
        exact ⟨rfl, QT.wp_enter (f := 49) (args := #[.string leftT, .agg C]) (by simp [go_sem, QT.nf d9]) (HLF.out wz) fun w' hb => ⟨_, rfl, rfl, hb⟩⟩
      | 2, ho =>
        obtain rfl := (Option.some.inj ho).symm
        exact ⟨rfl, QT.wp_value (BigFrame.run_move (.tmp 1) rfl wz) ⟨_, rfl, t1, Below.refl _ _⟩⟩
      | 3, ho =>
        obtain rfl := (Option.some.inj ho).symm
        have d11 : a.eval (.tmp 11) = .int .i64 e := hdep _ (Array.mem_of_getElem? (i := 0) rfl) rfl _ _ rfl rfl
        exact ⟨rfl, QT.wp_value (v := .int .i64 d) (by simp [go_sem, QT.nf d11, hed, hwd]) ⟨_, rfl, rfl, Below.refl _ _⟩⟩
      | 4, ho =>
        obtain rfl := (Option.some.inj ho).symm
        have d10 : a.eval (.tmp 10) = .agg CL := hdep _ (Array.mem_of_getElem? (i := 0) rfl) rfl _ _ rfl rfl
        have d12 : a.eval (.tmp 12) = .int .i64 d := hdep _ (Array.mem_of_getElem? (i := 1) rfl) rfl _ _ rfl rfl
        exact ⟨rfl, QT.wp_enter (f := 50) (args := #[.agg CL, .int .i64 d]) (by simp [go_sem, QT.nf d10, QT.nf d12]) (HRL.out wz) fun w' hb => ⟨_, rfl, rfl, hb⟩⟩
      | 5, ho =>
        obtain rfl := (Option.some.inj ho).symm
        exact ⟨rfl, wp_load_row 23 (.tmp 2) rfl g0 t2 23 C (0, 0) _ ((hI.block g0 HL0.out).trans H0.out) Try.underlying23 rfl HRC.out.info ⟨_, rfl, rfl, Below.refl _ _⟩⟩
      | 6, ho =>
        obtain rfl := (Option.some.inj ho).symm
        have d14 : a.eval (.tmp 14) = .agg C := hdep _ (Array.mem_of_getElem? (i := 0) rfl) rfl _ _ rfl rfl
        exact ⟨rfl, QT.wp_enter (f := 49) (args := #[.string rightT, .agg C]) (by simp [go_sem, QT.nf d14]) (HRI.out wz) fun w' hb => ⟨_, rfl, rfl, hb⟩⟩
      | 7, ho =>
        obtain rfl := (Option.some.inj ho).symm
        exact ⟨rfl, QT.wp_value (BigFrame.run_move (.tmp 1) rfl wz) ⟨_, rfl, t1, Below.refl _ _⟩⟩
      | 8, ho =>
        obtain rfl := (Option.some.inj ho).symm
        have d16 : a.eval (.tmp 16) = .int .i64 e := hdep _ (Array.mem_of_getElem? (i := 0) rfl) rfl _ _ rfl rfl
        exact ⟨rfl, QT.wp_value (v := .int .i64 d) (by simp [go_sem, QT.nf d16, hed, hwd]) ⟨_, rfl, rfl, Below.refl _ _⟩⟩
      | 9, ho =>
        obtain rfl := (Option.some.inj ho).symm
        have d15 : a.eval (.tmp 15) = .agg CR := hdep _ (Array.mem_of_getElem? (i := 0) rfl) rfl _ _ rfl rfl
        have d17 : a.eval (.tmp 17) = .int .i64 d := hdep _ (Array.mem_of_getElem? (i := 1) rfl) rfl _ _ rfl rfl
        exact ⟨rfl, QT.wp_enter (f := 50) (args := #[.agg CR, .int .i64 d]) (by simp [go_sem, QT.nf d15, QT.nf d17]) (HRR.out wz) fun w' hb => ⟨_, rfl, rfl, hb⟩⟩
      | 10, ho =>
        obtain rfl := (Option.some.inj ho).symm
        have d13 : a.eval (.tmp 13) = .agg RL := hdep _ (Array.mem_of_getElem? (i := 0) rfl) rfl _ _ rfl rfl
        have d18 : a.eval (.tmp 18) = .agg RR := hdep _ (Array.mem_of_getElem? (i := 1) rfl) rfl _ _ rfl rfl
        exact ⟨rfl, QT.wp_enter (f := 64) (args := #[.agg RL, .agg RR]) (by simp [go_sem, QT.nf d13, QT.nf d18]) (HSM.out wz) fun w' hb => ⟨_, rfl, rfl, hb⟩⟩
      | n + 11, ho => omega
    · have f0 : a.eval (.tmp 9) = .agg C := hf 0 _ _ (by omega) rfl rfl
      have f1 : a.eval (.tmp 10) = .agg CL := hf 1 _ _ (by omega) rfl rfl
      have f2 : a.eval (.tmp 11) = .int .i64 e := hf 2 _ _ (by omega) rfl rfl
      have f3 : a.eval (.tmp 12) = .int .i64 d := hf 3 _ _ (by omega) rfl rfl
      have f4 : a.eval (.tmp 13) = .agg RL := hf 4 _ _ (by omega) rfl rfl
      have f5 : a.eval (.tmp 14) = .agg C := hf 5 _ _ (by omega) rfl rfl
      have f6 : a.eval (.tmp 15) = .agg CR := hf 6 _ _ (by omega) rfl rfl
      have f7 : a.eval (.tmp 16) = .int .i64 e := hf 7 _ _ (by omega) rfl rfl
      have f8 : a.eval (.tmp 17) = .int .i64 d := hf 8 _ _ (by omega) rfl rfl
      have f9 : a.eval (.tmp 18) = .agg RR := hf 9 _ _ (by omega) rfl rfl
      have f10 : a.eval (.tmp 19) = .agg D := hf 10 _ _ (by omega) rfl rfl
      have ha := hag.puts [(9, .agg C), (10, .agg CL), (11, .int .i64 e), (12, .int .i64 d), (13, .agg RL), (14, .agg C), (15, .agg CR), (16, .int .i64 e), (17, .int .i64 d), (18, .agg RR), (19, .agg D)] rfl (by simp) (by simp only [List.forall_mem_cons, List.not_mem_nil, false_implies, implies_true, and_true]; exact ⟨f0, f1, f2, f3, f4, f5, f6, f7, f8, f9, f10⟩)
      subst ha
      clear hag hf f0 f1 f2 f3 f4 f5 f6 f7 f8 f9 f10
      simp only [List.foldl_cons, List.foldl_nil, Act.put, List.drop_succ_cons, List.drop_zero, List.setIfInBounds_toArray, List.set_cons_succ, List.set_cons_zero]
      have hbz : Below W.heap.size W wz := hI
      have HZ2 := Lib.hid ((hbz.block _ HS.out.2.1).trans HZ.out)
      have HB2 := Lib.hid (HBW.out.trans (hbz.mono (Nat.le_of_lt HS.out.1)))
      clear hbz hI
      go_wp2_with (refine wpList_store_row rfl 23 (.tmp 4) (.tmp 19) rfl g1 D rfl rfl 23 Z HZ2.out HRD.out.info HZD.out HRD.out.one ?_)
      refine bodyPost_ret (results_cell_row (p := 4) (ty := 23) Try.results50 _ _ g1 23 D (0, 0) _ rfl (setRow_heap _ _ _ _ _ _ HZ2.out) Try.underlying23 rfl HRD.out.info) rfl ⟨rfl, HG.out ▸ below_setRow HB2.out HS.out.2.2 _⟩

end Go.Proofs.Ytpifjeghoapjbaa.Evolve
