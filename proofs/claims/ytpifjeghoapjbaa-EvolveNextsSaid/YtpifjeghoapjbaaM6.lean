/- evolve: the document's halves, sums, roots. -/
import Derived.Test.YtpifjeghoapjbaaEvK
import Derived.Test.YtpifjeghoapjbaaOnN
import Derived.Deep.AppendLies
import Derived.Deep.Upon
import Derived.Test.YtpifjeghoapjbaaM5
namespace Go.Proofs.Ytpifjeghoapjbaa.Evolve
open Go.RowKit Go.Proofs.Ytpifjeghoapjbaa.Sha Go.Proofs.Ytpifjeghoapjbaa.Tree Go.Proofs.Ytpifjeghoapjbaa.Once

set_option maxRecDepth 100000 in
set_option maxHeartbeats 1600000 in
theorem ref_Left (h : List UInt8) (hl : h.length = 32) (w : World) :
    Calls Try.prog 13 #[.agg (valsB h).toArray] w fun e w' => e = .returned (.agg (valsB (leftF h)).toArray) ∧ Below w.heap.size w w' := by
  have HBY := Lib.hid (fun w => bytes_any h hl w)
  have HO := Lib.hid (fun (w : World) => ref_one leftT ⟨h.toArray⟩ (by decide) (by simp [size_of h 32 hl]) w)
  have HRC := Lib.hid (row32 h hl)
  obtain ⟨C, hC⟩ : ∃ C, (valsB h).toArray = C := ⟨_, rfl⟩
  rw [hC] at HBY HRC
  rw [hC]
  clear hC
  obtain ⟨S, hS⟩ : ∃ S : ByteArray, (⟨h.toArray⟩ : ByteArray) = S := ⟨_, rfl⟩
  rw [hS] at HBY
  have HS := Lib.hid hS
  simp only [hS] at HO
  clear hS
  go_enter Try.func13, Try.ntmps13
  go_upto_region 1 with (fail)
  rw [zero32]
  obtain ⟨Z, hZ⟩ : ∃ Z, (List.replicate 32 (Value.int .u8 0)).toArray = Z := ⟨_, rfl⟩
  have HZS := Lib.hid (show Z.size = 32 by rw [← hZ]; rfl)
  rw [hZ]
  clear hZ
  have hs0 : ((w.alloc (.cells C 23)).alloc (.cells Z 23)).heap.size = w.heap.size + 2 := by simp
  have HC := Lib.hid (heap_alloc2_old w (.cells C 23) (.cells Z 23))
  have HZ := Lib.hid (heap_alloc2_new w (.cells C 23) (.cells Z 23))
  have HBW := Lib.hid (show Below w.heap.size w ((w.alloc (.cells C 23)).alloc (.cells Z 23)) from ((Below.refl _ _).alloc (Nat.le_refl _) _).alloc (by simp) _)
  have HS0 := Lib.hid hs0
  clear hs0
  generalize (w.alloc (.cells C 23)).alloc (.cells Z 23) = W at HC HZ HBW HS0 ⊢
  have hW : w.heap.size + 1 < W.heap.size := by rw [HS0.out]; omega
  go_wp2_with (refine wpList_load_row rfl 23 (.tmp 1) rfl w.heap.size rfl 23 C (0, 0) _ HC.out Try.underlying23 rfl HRC.out.info ?_)
  refine (HBY.out _).mono ?_
  rintro e w3 ⟨rfl, hb3⟩
  have HB3 := Lib.hid hb3
  clear hb3
  go_wp2_with fail
  refine (HO.out _).mono ?_
  rintro e w4 ⟨rfl, hb4⟩
  have hb : Below W.heap.size W w4 := HB3.out.trans ((hb4 : Below w3.heap.size w3 w4).mono HB3.out.size)
  have HZ2 := Lib.hid ((hb.block _ hW).trans HZ.out)
  have HB2 := Lib.hid (HBW.out.trans (hb.mono (by omega)))
  clear hb hb4
  rw [show ofT leftT [S] = leftF h by rw [← HS.out]; rfl]
  obtain ⟨D, hD⟩ : ∃ D, (valsB (leftF h)).toArray = D := ⟨_, rfl⟩
  have HD := Lib.hid hD
  have HRD := Lib.hid (show Row32 D by rw [← hD]; exact row32 _ rfl)
  have HZD := Lib.hid (show Z.size = D.size by rw [HZS.out, HRD.out.size])
  rw [hD]
  clear hD
  go_wp2_with (refine wpList_store_row rfl 23 (.tmp 2) (.tmp 5) rfl (w.heap.size + 1) D rfl rfl 23 Z HZ2.out HRD.out.info HZD.out HRD.out.one ?_)
  refine bodyPost_ret (results_cell_row (p := 2) (ty := 23) Try.results13 _ _ (w.heap.size + 1) 23 D (0, 0) _ rfl (setRow_heap _ _ _ _ _ _ HZ2.out) Try.underlying23 rfl HRD.out.info) rfl ⟨by rw [HD.out], below_setRow HB2.out (by omega) _⟩

set_option maxRecDepth 100000 in
set_option maxHeartbeats 1600000 in
theorem ref_Right (h : List UInt8) (hl : h.length = 32) (w : World) :
    Calls Try.prog 14 #[.agg (valsB h).toArray] w fun e w' => e = .returned (.agg (valsB (rightF h)).toArray) ∧ Below w.heap.size w w' := by
  have HBY := Lib.hid (fun w => bytes_any h hl w)
  have HO := Lib.hid (fun (w : World) => ref_one rightT ⟨h.toArray⟩ (by decide) (by simp [size_of h 32 hl]) w)
  have HRC := Lib.hid (row32 h hl)
  obtain ⟨C, hC⟩ : ∃ C, (valsB h).toArray = C := ⟨_, rfl⟩
  rw [hC] at HBY HRC
  rw [hC]
  clear hC
  obtain ⟨S, hS⟩ : ∃ S : ByteArray, (⟨h.toArray⟩ : ByteArray) = S := ⟨_, rfl⟩
  rw [hS] at HBY
  have HS := Lib.hid hS
  simp only [hS] at HO
  clear hS
  go_enter Try.func14, Try.ntmps14
  go_upto_region 1 with (fail)
  rw [zero32]
  obtain ⟨Z, hZ⟩ : ∃ Z, (List.replicate 32 (Value.int .u8 0)).toArray = Z := ⟨_, rfl⟩
  have HZS := Lib.hid (show Z.size = 32 by rw [← hZ]; rfl)
  rw [hZ]
  clear hZ
  have hs0 : ((w.alloc (.cells C 23)).alloc (.cells Z 23)).heap.size = w.heap.size + 2 := by simp
  have HC := Lib.hid (heap_alloc2_old w (.cells C 23) (.cells Z 23))
  have HZ := Lib.hid (heap_alloc2_new w (.cells C 23) (.cells Z 23))
  have HBW := Lib.hid (show Below w.heap.size w ((w.alloc (.cells C 23)).alloc (.cells Z 23)) from ((Below.refl _ _).alloc (Nat.le_refl _) _).alloc (by simp) _)
  have HS0 := Lib.hid hs0
  clear hs0
  generalize (w.alloc (.cells C 23)).alloc (.cells Z 23) = W at HC HZ HBW HS0 ⊢
  have hW : w.heap.size + 1 < W.heap.size := by rw [HS0.out]; omega
  go_wp2_with (refine wpList_load_row rfl 23 (.tmp 1) rfl w.heap.size rfl 23 C (0, 0) _ HC.out Try.underlying23 rfl HRC.out.info ?_)
  refine (HBY.out _).mono ?_
  rintro e w3 ⟨rfl, hb3⟩
  have HB3 := Lib.hid hb3
  clear hb3
  go_wp2_with fail
  refine (HO.out _).mono ?_
  rintro e w4 ⟨rfl, hb4⟩
  have hb : Below W.heap.size W w4 := HB3.out.trans ((hb4 : Below w3.heap.size w3 w4).mono HB3.out.size)
  have HZ2 := Lib.hid ((hb.block _ hW).trans HZ.out)
  have HB2 := Lib.hid (HBW.out.trans (hb.mono (by omega)))
  clear hb hb4
  rw [show ofT rightT [S] = rightF h by rw [← HS.out]; rfl]
  obtain ⟨D, hD⟩ : ∃ D, (valsB (rightF h)).toArray = D := ⟨_, rfl⟩
  have HD := Lib.hid hD
  have HRD := Lib.hid (show Row32 D by rw [← hD]; exact row32 _ rfl)
  have HZD := Lib.hid (show Z.size = D.size by rw [HZS.out, HRD.out.size])
  rw [hD]
  clear hD
  go_wp2_with (refine wpList_store_row rfl 23 (.tmp 2) (.tmp 5) rfl (w.heap.size + 1) D rfl rfl 23 Z HZ2.out HRD.out.info HZD.out HRD.out.one ?_)
  refine bodyPost_ret (results_cell_row (p := 2) (ty := 23) Try.results14 _ _ (w.heap.size + 1) 23 D (0, 0) _ rfl (setRow_heap _ _ _ _ _ _ HZ2.out) Try.underlying23 rfl HRD.out.info) rfl ⟨by rw [HD.out], below_setRow HB2.out (by omega) _⟩

set_option maxRecDepth 100000 in
set_option maxHeartbeats 1600000 in
theorem ref_Sum (a b : List UInt8) (ha : a.length = 32) (hb : b.length = 32) (w : World) :
    Calls Try.prog 58 #[.agg (valsB a).toArray, .agg (valsB b).toArray] w fun e w' => e = .returned (.agg (valsB (sumF a b)).toArray) ∧ Below w.heap.size w w' := by
  have HBA := Lib.hid (fun w => bytes_any a ha w)
  have HBB := Lib.hid (fun w => bytes_any b hb w)
  have HO := Lib.hid (fun (w : World) => ref_two sumT ⟨a.toArray⟩ ⟨b.toArray⟩ (by decide) (by simp [size_of a 32 ha]) (by simp [size_of b 32 hb]) w)
  have HRCA := Lib.hid (row32 a ha)
  have HRCB := Lib.hid (row32 b hb)
  obtain ⟨CA, hCA⟩ : ∃ C, (valsB a).toArray = C := ⟨_, rfl⟩
  obtain ⟨CB, hCB⟩ : ∃ C, (valsB b).toArray = C := ⟨_, rfl⟩
  rw [hCA] at HBA HRCA
  rw [hCB] at HBB HRCB
  rw [hCA, hCB]
  clear hCA hCB
  obtain ⟨SA, hSA⟩ : ∃ S : ByteArray, (⟨a.toArray⟩ : ByteArray) = S := ⟨_, rfl⟩
  obtain ⟨SB, hSB⟩ : ∃ S : ByteArray, (⟨b.toArray⟩ : ByteArray) = S := ⟨_, rfl⟩
  rw [hSA] at HBA
  rw [hSB] at HBB
  have HS := Lib.hid (And.intro hSA hSB)
  simp only [hSA, hSB] at HO
  clear hSA hSB
  have HPF := Lib.hid (show ofT sumT [SA, SB] = sumF a b by rw [← HS.out.1, ← HS.out.2]; rfl)
  rw [HPF.out] at HO
  obtain ⟨D0, hD0⟩ : ∃ D, (valsB (sumF a b)).toArray = D := ⟨_, rfl⟩
  go_enter Try.func58, Try.ntmps58
  go_upto_region 1 with (fail)
  rw [zero32]
  obtain ⟨Z, hZ⟩ : ∃ Z, (List.replicate 32 (Value.int .u8 0)).toArray = Z := ⟨_, rfl⟩
  have HZS := Lib.hid (show Z.size = 32 by rw [← hZ]; rfl)
  rw [hZ]
  clear hZ
  have hs0 : (((w.alloc (.cells CA 23)).alloc (.cells CB 23)).alloc (.cells Z 23)).heap.size = w.heap.size + 3 := by simp
  have hw1 : (w.alloc (.cells CA 23)).heap.size = w.heap.size + 1 := by simp
  have HA := Lib.hid ((Below.heap_alloc _ (.cells Z 23) w.heap.size (by simp; omega)).trans (heap_alloc2_old w (.cells CA 23) (.cells CB 23)))
  have HB := Lib.hid ((Below.heap_alloc _ (.cells Z 23) (w.heap.size + 1) (by simp)).trans (heap_alloc2_new w (.cells CA 23) (.cells CB 23)))
  have HZ := Lib.hid (show (((w.alloc (.cells CA 23)).alloc (.cells CB 23)).alloc (.cells Z 23)).heap[w.heap.size + 2]? = some (.cells Z 23 (0, 0)) by
    have h := heap_alloc2_new (w.alloc (.cells CA 23)) (.cells CB 23) (.cells Z 23)
    rw [hw1] at h
    exact h)
  have HBW := Lib.hid (show Below w.heap.size w (((w.alloc (.cells CA 23)).alloc (.cells CB 23)).alloc (.cells Z 23)) from (((Below.refl _ _).alloc (Nat.le_refl _) _).alloc (by simp) _).alloc (by simp; omega) _)
  have HS0 := Lib.hid hs0
  clear hs0 hw1
  generalize ((w.alloc (.cells CA 23)).alloc (.cells CB 23)).alloc (.cells Z 23) = W at HA HB HZ HBW HS0 ⊢
  have hW : w.heap.size + 2 < W.heap.size := by rw [HS0.out]; omega
  refine QT.wp_region_below_tail 5 (by kernel_rfl) (by kernel_rfl) ?_
  simp only [List.take_succ_cons, List.take_zero, List.drop_succ_cons, List.drop_zero]
  repeat (first
    | (refine wpQuiet_step (fun K hK => ?_); rw [if_pos (by rfl)]; refine quiet_load_row 23 (.tmp 2) rfl w.heap.size rfl 23 CA (0, 0) _ HA.out Try.underlying23 rfl HRCA.out.info ?_; refine hK _ ?_; clear hK K)
    | (refine wpQuiet_step (fun K hK => ?_); rw [if_pos (by rfl)]; refine quiet_load_row 23 (.tmp 3) rfl (w.heap.size + 1) rfl 23 CB (0, 0) _ HB.out Try.underlying23 rfl HRCB.out.info ?_; refine hK _ ?_; clear hK K)
    | (quiet_step (first | (with_reducible exact Calls.regrown_of (HBA.out _)) | (with_reducible exact Calls.regrown_of (HBB.out _)) | (with_reducible exact Calls.regrown_of (HO.out _))))
  )
  refine wpQuiet_nil ?_
  intro _ hw'
  obtain ⟨⟨dq, osq⟩, hw''⟩ := hw'
  subst hw''
  have hbq := below_regrown W dq osq
  dsimp only
  generalize Sort.grow (redrawn W dq) osq = w3 at hbq ⊢
  have HB3 := Lib.hid hbq
  clear hbq
  have hb : Below W.heap.size W w3 := HB3.out
  have HZ2 := Lib.hid ((hb.block _ hW).trans HZ.out)
  have HB2 := Lib.hid (HBW.out.trans (hb.mono (by omega)))
  clear hb hD0
  obtain ⟨D, hD⟩ : ∃ D, (valsB (sumF a b)).toArray = D := ⟨_, rfl⟩
  have HD := Lib.hid hD
  have HRD := Lib.hid (show Row32 D by rw [← hD]; exact row32 _ rfl)
  have HZD := Lib.hid (show Z.size = D.size by rw [HZS.out, HRD.out.size])
  rw [hD]
  clear hD
  go_wp2_with (refine wpList_store_row rfl 23 (.tmp 4) (.tmp 9) rfl (w.heap.size + 2) D rfl rfl 23 Z HZ2.out HRD.out.info HZD.out HRD.out.one ?_)
  refine bodyPost_ret (results_cell_row (p := 4) (ty := 23) Try.results58 _ _ (w.heap.size + 2) 23 D (0, 0) _ rfl (setRow_heap _ _ _ _ _ _ HZ2.out) Try.underlying23 rfl HRD.out.info) rfl ⟨by rw [HD.out], below_setRow HB2.out (by omega) _⟩

theorem leftF_len (s : List UInt8) : (leftF s).length = 32 := rfl
theorem rightF_len (s : List UInt8) : (rightF s).length = 32 := rfl
theorem sumF_len (a b : List UInt8) : (sumF a b).length = 32 := rfl
/-- The public key of a seed of a depth. -/
def rootE : Nat → List UInt8 → List UInt8
  | 0, s => pubK s
  | d + 1, s => sumF (rootE d (leftF s)) (rootE d (rightF s))
theorem rootE_len (d : Nat) (s : List UInt8) : (rootE d s).length = 32 := by cases d <;> rfl

end Go.Proofs.Ytpifjeghoapjbaa.Evolve

namespace Go.Proofs.Ytpifjeghoapjbaa.Evolve
open Go.RowKit Go.Proofs.Ytpifjeghoapjbaa.Sha Go.Proofs.Ytpifjeghoapjbaa.Tree Go.Proofs.Ytpifjeghoapjbaa.Once

set_option maxRecDepth 100000 in
set_option maxHeartbeats 3200000 in
theorem ref_Root (d : Nat) : ∀ (_ : d ≤ 1000) (seed : List UInt8) (_ : seed.length = 32) (w : World),
    Calls Try.prog 39 #[.agg (valsB seed).toArray, .int .i64 d] w fun e w' => e = .returned (.agg (valsB (rootE d seed)).toArray) ∧ Below w.heap.size w w' := by
  induction d with
  | zero =>
    intro _ seed hs w
    have HP := Lib.hid (fun w => ref_Public seed hs w)
    rw [show rootE 0 seed = pubK seed from rfl]
    have HRC := Lib.hid (row32 seed hs)
    have HRD := Lib.hid (row32 (pubK seed) (pubK_len seed))
    obtain ⟨C, hC⟩ : ∃ C, (valsB seed).toArray = C := ⟨_, rfl⟩
    obtain ⟨D, hD⟩ : ∃ C, (valsB (pubK seed)).toArray = C := ⟨_, rfl⟩
    rw [hC, hD] at HP
    rw [hC] at HRC
    rw [hD] at HRD
    rw [hC, hD]
    clear hC hD
    go_enter Try.func39, Try.ntmps39
    go_upto_region 1 with (fail)
    rw [zero32]
    obtain ⟨Z, hZ⟩ : ∃ Z, (List.replicate 32 (Value.int .u8 0)).toArray = Z := ⟨_, rfl⟩
    have HZD := Lib.hid (show Z.size = D.size by rw [← hZ, HRD.out.size]; rfl)
    rw [hZ]
    clear hZ
    have hs0 : ((w.alloc (.cells C 23)).alloc (.cells Z 23)).heap.size = w.heap.size + 2 := by simp
    have H0 := Lib.hid (heap_alloc2_old w (.cells C 23) (.cells Z 23))
    have HZ := Lib.hid (heap_alloc2_new w (.cells C 23) (.cells Z 23))
    have HBW := Lib.hid (show Below w.heap.size w ((w.alloc (.cells C 23)).alloc (.cells Z 23)) from ((Below.refl _ _).alloc (Nat.le_refl _) _).alloc (by simp) _)
    generalize (w.alloc (.cells C 23)).alloc (.cells Z 23) = W at hs0 H0 HZ HBW ⊢
    have hW : w.heap.size + 1 < W.heap.size := by omega
    go_wp2_with (refine wpList_load_row rfl 23 (.tmp 2) rfl w.heap.size rfl 23 C (0, 0) _ H0.out Try.underlying23 rfl HRC.out.info ?_)
    refine (HP.out _).mono ?_
    rintro e w3 ⟨rfl, hb3⟩
    have HZ3 := Lib.hid ((hb3.block _ hW).trans HZ.out)
    have HB3 := Lib.hid (HBW.out.trans (hb3.mono (by omega)))
    clear hb3
    go_wp2_with (refine wpList_store_row rfl 23 (.tmp 4) (.tmp 8) rfl (w.heap.size + 1) D rfl rfl 23 Z HZ3.out HRD.out.info HZD.out HRD.out.one ?_)
    refine bodyPost_ret (results_cell_row (p := 4) (ty := 23) Try.results39 _ _ (w.heap.size + 1) 23 D (0, 0) _ rfl (setRow_heap _ _ _ _ _ _ HZ3.out) Try.underlying23 rfl HRD.out.info) rfl ⟨rfl, below_setRow HB3.out (by omega) _⟩
  | succ d ih =>
    intro hd seed hs w
    have HLF := Lib.hid (fun w => ref_Left seed hs w)
    have HRI := Lib.hid (fun w => ref_Right seed hs w)
    have HRL := Lib.hid (fun w => ih (by omega) (leftF seed) (leftF_len seed) w)
    have HRR := Lib.hid (fun w => ih (by omega) (rightF seed) (rightF_len seed) w)
    have HSM := Lib.hid (fun w => ref_Sum (rootE d (leftF seed)) (rootE d (rightF seed)) (rootE_len d _) (rootE_len d _) w)
    rw [show sumF (rootE d (leftF seed)) (rootE d (rightF seed)) = rootE (d + 1) seed from rfl] at HSM
    have HRC := Lib.hid (row32 seed hs)
    have HRD := Lib.hid (row32 (rootE (d + 1) seed) rfl)
    obtain ⟨C, hC⟩ : ∃ C, (valsB seed).toArray = C := ⟨_, rfl⟩
    obtain ⟨CL, hCL⟩ : ∃ C, (valsB (leftF seed)).toArray = C := ⟨_, rfl⟩
    obtain ⟨CR, hCR⟩ : ∃ C, (valsB (rightF seed)).toArray = C := ⟨_, rfl⟩
    obtain ⟨RL, hRL⟩ : ∃ C, (valsB (rootE d (leftF seed))).toArray = C := ⟨_, rfl⟩
    obtain ⟨RR, hRR⟩ : ∃ C, (valsB (rootE d (rightF seed))).toArray = C := ⟨_, rfl⟩
    obtain ⟨D, hD⟩ : ∃ C, (valsB (rootE (d + 1) seed)).toArray = C := ⟨_, rfl⟩
    rw [hC, hCL] at HLF
    rw [hC, hCR] at HRI
    rw [hCL, hRL] at HRL
    rw [hCR, hRR] at HRR
    rw [hRL, hRR, hD] at HSM
    rw [hC] at HRC
    rw [hD] at HRD
    rw [hC, hD]
    obtain ⟨e, he⟩ : ∃ e, d + 1 = e := ⟨_, rfl⟩
    rw [he]
    have hed : (e : Int) - 1 = (d : Int) := by omega
    have he0 : ((e : Int) == 0) = false := by simp; omega
    have hwd : IntKind.i64.wrap (d : Int) = (d : Int) := by unfold IntKind.wrap; simp [IntKind.bits, IntKind.signed]; omega
    clear hC hCL hCR hRL hRR hD ih he
    go_enter Try.func39, Try.ntmps39
    go_upto_region 1 with (fail)
    rw [zero32]
    obtain ⟨Z, hZ⟩ : ∃ Z, (List.replicate 32 (Value.int .u8 0)).toArray = Z := ⟨_, rfl⟩
    have HZD := Lib.hid (show Z.size = D.size by rw [← hZ, HRD.out.size]; rfl)
    rw [hZ]
    clear hZ
    have hs0 : ((w.alloc (.cells C 23)).alloc (.cells Z 23)).heap.size = w.heap.size + 2 := by simp
    have H0 := Lib.hid (heap_alloc2_old w (.cells C 23) (.cells Z 23))
    have HZ := Lib.hid (heap_alloc2_new w (.cells C 23) (.cells Z 23))
    have HBW := Lib.hid (show Below w.heap.size w ((w.alloc (.cells C 23)).alloc (.cells Z 23)) from ((Below.refl _ _).alloc (Nat.le_refl _) _).alloc (by simp) _)
    generalize (w.alloc (.cells C 23)).alloc (.cells Z 23) = W at hs0 H0 HZ HBW ⊢
    obtain ⟨g0, hg0⟩ : ∃ x, w.heap.size = x := ⟨_, rfl⟩
    obtain ⟨g1, hg1⟩ : ∃ x, g0 + 1 = x := ⟨_, rfl⟩
    rw [hg0] at hs0 H0 HZ HBW
    rw [hg1] at HZ
    rw [hg0, hg1]
    have HG := Lib.hid hg0
    have HS := Lib.hid (show g0 < W.heap.size ∧ g1 < W.heap.size ∧ g0 ≤ g1 by omega)
    have HL0 := Lib.hid HS.out.1
    clear hg0 hg1 hs0
    go_wp2_with fail
    refine QT.wp_region_facts_tail 11 (by kernel_rfl) (fun w' => Below W.heap.size W w') (fun n v w' => (([.val (.agg C), .val (.agg CL), .val (.int .i64 e), .val (.int .i64 d), .val (.agg RL), .val (.agg C), .val (.agg CR), .val (.int .i64 e), .val (.int .i64 d), .val (.agg RR), .val (.agg D)] : List Fact).getD n (.val undef) : Fact).holds v w') (by kernel_rfl) (by kernel_rfl) (Below.refl _ _).drew (fun w1 w2 h1 hb => h1.trans (hb.mono h1.size)) (fun n v w1 w2 h hb => Fact.kept _ v w1 w2 h hb) (fun n o hn ho a wz hI hag hdep => ?_) (fun a wz hI hag hf => ?_)
    · have t1 : a.eval (.tmp 1) = .int .i64 e := hag.old 1 _ (by kernel_rfl) rfl
      have t2 : a.eval (.tmp 2) = .pointer (some ⟨g0, 0, none⟩) := hag.old 2 _ (by kernel_rfl) rfl
      match n, ho with
      | 0, ho =>
        obtain rfl := (Option.some.inj ho).symm
        exact ⟨rfl, wp_load_row 23 (.tmp 2) rfl g0 t2 23 C (0, 0) _ ((hI.block g0 HL0.out).trans H0.out) Try.underlying23 rfl HRC.out.info ⟨_, rfl, rfl, Below.refl _ _⟩⟩
      | 1, ho =>
        obtain rfl := (Option.some.inj ho).symm
        have d9 : a.eval (.tmp 9) = .agg C := hdep _ (Array.mem_of_getElem? (i := 0) rfl) rfl _ _ rfl rfl
        exact ⟨rfl, QT.wp_enter (f := 13) (args := #[.agg C]) (by simp [go_sem, QT.nf d9]) (HLF.out wz) fun w' hb => ⟨_, rfl, rfl, hb⟩⟩
      | 2, ho =>
        obtain rfl := (Option.some.inj ho).symm
        exact ⟨rfl, QT.wp_value (BigFrame.run_move (.tmp 1) rfl wz) ⟨_, rfl, t1, Below.refl _ _⟩⟩
      | 3, ho =>
        obtain rfl := (Option.some.inj ho).symm
        have d11 : a.eval (.tmp 11) = .int .i64 e := hdep _ (Array.mem_of_getElem? (i := 0) rfl) rfl _ _ rfl rfl
        exact ⟨rfl, QT.wp_value (v := .int .i64 d) (by simp [go_sem, QT.nf d11, hed, hwd]) ⟨_, rfl, rfl, Below.refl _ _⟩⟩
      | 4, ho =>
        obtain rfl := (Option.some.inj ho).symm
        have d10 : a.eval (.tmp 10) = .agg CL := hdep _ (Array.mem_of_getElem? (i := 0) rfl) rfl _ _ rfl rfl
        have d12 : a.eval (.tmp 12) = .int .i64 d := hdep _ (Array.mem_of_getElem? (i := 1) rfl) rfl _ _ rfl rfl
        exact ⟨rfl, QT.wp_enter (f := 39) (args := #[.agg CL, .int .i64 d]) (by simp [go_sem, QT.nf d10, QT.nf d12]) (HRL.out wz) fun w' hb => ⟨_, rfl, rfl, hb⟩⟩
      | 5, ho =>
        obtain rfl := (Option.some.inj ho).symm
        exact ⟨rfl, wp_load_row 23 (.tmp 2) rfl g0 t2 23 C (0, 0) _ ((hI.block g0 HL0.out).trans H0.out) Try.underlying23 rfl HRC.out.info ⟨_, rfl, rfl, Below.refl _ _⟩⟩
      | 6, ho =>
        obtain rfl := (Option.some.inj ho).symm
        have d14 : a.eval (.tmp 14) = .agg C := hdep _ (Array.mem_of_getElem? (i := 0) rfl) rfl _ _ rfl rfl
        exact ⟨rfl, QT.wp_enter (f := 14) (args := #[.agg C]) (by simp [go_sem, QT.nf d14]) (HRI.out wz) fun w' hb => ⟨_, rfl, rfl, hb⟩⟩
      | 7, ho =>
        obtain rfl := (Option.some.inj ho).symm
        exact ⟨rfl, QT.wp_value (BigFrame.run_move (.tmp 1) rfl wz) ⟨_, rfl, t1, Below.refl _ _⟩⟩
      | 8, ho =>
        obtain rfl := (Option.some.inj ho).symm
        have d16 : a.eval (.tmp 16) = .int .i64 e := hdep _ (Array.mem_of_getElem? (i := 0) rfl) rfl _ _ rfl rfl
        exact ⟨rfl, QT.wp_value (v := .int .i64 d) (by simp [go_sem, QT.nf d16, hed, hwd]) ⟨_, rfl, rfl, Below.refl _ _⟩⟩
      | 9, ho =>
        obtain rfl := (Option.some.inj ho).symm
        have d15 : a.eval (.tmp 15) = .agg CR := hdep _ (Array.mem_of_getElem? (i := 0) rfl) rfl _ _ rfl rfl
        have d17 : a.eval (.tmp 17) = .int .i64 d := hdep _ (Array.mem_of_getElem? (i := 1) rfl) rfl _ _ rfl rfl
        exact ⟨rfl, QT.wp_enter (f := 39) (args := #[.agg CR, .int .i64 d]) (by simp [go_sem, QT.nf d15, QT.nf d17]) (HRR.out wz) fun w' hb => ⟨_, rfl, rfl, hb⟩⟩
      | 10, ho =>
        obtain rfl := (Option.some.inj ho).symm
        have d13 : a.eval (.tmp 13) = .agg RL := hdep _ (Array.mem_of_getElem? (i := 0) rfl) rfl _ _ rfl rfl
        have d18 : a.eval (.tmp 18) = .agg RR := hdep _ (Array.mem_of_getElem? (i := 1) rfl) rfl _ _ rfl rfl
        exact ⟨rfl, QT.wp_enter (f := 58) (args := #[.agg RL, .agg RR]) (by simp [go_sem, QT.nf d13, QT.nf d18]) (HSM.out wz) fun w' hb => ⟨_, rfl, rfl, hb⟩⟩
      | n + 11, ho => omega
    · have f0 : a.eval (.tmp 9) = .agg C := hf 0 _ _ (by omega) rfl rfl
      have f1 : a.eval (.tmp 10) = .agg CL := hf 1 _ _ (by omega) rfl rfl
      have f2 : a.eval (.tmp 11) = .int .i64 e := hf 2 _ _ (by omega) rfl rfl
      have f3 : a.eval (.tmp 12) = .int .i64 d := hf 3 _ _ (by omega) rfl rfl
      have f4 : a.eval (.tmp 13) = .agg RL := hf 4 _ _ (by omega) rfl rfl
      have f5 : a.eval (.tmp 14) = .agg C := hf 5 _ _ (by omega) rfl rfl
      have f6 : a.eval (.tmp 15) = .agg CR := hf 6 _ _ (by omega) rfl rfl
      have f7 : a.eval (.tmp 16) = .int .i64 e := hf 7 _ _ (by omega) rfl rfl
      have f8 : a.eval (.tmp 17) = .int .i64 d := hf 8 _ _ (by omega) rfl rfl
      have f9 : a.eval (.tmp 18) = .agg RR := hf 9 _ _ (by omega) rfl rfl
      have f10 : a.eval (.tmp 19) = .agg D := hf 10 _ _ (by omega) rfl rfl
      have ha := hag.puts [(9, .agg C), (10, .agg CL), (11, .int .i64 e), (12, .int .i64 d), (13, .agg RL), (14, .agg C), (15, .agg CR), (16, .int .i64 e), (17, .int .i64 d), (18, .agg RR), (19, .agg D)] rfl (by simp) (by simp only [List.forall_mem_cons, List.not_mem_nil, false_implies, implies_true, and_true]; exact ⟨f0, f1, f2, f3, f4, f5, f6, f7, f8, f9, f10⟩)
      subst ha
      clear hag hf f0 f1 f2 f3 f4 f5 f6 f7 f8 f9 f10
      simp only [List.foldl_cons, List.foldl_nil, Act.put, List.drop_succ_cons, List.drop_zero, List.setIfInBounds_toArray, List.set_cons_succ, List.set_cons_zero]
      have hbz : Below W.heap.size W wz := hI
      have HZ2 := Lib.hid ((hbz.block _ HS.out.2.1).trans HZ.out)
      have HB2 := Lib.hid (HBW.out.trans (hbz.mono (Nat.le_of_lt HS.out.1)))
      clear hbz hI
      go_wp2_with (refine wpList_store_row rfl 23 (.tmp 4) (.tmp 19) rfl g1 D rfl rfl 23 Z HZ2.out HRD.out.info HZD.out HRD.out.one ?_)
      refine bodyPost_ret (results_cell_row (p := 4) (ty := 23) Try.results39 _ _ g1 23 D (0, 0) _ rfl (setRow_heap _ _ _ _ _ _ HZ2.out) Try.underlying23 rfl HRD.out.info) rfl ⟨rfl, HG.out ▸ below_setRow HB2.out HS.out.2.2 _⟩

end Go.Proofs.Ytpifjeghoapjbaa.Evolve

namespace Go.Proofs.Ytpifjeghoapjbaa.Evolve
open Go.RowKit Go.Proofs.Ytpifjeghoapjbaa.Sha Go.Proofs.Ytpifjeghoapjbaa.Tree Go.Proofs.Ytpifjeghoapjbaa.Once

/-- A row of one's own of truth values. -/
def boolsV (L : List Bool) : List Value := L.map Value.bool
def OwnBl (B : Nat) (v : Value) (L : List Bool) (w : World) : Prop := w.ownsRow B 4 1 v L.length (boolsV L)
/-- A slice that holds these truth values. -/
def Bools (w : World) (v : Value) (L : List Bool) : Prop :=
  (∃ a cap, v = .slice a 0 cap ∧ L = []) ∨ ∃ g cap, v = .slice (some ⟨g, 0, none⟩) L.length cap ∧ 0 < L.length ∧ ∀ (i : Nat) (b : Bool), L[i]? = some b → w.cell? ⟨g, i, none⟩ = some (.bool b)
theorem Bools.kept {w w' : World} {v : Value} {L : List Bool} (h : Bools w v L) (hb : Below w.heap.size w w') : Bools w' v L := by
  rcases h with h | ⟨g, cap, hv, h0, hc⟩
  · exact Or.inl h
  · exact Or.inr ⟨g, cap, hv, h0, fun i s hs => by
      rw [hb.cell (World.block_lt_of_cell? _ _ (hc i s hs))]
      exact hc i s hs⟩
theorem OwnBl.kept {B : Nat} {v : Value} {L : List Bool} {w w' : World} (h : OwnBl B v L w) (hb : Below w.heap.size w w') : OwnBl B v L w' :=
  World.ownsRow.kept (row := none) h ⟨hb.os, hb.tape, hb.output, hb.size, fun k hk _ => hb.block k hk⟩ (by cases hv : v.ownBlock <;> simp)
theorem OwnBl.bools {B : Nat} {v : Value} {L : List Bool} {w : World} (h : OwnBl B v L w) : Bools w v L := by
  unfold OwnBl at h
  rcases h.2 with ⟨hv, h0⟩ | ⟨g, cap, cur, hv, _⟩
  · exact Or.inl ⟨none, 0, hv, List.eq_nil_of_length_eq_zero h0⟩
  · subst hv
    by_cases h0 : L.length = 0
    · exact Or.inl ⟨_, _, by rw [h0], List.eq_nil_of_length_eq_zero h0⟩
    · refine Or.inr ⟨g, cap, rfl, by omega, fun i b hb => ?_⟩
      have := h.cells (g := g) rfl i (.bool b) (by simp [boolsV, hb])
      have e : (⟨g, 0, none⟩ : Addr).add i = ⟨g, i, none⟩ := by
        unfold Addr.add
        split
        · rename_i h0
          have : i = 0 := by simpa using h0
          subst this
          rfl
        · simp
      rw [e] at this
      exact this
theorem OwnBl.form {B : Nat} {v : Value} {L : List Bool} {w : World} (h : OwnBl B v L w) : ∃ a c, v = .slice a L.length c := by
  unfold OwnBl at h
  rcases h.2 with ⟨hv, h0⟩ | ⟨g, cap, cur, hv, _⟩
  · exact ⟨_, _, by rw [hv, h0]⟩
  · exact ⟨_, _, hv⟩
theorem own_one {B g : Nat} {w : World} (b : Bool) (hB : B ≤ g) (hg : w.heap[g]? = some (.cells #[.bool b] 4 (0, 0))) : OwnBl B (.slice (some ⟨g, 0, none⟩) 1 1) [b] w :=
  ⟨rfl, Or.inr ⟨g, 1, #[.bool b], rfl, hB, hg, Nat.le_refl _, by unfold maxLen; omega, rfl, rfl⟩⟩
theorem info_bool : ∃ i, Try.prog.info? 4 = some i ∧ i.zero = some (.bool false) ∧ i.size = 1 ∧ i.bytes = 1 := by
  have h : (Try.prog.info? 4).map (fun i => (i.zero, i.size, i.bytes)) = some (some (.bool false), 1, 1) := by kernel_rfl
  obtain ⟨i, hi, hz⟩ := Option.map_eq_some_iff.1 h
  simp only [Prod.mk.injEq] at hz
  exact ⟨i, hi, hz.1, hz.2.1, hz.2.2⟩
theorem boolsV_one (L : List Bool) : ∀ u ∈ boolsV L, u.oneCell' = true := by
  intro u hu
  obtain ⟨b, _, rfl⟩ := List.mem_map.1 hu
  rfl

/-- Truth values appended onto a row of one's own. -/
theorem wpList_append_bools {ops : Array Oper} {rest : List Oper} {o : Oper} {a : Act} {w : World} {Q : Exit → Act → World → Prop} (hgd : o.guard = none) (s x : Operand)
    (ho : o.op = .call { callee := .builtin .append, args := #[s, x], argTypes := #[65, 65] })
    (B : Nat) (v : Value) (P : List Bool) (hs : a.eval s = v) (hown : OwnBl B v P w) (a1 : Option Addr) (m cap1 : Nat) (L : List Bool) (hx : a.eval x = .slice a1 m cap1) (hrow : Bools w (.slice a1 m cap1) L) (hm : L.length = m)
    (hn : P.length + m ≤ 2199023255552) (hB : B ≤ w.heap.size) (hP : 0 < P.length)
    (h : ∀ v' w', OwnBl B v' (P ++ L) w' → Below B w w' → wpList Try.prog ops Q rest (a.put o.dst v') w') : wpList Try.prog ops Q (o :: rest) a w := by
  obtain ⟨ie, hie, hz, hsz, hby⟩ := info_bool
  by_cases h0 : m = 0
  · subst h0
    have hL : L = [] := List.eq_nil_of_length_eq_zero hm
    subst hL
    obtain ⟨g, cap, cur, hv, hle⟩ : ∃ g cap cur, v = .slice (some ⟨g, 0, none⟩) P.length cap ∧ P.length ≤ cap := by
      unfold OwnBl at hown
      rcases hown.2 with ⟨hv, h1⟩ | ⟨g, cap, cur, hv, _, _, hle, _⟩
      · omega
      · exact ⟨g, cap, cur, hv, hle⟩
    have hr : (Builtin.append_ #[65, 65] o.type #[v, .slice a1 0 cap1]).run Try.prog w = .ok v w := by
      rw [hv]
      refine run_append_nothing w 65 65 o.type 4 ie Try.underlying65 hie _ _ _ hle _ ?_
      cases a1 with
      | none => exact Src.ofNil w Try.underlying65 cap1
      | some ad => exact Src.ofSlice w Try.underlying65 ad 0 cap1 [] (by simp) (fun j u hj => by simp at hj) (fun u hu => by simp at hu)
    refine wpList_plain hgd fun _ hK => ?_
    unfold Oper.wp execOp
    simp only [ho, resolve, invoke, builtin, Sem.run_bind, Sem.run_pure, Result.andThen_ok, List.map_toArray, List.map_cons, List.map_nil, hs, hx, hr]
    exact hK _ _ (h v w (by rw [List.append_nil]; exact hown) (Below.refl _ _))
  · obtain ⟨g1, rfl, hat⟩ : ∃ g1, a1 = some ⟨g1, 0, none⟩ ∧ ∀ (i : Nat) (b : Bool), L[i]? = some b → w.cell? ⟨g1, i, none⟩ = some (.bool b) := by
      rcases hrow with ⟨a2, c2, hv, h1⟩ | ⟨g, c2, hv, _, hc⟩
      · rw [h1] at hm; simp at hm; omega
      · cases hv
        exact ⟨g, rfl, hc⟩
    refine wpList_append_lies w hgd s x 65 ho B 4 ie _ 1 1 Try.underlying65 hie hz hsz hby rfl (by omega) v P.length (boolsV P) hs hown ⟨g1, 0, none⟩ m cap1 (boolsV L) hx (by simp [boolsV, hm]) (fun j u hj => ?_) (boolsV_one L) (by omega) (by unfold maxLen; omega) (by omega) hB _ rfl ?_
    · obtain ⟨b, hb, rfl⟩ : ∃ b, L[j]? = some b ∧ Value.bool b = u := by simpa [boolsV] using hj
      have e : (⟨g1, 0, none⟩ : Addr).add j = ⟨g1, j, none⟩ := by
        unfold Addr.add
        split
        · rename_i h0
          have : j = 0 := by simpa using h0
          subst this
          rfl
        · simp
      rw [e]
      exact hat j b hb
    · intro g cap w' hown' hgrow _ _
      have hl : (P ++ L).length = P.length + m := by rw [List.length_append, hm]
      refine h _ w' ?_ ((Below.refl _ _).grown hgrow hB (fun k hk => (World.ownsRow.lt hown k hk).1))
      unfold OwnBl
      rw [hl, show boolsV (P ++ L) = boolsV P ++ boolsV L by simp [boolsV]]
      exact hown'

/-- The way to a period: the highest digit first. -/
def digE : Nat → Nat → List Bool → List Bool
  | 0, _, out => out
  | n + 1, p, out => digE n (p / 2) ((p % 2 == 1) :: out)
def digitsE (d p : Nat) : List Bool := digE d p []
theorem digE_len (n : Nat) : ∀ (p : Nat) (out : List Bool), (digE n p out).length = n + out.length := by
  induction n with
  | zero => intro p out; simp [digE]
  | succ n ih =>
    intro p out
    rw [digE, ih, List.length_cons]
    omega
theorem digitsE_len (d p : Nat) : (digitsE d p).length = d := by
  rw [digitsE, digE_len]
  rfl

set_option maxRecDepth 100000 in
set_option maxHeartbeats 3200000 in
theorem ref_Digits (d p : Nat) (hd : d ≤ 1000) (hp : p ≤ 4611686018427387904) (w : World) :
    Calls Try.prog 38 #[.int .i64 d, .int .i64 p] w fun e w' => ∃ v, e = .returned v ∧ OwnBl w.heap.size v (digitsE d p) w' ∧ Below w.heap.size w w' := by
  go_enter Try.func38, Try.ntmps38
  go_wp2_with fail
  go_loopw [1, 5, 6] (fun pv ov iv wr => ∃ (k q : Nat) (L : List Bool), k ≤ d ∧ iv = .int .i64 k ∧ pv = .int .i64 q ∧ q ≤ p ∧ L.length = k ∧ OwnBl w.heap.size ov L wr ∧ digE (d - k) q L = digitsE d p ∧ Below w.heap.size w wr) (fun _ _ iv _ => d - (intOf iv).toNat)
  case atStart => exact ⟨0, p, [], by omega, rfl, rfl, Nat.le_refl _, rfl, ⟨rfl, Or.inl ⟨rfl, rfl⟩⟩, rfl, Below.refl _ _⟩
  case round =>
    obtain ⟨k, q, L, hk, rfl, rfl, hqp, hLk, hown, hdig, hbel⟩ := hrel
    obtain ⟨la, lc, rfl⟩ := hown.form
    rw [hLk] at hown
    rw [hLk]
    have HOWN := Lib.hid hown
    have HDIG := Lib.hid hdig
    have HBEL := Lib.hid hbel
    have HLK := Lib.hid hLk
    clear hown hdig hbel hLk
    by_cases hlt : k < d
    · obtain ⟨h, hh⟩ : ∃ h, q / 2 = h := ⟨_, rfl⟩
      have hqi : (q : Int) / 2 = (h : Int) := by omega
      obtain ⟨b, hb⟩ : ∃ b, ((q : Int) % 2 == 1) = b := ⟨_, rfl⟩
      have hbn : (q % 2 == 1) = b := by
        rw [← hb]
        by_cases h1 : q % 2 = 1
        · have h2 : (q : Int) % 2 = 1 := by omega
          rw [h1, h2]
          rfl
        · have h2 : (q : Int) % 2 = 0 := by omega
          have h3 : q % 2 = 0 := by omega
          rw [h3, h2]
          rfl
      have HD2 := Lib.hid (show digE (d - (k + 1)) h (b :: L) = digitsE d p by
        have h1 := HDIG.out
        rw [show d - k = (d - (k + 1)) + 1 by omega, digE, hh, hbn] at h1
        exact h1)
      have hki : (k : Int) < (d : Int) := by omega
      have hsw := HBEL.out.size
      have HSW := Lib.hid hsw
      have hbel2 : Below wr.heap.size wr (wr.alloc (.cells #[.bool b] 4)) := (Below.refl _ _).alloc (Nat.le_refl _) _
      have HNEW := Lib.hid (own_one b hsw (heap_alloc_new wr (.cells #[.bool b] 4)))
      have HOLD := Lib.hid ((HOWN.out.kept hbel2).bools)
      have HBE2 := Lib.hid (HBEL.out.trans (hbel2.mono hsw))
      have HQ2 := Lib.hid (show h ≤ p by omega)
      clear hbn hh hsw hbel2
      go_wp2_with (refine wpList_append_bools rfl (.tmp 15) (.tmp 16) rfl w.heap.size _ [b] rfl HNEW.out la k lc L rfl (HLK.out ▸ HOLD.out) HLK.out (by simp; omega) HBE2.out.size (by simp) ?_; intro v4 w4 hown4 hb4)
      have HO4 := Lib.hid hown4
      have HB4 := Lib.hid (HBE2.out.trans hb4)
      clear hown4 hb4
      go_wp2_with fail
      go_roundw
      case rel => exact ⟨k + 1, h, b :: L, by omega, by go_num, rfl, HQ2.out, by rw [List.length_cons, HLK.out], HO4.out, HD2.out, HB4.out⟩
      case measure => simp [intOf]; omega
    · obtain rfl : k = d := by omega
      go_wp2_with fail
      go_ret
      refine ⟨_, rfl, ?_, HBEL.out⟩
      have h1 := HDIG.out
      rw [Nat.sub_self, digE] at h1
      rw [← h1]
      exact HOWN.out

end Go.Proofs.Ytpifjeghoapjbaa.Evolve

namespace Go.Proofs.Ytpifjeghoapjbaa.Evolve
open Go.RowKit Go.Proofs.Ytpifjeghoapjbaa.Sha Go.Proofs.Ytpifjeghoapjbaa.Tree Go.Proofs.Ytpifjeghoapjbaa.Once

def beside (way : List Bool) (side : List (List UInt8)) (n : Nat) (h : List UInt8) : List UInt8 := if way.getD n false then sumF (side.getD n []) h else sumF h (side.getD n [])
theorem beside_len (way : List Bool) (side : List (List UInt8)) (n : Nat) (h : List UInt8) : (beside way side n h).length = 32 := by unfold beside; split <;> rfl
/-- From the row n - 1 up to the row top. -/
def overE (way : List Bool) (side : List (List UInt8)) (top : Nat) : Nat → List UInt8 → List UInt8
  | 0, h => h
  | n + 1, h => if n < top then h else overE way side top n (beside way side n h)
theorem overE_stop (way : List Bool) (side : List (List UInt8)) (top n : Nat) (h : List UInt8) (hn : n ≤ top) : overE way side top n h = h := by
  cases n with
  | zero => rfl
  | succ n => rw [overE, if_pos (by omega)]
theorem overE_go (way : List Bool) (side : List (List UInt8)) (top n : Nat) (h : List UInt8) (hn : top ≤ n) : overE way side top (n + 1) h = overE way side top n (beside way side n h) := by
  rw [overE, if_neg (by omega)]
theorem overE_len (way : List Bool) (side : List (List UInt8)) (top : Nat) : ∀ (n : Nat) (h : List UInt8), h.length = 32 → (overE way side top n h).length = 32
  | 0, _, hh => hh
  | n + 1, h, hh => by
    rw [overE]
    split
    · exact hh
    · exact overE_len way side top n _ (beside_len _ _ _ _)

theorem bools_cell {w : World} {a : Option Addr} {n c : Nat} {L : List Bool} (h : Bools w (.slice a n c) L) (i : Nat) (b : Bool) (hi : L[i]? = some b) : ∃ g, a = some ⟨g, 0, none⟩ ∧ w.cell? ⟨g, i, none⟩ = some (.bool b) := by
  rcases h with ⟨a', cap, hv, h0⟩ | ⟨g, cap, hv, _, hc⟩
  · rw [h0] at hi; simp at hi
  · cases hv
    exact ⟨g, rfl, hc i b hi⟩
theorem hashes_cellE {w : World} {a : Option Addr} {n c : Nat} {L : List (List UInt8)} (h : Hashes w (.slice a n c) L) (i : Nat) (s : List UInt8) (hi : L[i]? = some s) : ∃ g o, a = some ⟨g, o, none⟩ ∧ w.rangeAt g (o + i * 32) (valsB s) := by
  rcases h with ⟨a', cap, hv, h0⟩ | ⟨g, o, cap, hv, _, hc⟩
  · rw [h0] at hi; simp at hi
  · cases hv
    exact ⟨g, o, rfl, hc i s hi⟩

set_option maxRecDepth 100000 in
set_option maxHeartbeats 6400000 in
theorem ref_Over (h : List UInt8) (hl : h.length = 32) (aw : Option Addr) (ln cw : Nat) (way : List Bool) (ad : Option Addr) (ls cs : Nat) (side : List (List UInt8)) (top : Nat) (w : World)
    (hw : Bools w (.slice aw ln cw) way) (hwl : way.length = ln) (hs : Hashes w (.slice ad ls cs) side) (hsl : side.length = ls) (h32 : H32 side) (hln : ln ≤ ls) (hb : ln ≤ 100) (ht : top ≤ 1000) :
    Calls Try.prog 42 #[.agg (valsB h).toArray, .slice aw ln cw, .slice ad ls cs, .int .i64 top] w fun e w' => e = .returned (.agg (valsB (overE way side top ln h)).toArray) ∧ Below w.heap.size w w' := by
  have HW := Lib.hid hw
  have HWL := Lib.hid hwl
  have HSD := Lib.hid hs
  have HSL := Lib.hid hsl
  have H32S := Lib.hid h32
  have HRH := Lib.hid (row32 h hl)
  have HRE := Lib.hid (row32 (overE way side top ln h) (overE_len way side top ln h hl))
  have HHL := Lib.hid hl
  obtain ⟨CE, hCE⟩ : ∃ C, (valsB (overE way side top ln h)).toArray = C := ⟨_, rfl⟩
  obtain ⟨CH, hCH⟩ : ∃ C, (valsB h).toArray = C := ⟨_, rfl⟩
  rw [hCE] at HRE
  rw [hCH] at HRH
  rw [hCE, hCH]
  have HCE := Lib.hid hCE
  have HCH := Lib.hid hCH
  clear hw hwl hs hsl h32 hCE hCH hl
  go_enter Try.func42, Try.ntmps42
  go_upto_region 1 with (fail)
  rw [zero32]
  obtain ⟨Z, hZ⟩ : ∃ Z, (List.replicate 32 (Value.int .u8 0)).toArray = Z := ⟨_, rfl⟩
  have HZE := Lib.hid (show Z.size = CE.size by rw [← hZ, HRE.out.size]; rfl)
  rw [hZ]
  clear hZ
  have hs0 : ((w.alloc (.cells CH 23)).alloc (.cells Z 23)).heap.size = w.heap.size + 2 := by simp
  have HG0 := Lib.hid (heap_alloc2_old w (.cells CH 23) (.cells Z 23))
  have HG1 := Lib.hid (heap_alloc2_new w (.cells CH 23) (.cells Z 23))
  have HBW := Lib.hid (show Below w.heap.size w ((w.alloc (.cells CH 23)).alloc (.cells Z 23)) from ((Below.refl _ _).alloc (Nat.le_refl _) _).alloc (by simp) _)
  generalize (w.alloc (.cells CH 23)).alloc (.cells Z 23) = W at hs0 HG0 HG1 HBW ⊢
  obtain ⟨g0, hg0⟩ : ∃ x, w.heap.size = x := ⟨_, rfl⟩
  obtain ⟨g1, hg1⟩ : ∃ x, g0 + 1 = x := ⟨_, rfl⟩
  rw [hg0] at hs0 HG0 HG1 HBW
  rw [hg1] at HG1
  rw [hg0, hg1]
  have HGE := Lib.hid hg0
  have HS := Lib.hid (show g0 < g1 ∧ g1 < W.heap.size by omega)
  clear hg0 hg1 hs0
  go_wp2_with fail
  go_loopw [9] (fun iv wr => ∃ (n : Nat) (T : List UInt8), iv = .int .i64 ((n : Int) - 1) ∧ n ≤ ln ∧ T.length = 32 ∧ wr.heap[g0]? = some (.cells (valsB T).toArray 23 (0, 0)) ∧ wr.heap[g1]? = some (.cells Z 23 (0, 0)) ∧ overE way side top n T = overE way side top ln h ∧ Below g0 w wr ∧ g1 < wr.heap.size) (fun iv _ => (intOf iv + 1).toNat)
  case atStart => exact ⟨ln, h, rfl, Nat.le_refl _, HHL.out, by rw [HCH.out]; exact HG0.out, HG1.out, rfl, HBW.out, HS.out.2⟩
  case round =>
    obtain ⟨n, T, rfl, hn, hTl, hg0, hg1, hov, hbel, hlt⟩ := hrel
    have HTL := Lib.hid hTl
    have HT0 := Lib.hid hg0
    have HT1 := Lib.hid hg1
    have HOV := Lib.hid hov
    have HBEL := Lib.hid hbel
    have HLT := Lib.hid hlt
    clear hTl hg0 hg1 hov hbel hlt
    by_cases hgo : top < n
    · obtain ⟨m, rfl⟩ : ∃ m, n = m + 1 := ⟨n - 1, by omega⟩
      have hmi : ((m + 1 : Nat) : Int) - 1 = (m : Int) := by omega
      rw [hmi]
      have HO2 := Lib.hid (show overE way side top m (beside way side m T) = overE way side top ln h by rw [← HOV.out, overE_go _ _ _ _ _ (by omega)])
      obtain ⟨b, hbw⟩ : ∃ b, way[m]? = some b := ⟨way[m]'(by rw [HWL.out]; omega), List.getElem?_eq_getElem _⟩
      obtain ⟨s, hsd⟩ : ∃ s, side[m]? = some s := ⟨side[m]'(by rw [HSL.out]; omega), List.getElem?_eq_getElem _⟩
      have hsl32 := H32S.out s (List.mem_of_getElem? hsd)
      have HBS := Lib.hid (show beside way side m T = if b then sumF s T else sumF T s by
        unfold beside
        rw [List.getD_eq_getElem?_getD, hbw, List.getD_eq_getElem?_getD, hsd]
        rfl)
      have hkw : Below w.heap.size w wr := HGE.out ▸ HBEL.out
      obtain ⟨gw, rfl, hcw⟩ := bools_cell (HW.out.kept hkw) m b hbw
      obtain ⟨gs, os, rfl, hrs⟩ := hashes_cellE (HSD.out.kept hkw) m s hsd
      have HRS := Lib.hid hrs
      have HIS := Lib.hid (info_len s hsl32)
      have HRT := Lib.hid (row32 T HTL.out)
      have HRN := Lib.hid (row32 (beside way side m T) (beside_len _ _ _ _))
      have HST := Lib.hid (fun w => ref_Sum s T hsl32 HTL.out w)
      have HTS := Lib.hid (fun w => ref_Sum T s HTL.out hsl32 w)
      obtain ⟨CT, hCT⟩ : ∃ C, (valsB T).toArray = C := ⟨_, rfl⟩
      obtain ⟨CN, hCN⟩ : ∃ C, (valsB (beside way side m T)).toArray = C := ⟨_, rfl⟩
      obtain ⟨CS, hCS⟩ : ∃ C, (valsB s).toArray = C := ⟨_, rfl⟩
      rw [hCT] at HT0 HRT HST HTS
      rw [hCN] at HRN
      rw [hCS] at HST HTS
      have HCN := Lib.hid hCN
      have HCS := Lib.hid hCS
      have HTN := Lib.hid (show CT.size = CN.size by rw [HRT.out.size, HRN.out.size])
      have hti : (top : Int) ≤ (m : Int) := by omega
      have hm0 : (0 : Int) ≤ (m : Int) := by omega
      have hml : (m : Int) < (ln : Int) := by omega
      have hms : (m : Int) < (ls : Int) := by omega
      clear hbw hsd hrs hkw hCT hCN hCS hmi
      cases b with
      | true =>
        have HS2 := Lib.hid (show ∀ w, Calls Try.prog 58 #[.agg CS, .agg CT] w fun e w' => e = .returned (.agg CN) ∧ Below w.heap.size w w' by
          rw [← HCN.out, HBS.out]
          exact HST.out)
        go_wp2_with fail
        refine QT.wp_region_below_tail 6 (by kernel_rfl) (by kernel_rfl) ?_
        simp only [List.take_succ_cons, List.take_zero, List.drop_succ_cons, List.drop_zero]
        repeat (first
          | (refine wpQuiet_step (fun K hK => ?_); rw [if_pos (by rfl)]; refine quiet_load_row 23 (.tmp 4) rfl g0 rfl 23 CT (0, 0) _ HT0.out Try.underlying23 rfl HRT.out.info ?_; refine hK _ ?_; clear hK K)
          | (refine wpQuiet_step (fun K hK => ?_); rw [if_pos (by rfl)]; refine quiet_load_mid 23 (.tmp 24) rfl gs (os + m * 32) (by simp [Act.eval]) (valsB s) _ HRS.out Try.underlying23 rfl HIS.out ?_; rw [HCS.out]; refine hK _ ?_; clear hK K)
          | (quiet_step (with_reducible exact Calls.regrown_of (HS2.out _))))
        refine wpQuiet_nil ?_
        intro _ hw'
        obtain ⟨⟨dq, osq⟩, hw''⟩ := hw'
        subst hw''
        have hbq := below_regrown wr dq osq
        dsimp only
        generalize Sort.grow (redrawn wr dq) osq = w5 at hbq ⊢
        have HQ0 := Lib.hid ((hbq.block _ (Nat.lt_trans HS.out.1 HLT.out)).trans HT0.out)
        have HQ1 := Lib.hid ((hbq.block _ HLT.out).trans HT1.out)
        have HQB := Lib.hid (HBEL.out.trans (hbq.mono (Nat.le_of_lt (Nat.lt_trans HS.out.1 HLT.out))))
        have HQL := Lib.hid (Nat.lt_of_lt_of_le HLT.out hbq.size)
        clear hbq
        go_wp2_with (refine wpList_store_row rfl 23 (.tmp 4) (.tmp 27) rfl g0 CN rfl rfl 23 CT HQ0.out HRN.out.info HTN.out HRN.out.one ?_)
        go_roundw
        case rel => exact ⟨m, beside way side m T, rfl, by omega, beside_len _ _ _ _, by rw [HCN.out]; exact setRow_heap _ _ _ _ _ _ HQ0.out, by rw [setRow_other _ _ _ _ (Nat.ne_of_gt HS.out.1)]; exact HQ1.out, HO2.out, below_setRow HQB.out (Nat.le_refl _) _, by rw [setRow_size]; exact HQL.out⟩
        case measure => simp [intOf]
      | false =>
        have HS2 := Lib.hid (show ∀ w, Calls Try.prog 58 #[.agg CT, .agg CS] w fun e w' => e = .returned (.agg CN) ∧ Below w.heap.size w w' by
          rw [← HCN.out, HBS.out]
          exact HTS.out)
        go_wp2_with fail
        refine QT.wp_region_below_tail 6 (by kernel_rfl) (by kernel_rfl) ?_
        simp only [List.take_succ_cons, List.take_zero, List.drop_succ_cons, List.drop_zero]
        repeat (first
          | (refine wpQuiet_step (fun K hK => ?_); rw [if_pos (by rfl)]; refine quiet_load_row 23 (.tmp 4) rfl g0 rfl 23 CT (0, 0) _ HT0.out Try.underlying23 rfl HRT.out.info ?_; refine hK _ ?_; clear hK K)
          | (refine wpQuiet_step (fun K hK => ?_); rw [if_pos (by rfl)]; refine quiet_load_mid 23 (.tmp 31) rfl gs (os + m * 32) (by simp [Act.eval]) (valsB s) _ HRS.out Try.underlying23 rfl HIS.out ?_; rw [HCS.out]; refine hK _ ?_; clear hK K)
          | (quiet_step (with_reducible exact Calls.regrown_of (HS2.out _))))
        refine wpQuiet_nil ?_
        intro _ hw'
        obtain ⟨⟨dq, osq⟩, hw''⟩ := hw'
        subst hw''
        have hbq := below_regrown wr dq osq
        dsimp only
        generalize Sort.grow (redrawn wr dq) osq = w5 at hbq ⊢
        have HQ0 := Lib.hid ((hbq.block _ (Nat.lt_trans HS.out.1 HLT.out)).trans HT0.out)
        have HQ1 := Lib.hid ((hbq.block _ HLT.out).trans HT1.out)
        have HQB := Lib.hid (HBEL.out.trans (hbq.mono (Nat.le_of_lt (Nat.lt_trans HS.out.1 HLT.out))))
        have HQL := Lib.hid (Nat.lt_of_lt_of_le HLT.out hbq.size)
        clear hbq
        go_wp2_with (refine wpList_store_row rfl 23 (.tmp 4) (.tmp 33) rfl g0 CN rfl rfl 23 CT HQ0.out HRN.out.info HTN.out HRN.out.one ?_)
        go_roundw
        case rel => exact ⟨m, beside way side m T, rfl, by omega, beside_len _ _ _ _, by rw [HCN.out]; exact setRow_heap _ _ _ _ _ _ HQ0.out, by rw [setRow_other _ _ _ _ (Nat.ne_of_gt HS.out.1)]; exact HQ1.out, HO2.out, below_setRow HQB.out (Nat.le_refl _) _, by rw [setRow_size]; exact HQL.out⟩
        case measure => simp [intOf]
    · have hTE : T = overE way side top ln h := by rw [← HOV.out, overE_stop _ _ _ _ _ (by omega)]
      have HTE := Lib.hid (show wr.heap[g0]? = some (.cells CE 23 (0, 0)) by rw [← HCE.out, ← hTE]; exact HT0.out)
      obtain ⟨i, hi⟩ : ∃ i : Int, (n : Int) - 1 = i := ⟨_, rfl⟩
      rw [hi]
      have hci : ¬ (top : Int) ≤ i := by omega
      clear hTE hi
      go_wp2_with (first
        | (refine wpList_load_row rfl 23 (.tmp 4) rfl g0 rfl 23 CE (0, 0) _ HTE.out Try.underlying23 rfl HRE.out.info ?_)
        | (refine wpList_store_row rfl 23 (.tmp 8) (.tmp 34) rfl g1 CE rfl rfl 23 Z HT1.out HRE.out.info HZE.out HRE.out.one ?_))
      refine bodyPost_ret (results_cell_row (p := 8) (ty := 23) Try.results42 _ _ g1 23 CE (0, 0) _ rfl (setRow_heap _ _ _ _ _ _ HT1.out) Try.underlying23 rfl HRE.out.info) rfl ⟨rfl, HGE.out ▸ below_setRow HBEL.out (Nat.le_of_lt HS.out.1) _⟩

end Go.Proofs.Ytpifjeghoapjbaa.Evolve

namespace Go.Proofs.Ytpifjeghoapjbaa.Evolve
open Go.RowKit Go.Proofs.Ytpifjeghoapjbaa.Sha Go.Proofs.Ytpifjeghoapjbaa.Tree Go.Proofs.Ytpifjeghoapjbaa.Once

def evRow (d p : Int) (leaf : List UInt8) (rv sv : Value) : Array Value := ([Value.int .i64 d, .int .i64 p] ++ valsB leaf ++ [rv, sv]).toArray
theorem evRow_size (d p : Int) (leaf : List UInt8) (rv sv : Value) (hl : leaf.length = 32) : (evRow d p leaf rv sv).size = 36 := by simp [evRow, valsB, hl]
theorem evRow_34 (d p : Int) (leaf : List UInt8) (rv sv : Value) (hl : leaf.length = 32) : (evRow d p leaf rv sv)[34]? = some rv := by
  have h : ([Value.int .i64 d, .int .i64 p] ++ valsB leaf).length = 34 := by simp [valsB, hl]
  unfold evRow
  rw [List.getElem?_toArray, List.getElem?_append_right (by omega), h]
  rfl
theorem evRow_35 (d p : Int) (leaf : List UInt8) (rv sv : Value) (hl : leaf.length = 32) : (evRow d p leaf rv sv)[35]? = some sv := by
  have h : ([Value.int .i64 d, .int .i64 p] ++ valsB leaf).length = 34 := by simp [valsB, hl]
  unfold evRow
  rw [List.getElem?_toArray, List.getElem?_append_right (by omega), h]
  rfl
theorem evRow_set34 (d p : Int) (leaf : List UInt8) (rv sv v : Value) (hl : leaf.length = 32) : (evRow d p leaf rv sv).setIfInBounds 34 v = evRow d p leaf v sv := by
  have h : ([Value.int .i64 d, .int .i64 p] ++ valsB leaf).length = 34 := by simp [valsB, hl]
  unfold evRow
  rw [List.setIfInBounds_toArray, List.set_append_right _ _ (by omega), h]
  rfl
theorem evRow_set35 (d p : Int) (leaf : List UInt8) (rv sv v : Value) (hl : leaf.length = 32) : (evRow d p leaf rv sv).setIfInBounds 35 v = evRow d p leaf rv v := by
  have h : ([Value.int .i64 d, .int .i64 p] ++ valsB leaf).length = 34 := by simp [valsB, hl]
  unfold evRow
  rw [List.setIfInBounds_toArray, List.set_append_right _ _ (by omega), h]
  rfl
theorem info_ev : (Try.prog.info? 26).map (·.size) = some 36 := by kernel_rfl

/-- A row of one's own that another row's growth leaves alone. -/
theorem own_other {B : Nat} {u v : Value} {S : List (List UInt8)} {w w' : World} (h : OwnH B u S w) (hg : w.grownBy w' v.ownBlock) (ha : ∀ k, u.ownBlock = some k → v.ownBlock ≠ some k) : OwnH B u S w' := by
  refine ⟨h.own.kept (row := v.ownBlock) hg ?_, h.len⟩
  cases hu : u.ownBlock with
  | none => exact Or.inl rfl
  | some k => exact Or.inr (fun e => ha k hu e.symm)

/-- A hash appended onto a row of one's own: where the row then lies. -/
theorem wpList_append_one {ops : Array Oper} {rest : List Oper} {o : Oper} {a : Act} {w : World} {Q : Exit → Act → World → Prop} (hgd : o.guard = none) (s x : Operand)
    (ho : o.op = .call { callee := .builtin .append, args := #[s, x], argTypes := #[24, 24] })
    (B : Nat) (v : Value) (P : List (List UInt8)) (hs : a.eval s = v) (hown : OwnH B v P w) (g1 cap1 : Nat) (y : List UInt8) (hx : a.eval x = .slice (some ⟨g1, 0, none⟩) 1 cap1) (hrow : RowOf w g1 1 [y])
    (hn : P.length ≤ 1099511627776) (hB : B ≤ w.heap.size)
    (h : ∀ v' w', OwnH B v' (P ++ [y]) w' → w.grownBy w' v.ownBlock → (∀ k, v'.ownBlock = some k → v.ownBlock = some k ∨ k = w.heap.size) → wpList Try.prog ops Q rest (a.put o.dst v') w') : wpList Try.prog ops Q (o :: rest) a w := by
  obtain ⟨ie, hie, hz, hsz, hby⟩ := info_row
  have hyl := hrow.len y (by simp)
  refine wpList_append_lies w hgd s x 24 ho B 23 ie _ 32 32 Try.underlying24 hie hz hsz hby rfl (by omega) v P.length (valsH P) hs hown.own ⟨g1, 0, none⟩ 1 cap1 (valsH [y]) hx (by rw [valsH_len [y] hrow.len]; rfl) (fun j u hj => ?_) (valsH_oneCell [y]) (by omega) (by unfold maxLen; omega) (by omega) hB _ rfl ?_
  · have hj' := (List.getElem?_eq_some_iff.1 hj).1
    rw [valsH_len [y] hrow.len] at hj'
    simp only [List.length_cons, List.length_nil] at hj'
    have hjm : j < (valsB y).length := by rw [valsB_len, hyl]; omega
    have h1 := hrow.at_ 0 y rfl j _ (List.getElem?_eq_getElem hjm)
    have h2 := valsH_at [y] hrow.len 0 y rfl j _ (List.getElem?_eq_getElem hjm)
    rw [Nat.zero_mul, Nat.zero_add] at h1 h2
    rw [hj] at h2
    rw [Addr.add_mid, Nat.zero_add, h1, h2]
  · intro g cap w' hown' hgrow hgg _
    have hl : (P ++ [y]).length = P.length + 1 := by rw [List.length_append]; rfl
    refine h _ w' ⟨by rw [hl, show valsH (P ++ [y]) = valsH P ++ valsH [y] by simp [valsH]]; exact hown', fun z hz => (List.mem_append.1 hz).elim (hown.len z) (hrow.len z)⟩ hgrow (fun k hk => ?_)
    simp [Value.ownBlock] at hk
    subst hk
    exact hgg

def zeroL : List UInt8 := List.replicate 32 0
/-- Behind i rows of a key: the seed that the way came to, Right, Side. -/
def keyT (way : List Bool) (d : Nat) (seed : List UInt8) : Nat → List UInt8 × List (List UInt8) × List (List UInt8)
  | 0 => (seed, [], [])
  | i + 1 =>
    let t := keyT way d seed i
    if way.getD i false then (rightF t.1, t.2.1 ++ [zeroL], t.2.2 ++ [rootE (d - 1 - i) (leftF t.1)]) else (leftF t.1, t.2.1 ++ [rightF t.1], t.2.2 ++ [rootE (d - 1 - i) (rightF t.1)])
theorem keyT_len (way : List Bool) (d : Nat) (seed : List UInt8) (hs : seed.length = 32) : ∀ i, (keyT way d seed i).1.length = 32 ∧ (keyT way d seed i).2.1.length = i ∧ (keyT way d seed i).2.2.length = i
  | 0 => ⟨hs, rfl, rfl⟩
  | i + 1 => by
    obtain ⟨h1, h2, h3⟩ := keyT_len way d seed hs i
    rw [keyT]
    split
    · exact ⟨rfl, by simp [h2], by simp [h3]⟩
    · exact ⟨rfl, by simp [h2], by simp [h3]⟩

end Go.Proofs.Ytpifjeghoapjbaa.Evolve

namespace Go.Proofs.Ytpifjeghoapjbaa.Evolve
open Go.RowKit Go.Proofs.Ytpifjeghoapjbaa.Sha Go.Proofs.Ytpifjeghoapjbaa.Tree Go.Proofs.Ytpifjeghoapjbaa.Once

/-- The seed in its block, the key in its block, Right and Side in rows of one's own that are not one, all else below B as it was. -/
structure KeyAt (w w2 : World) (B g3 g7 : Nat) (d p : Int) (T : List UInt8) (rv sv : Value) (R S : List (List UInt8)) (wr : World) : Prop where
  seed : wr.heap[g3]? = some (.cells (valsB T).toArray 23 (0, 0))
  row : wr.heap[g7]? = some (.cells (evRow d p zeroL rv sv) 26 (0, 0))
  r : OwnH B rv R wr
  s : OwnH B sv S wr
  apart : ∀ k, rv.ownBlock = some k → sv.ownBlock ≠ some k
  rest : ∀ k, k < B → k ≠ g3 → k ≠ g7 → wr.heap[k]? = w2.heap[k]?
  size : B ≤ wr.heap.size
  lt : g3 < B ∧ g7 < B ∧ g3 < g7
  below : Below g3 w wr

section
variable {w w2 : World} {B g3 g7 : Nat} {d p : Int} {T : List UInt8} {rv sv : Value} {R S : List (List UInt8)} {wr : World}

theorem KeyAt.kept {w' : World} (h : KeyAt w w2 B g3 g7 d p T rv sv R S wr) (hb : Below wr.heap.size wr w') : KeyAt w w2 B g3 g7 d p T rv sv R S w' where
  seed := (hb.block g3 (Nat.lt_of_lt_of_le h.lt.1 h.size)).trans h.seed
  row := (hb.block g7 (Nat.lt_of_lt_of_le h.lt.2.1 h.size)).trans h.row
  r := h.r.kept hb
  s := h.s.kept hb
  apart := h.apart
  rest := fun k hk h3 h7 => (hb.block k (Nat.lt_of_lt_of_le hk h.size)).trans (h.rest k hk h3 h7)
  size := Nat.le_trans h.size hb.size
  lt := h.lt
  below := h.below.trans (hb.mono (Nat.le_of_lt (Nat.lt_of_lt_of_le h.lt.1 h.size)))

theorem own_lt {v : Value} {P : List (List UInt8)} (h : OwnH B v P wr) : ∀ k, v.ownBlock = some k → B ≤ k ∧ k < wr.heap.size := fun k hk => World.ownsRow.lt h.own k hk

theorem KeyAt.cell34 (h : KeyAt w w2 B g3 g7 d p T rv sv R S wr) : wr.cell? ⟨g7, 34, none⟩ = some rv := by
  rw [Lib.cell_of_heap h.row]
  exact evRow_34 _ _ _ _ _ rfl
theorem KeyAt.cell35 (h : KeyAt w w2 B g3 g7 d p T rv sv R S wr) : wr.cell? ⟨g7, 35, none⟩ = some sv := by
  rw [Lib.cell_of_heap h.row]
  exact evRow_35 _ _ _ _ _ rfl

/-- The key's block behind an append onto one of its rows. -/
theorem KeyAt.row_grown {v : Value} {w' : World} (h : KeyAt w w2 B g3 g7 d p T rv sv R S wr) (hv : ∀ k, v.ownBlock = some k → B ≤ k) (hg : wr.grownBy w' v.ownBlock) : w'.heap[g7]? = some (.cells (evRow d p zeroL rv sv) 26 (0, 0)) := by
  rw [hg.block g7 (Nat.lt_of_lt_of_le h.lt.2.1 h.size) (fun e => by have := hv g7 e.symm; have := h.lt.2.1; omega)]
  exact h.row

/-- Right grown by a hash, and stored. -/
theorem KeyAt.growR {w' : World} {v' : Value} {x : List UInt8} (h : KeyAt w w2 B g3 g7 d p T rv sv R S wr) (ho : OwnH B v' (R ++ [x]) w') (hg : wr.grownBy w' rv.ownBlock) (hk : ∀ k, v'.ownBlock = some k → rv.ownBlock = some k ∨ k = wr.heap.size) :
    KeyAt w w2 B g3 g7 d p T v' sv (R ++ [x]) S (w'.setRow g7 (evRow d p zeroL v' sv)) := by
  have hB := fun k hk => (own_lt h.r k hk).1
  have hrow := h.row_grown hB hg
  have keep : ∀ k, k < B → w'.heap[k]? = wr.heap[k]? := fun k hkB => hg.block k (Nat.lt_of_lt_of_le hkB h.size) (fun e => by have := hB k e.symm; omega)
  have hs' : OwnH B sv S w' := own_other h.s hg (fun k hk1 hk2 => h.apart k hk2 hk1)
  have hb' : Below g3 w w' := h.below.grown hg (Nat.le_of_lt (Nat.lt_of_lt_of_le h.lt.1 h.size)) (fun k hk1 => Nat.le_trans (Nat.le_of_lt h.lt.1) (hB k hk1))
  have other : ∀ {v : Value} {P : List (List UInt8)}, OwnH B v P w' → OwnH B v P (w'.setRow g7 (evRow d p zeroL v' sv)) := fun {v P} hv => by
    refine ⟨hv.own.kept (row := some g7) ⟨rfl, rfl, rfl, by rw [setRow_size]; exact Nat.le_refl _, fun k _ hne => setRow_other _ _ _ _ (fun e => hne (by rw [e]))⟩ ?_, hv.len⟩
    cases hu : v.ownBlock with
    | none => exact Or.inl rfl
    | some k => exact Or.inr (fun e => by cases e; have := (own_lt hv g7 hu).1; have := h.lt.2.1; omega)
  exact
    { seed := by
        rw [setRow_other _ _ _ _ (Nat.ne_of_lt h.lt.2.2), keep g3 h.lt.1]
        exact h.seed
      row := setRow_heap _ _ _ _ _ _ hrow
      r := other ho
      s := other hs'
      apart := fun k hk1 hk2 => by
        rcases hk k hk1 with h1 | h1
        · exact h.apart k h1 hk2
        · have := (own_lt h.s k hk2).2; omega
      rest := fun k hkB h3 h7 => by
        rw [setRow_other _ _ _ _ h7, keep k hkB]
        exact h.rest k hkB h3 h7
      size := by rw [setRow_size]; exact Nat.le_trans h.size hg.size
      lt := h.lt
      below := below_setRow hb' (Nat.le_of_lt h.lt.2.2) _ }

/-- Side grown by a hash, and stored. -/
theorem KeyAt.growS {w' : World} {v' : Value} {x : List UInt8} (h : KeyAt w w2 B g3 g7 d p T rv sv R S wr) (ho : OwnH B v' (S ++ [x]) w') (hg : wr.grownBy w' sv.ownBlock) (hk : ∀ k, v'.ownBlock = some k → sv.ownBlock = some k ∨ k = wr.heap.size) :
    KeyAt w w2 B g3 g7 d p T rv v' R (S ++ [x]) (w'.setRow g7 (evRow d p zeroL rv v')) := by
  have hB := fun k hk => (own_lt h.s k hk).1
  have hrow := h.row_grown hB hg
  have keep : ∀ k, k < B → w'.heap[k]? = wr.heap[k]? := fun k hkB => hg.block k (Nat.lt_of_lt_of_le hkB h.size) (fun e => by have := hB k e.symm; omega)
  have hr' : OwnH B rv R w' := own_other h.r hg (fun k hk1 hk2 => h.apart k hk1 hk2)
  have hb' : Below g3 w w' := h.below.grown hg (Nat.le_of_lt (Nat.lt_of_lt_of_le h.lt.1 h.size)) (fun k hk1 => Nat.le_trans (Nat.le_of_lt h.lt.1) (hB k hk1))
  have other : ∀ {v : Value} {P : List (List UInt8)}, OwnH B v P w' → OwnH B v P (w'.setRow g7 (evRow d p zeroL rv v')) := fun {v P} hv => by
    refine ⟨hv.own.kept (row := some g7) ⟨rfl, rfl, rfl, by rw [setRow_size]; exact Nat.le_refl _, fun k _ hne => setRow_other _ _ _ _ (fun e => hne (by rw [e]))⟩ ?_, hv.len⟩
    cases hu : v.ownBlock with
    | none => exact Or.inl rfl
    | some k => exact Or.inr (fun e => by cases e; have := (own_lt hv g7 hu).1; have := h.lt.2.1; omega)
  exact
    { seed := by
        rw [setRow_other _ _ _ _ (Nat.ne_of_lt h.lt.2.2), keep g3 h.lt.1]
        exact h.seed
      row := setRow_heap _ _ _ _ _ _ hrow
      r := other hr'
      s := other ho
      apart := fun k hk1 hk2 => by
        rcases hk k hk2 with h1 | h1
        · exact h.apart k hk1 h1
        · have := (own_lt h.r k hk1).2; omega
      rest := fun k hkB h3 h7 => by
        rw [setRow_other _ _ _ _ h7, keep k hkB]
        exact h.rest k hkB h3 h7
      size := by rw [setRow_size]; exact Nat.le_trans h.size hg.size
      lt := h.lt
      below := below_setRow hb' (Nat.le_of_lt h.lt.2.2) _ }

/-- Another seed in its block. -/
theorem KeyAt.goes (h : KeyAt w w2 B g3 g7 d p T rv sv R S wr) (T' : List UInt8) : KeyAt w w2 B g3 g7 d p T' rv sv R S (wr.setRow g3 (valsB T').toArray) := by
  have other : ∀ {v : Value} {P : List (List UInt8)}, OwnH B v P wr → OwnH B v P (wr.setRow g3 (valsB T').toArray) := fun {v P} hv => by
    refine ⟨hv.own.kept (row := some g3) ⟨rfl, rfl, rfl, by rw [setRow_size]; exact Nat.le_refl _, fun k _ hne => setRow_other _ _ _ _ (fun e => hne (by rw [e]))⟩ ?_, hv.len⟩
    cases hu : v.ownBlock with
    | none => exact Or.inl rfl
    | some k => exact Or.inr (fun e => by cases e; have := (own_lt hv g3 hu).1; have := h.lt.1; omega)
  exact
    { seed := setRow_heap _ _ _ _ _ _ h.seed
      row := by
        rw [setRow_other _ _ _ _ (Nat.ne_of_gt h.lt.2.2)]
        exact h.row
      r := other h.r
      s := other h.s
      apart := h.apart
      rest := fun k hkB h3 h7 => by
        rw [setRow_other _ _ _ _ h3]
        exact h.rest k hkB h3 h7
      size := by rw [setRow_size]; exact h.size
      lt := h.lt
      below := below_setRow h.below (Nat.le_refl _) _ }

end
end Go.Proofs.Ytpifjeghoapjbaa.Evolve
