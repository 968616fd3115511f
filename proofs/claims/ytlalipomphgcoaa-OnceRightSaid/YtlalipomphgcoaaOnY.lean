/- once: OnceRight. -/
import Derived.Test.YtlalipomphgcoaaOnJ
namespace Go.Proofs.Ytlalipomphgcoaa.Once
open Go.RowKit Go.Proofs.Ytlalipomphgcoaa.Sha Go.Proofs.Ytlalipomphgcoaa.Tree

set_option maxRecDepth 100000 in
set_option maxHeartbeats 6400000 in
theorem law_OnceRight (a0 a1 : List UInt8) (w0 : a0.length = 32) (w1 : a1.length = 32) (w : World) : Calls Try.prog 8 #[.agg (valsB a0).toArray, .agg (valsB a1).toArray] w fun e w' => e = .returned (.bool true) ∧ Below w.heap.size w w' := by
  have hsz := signK_size a0 a1
  have HS := Lib.hid (fun w => code_Sign a0 a1 w0 w1 w)
  have HT := Lib.hid (fun w => code_Tells a1 w1 ⟨(signK a0 a1).toArray⟩ hsz w)
  rw [mk_list, tell_right] at HT
  have HP := Lib.hid (fun w => code_Public a0 w0 w)
  have HC := Lib.hid (fun w => code_Check (pubK a0) a1 (pubK_len a0) w1 ⟨(signK a0 a1).toArray⟩ w)
  rw [check_right a0 a1 ⟨(signK a0 a1).toArray⟩ (mk_list _)] at HC
  have HCN := Lib.hid (fun (p : ByteArray) (h : p.size ≠ 1024) w => code_Check (pubK a0) a1 (pubK_len a0) w1 p w)
  have HCF := Lib.hid (fun (p : ByteArray) (h : p.size ≠ 1024) => check_sized (pubK a0) a1 p h)
  have HE := fun w => eqIn_hash (pubK a0) (pubK a0) (pubK_len a0) (pubK_len a0) w
  rw [show (pubK a0 == pubK a0) = true by simp] at HE
  have HRS := Lib.hid (row32 a0 w0)
  have HRM := Lib.hid (row32 a1 w1)
  have HRD := Lib.hid (row32 (pubK a0) (pubK_len a0))
  obtain ⟨S, hS⟩ : ∃ S : ByteArray, (⟨(signK a0 a1).toArray⟩ : ByteArray) = S := ⟨_, rfl⟩
  obtain ⟨CS, hCS⟩ : ∃ C, (valsB a0).toArray = C := ⟨_, rfl⟩
  obtain ⟨CM, hCM⟩ : ∃ C, (valsB a1).toArray = C := ⟨_, rfl⟩
  obtain ⟨D, hD⟩ : ∃ C, (valsB (pubK a0)).toArray = C := ⟨_, rfl⟩
  rw [hCS, hCM, hS] at HS
  rw [hCM, hS, hD] at HT
  rw [hCS, hD] at HP
  rw [hD, hCM, hS] at HC
  rw [hS] at hsz
  rw [hD, hCM] at HCN
  rw [hD] at HE HRD
  rw [hCS] at HRS
  rw [hCM] at HRM
  rw [hCS, hCM]
  obtain ⟨P1, hP1⟩ : ∃ P, S.extract 1 1024 = P := ⟨_, rfl⟩
  obtain ⟨P2, hP2⟩ : ∃ P, S ++ ⟨#[115]⟩ = P := ⟨_, rfl⟩
  have hz1 : P1.size ≠ 1024 := by
    have h := extract_size S 1 1024 (by omega) (by omega)
    rw [hP1] at h
    omega
  have hs1 : (⟨#[115]⟩ : ByteArray).size = 1 := rfl
  have hz2 : P2.size ≠ 1024 := by
    rw [← hP2, ByteArray.size_append, hsz, hs1]
    decide
  have HC1 := Lib.hid (HCN.out P1 hz1)
  rw [HCF.out P1 hz1] at HC1
  have HC2 := Lib.hid (HCN.out P2 hz2)
  rw [HCF.out P2 hz2] at HC2
  have HZ32 := Lib.hid (show (List.replicate 32 (Value.int .u8 0)).toArray.size = D.size by rw [HRD.out.size]; rfl)
  clear hCS hCM hD hS hz1 hz2 HCN HCF w0 w1
  go_enter Try.func8, Try.ntmps8
  go_upto_region 1 with (fail)
  have HW0 := Lib.hid (heap_alloc2_old w (.cells CS 23) (.cells CM 23))
  have HW1 := Lib.hid (heap_alloc2_new w (.cells CS 23) (.cells CM 23))
  have HBW := Lib.hid (show Below w.heap.size w ((w.alloc (.cells CS 23)).alloc (.cells CM 23)) from ((Below.refl _ _).alloc (Nat.le_refl _) _).alloc (by simp) _)
  generalize (w.alloc (.cells CS 23)).alloc (.cells CM 23) = W at HW0 HW1 HBW ⊢
  obtain ⟨g0, hg0⟩ : ∃ x, w.heap.size = x := ⟨_, rfl⟩
  obtain ⟨g1, hg1⟩ : ∃ x, g0 + 1 = x := ⟨_, rfl⟩
  rw [hg0] at HW0 HW1 HBW
  rw [hg1] at HW1
  rw [hg0, hg1]
  have HG := Lib.hid hg0
  have HLW := Lib.hid (And.intro ((Array.getElem?_eq_some_iff.1 HW0.out).1) ((Array.getElem?_eq_some_iff.1 HW1.out).1))
  clear hg0 hg1
  go_wp2_with (first
    | (refine wpList_load_row rfl 23 (.tmp 2) rfl g0 rfl 23 CS (0, 0) _ HW0.out Try.underlying23 rfl HRS.out.info ?_)
    | (refine wpList_load_row rfl 23 (.tmp 3) rfl g1 rfl 23 CM (0, 0) _ HW1.out Try.underlying23 rfl HRM.out.info ?_))
  refine (HS.out _).mono ?_
  rintro e w3 ⟨rfl, hb3⟩
  have HB3 := Lib.hid hb3
  have HW13 := Lib.hid ((hb3.block g1 HLW.out.2).trans HW1.out)
  clear hb3
  go_wp2_with (refine wpList_load_row rfl 23 (.tmp 3) rfl g1 rfl 23 CM (0, 0) _ HW13.out Try.underlying23 rfl HRM.out.info ?_)
  refine (HT.out _).mono ?_
  rintro e w6 ⟨rfl, hb6⟩
  have HB6 := Lib.hid (HB3.out.trans (hb6.mono HB3.out.size))
  clear hb6
  go_upto_region 3 with (refine wpList_store_row rfl 23 (.tmp 6) (.tmp 15) rfl w6.heap.size D rfl rfl 23 (List.replicate 32 (Value.int .u8 0)).toArray (heap_alloc_new _ _) HRD.out.info HZ32.out HRD.out.one ?_; rw [World.setRow_alloc_new])
  have hb8 : Below w6.heap.size w6 (w6.alloc (.cells D 23)) := (Below.refl _ _).alloc (Nat.le_refl _) _
  have H6 := Lib.hid (heap_alloc_new w6 (.cells D 23))
  have HB8 := Lib.hid (HB6.out.trans (hb8.mono HB6.out.size))
  obtain ⟨g6, hg6⟩ : ∃ x, w6.heap.size = x := ⟨_, rfl⟩
  rw [hg6] at H6
  rw [hg6]
  clear hb8 hg6
  generalize w6.alloc (.cells D 23) = w8 at H6 HB8 ⊢
  have H0 := Lib.hid ((HB8.out.block g0 HLW.out.1).trans HW0.out)
  have H1 := Lib.hid ((HB8.out.block g1 HLW.out.2).trans HW1.out)
  have HL0 := Lib.hid ((Array.getElem?_eq_some_iff.1 H0.out).1)
  have HL1 := Lib.hid ((Array.getElem?_eq_some_iff.1 H1.out).1)
  have HL6 := Lib.hid ((Array.getElem?_eq_some_iff.1 H6.out).1)
  go_wp2_with fail
  refine QT.wp_region_facts (by kernel_rfl) (fun w' => Below w8.heap.size w8 w') (fun n v w' => (((.val (.int .i64 0) :: .val (.bool true) :: .val (.bool true) :: .val (.agg D) :: .val (.agg CS) :: .val (.agg D) :: .val (.bool true) :: .val (.bool true) :: .val (.bool true) :: .val (.agg D) :: .val (.agg CM) :: .val (.string S) :: .val (.bool true) :: .val (.bool true) :: .val (.bool true) :: .val (.string S) :: .val (.int .i64 1024) :: .val (.bool true) :: .val (.bool true) :: .val (.bool true) :: .val (.agg D) :: .val (.agg CM) :: .val (.string S) :: .val (.string P1) :: .val (.bool false) :: .val (.bool true) :: .val (.bool true) :: .val (.bool true) :: .val (.agg D) :: .val (.agg CM) :: .val (.string S) :: .val (.string P2) :: .val (.bool false) :: .val (.bool true) :: .val (.bool true) :: .val (.bool true) :: []) : List Fact).getD n (.val undef) : Fact).holds v w') (by kernel_rfl) (by kernel_rfl) (Below.refl _ _).drew (fun w1 w2 h1 hb => h1.trans (hb.mono h1.size)) (fun n v w1 w2 h hb => Fact.kept _ v w1 w2 h hb) (fun n o ho a wz hI hag hdep => ?_) (fun a wz hI hag hf => ?_)
  · have t7 : a.eval (.tmp 7) = .int .i64 0 := hag.old 7 _ (by kernel_rfl) rfl
    have t2 : a.eval (.tmp 2) = .pointer (some ⟨g0, 0, none⟩) := hag.old 2 _ (by kernel_rfl) rfl
    have t3 : a.eval (.tmp 3) = .pointer (some ⟨g1, 0, none⟩) := hag.old 3 _ (by kernel_rfl) rfl
    have t6 : a.eval (.tmp 6) = .pointer (some ⟨g6, 0, none⟩) := hag.old 6 _ (by kernel_rfl) rfl
    have t5 : a.eval (.tmp 5) = .string S := hag.old 5 _ (by kernel_rfl) rfl
    match n, ho with
    | 0, ho =>
      obtain rfl := (Option.some.inj ho).symm
      exact ⟨rfl, QT.wp_value (BigFrame.run_move (.tmp 7) rfl wz) ⟨_, rfl, t7, Below.refl _ _⟩⟩
    | 1, ho =>
      obtain rfl := (Option.some.inj ho).symm
      have d17 : a.eval (.tmp 17) = .int .i64 0 := hdep _ (Array.mem_of_getElem? (i := 0) rfl) rfl _ _ rfl rfl
      exact ⟨rfl, QT.wp_value (v := .bool true) (by simp [go_sem, QT.nf d17]) ⟨_, rfl, rfl, Below.refl _ _⟩⟩
    | 2, ho =>
      obtain rfl := (Option.some.inj ho).symm
      have d18 : a.eval (.tmp 18) = .bool true := hdep _ (Array.mem_of_getElem? (i := 0) rfl) rfl _ _ rfl rfl
      exact ⟨rfl, QT.wp_value (BigFrame.run_move (.tmp 18) rfl wz) ⟨_, rfl, d18, Below.refl _ _⟩⟩
    | 3, ho =>
      obtain rfl := (Option.some.inj ho).symm
      have d19 : a.eval (.tmp 19) = .bool true := hdep _ (Array.mem_of_getElem? (i := 0) rfl) rfl _ _ rfl rfl
      exact ⟨QT.wanted_of rfl rfl rfl d19, wp_load_row 23 (.tmp 6) rfl g6 t6 23 D (0, 0) _ ((hI.block g6 HL6.out).trans H6.out) Try.underlying23 rfl HRD.out.info ⟨_, rfl, rfl, Below.refl _ _⟩⟩
    | 4, ho =>
      obtain rfl := (Option.some.inj ho).symm
      have d19 : a.eval (.tmp 19) = .bool true := hdep _ (Array.mem_of_getElem? (i := 0) rfl) rfl _ _ rfl rfl
      exact ⟨QT.wanted_of rfl rfl rfl d19, wp_load_row 23 (.tmp 2) rfl g0 t2 23 CS (0, 0) _ ((hI.block g0 HL0.out).trans H0.out) Try.underlying23 rfl HRS.out.info ⟨_, rfl, rfl, Below.refl _ _⟩⟩
    | 5, ho =>
      obtain rfl := (Option.some.inj ho).symm
      have d21 : a.eval (.tmp 21) = .agg CS := hdep _ (Array.mem_of_getElem? (i := 0) rfl) rfl _ _ rfl rfl
      have d19 : a.eval (.tmp 19) = .bool true := hdep _ (Array.mem_of_getElem? (i := 2) rfl) rfl _ _ rfl rfl
      exact ⟨QT.wanted_of rfl rfl rfl d19, QT.wp_enter (f := 24) (args := #[.agg CS]) (by simp [go_sem, QT.nf d21]) (HP.out wz) fun w' hb => ⟨_, rfl, rfl, hb⟩⟩
    | 6, ho =>
      obtain rfl := (Option.some.inj ho).symm
      have d20 : a.eval (.tmp 20) = .agg D := hdep _ (Array.mem_of_getElem? (i := 0) rfl) rfl _ _ rfl rfl
      have d22 : a.eval (.tmp 22) = .agg D := hdep _ (Array.mem_of_getElem? (i := 1) rfl) rfl _ _ rfl rfl
      have d19 : a.eval (.tmp 19) = .bool true := hdep _ (Array.mem_of_getElem? (i := 2) rfl) rfl _ _ rfl rfl
      exact ⟨QT.wanted_of rfl rfl rfl d19, QT.wp_value (v := .bool true) (by simp [go_sem, QT.nf d20, QT.nf d22, HE wz]) ⟨_, rfl, rfl, Below.refl _ _⟩⟩
    | 7, ho =>
      obtain rfl := (Option.some.inj ho).symm
      have d19 : a.eval (.tmp 19) = .bool true := hdep _ (Array.mem_of_getElem? (i := 0) rfl) rfl _ _ rfl rfl
      have d23 : a.eval (.tmp 23) = .bool true := hdep _ (Array.mem_of_getElem? (i := 1) rfl) rfl _ _ rfl rfl
      exact ⟨rfl, QT.wp_value (v := .bool true) (by simp [go_sem, QT.nf d19, QT.nf d23]) ⟨_, rfl, rfl, Below.refl _ _⟩⟩
    | 8, ho =>
      obtain rfl := (Option.some.inj ho).symm
      have d24 : a.eval (.tmp 24) = .bool true := hdep _ (Array.mem_of_getElem? (i := 0) rfl) rfl _ _ rfl rfl
      exact ⟨rfl, QT.wp_value (BigFrame.run_move (.tmp 24) rfl wz) ⟨_, rfl, d24, Below.refl _ _⟩⟩
    | 9, ho =>
      obtain rfl := (Option.some.inj ho).symm
      have d25 : a.eval (.tmp 25) = .bool true := hdep _ (Array.mem_of_getElem? (i := 0) rfl) rfl _ _ rfl rfl
      exact ⟨QT.wanted_of rfl rfl rfl d25, wp_load_row 23 (.tmp 6) rfl g6 t6 23 D (0, 0) _ ((hI.block g6 HL6.out).trans H6.out) Try.underlying23 rfl HRD.out.info ⟨_, rfl, rfl, Below.refl _ _⟩⟩
    | 10, ho =>
      obtain rfl := (Option.some.inj ho).symm
      have d25 : a.eval (.tmp 25) = .bool true := hdep _ (Array.mem_of_getElem? (i := 0) rfl) rfl _ _ rfl rfl
      exact ⟨QT.wanted_of rfl rfl rfl d25, wp_load_row 23 (.tmp 3) rfl g1 t3 23 CM (0, 0) _ ((hI.block g1 HL1.out).trans H1.out) Try.underlying23 rfl HRM.out.info ⟨_, rfl, rfl, Below.refl _ _⟩⟩
    | 11, ho =>
      obtain rfl := (Option.some.inj ho).symm
      have d25 : a.eval (.tmp 25) = .bool true := hdep _ (Array.mem_of_getElem? (i := 0) rfl) rfl _ _ rfl rfl
      exact ⟨QT.wanted_of rfl rfl rfl d25, QT.wp_value (BigFrame.run_move (.tmp 5) rfl wz) ⟨_, rfl, t5, Below.refl _ _⟩⟩
    | 12, ho =>
      obtain rfl := (Option.some.inj ho).symm
      have d26 : a.eval (.tmp 26) = .agg D := hdep _ (Array.mem_of_getElem? (i := 0) rfl) rfl _ _ rfl rfl
      have d27 : a.eval (.tmp 27) = .agg CM := hdep _ (Array.mem_of_getElem? (i := 1) rfl) rfl _ _ rfl rfl
      have d28 : a.eval (.tmp 28) = .string S := hdep _ (Array.mem_of_getElem? (i := 2) rfl) rfl _ _ rfl rfl
      have d25 : a.eval (.tmp 25) = .bool true := hdep _ (Array.mem_of_getElem? (i := 4) rfl) rfl _ _ rfl rfl
      exact ⟨QT.wanted_of rfl rfl rfl d25, QT.wp_enter (f := 23) (args := #[.agg D, .agg CM, .string S]) (by simp [go_sem, QT.nf d26, QT.nf d27, QT.nf d28]) (HC.out wz) fun w' hb => ⟨_, rfl, rfl, hb⟩⟩
    | 13, ho =>
      obtain rfl := (Option.some.inj ho).symm
      have d25 : a.eval (.tmp 25) = .bool true := hdep _ (Array.mem_of_getElem? (i := 0) rfl) rfl _ _ rfl rfl
      have d29 : a.eval (.tmp 29) = .bool true := hdep _ (Array.mem_of_getElem? (i := 1) rfl) rfl _ _ rfl rfl
      exact ⟨rfl, QT.wp_value (v := .bool true) (by simp [go_sem, QT.nf d25, QT.nf d29]) ⟨_, rfl, rfl, Below.refl _ _⟩⟩
    | 14, ho =>
      obtain rfl := (Option.some.inj ho).symm
      have d30 : a.eval (.tmp 30) = .bool true := hdep _ (Array.mem_of_getElem? (i := 0) rfl) rfl _ _ rfl rfl
      exact ⟨rfl, QT.wp_value (BigFrame.run_move (.tmp 30) rfl wz) ⟨_, rfl, d30, Below.refl _ _⟩⟩
    | 15, ho =>
      obtain rfl := (Option.some.inj ho).symm
      have d31 : a.eval (.tmp 31) = .bool true := hdep _ (Array.mem_of_getElem? (i := 0) rfl) rfl _ _ rfl rfl
      exact ⟨QT.wanted_of rfl rfl rfl d31, QT.wp_value (BigFrame.run_move (.tmp 5) rfl wz) ⟨_, rfl, t5, Below.refl _ _⟩⟩
    | 16, ho =>
      obtain rfl := (Option.some.inj ho).symm
      have d32 : a.eval (.tmp 32) = .string S := hdep _ (Array.mem_of_getElem? (i := 0) rfl) rfl _ _ rfl rfl
      have d31 : a.eval (.tmp 31) = .bool true := hdep _ (Array.mem_of_getElem? (i := 1) rfl) rfl _ _ rfl rfl
      exact ⟨QT.wanted_of rfl rfl rfl d31, QT.wp_value (v := .int .i64 1024) (by simp [go_sem, QT.nf d32, hsz]) ⟨_, rfl, rfl, Below.refl _ _⟩⟩
    | 17, ho =>
      obtain rfl := (Option.some.inj ho).symm
      have d33 : a.eval (.tmp 33) = .int .i64 1024 := hdep _ (Array.mem_of_getElem? (i := 0) rfl) rfl _ _ rfl rfl
      have d31 : a.eval (.tmp 31) = .bool true := hdep _ (Array.mem_of_getElem? (i := 1) rfl) rfl _ _ rfl rfl
      exact ⟨QT.wanted_of rfl rfl rfl d31, QT.wp_value (v := .bool true) (by simp [go_sem, QT.nf d33]) ⟨_, rfl, rfl, Below.refl _ _⟩⟩
    | 18, ho =>
      obtain rfl := (Option.some.inj ho).symm
      have d31 : a.eval (.tmp 31) = .bool true := hdep _ (Array.mem_of_getElem? (i := 0) rfl) rfl _ _ rfl rfl
      have d34 : a.eval (.tmp 34) = .bool true := hdep _ (Array.mem_of_getElem? (i := 1) rfl) rfl _ _ rfl rfl
      exact ⟨rfl, QT.wp_value (v := .bool true) (by simp [go_sem, QT.nf d31, QT.nf d34]) ⟨_, rfl, rfl, Below.refl _ _⟩⟩
    | 19, ho =>
      obtain rfl := (Option.some.inj ho).symm
      have d35 : a.eval (.tmp 35) = .bool true := hdep _ (Array.mem_of_getElem? (i := 0) rfl) rfl _ _ rfl rfl
      exact ⟨rfl, QT.wp_value (BigFrame.run_move (.tmp 35) rfl wz) ⟨_, rfl, d35, Below.refl _ _⟩⟩
    | 20, ho =>
      obtain rfl := (Option.some.inj ho).symm
      have d36 : a.eval (.tmp 36) = .bool true := hdep _ (Array.mem_of_getElem? (i := 0) rfl) rfl _ _ rfl rfl
      exact ⟨QT.wanted_of rfl rfl rfl d36, wp_load_row 23 (.tmp 6) rfl g6 t6 23 D (0, 0) _ ((hI.block g6 HL6.out).trans H6.out) Try.underlying23 rfl HRD.out.info ⟨_, rfl, rfl, Below.refl _ _⟩⟩
    | 21, ho =>
      obtain rfl := (Option.some.inj ho).symm
      have d36 : a.eval (.tmp 36) = .bool true := hdep _ (Array.mem_of_getElem? (i := 0) rfl) rfl _ _ rfl rfl
      exact ⟨QT.wanted_of rfl rfl rfl d36, wp_load_row 23 (.tmp 3) rfl g1 t3 23 CM (0, 0) _ ((hI.block g1 HL1.out).trans H1.out) Try.underlying23 rfl HRM.out.info ⟨_, rfl, rfl, Below.refl _ _⟩⟩
    | 22, ho =>
      obtain rfl := (Option.some.inj ho).symm
      have d36 : a.eval (.tmp 36) = .bool true := hdep _ (Array.mem_of_getElem? (i := 0) rfl) rfl _ _ rfl rfl
      exact ⟨QT.wanted_of rfl rfl rfl d36, QT.wp_value (BigFrame.run_move (.tmp 5) rfl wz) ⟨_, rfl, t5, Below.refl _ _⟩⟩
    | 23, ho =>
      obtain rfl := (Option.some.inj ho).symm
      have d39 : a.eval (.tmp 39) = .string S := hdep _ (Array.mem_of_getElem? (i := 0) rfl) rfl _ _ rfl rfl
      have d36 : a.eval (.tmp 36) = .bool true := hdep _ (Array.mem_of_getElem? (i := 1) rfl) rfl _ _ rfl rfl
      exact ⟨QT.wanted_of rfl rfl rfl d36, QT.wp_value (v := .string P1) (by simp [go_sem, QT.nf d39, hsz, hP1]) ⟨_, rfl, rfl, Below.refl _ _⟩⟩
    | 24, ho =>
      obtain rfl := (Option.some.inj ho).symm
      have d37 : a.eval (.tmp 37) = .agg D := hdep _ (Array.mem_of_getElem? (i := 0) rfl) rfl _ _ rfl rfl
      have d38 : a.eval (.tmp 38) = .agg CM := hdep _ (Array.mem_of_getElem? (i := 1) rfl) rfl _ _ rfl rfl
      have d40 : a.eval (.tmp 40) = .string P1 := hdep _ (Array.mem_of_getElem? (i := 2) rfl) rfl _ _ rfl rfl
      have d36 : a.eval (.tmp 36) = .bool true := hdep _ (Array.mem_of_getElem? (i := 4) rfl) rfl _ _ rfl rfl
      exact ⟨QT.wanted_of rfl rfl rfl d36, QT.wp_enter (f := 23) (args := #[.agg D, .agg CM, .string P1]) (by simp [go_sem, QT.nf d37, QT.nf d38, QT.nf d40]) (HC1.out wz) fun w' hb => ⟨_, rfl, rfl, hb⟩⟩
    | 25, ho =>
      obtain rfl := (Option.some.inj ho).symm
      have d41 : a.eval (.tmp 41) = .bool false := hdep _ (Array.mem_of_getElem? (i := 0) rfl) rfl _ _ rfl rfl
      have d36 : a.eval (.tmp 36) = .bool true := hdep _ (Array.mem_of_getElem? (i := 1) rfl) rfl _ _ rfl rfl
      exact ⟨QT.wanted_of rfl rfl rfl d36, QT.wp_value (v := .bool true) (by simp [go_sem, QT.nf d41]) ⟨_, rfl, rfl, Below.refl _ _⟩⟩
    | 26, ho =>
      obtain rfl := (Option.some.inj ho).symm
      have d36 : a.eval (.tmp 36) = .bool true := hdep _ (Array.mem_of_getElem? (i := 0) rfl) rfl _ _ rfl rfl
      have d42 : a.eval (.tmp 42) = .bool true := hdep _ (Array.mem_of_getElem? (i := 1) rfl) rfl _ _ rfl rfl
      exact ⟨rfl, QT.wp_value (v := .bool true) (by simp [go_sem, QT.nf d36, QT.nf d42]) ⟨_, rfl, rfl, Below.refl _ _⟩⟩
    | 27, ho =>
      obtain rfl := (Option.some.inj ho).symm
      have d43 : a.eval (.tmp 43) = .bool true := hdep _ (Array.mem_of_getElem? (i := 0) rfl) rfl _ _ rfl rfl
      exact ⟨rfl, QT.wp_value (BigFrame.run_move (.tmp 43) rfl wz) ⟨_, rfl, d43, Below.refl _ _⟩⟩
    | 28, ho =>
      obtain rfl := (Option.some.inj ho).symm
      have d44 : a.eval (.tmp 44) = .bool true := hdep _ (Array.mem_of_getElem? (i := 0) rfl) rfl _ _ rfl rfl
      exact ⟨QT.wanted_of rfl rfl rfl d44, wp_load_row 23 (.tmp 6) rfl g6 t6 23 D (0, 0) _ ((hI.block g6 HL6.out).trans H6.out) Try.underlying23 rfl HRD.out.info ⟨_, rfl, rfl, Below.refl _ _⟩⟩
    | 29, ho =>
      obtain rfl := (Option.some.inj ho).symm
      have d44 : a.eval (.tmp 44) = .bool true := hdep _ (Array.mem_of_getElem? (i := 0) rfl) rfl _ _ rfl rfl
      exact ⟨QT.wanted_of rfl rfl rfl d44, wp_load_row 23 (.tmp 3) rfl g1 t3 23 CM (0, 0) _ ((hI.block g1 HL1.out).trans H1.out) Try.underlying23 rfl HRM.out.info ⟨_, rfl, rfl, Below.refl _ _⟩⟩
    | 30, ho =>
      obtain rfl := (Option.some.inj ho).symm
      have d44 : a.eval (.tmp 44) = .bool true := hdep _ (Array.mem_of_getElem? (i := 0) rfl) rfl _ _ rfl rfl
      exact ⟨QT.wanted_of rfl rfl rfl d44, QT.wp_value (BigFrame.run_move (.tmp 5) rfl wz) ⟨_, rfl, t5, Below.refl _ _⟩⟩
    | 31, ho =>
      obtain rfl := (Option.some.inj ho).symm
      have d47 : a.eval (.tmp 47) = .string S := hdep _ (Array.mem_of_getElem? (i := 0) rfl) rfl _ _ rfl rfl
      have d44 : a.eval (.tmp 44) = .bool true := hdep _ (Array.mem_of_getElem? (i := 1) rfl) rfl _ _ rfl rfl
      exact ⟨QT.wanted_of rfl rfl rfl d44, QT.wp_value (v := .string P2) (by rw [← hP2]; simp [go_sem, QT.nf d47, hsz, hs1]) ⟨_, rfl, rfl, Below.refl _ _⟩⟩
    | 32, ho =>
      obtain rfl := (Option.some.inj ho).symm
      have d45 : a.eval (.tmp 45) = .agg D := hdep _ (Array.mem_of_getElem? (i := 0) rfl) rfl _ _ rfl rfl
      have d46 : a.eval (.tmp 46) = .agg CM := hdep _ (Array.mem_of_getElem? (i := 1) rfl) rfl _ _ rfl rfl
      have d48 : a.eval (.tmp 48) = .string P2 := hdep _ (Array.mem_of_getElem? (i := 2) rfl) rfl _ _ rfl rfl
      have d44 : a.eval (.tmp 44) = .bool true := hdep _ (Array.mem_of_getElem? (i := 4) rfl) rfl _ _ rfl rfl
      exact ⟨QT.wanted_of rfl rfl rfl d44, QT.wp_enter (f := 23) (args := #[.agg D, .agg CM, .string P2]) (by simp [go_sem, QT.nf d45, QT.nf d46, QT.nf d48]) (HC2.out wz) fun w' hb => ⟨_, rfl, rfl, hb⟩⟩
    | 33, ho =>
      obtain rfl := (Option.some.inj ho).symm
      have d49 : a.eval (.tmp 49) = .bool false := hdep _ (Array.mem_of_getElem? (i := 0) rfl) rfl _ _ rfl rfl
      have d44 : a.eval (.tmp 44) = .bool true := hdep _ (Array.mem_of_getElem? (i := 1) rfl) rfl _ _ rfl rfl
      exact ⟨QT.wanted_of rfl rfl rfl d44, QT.wp_value (v := .bool true) (by simp [go_sem, QT.nf d49]) ⟨_, rfl, rfl, Below.refl _ _⟩⟩
    | 34, ho =>
      obtain rfl := (Option.some.inj ho).symm
      have d44 : a.eval (.tmp 44) = .bool true := hdep _ (Array.mem_of_getElem? (i := 0) rfl) rfl _ _ rfl rfl
      have d50 : a.eval (.tmp 50) = .bool true := hdep _ (Array.mem_of_getElem? (i := 1) rfl) rfl _ _ rfl rfl
      exact ⟨rfl, QT.wp_value (v := .bool true) (by simp [go_sem, QT.nf d44, QT.nf d50]) ⟨_, rfl, rfl, Below.refl _ _⟩⟩
    | 35, ho =>
      obtain rfl := (Option.some.inj ho).symm
      have d51 : a.eval (.tmp 51) = .bool true := hdep _ (Array.mem_of_getElem? (i := 0) rfl) rfl _ _ rfl rfl
      exact ⟨rfl, QT.wp_value (BigFrame.run_assign (.tmp 51) rfl wz) ⟨_, rfl, d51, Below.refl _ _⟩⟩
    | n + 36, ho => simp at ho
  · have f0 : a.eval (.tmp 17) = .int .i64 0 := hf 0 _ _ rfl rfl
    have f1 : a.eval (.tmp 18) = .bool true := hf 1 _ _ rfl rfl
    have f2 : a.eval (.tmp 19) = .bool true := hf 2 _ _ rfl rfl
    have f3 : a.eval (.tmp 20) = .agg D := hf 3 _ _ rfl rfl
    have f4 : a.eval (.tmp 21) = .agg CS := hf 4 _ _ rfl rfl
    have f5 : a.eval (.tmp 22) = .agg D := hf 5 _ _ rfl rfl
    have f6 : a.eval (.tmp 23) = .bool true := hf 6 _ _ rfl rfl
    have f7 : a.eval (.tmp 24) = .bool true := hf 7 _ _ rfl rfl
    have f8 : a.eval (.tmp 25) = .bool true := hf 8 _ _ rfl rfl
    have f9 : a.eval (.tmp 26) = .agg D := hf 9 _ _ rfl rfl
    have f10 : a.eval (.tmp 27) = .agg CM := hf 10 _ _ rfl rfl
    have f11 : a.eval (.tmp 28) = .string S := hf 11 _ _ rfl rfl
    have f12 : a.eval (.tmp 29) = .bool true := hf 12 _ _ rfl rfl
    have f13 : a.eval (.tmp 30) = .bool true := hf 13 _ _ rfl rfl
    have f14 : a.eval (.tmp 31) = .bool true := hf 14 _ _ rfl rfl
    have f15 : a.eval (.tmp 32) = .string S := hf 15 _ _ rfl rfl
    have f16 : a.eval (.tmp 33) = .int .i64 1024 := hf 16 _ _ rfl rfl
    have f17 : a.eval (.tmp 34) = .bool true := hf 17 _ _ rfl rfl
    have f18 : a.eval (.tmp 35) = .bool true := hf 18 _ _ rfl rfl
    have f19 : a.eval (.tmp 36) = .bool true := hf 19 _ _ rfl rfl
    have f20 : a.eval (.tmp 37) = .agg D := hf 20 _ _ rfl rfl
    have f21 : a.eval (.tmp 38) = .agg CM := hf 21 _ _ rfl rfl
    have f22 : a.eval (.tmp 39) = .string S := hf 22 _ _ rfl rfl
    have f23 : a.eval (.tmp 40) = .string P1 := hf 23 _ _ rfl rfl
    have f24 : a.eval (.tmp 41) = .bool false := hf 24 _ _ rfl rfl
    have f25 : a.eval (.tmp 42) = .bool true := hf 25 _ _ rfl rfl
    have f26 : a.eval (.tmp 43) = .bool true := hf 26 _ _ rfl rfl
    have f27 : a.eval (.tmp 44) = .bool true := hf 27 _ _ rfl rfl
    have f28 : a.eval (.tmp 45) = .agg D := hf 28 _ _ rfl rfl
    have f29 : a.eval (.tmp 46) = .agg CM := hf 29 _ _ rfl rfl
    have f30 : a.eval (.tmp 47) = .string S := hf 30 _ _ rfl rfl
    have f31 : a.eval (.tmp 48) = .string P2 := hf 31 _ _ rfl rfl
    have f32 : a.eval (.tmp 49) = .bool false := hf 32 _ _ rfl rfl
    have f33 : a.eval (.tmp 50) = .bool true := hf 33 _ _ rfl rfl
    have f34 : a.eval (.tmp 51) = .bool true := hf 34 _ _ rfl rfl
    have f35 : a.eval (.tmp 4) = .bool true := hf 35 _ _ rfl rfl
    have ha := hag.puts ((17, .int .i64 0) :: (18, .bool true) :: (19, .bool true) :: (20, .agg D) :: (21, .agg CS) :: (22, .agg D) :: (23, .bool true) :: (24, .bool true) :: (25, .bool true) :: (26, .agg D) :: (27, .agg CM) :: (28, .string S) :: (29, .bool true) :: (30, .bool true) :: (31, .bool true) :: (32, .string S) :: (33, .int .i64 1024) :: (34, .bool true) :: (35, .bool true) :: (36, .bool true) :: (37, .agg D) :: (38, .agg CM) :: (39, .string S) :: (40, .string P1) :: (41, .bool false) :: (42, .bool true) :: (43, .bool true) :: (44, .bool true) :: (45, .agg D) :: (46, .agg CM) :: (47, .string S) :: (48, .string P2) :: (49, .bool false) :: (50, .bool true) :: (51, .bool true) :: (4, .bool true) :: []) rfl (by simp) (by simp only [List.forall_mem_cons, List.not_mem_nil, false_implies, implies_true, and_true]; exact ⟨f0, f1, f2, f3, f4, f5, f6, f7, f8, f9, f10, f11, f12, f13, f14, f15, f16, f17, f18, f19, f20, f21, f22, f23, f24, f25, f26, f27, f28, f29, f30, f31, f32, f33, f34, f35⟩)
    subst ha
    clear hag hf f0 f1 f2 f3 f4 f5 f6 f7 f8 f9 f10 f11 f12 f13 f14 f15 f16 f17 f18 f19 f20 f21 f22 f23 f24 f25 f26 f27 f28 f29 f30 f31 f32 f33 f34 f35
    simp only [List.foldl_cons, List.foldl_nil, Act.put, List.setIfInBounds_toArray, List.set_cons_succ, List.set_cons_zero]
    go_wp2_with fail
    go_ret
    exact ⟨rfl, HG.out ▸ HBW.out.trans ((HB8.out.mono (Nat.le_of_lt HLW.out.1)).trans (hI.mono (Nat.le_of_lt HL0.out)))⟩

end Go.Proofs.Ytlalipomphgcoaa.Once
