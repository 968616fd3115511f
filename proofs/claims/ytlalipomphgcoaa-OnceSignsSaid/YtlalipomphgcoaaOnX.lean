/- once: OnceSigns, OnceTells. -/
import Derived.Test.YtlalipomphgcoaaOnN
namespace Go.Proofs.Ytlalipomphgcoaa.Once
open Go.RowKit Go.Proofs.Ytlalipomphgcoaa.Sha Go.Proofs.Ytlalipomphgcoaa.Tree

set_option maxRecDepth 100000 in
set_option maxHeartbeats 3200000 in
theorem law_OnceSigns (a0 a1 : List UInt8) (w0 : a0.length = 32) (w1 : a1.length = 32) (w : World) : Calls Try.prog 6 #[.agg (valsB a0).toArray, .agg (valsB a1).toArray] w fun e w' => e = .returned (.bool true) ∧ Below w.heap.size w w' := by
  have HP := Lib.hid (fun w => code_Public a0 w0 w)
  have HPR := Lib.hid (fun w => ref_Public a0 w0 w)
  have HS := Lib.hid (fun w => code_Sign a0 a1 w0 w1 w)
  have HSR := Lib.hid (fun w => ref_Sign a0 a1 w0 w1 w)
  have HE := fun w => eqIn_hash (pubK a0) (pubK a0) (pubK_len a0) (pubK_len a0) w
  rw [show (pubK a0 == pubK a0) = true by simp] at HE
  have HRS := Lib.hid (row32 a0 w0)
  have HRM := Lib.hid (row32 a1 w1)
  obtain ⟨CS, hCS⟩ : ∃ C, (valsB a0).toArray = C := ⟨_, rfl⟩
  obtain ⟨CM, hCM⟩ : ∃ C, (valsB a1).toArray = C := ⟨_, rfl⟩
  obtain ⟨CP, hCP⟩ : ∃ C, (valsB (pubK a0)).toArray = C := ⟨_, rfl⟩
  obtain ⟨S, hS⟩ : ∃ S : ByteArray, (⟨(signK a0 a1).toArray⟩ : ByteArray) = S := ⟨_, rfl⟩
  rw [hCS, hCP] at HP HPR
  rw [hCS, hCM, hS] at HS HSR
  rw [hCP] at HE
  rw [hCS] at HRS
  rw [hCM] at HRM
  rw [hCS, hCM]
  clear hCS hCM hCP hS w0 w1
  go_enter Try.func6, Try.ntmps6
  go_upto_region 1 with (fail)
  have H0 := Lib.hid (heap_alloc2_old w (.cells CS 23) (.cells CM 23))
  have H1 := Lib.hid (heap_alloc2_new w (.cells CS 23) (.cells CM 23))
  have HBW := Lib.hid (show Below w.heap.size w ((w.alloc (.cells CS 23)).alloc (.cells CM 23)) from ((Below.refl _ _).alloc (Nat.le_refl _) _).alloc (by simp) _)
  generalize (w.alloc (.cells CS 23)).alloc (.cells CM 23) = W at H0 H1 HBW ⊢
  obtain ⟨g0, hg0⟩ : ∃ x, w.heap.size = x := ⟨_, rfl⟩
  obtain ⟨g1, hg1⟩ : ∃ x, g0 + 1 = x := ⟨_, rfl⟩
  rw [hg0] at H0 H1 HBW
  rw [hg1] at H1
  rw [hg0, hg1]
  have HG := Lib.hid hg0
  have HL0 := Lib.hid ((Array.getElem?_eq_some_iff.1 H0.out).1)
  have HL1 := Lib.hid ((Array.getElem?_eq_some_iff.1 H1.out).1)
  clear hg0 hg1
  refine QT.wp_region_facts (by kernel_rfl) (fun w' => Below W.heap.size W w') (fun n v w' => (([.val (.agg CS), .val (.agg CP), .val (.agg CS), .val (.agg CP), .val (.bool true), .val (.bool true), .val (.agg CS), .val (.agg CM), .val (.string S), .val (.agg CS), .val (.agg CM), .val (.string S), .val (.bool true), .val (.bool true), .val (.bool true)] : List Fact).getD n (.val undef) : Fact).holds v w') (by kernel_rfl) (by kernel_rfl) (Below.refl _ _).drew (fun w1 w2 h1 hb => h1.trans (hb.mono h1.size)) (fun n v w1 w2 h hb => Fact.kept _ v w1 w2 h hb) (fun n o ho a wz hI hag hdep => ?_) (fun a wz hI hag hf => ?_)
  · have t2 : a.eval (.tmp 2) = .pointer (some ⟨g0, 0, none⟩) := hag.old 2 _ (by kernel_rfl) rfl
    have t3 : a.eval (.tmp 3) = .pointer (some ⟨g1, 0, none⟩) := hag.old 3 _ (by kernel_rfl) rfl
    match n, ho with
    | 0, ho =>
      obtain rfl := (Option.some.inj ho).symm
      exact ⟨rfl, wp_load_row 23 (.tmp 2) rfl g0 t2 23 CS (0, 0) _ ((hI.block g0 HL0.out).trans H0.out) Try.underlying23 rfl HRS.out.info ⟨_, rfl, rfl, Below.refl _ _⟩⟩
    | 1, ho =>
      obtain rfl := (Option.some.inj ho).symm
      have d5 : a.eval (.tmp 5) = .agg CS := hdep _ (Array.mem_of_getElem? (i := 0) rfl) rfl _ _ rfl rfl
      exact ⟨rfl, QT.wp_enter (f := 24) (args := #[.agg CS]) (by simp [go_sem, QT.nf d5]) (HP.out wz) fun w' hb => ⟨_, rfl, rfl, hb⟩⟩
    | 2, ho =>
      obtain rfl := (Option.some.inj ho).symm
      exact ⟨rfl, wp_load_row 23 (.tmp 2) rfl g0 t2 23 CS (0, 0) _ ((hI.block g0 HL0.out).trans H0.out) Try.underlying23 rfl HRS.out.info ⟨_, rfl, rfl, Below.refl _ _⟩⟩
    | 3, ho =>
      obtain rfl := (Option.some.inj ho).symm
      have d7 : a.eval (.tmp 7) = .agg CS := hdep _ (Array.mem_of_getElem? (i := 0) rfl) rfl _ _ rfl rfl
      exact ⟨rfl, QT.wp_enter (f := 25) (args := #[.agg CS]) (by simp [go_sem, QT.nf d7]) (HPR.out wz) fun w' hb => ⟨_, rfl, rfl, hb⟩⟩
    | 4, ho =>
      obtain rfl := (Option.some.inj ho).symm
      have d6 : a.eval (.tmp 6) = .agg CP := hdep _ (Array.mem_of_getElem? (i := 0) rfl) rfl _ _ rfl rfl
      have d8 : a.eval (.tmp 8) = .agg CP := hdep _ (Array.mem_of_getElem? (i := 1) rfl) rfl _ _ rfl rfl
      exact ⟨rfl, QT.wp_value (v := .bool true) (by simp [go_sem, QT.nf d6, QT.nf d8, HE wz]) ⟨_, rfl, rfl, Below.refl _ _⟩⟩
    | 5, ho =>
      obtain rfl := (Option.some.inj ho).symm
      have d9 : a.eval (.tmp 9) = .bool true := hdep _ (Array.mem_of_getElem? (i := 0) rfl) rfl _ _ rfl rfl
      exact ⟨rfl, QT.wp_value (BigFrame.run_move (.tmp 9) rfl wz) ⟨_, rfl, d9, Below.refl _ _⟩⟩
    | 6, ho =>
      obtain rfl := (Option.some.inj ho).symm
      have d10 : a.eval (.tmp 10) = .bool true := hdep _ (Array.mem_of_getElem? (i := 0) rfl) rfl _ _ rfl rfl
      exact ⟨QT.wanted_of rfl rfl rfl d10, wp_load_row 23 (.tmp 2) rfl g0 t2 23 CS (0, 0) _ ((hI.block g0 HL0.out).trans H0.out) Try.underlying23 rfl HRS.out.info ⟨_, rfl, rfl, Below.refl _ _⟩⟩
    | 7, ho =>
      obtain rfl := (Option.some.inj ho).symm
      have d10 : a.eval (.tmp 10) = .bool true := hdep _ (Array.mem_of_getElem? (i := 0) rfl) rfl _ _ rfl rfl
      exact ⟨QT.wanted_of rfl rfl rfl d10, wp_load_row 23 (.tmp 3) rfl g1 t3 23 CM (0, 0) _ ((hI.block g1 HL1.out).trans H1.out) Try.underlying23 rfl HRM.out.info ⟨_, rfl, rfl, Below.refl _ _⟩⟩
    | 8, ho =>
      obtain rfl := (Option.some.inj ho).symm
      have d11 : a.eval (.tmp 11) = .agg CS := hdep _ (Array.mem_of_getElem? (i := 0) rfl) rfl _ _ rfl rfl
      have d12 : a.eval (.tmp 12) = .agg CM := hdep _ (Array.mem_of_getElem? (i := 1) rfl) rfl _ _ rfl rfl
      have d10 : a.eval (.tmp 10) = .bool true := hdep _ (Array.mem_of_getElem? (i := 3) rfl) rfl _ _ rfl rfl
      exact ⟨QT.wanted_of rfl rfl rfl d10, QT.wp_enter (f := 26) (args := #[.agg CS, .agg CM]) (by simp [go_sem, QT.nf d11, QT.nf d12]) (HS.out wz) fun w' hb => ⟨_, rfl, rfl, hb⟩⟩
    | 9, ho =>
      obtain rfl := (Option.some.inj ho).symm
      have d10 : a.eval (.tmp 10) = .bool true := hdep _ (Array.mem_of_getElem? (i := 0) rfl) rfl _ _ rfl rfl
      exact ⟨QT.wanted_of rfl rfl rfl d10, wp_load_row 23 (.tmp 2) rfl g0 t2 23 CS (0, 0) _ ((hI.block g0 HL0.out).trans H0.out) Try.underlying23 rfl HRS.out.info ⟨_, rfl, rfl, Below.refl _ _⟩⟩
    | 10, ho =>
      obtain rfl := (Option.some.inj ho).symm
      have d10 : a.eval (.tmp 10) = .bool true := hdep _ (Array.mem_of_getElem? (i := 0) rfl) rfl _ _ rfl rfl
      exact ⟨QT.wanted_of rfl rfl rfl d10, wp_load_row 23 (.tmp 3) rfl g1 t3 23 CM (0, 0) _ ((hI.block g1 HL1.out).trans H1.out) Try.underlying23 rfl HRM.out.info ⟨_, rfl, rfl, Below.refl _ _⟩⟩
    | 11, ho =>
      obtain rfl := (Option.some.inj ho).symm
      have d14 : a.eval (.tmp 14) = .agg CS := hdep _ (Array.mem_of_getElem? (i := 0) rfl) rfl _ _ rfl rfl
      have d15 : a.eval (.tmp 15) = .agg CM := hdep _ (Array.mem_of_getElem? (i := 1) rfl) rfl _ _ rfl rfl
      have d10 : a.eval (.tmp 10) = .bool true := hdep _ (Array.mem_of_getElem? (i := 3) rfl) rfl _ _ rfl rfl
      exact ⟨QT.wanted_of rfl rfl rfl d10, QT.wp_enter (f := 27) (args := #[.agg CS, .agg CM]) (by simp [go_sem, QT.nf d14, QT.nf d15]) (HSR.out wz) fun w' hb => ⟨_, rfl, rfl, hb⟩⟩
    | 12, ho =>
      obtain rfl := (Option.some.inj ho).symm
      have d13 : a.eval (.tmp 13) = .string S := hdep _ (Array.mem_of_getElem? (i := 0) rfl) rfl _ _ rfl rfl
      have d16 : a.eval (.tmp 16) = .string S := hdep _ (Array.mem_of_getElem? (i := 1) rfl) rfl _ _ rfl rfl
      have d10 : a.eval (.tmp 10) = .bool true := hdep _ (Array.mem_of_getElem? (i := 2) rfl) rfl _ _ rfl rfl
      exact ⟨QT.wanted_of rfl rfl rfl d10, QT.wp_value (v := .bool true) (by simp [go_sem, QT.nf d13, QT.nf d16]) ⟨_, rfl, rfl, Below.refl _ _⟩⟩
    | 13, ho =>
      obtain rfl := (Option.some.inj ho).symm
      have d10 : a.eval (.tmp 10) = .bool true := hdep _ (Array.mem_of_getElem? (i := 0) rfl) rfl _ _ rfl rfl
      have d17 : a.eval (.tmp 17) = .bool true := hdep _ (Array.mem_of_getElem? (i := 1) rfl) rfl _ _ rfl rfl
      exact ⟨rfl, QT.wp_value (v := .bool true) (by simp [go_sem, QT.nf d10, QT.nf d17]) ⟨_, rfl, rfl, Below.refl _ _⟩⟩
    | 14, ho =>
      obtain rfl := (Option.some.inj ho).symm
      have d18 : a.eval (.tmp 18) = .bool true := hdep _ (Array.mem_of_getElem? (i := 0) rfl) rfl _ _ rfl rfl
      exact ⟨rfl, QT.wp_value (BigFrame.run_assign (.tmp 18) rfl wz) ⟨_, rfl, d18, Below.refl _ _⟩⟩
    | n + 15, ho => simp at ho
  · have f0 : a.eval (.tmp 5) = .agg CS := hf 0 _ _ rfl rfl
    have f1 : a.eval (.tmp 6) = .agg CP := hf 1 _ _ rfl rfl
    have f2 : a.eval (.tmp 7) = .agg CS := hf 2 _ _ rfl rfl
    have f3 : a.eval (.tmp 8) = .agg CP := hf 3 _ _ rfl rfl
    have f4 : a.eval (.tmp 9) = .bool true := hf 4 _ _ rfl rfl
    have f5 : a.eval (.tmp 10) = .bool true := hf 5 _ _ rfl rfl
    have f6 : a.eval (.tmp 11) = .agg CS := hf 6 _ _ rfl rfl
    have f7 : a.eval (.tmp 12) = .agg CM := hf 7 _ _ rfl rfl
    have f8 : a.eval (.tmp 13) = .string S := hf 8 _ _ rfl rfl
    have f9 : a.eval (.tmp 14) = .agg CS := hf 9 _ _ rfl rfl
    have f10 : a.eval (.tmp 15) = .agg CM := hf 10 _ _ rfl rfl
    have f11 : a.eval (.tmp 16) = .string S := hf 11 _ _ rfl rfl
    have f12 : a.eval (.tmp 17) = .bool true := hf 12 _ _ rfl rfl
    have f13 : a.eval (.tmp 18) = .bool true := hf 13 _ _ rfl rfl
    have f14 : a.eval (.tmp 4) = .bool true := hf 14 _ _ rfl rfl
    have ha := hag.puts [(5, .agg CS), (6, .agg CP), (7, .agg CS), (8, .agg CP), (9, .bool true), (10, .bool true), (11, .agg CS), (12, .agg CM), (13, .string S), (14, .agg CS), (15, .agg CM), (16, .string S), (17, .bool true), (18, .bool true), (4, .bool true)] rfl (by simp) (by simp only [List.forall_mem_cons, List.not_mem_nil, false_implies, implies_true, and_true]; exact ⟨f0, f1, f2, f3, f4, f5, f6, f7, f8, f9, f10, f11, f12, f13, f14⟩)
    subst ha
    clear hag hf f0 f1 f2 f3 f4 f5 f6 f7 f8 f9 f10 f11 f12 f13 f14
    simp only [List.foldl_cons, List.foldl_nil, Act.put, List.setIfInBounds_toArray, List.set_cons_succ, List.set_cons_zero]
    go_wp2_with fail
    go_ret
    exact ⟨rfl, HG.out ▸ HBW.out.trans (hI.mono (Nat.le_of_lt HL0.out))⟩

set_option maxRecDepth 100000 in
set_option maxHeartbeats 3200000 in
theorem law_OnceTells (a0 a1 : List UInt8) (sig : ByteArray) (w0 : a0.length = 32) (w1 : a1.length = 32) (w2 : sig.size ≤ maxLen) (w : World) : Calls Try.prog 7 #[.agg (valsB a0).toArray, .agg (valsB a1).toArray, .string sig] w fun e w' => e = .returned (.bool true) ∧ Below w.heap.size w w' := by
  have hsz : sig.size ≤ 9223372036854775807 := w2
  have HTC := Lib.hid (fun w => code_TellsA a1 w1 sig w)
  have HTR := Lib.hid (fun w => ref_TellsA a1 w1 sig w)
  have HC := Lib.hid (fun w => code_Check a0 a1 w0 w1 sig w)
  have HCR := Lib.hid (fun w => ref_Check a0 a1 w0 w1 sig w)
  have HE := fun w => eqIn_hash (tellsH a1 sig) (tellsH a1 sig) (tellsH_len a1 sig) (tellsH_len a1 sig) w
  rw [show (tellsH a1 sig == tellsH a1 sig) = true by simp] at HE
  have HRP := Lib.hid (row32 a0 w0)
  have HRM := Lib.hid (row32 a1 w1)
  have HRD := Lib.hid (row32 (tellsH a1 sig) (tellsH_len a1 sig))
  obtain ⟨CP, hCP⟩ : ∃ C, (valsB a0).toArray = C := ⟨_, rfl⟩
  obtain ⟨CM, hCM⟩ : ∃ C, (valsB a1).toArray = C := ⟨_, rfl⟩
  obtain ⟨D, hD⟩ : ∃ C, (valsB (tellsH a1 sig)).toArray = C := ⟨_, rfl⟩
  obtain ⟨E, hEE⟩ : ∃ E, tellsE sig = E := ⟨_, rfl⟩
  obtain ⟨B, hB⟩ : ∃ B, checkK a0 a1 sig = B := ⟨_, rfl⟩
  rw [hCM, hD, hEE] at HTC HTR
  rw [hCP, hCM, hB] at HC HCR
  rw [hD] at HE HRD
  rw [hCP] at HRP
  rw [hCM] at HRM
  rw [hCP, hCM]
  clear hCP hCM hD hEE hB w0 w1 w2
  have HZ32 := Lib.hid (show (List.replicate 32 (Value.int .u8 0)).toArray.size = D.size by rw [HRD.out.size]; rfl)
  go_enter Try.func7, Try.ntmps7
  go_upto_region 1 with (fail)
  have H0 := Lib.hid (heap_alloc2_old w (.cells CP 23) (.cells CM 23))
  have H1 := Lib.hid (heap_alloc2_new w (.cells CP 23) (.cells CM 23))
  have HBW := Lib.hid (show Below w.heap.size w ((w.alloc (.cells CP 23)).alloc (.cells CM 23)) from ((Below.refl _ _).alloc (Nat.le_refl _) _).alloc (by simp) _)
  generalize (w.alloc (.cells CP 23)).alloc (.cells CM 23) = W at H0 H1 HBW ⊢
  obtain ⟨g0, hg0⟩ : ∃ x, w.heap.size = x := ⟨_, rfl⟩
  obtain ⟨g1, hg1⟩ : ∃ x, g0 + 1 = x := ⟨_, rfl⟩
  rw [hg0] at H0 H1 HBW
  rw [hg1] at H1
  rw [hg0, hg1]
  have HG := Lib.hid hg0
  have HLW := Lib.hid (And.intro ((Array.getElem?_eq_some_iff.1 H0.out).1) ((Array.getElem?_eq_some_iff.1 H1.out).1))
  have HW0 := Lib.hid H0.out
  have HW1 := Lib.hid H1.out
  clear hg0 hg1 H0 H1
  by_cases hbig : 4096 < sig.size
  · have hb : (4096 : Int) < (sig.size : Int) := by omega
    go_wp2_with fail
    refine (works5 _).mono ?_
    rintro e w3 ⟨rfl, hb3⟩
    have HB3 := Lib.hid (HBW.out.trans (hb3.mono (Nat.le_of_lt HLW.out.1)))
    clear hb3
    go_wp2_with fail
    go_ret
    exact ⟨rfl, HG.out ▸ HB3.out⟩
  · have hb : ¬ (4096 : Int) < (sig.size : Int) := by omega
    go_wp2_with (refine wpList_load_row rfl 23 (.tmp 4) rfl g1 rfl 23 CM (0, 0) _ HW1.out Try.underlying23 rfl HRM.out.info ?_)
    refine (HTC.out _).mono ?_
    rintro e w3 ⟨rfl, hb3⟩
    have HB3 := Lib.hid hb3
    clear hb3
    go_upto_region 4 with (refine wpList_store_row rfl 23 (.tmp 7) (.tmp 19) rfl w3.heap.size D rfl rfl 23 (List.replicate 32 (Value.int .u8 0)).toArray (heap_alloc_new _ _) HRD.out.info HZ32.out HRD.out.one ?_; rw [World.setRow_alloc_new])
    have hb5 : Below w3.heap.size w3 (w3.alloc (.cells D 23)) := (Below.refl _ _).alloc (Nat.le_refl _) _
    have H7' := Lib.hid (heap_alloc_new w3 (.cells D 23))
    have HB5 := Lib.hid (HB3.out.trans (hb5.mono HB3.out.size))
    obtain ⟨g7, hg7⟩ : ∃ x, w3.heap.size = x := ⟨_, rfl⟩
    rw [hg7] at H7'
    rw [hg7]
    clear hb5 hg7
    generalize w3.alloc (.cells D 23) = w5 at H7' HB5 ⊢
    have HW15 := Lib.hid ((HB5.out.block g1 HLW.out.2).trans HW1.out)
    go_wp2_with (refine wpList_load_row rfl 23 (.tmp 4) rfl g1 rfl 23 CM (0, 0) _ HW15.out Try.underlying23 rfl HRM.out.info ?_)
    refine (HTR.out _).mono ?_
    rintro e w6 ⟨rfl, hb6⟩
    have HB6 := Lib.hid hb6
    clear hb6
    go_upto_region 5 with (refine wpList_store_row rfl 23 (.tmp 9) (.tmp 25) rfl w6.heap.size D rfl rfl 23 (List.replicate 32 (Value.int .u8 0)).toArray (heap_alloc_new _ _) HRD.out.info HZ32.out HRD.out.one ?_; rw [World.setRow_alloc_new])
    have hb8 : Below w6.heap.size w6 (w6.alloc (.cells D 23)) := (Below.refl _ _).alloc (Nat.le_refl _) _
    have H9 := Lib.hid (heap_alloc_new w6 (.cells D 23))
    have hb58 := HB6.out.trans (hb8.mono HB6.out.size)
    have H7 := Lib.hid ((hb58.block g7 ((Array.getElem?_eq_some_iff.1 H7'.out).1)).trans H7'.out)
    have HB8 := Lib.hid (HB5.out.trans (hb58.mono HB5.out.size))
    obtain ⟨g9, hg9⟩ : ∃ x, w6.heap.size = x := ⟨_, rfl⟩
    rw [hg9] at H9
    rw [hg9]
    clear hb8 hb58 hg9
    generalize w6.alloc (.cells D 23) = w8 at H7 H9 HB8 ⊢
    have H0 := Lib.hid ((HB8.out.block g0 HLW.out.1).trans HW0.out)
    have H1 := Lib.hid ((HB8.out.block g1 HLW.out.2).trans HW1.out)
    have HL0 := Lib.hid ((Array.getElem?_eq_some_iff.1 H0.out).1)
    have HL1 := Lib.hid ((Array.getElem?_eq_some_iff.1 H1.out).1)
    have HL7 := Lib.hid ((Array.getElem?_eq_some_iff.1 H7.out).1)
    have HL9 := Lib.hid ((Array.getElem?_eq_some_iff.1 H9.out).1)
    go_wp2_with fail
    refine QT.wp_region_facts (by kernel_rfl) (fun w' => Below w8.heap.size w8 w') (fun n v w' => (([.val (.agg D), .val (.agg D), .val (.bool true), .val (.bool true), .val (.int .i64 E), .val (.int .i64 E), .val (.bool true), .val (.bool true), .val (.bool true), .val (.agg CP), .val (.agg CM), .val (.string sig), .val (.bool B), .val (.agg CP), .val (.agg CM), .val (.string sig), .val (.bool B), .val (.bool true), .val (.bool true), .val (.bool true), .val (.bool true), .val (.bool true), .val (.bool true)] : List Fact).getD n (.val undef) : Fact).holds v w') (by kernel_rfl) (by kernel_rfl) (Below.refl _ _).drew (fun w1 w2 h1 hb => h1.trans (hb.mono h1.size)) (fun n v w1 w2 h hb => Fact.kept _ v w1 w2 h hb) (fun n o ho a wz hI hag hdep => ?_) (fun a wz hI hag hf => ?_)
    · have t3 : a.eval (.tmp 3) = .pointer (some ⟨g0, 0, none⟩) := hag.old 3 _ (by kernel_rfl) rfl
      have t4 : a.eval (.tmp 4) = .pointer (some ⟨g1, 0, none⟩) := hag.old 4 _ (by kernel_rfl) rfl
      have t7 : a.eval (.tmp 7) = .pointer (some ⟨g7, 0, none⟩) := hag.old 7 _ (by kernel_rfl) rfl
      have t9 : a.eval (.tmp 9) = .pointer (some ⟨g9, 0, none⟩) := hag.old 9 _ (by kernel_rfl) rfl
      have t8 : a.eval (.tmp 8) = .int .i64 E := hag.old 8 _ (by kernel_rfl) rfl
      have t10 : a.eval (.tmp 10) = .int .i64 E := hag.old 10 _ (by kernel_rfl) rfl
      have t2 : a.eval (.tmp 2) = .string sig := hag.old 2 _ (by kernel_rfl) rfl
      match n, ho with
      | 0, ho =>
        obtain rfl := (Option.some.inj ho).symm
        exact ⟨rfl, wp_load_row 23 (.tmp 7) rfl g7 t7 23 D (0, 0) _ ((hI.block g7 HL7.out).trans H7.out) Try.underlying23 rfl HRD.out.info ⟨_, rfl, rfl, Below.refl _ _⟩⟩
      | 1, ho =>
        obtain rfl := (Option.some.inj ho).symm
        exact ⟨rfl, wp_load_row 23 (.tmp 9) rfl g9 t9 23 D (0, 0) _ ((hI.block g9 HL9.out).trans H9.out) Try.underlying23 rfl HRD.out.info ⟨_, rfl, rfl, Below.refl _ _⟩⟩
      | 2, ho =>
        obtain rfl := (Option.some.inj ho).symm
        have d27 : a.eval (.tmp 27) = .agg D := hdep _ (Array.mem_of_getElem? (i := 0) rfl) rfl _ _ rfl rfl
        have d28 : a.eval (.tmp 28) = .agg D := hdep _ (Array.mem_of_getElem? (i := 1) rfl) rfl _ _ rfl rfl
        exact ⟨rfl, QT.wp_value (v := .bool true) (by simp [go_sem, QT.nf d27, QT.nf d28, HE wz]) ⟨_, rfl, rfl, Below.refl _ _⟩⟩
      | 3, ho =>
        obtain rfl := (Option.some.inj ho).symm
        have d29 : a.eval (.tmp 29) = .bool true := hdep _ (Array.mem_of_getElem? (i := 0) rfl) rfl _ _ rfl rfl
        exact ⟨rfl, QT.wp_value (BigFrame.run_move (.tmp 29) rfl wz) ⟨_, rfl, d29, Below.refl _ _⟩⟩
      | 4, ho =>
        obtain rfl := (Option.some.inj ho).symm
        have d30 : a.eval (.tmp 30) = .bool true := hdep _ (Array.mem_of_getElem? (i := 0) rfl) rfl _ _ rfl rfl
        exact ⟨QT.wanted_of rfl rfl rfl d30, QT.wp_value (BigFrame.run_move (.tmp 8) rfl wz) ⟨_, rfl, t8, Below.refl _ _⟩⟩
      | 5, ho =>
        obtain rfl := (Option.some.inj ho).symm
        have d30 : a.eval (.tmp 30) = .bool true := hdep _ (Array.mem_of_getElem? (i := 0) rfl) rfl _ _ rfl rfl
        exact ⟨QT.wanted_of rfl rfl rfl d30, QT.wp_value (BigFrame.run_move (.tmp 10) rfl wz) ⟨_, rfl, t10, Below.refl _ _⟩⟩
      | 6, ho =>
        obtain rfl := (Option.some.inj ho).symm
        have d31 : a.eval (.tmp 31) = .int .i64 E := hdep _ (Array.mem_of_getElem? (i := 0) rfl) rfl _ _ rfl rfl
        have d32 : a.eval (.tmp 32) = .int .i64 E := hdep _ (Array.mem_of_getElem? (i := 1) rfl) rfl _ _ rfl rfl
        have d30 : a.eval (.tmp 30) = .bool true := hdep _ (Array.mem_of_getElem? (i := 2) rfl) rfl _ _ rfl rfl
        exact ⟨QT.wanted_of rfl rfl rfl d30, QT.wp_value (v := .bool true) (by simp [go_sem, QT.nf d31, QT.nf d32]) ⟨_, rfl, rfl, Below.refl _ _⟩⟩
      | 7, ho =>
        obtain rfl := (Option.some.inj ho).symm
        have d30 : a.eval (.tmp 30) = .bool true := hdep _ (Array.mem_of_getElem? (i := 0) rfl) rfl _ _ rfl rfl
        have d33 : a.eval (.tmp 33) = .bool true := hdep _ (Array.mem_of_getElem? (i := 1) rfl) rfl _ _ rfl rfl
        exact ⟨rfl, QT.wp_value (v := .bool true) (by simp [go_sem, QT.nf d30, QT.nf d33]) ⟨_, rfl, rfl, Below.refl _ _⟩⟩
      | 8, ho =>
        obtain rfl := (Option.some.inj ho).symm
        have d34 : a.eval (.tmp 34) = .bool true := hdep _ (Array.mem_of_getElem? (i := 0) rfl) rfl _ _ rfl rfl
        exact ⟨rfl, QT.wp_value (BigFrame.run_move (.tmp 34) rfl wz) ⟨_, rfl, d34, Below.refl _ _⟩⟩
      | 9, ho =>
        obtain rfl := (Option.some.inj ho).symm
        have d35 : a.eval (.tmp 35) = .bool true := hdep _ (Array.mem_of_getElem? (i := 0) rfl) rfl _ _ rfl rfl
        exact ⟨QT.wanted_of rfl rfl rfl d35, wp_load_row 23 (.tmp 3) rfl g0 t3 23 CP (0, 0) _ ((hI.block g0 HL0.out).trans H0.out) Try.underlying23 rfl HRP.out.info ⟨_, rfl, rfl, Below.refl _ _⟩⟩
      | 10, ho =>
        obtain rfl := (Option.some.inj ho).symm
        have d35 : a.eval (.tmp 35) = .bool true := hdep _ (Array.mem_of_getElem? (i := 0) rfl) rfl _ _ rfl rfl
        exact ⟨QT.wanted_of rfl rfl rfl d35, wp_load_row 23 (.tmp 4) rfl g1 t4 23 CM (0, 0) _ ((hI.block g1 HL1.out).trans H1.out) Try.underlying23 rfl HRM.out.info ⟨_, rfl, rfl, Below.refl _ _⟩⟩
      | 11, ho =>
        obtain rfl := (Option.some.inj ho).symm
        have d35 : a.eval (.tmp 35) = .bool true := hdep _ (Array.mem_of_getElem? (i := 0) rfl) rfl _ _ rfl rfl
        exact ⟨QT.wanted_of rfl rfl rfl d35, QT.wp_value (BigFrame.run_move (.tmp 2) rfl wz) ⟨_, rfl, t2, Below.refl _ _⟩⟩
      | 12, ho =>
        obtain rfl := (Option.some.inj ho).symm
        have d36 : a.eval (.tmp 36) = .agg CP := hdep _ (Array.mem_of_getElem? (i := 0) rfl) rfl _ _ rfl rfl
        have d37 : a.eval (.tmp 37) = .agg CM := hdep _ (Array.mem_of_getElem? (i := 1) rfl) rfl _ _ rfl rfl
        have d38 : a.eval (.tmp 38) = .string sig := hdep _ (Array.mem_of_getElem? (i := 2) rfl) rfl _ _ rfl rfl
        have d35 : a.eval (.tmp 35) = .bool true := hdep _ (Array.mem_of_getElem? (i := 4) rfl) rfl _ _ rfl rfl
        exact ⟨QT.wanted_of rfl rfl rfl d35, QT.wp_enter (f := 23) (args := #[.agg CP, .agg CM, .string sig]) (by simp [go_sem, QT.nf d36, QT.nf d37, QT.nf d38]) (HC.out wz) fun w' hb => ⟨_, rfl, rfl, hb⟩⟩
      | 13, ho =>
        obtain rfl := (Option.some.inj ho).symm
        have d35 : a.eval (.tmp 35) = .bool true := hdep _ (Array.mem_of_getElem? (i := 0) rfl) rfl _ _ rfl rfl
        exact ⟨QT.wanted_of rfl rfl rfl d35, wp_load_row 23 (.tmp 3) rfl g0 t3 23 CP (0, 0) _ ((hI.block g0 HL0.out).trans H0.out) Try.underlying23 rfl HRP.out.info ⟨_, rfl, rfl, Below.refl _ _⟩⟩
      | 14, ho =>
        obtain rfl := (Option.some.inj ho).symm
        have d35 : a.eval (.tmp 35) = .bool true := hdep _ (Array.mem_of_getElem? (i := 0) rfl) rfl _ _ rfl rfl
        exact ⟨QT.wanted_of rfl rfl rfl d35, wp_load_row 23 (.tmp 4) rfl g1 t4 23 CM (0, 0) _ ((hI.block g1 HL1.out).trans H1.out) Try.underlying23 rfl HRM.out.info ⟨_, rfl, rfl, Below.refl _ _⟩⟩
      | 15, ho =>
        obtain rfl := (Option.some.inj ho).symm
        have d35 : a.eval (.tmp 35) = .bool true := hdep _ (Array.mem_of_getElem? (i := 0) rfl) rfl _ _ rfl rfl
        exact ⟨QT.wanted_of rfl rfl rfl d35, QT.wp_value (BigFrame.run_move (.tmp 2) rfl wz) ⟨_, rfl, t2, Below.refl _ _⟩⟩
      | 16, ho =>
        obtain rfl := (Option.some.inj ho).symm
        have d40 : a.eval (.tmp 40) = .agg CP := hdep _ (Array.mem_of_getElem? (i := 0) rfl) rfl _ _ rfl rfl
        have d41 : a.eval (.tmp 41) = .agg CM := hdep _ (Array.mem_of_getElem? (i := 1) rfl) rfl _ _ rfl rfl
        have d42 : a.eval (.tmp 42) = .string sig := hdep _ (Array.mem_of_getElem? (i := 2) rfl) rfl _ _ rfl rfl
        have d35 : a.eval (.tmp 35) = .bool true := hdep _ (Array.mem_of_getElem? (i := 4) rfl) rfl _ _ rfl rfl
        exact ⟨QT.wanted_of rfl rfl rfl d35, QT.wp_enter (f := 29) (args := #[.agg CP, .agg CM, .string sig]) (by simp [go_sem, QT.nf d40, QT.nf d41, QT.nf d42]) (HCR.out wz) fun w' hb => ⟨_, rfl, rfl, hb⟩⟩
      | 17, ho =>
        obtain rfl := (Option.some.inj ho).symm
        have d39 : a.eval (.tmp 39) = .bool B := hdep _ (Array.mem_of_getElem? (i := 0) rfl) rfl _ _ rfl rfl
        have d43 : a.eval (.tmp 43) = .bool B := hdep _ (Array.mem_of_getElem? (i := 1) rfl) rfl _ _ rfl rfl
        have d35 : a.eval (.tmp 35) = .bool true := hdep _ (Array.mem_of_getElem? (i := 2) rfl) rfl _ _ rfl rfl
        exact ⟨QT.wanted_of rfl rfl rfl d35, QT.wp_value (v := .bool true) (by simp [go_sem, QT.nf d39, QT.nf d43]) ⟨_, rfl, rfl, Below.refl _ _⟩⟩
      | 18, ho =>
        obtain rfl := (Option.some.inj ho).symm
        have d35 : a.eval (.tmp 35) = .bool true := hdep _ (Array.mem_of_getElem? (i := 0) rfl) rfl _ _ rfl rfl
        have d44 : a.eval (.tmp 44) = .bool true := hdep _ (Array.mem_of_getElem? (i := 1) rfl) rfl _ _ rfl rfl
        exact ⟨rfl, QT.wp_value (v := .bool true) (by simp [go_sem, QT.nf d35, QT.nf d44]) ⟨_, rfl, rfl, Below.refl _ _⟩⟩
      | 19, ho =>
        obtain rfl := (Option.some.inj ho).symm
        have d45 : a.eval (.tmp 45) = .bool true := hdep _ (Array.mem_of_getElem? (i := 0) rfl) rfl _ _ rfl rfl
        exact ⟨rfl, QT.wp_value (BigFrame.run_move (.tmp 45) rfl wz) ⟨_, rfl, d45, Below.refl _ _⟩⟩
      | 20, ho =>
        obtain rfl := (Option.some.inj ho).symm
        have d46 : a.eval (.tmp 46) = .bool true := hdep _ (Array.mem_of_getElem? (i := 1) rfl) rfl _ _ rfl rfl
        exact ⟨QT.wanted_of rfl rfl rfl d46, QT.wp_enter (f := 22) (args := #[]) (by simp [go_sem]) (works5 wz) fun w' hb => ⟨_, rfl, rfl, hb⟩⟩
      | 21, ho =>
        obtain rfl := (Option.some.inj ho).symm
        have d46 : a.eval (.tmp 46) = .bool true := hdep _ (Array.mem_of_getElem? (i := 0) rfl) rfl _ _ rfl rfl
        have d47 : a.eval (.tmp 47) = .bool true := hdep _ (Array.mem_of_getElem? (i := 1) rfl) rfl _ _ rfl rfl
        exact ⟨rfl, QT.wp_value (v := .bool true) (by simp [go_sem, QT.nf d46, QT.nf d47]) ⟨_, rfl, rfl, Below.refl _ _⟩⟩
      | 22, ho =>
        obtain rfl := (Option.some.inj ho).symm
        have d48 : a.eval (.tmp 48) = .bool true := hdep _ (Array.mem_of_getElem? (i := 0) rfl) rfl _ _ rfl rfl
        exact ⟨rfl, QT.wp_value (BigFrame.run_assign (.tmp 48) rfl wz) ⟨_, rfl, d48, Below.refl _ _⟩⟩
      | n + 23, ho => simp at ho
    · have f0 : a.eval (.tmp 27) = .agg D := hf 0 _ _ rfl rfl
      have f1 : a.eval (.tmp 28) = .agg D := hf 1 _ _ rfl rfl
      have f2 : a.eval (.tmp 29) = .bool true := hf 2 _ _ rfl rfl
      have f3 : a.eval (.tmp 30) = .bool true := hf 3 _ _ rfl rfl
      have f4 : a.eval (.tmp 31) = .int .i64 E := hf 4 _ _ rfl rfl
      have f5 : a.eval (.tmp 32) = .int .i64 E := hf 5 _ _ rfl rfl
      have f6 : a.eval (.tmp 33) = .bool true := hf 6 _ _ rfl rfl
      have f7 : a.eval (.tmp 34) = .bool true := hf 7 _ _ rfl rfl
      have f8 : a.eval (.tmp 35) = .bool true := hf 8 _ _ rfl rfl
      have f9 : a.eval (.tmp 36) = .agg CP := hf 9 _ _ rfl rfl
      have f10 : a.eval (.tmp 37) = .agg CM := hf 10 _ _ rfl rfl
      have f11 : a.eval (.tmp 38) = .string sig := hf 11 _ _ rfl rfl
      have f12 : a.eval (.tmp 39) = .bool B := hf 12 _ _ rfl rfl
      have f13 : a.eval (.tmp 40) = .agg CP := hf 13 _ _ rfl rfl
      have f14 : a.eval (.tmp 41) = .agg CM := hf 14 _ _ rfl rfl
      have f15 : a.eval (.tmp 42) = .string sig := hf 15 _ _ rfl rfl
      have f16 : a.eval (.tmp 43) = .bool B := hf 16 _ _ rfl rfl
      have f17 : a.eval (.tmp 44) = .bool true := hf 17 _ _ rfl rfl
      have f18 : a.eval (.tmp 45) = .bool true := hf 18 _ _ rfl rfl
      have f19 : a.eval (.tmp 46) = .bool true := hf 19 _ _ rfl rfl
      have f20 : a.eval (.tmp 47) = .bool true := hf 20 _ _ rfl rfl
      have f21 : a.eval (.tmp 48) = .bool true := hf 21 _ _ rfl rfl
      have f22 : a.eval (.tmp 6) = .bool true := hf 22 _ _ rfl rfl
      have ha := hag.puts [(27, .agg D), (28, .agg D), (29, .bool true), (30, .bool true), (31, .int .i64 E), (32, .int .i64 E), (33, .bool true), (34, .bool true), (35, .bool true), (36, .agg CP), (37, .agg CM), (38, .string sig), (39, .bool B), (40, .agg CP), (41, .agg CM), (42, .string sig), (43, .bool B), (44, .bool true), (45, .bool true), (46, .bool true), (47, .bool true), (48, .bool true), (6, .bool true)] rfl (by simp) (by simp only [List.forall_mem_cons, List.not_mem_nil, false_implies, implies_true, and_true]; exact ⟨f0, f1, f2, f3, f4, f5, f6, f7, f8, f9, f10, f11, f12, f13, f14, f15, f16, f17, f18, f19, f20, f21, f22⟩)
      subst ha
      clear hag hf f0 f1 f2 f3 f4 f5 f6 f7 f8 f9 f10 f11 f12 f13 f14 f15 f16 f17 f18 f19 f20 f21 f22
      simp only [List.foldl_cons, List.foldl_nil, Act.put, List.setIfInBounds_toArray, List.set_cons_succ, List.set_cons_zero]
      go_wp2_with fail
      go_ret
      exact ⟨rfl, HG.out ▸ HBW.out.trans ((HB8.out.mono (Nat.le_of_lt HLW.out.1)).trans (hI.mono (Nat.le_of_lt HL0.out)))⟩

end Go.Proofs.Ytlalipomphgcoaa.Once
