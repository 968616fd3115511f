/- evolve: any seed's key of any depth: the law EvolveMakes. -/
import Derived.Test.YtpifjeghoapjbaaEvM
import Derived.Test.YtpifjeghoapjbaaEvR
namespace Go.Proofs.Ytpifjeghoapjbaa.Evolve
open Go.RowKit Go.Proofs.Ytpifjeghoapjbaa.Sha Go.Proofs.Ytpifjeghoapjbaa.Tree Go.Proofs.Ytpifjeghoapjbaa.Once

/-- What an operation leaves. -/
inductive FactK where
  | val (v : Value)
  | ev (d p : Int) (T : List UInt8) (R S : List (List UInt8))
def FactK.holds : FactK → Value → World → Prop
  | .val v0, v, _ => v = v0
  | .ev d p T R S, v, w => ∃ a n1 c1 b n2 c2, v = .agg (evRow d p T (.slice a n1 c1) (.slice b n2 c2)) ∧ Hashes w (.slice a n1 c1) R ∧ Hashes w (.slice b n2 c2) S
theorem FactK.kept (f : FactK) (v : Value) (w w' : World) (h : f.holds v w) (hb : Below w.heap.size w w') : f.holds v w' := by
  cases f with
  | val v0 => exact h
  | ev d p T R S =>
    obtain ⟨a, n1, c1, b, n2, c2, hv, h1, h2⟩ := h
    exact ⟨a, n1, c1, b, n2, c2, hv, h1.kept hb, h2.kept hb⟩
theorem same_any (d p : Int) (T : List UInt8) (hT : T.length = 32) (u1 u2 v1 v2 : Option Addr) (n1 m1 n2 m2 c1 c2 e1 e2 : Nat) (R S : List (List UInt8)) (w : World) (h1 : Hashes w (.slice u1 n1 c1) R) (h2 : Hashes w (.slice u2 n2 c2) R) (h3 : Hashes w (.slice v1 m1 e1) S) (h4 : Hashes w (.slice v2 m2 e2) S) (h32R : H32 R) (h32S : H32 S) (hn : R.length ≤ 1000) (hm : S.length ≤ 1000) :
    Calls Try.prog 16 #[.agg (evRow d p T (.slice u1 n1 c1) (.slice v1 m1 e1)), .agg (evRow d p T (.slice u2 n2 c2) (.slice v2 m2 e2))] w fun e w' => e = .returned (.bool true) ∧ Below w.heap.size w w' := by
  obtain rfl := hashes_form h1
  obtain rfl := hashes_form h2
  obtain rfl := hashes_form h3
  obtain rfl := hashes_form h4
  exact ref_Same d p T hT u1 u2 v1 v2 R.length S.length c1 c2 e1 e2 R S w h1 h2 h3 h4 h32R h32S (by omega) (by omega)
theorem same_zero (w : World) : Calls Try.prog 16 #[.agg ZEv, .agg ZEv] w fun e w' => e = .returned (.bool true) ∧ Below w.heap.size w w' :=
  same_any 0 0 zeroL rfl none none none none 0 0 0 0 0 0 0 0 [] [] w (Or.inl ⟨_, _, rfl, rfl⟩) (Or.inl ⟨_, _, rfl, rfl⟩) (Or.inl ⟨_, _, rfl, rfl⟩) (Or.inl ⟨_, _, rfl, rfl⟩) (fun y hy => by simp at hy) (fun y hy => by simp at hy) (by simp) (by simp)
theorem zev_info : (Try.prog.info? 26).map (·.size) = some ZEv.size := ev_info _ _ _ _ _ rfl
theorem zev_one : ZEv.all (·.oneCell') = true := ev_one _ _ _ _ _ _ _ _ _
/-- The document's key of a seed. -/
theorem ref_keyP (seed : List UInt8) (hs : seed.length = 32) (d p : Nat) (hd : d ≤ 100) (hp : p ≤ 1000) (w : World) :
    Calls Try.prog 17 #[.agg (valsB seed).toArray, .int .i64 d, .int .i64 p] w fun e w' => ∃ v, e = .returned v ∧ (FactK.ev d p (keyP d p seed).1 (keyP d p seed).2.1 (keyP d p seed).2.2).holds v w' ∧ Below w.heap.size w w' := by
  refine (ref_Key seed hs d p hd (by omega) w).mono ?_
  rintro e w' ⟨rv, sv, rfl, h1, h2, hb⟩
  obtain ⟨a, c, rfl⟩ := own_formE h1
  obtain ⟨b, c2, rfl⟩ := own_formE h2
  exact ⟨_, rfl, ⟨_, _, _, _, _, _, rfl, h1.hashes, h2.hashes⟩, hb⟩

set_option maxRecDepth 100000 in
set_option maxHeartbeats 6400000 in
theorem law_EvolveMakes (a0 : List UInt8) (a1 : Int) (w0 : a0.length = 32) (_w1 : (Lit.int .i64 a1).wf = true) (w : World) :
    Calls Try.prog 4 #[.agg (valsB a0).toArray, .int .i64 a1] w fun e w' => e = .returned (.bool true) ∧ Below w.heap.size w w' := by
  have HWK := Lib.hid works_any
  have HRC := Lib.hid (row32 a0 w0)
  by_cases hd : depthP a1
  · obtain ⟨h0, h4⟩ := hd
    obtain ⟨d, rfl⟩ : ∃ dn : Nat, a1 = dn := ⟨a1.toNat, by omega⟩
    have hd : d ≤ 4 := by omega
    have hmk := fun w => code_Make a0 w0 d hd w
    have hky := fun w => ref_keyP a0 w0 d 0 (by omega) (by omega) w
    have hkl := keyP_len a0 w0 d 0
    have hk32 := keyP_h32 a0 d 0
    rw [keyP_first a0 d hd] at hmk
    obtain ⟨⟨T, R, S⟩, hT⟩ : ∃ t, keyP d 0 a0 = t := ⟨_, rfl⟩
    rw [hT] at hmk hky hkl hk32
    have HSM := Lib.hid (fun u1 u2 v1 v2 n1 m1 n2 m2 c1 c2 e1 e2 w h1 h2 h3 h4 => same_any d 0 T hkl.1 u1 u2 v1 v2 n1 m1 n2 m2 c1 c2 e1 e2 R S w h1 h2 h3 h4 hk32.1 hk32.2 (by have := hkl.2.1; dsimp only at this; omega) (by have := hkl.2.2; dsimp only at this; omega))
    have HTL := Lib.hid hkl.1
    obtain ⟨C, hC⟩ : ∃ C, (valsB a0).toArray = C := ⟨_, rfl⟩
    rw [hC] at HRC hmk hky
    rw [hC]
    have HMK := Lib.hid hmk
    have HKY := Lib.hid hky
    have u1 : decide ((d : Int) < 0) = false := by simp
    have u2 : decide ((4 : Int) < (d : Int)) = false := by simp; omega
    clear hmk hky hkl hk32 hT hC h0 h4 w0
    go_enter Try.func4, Try.ntmps4
    go_upto_region 1 with (fail)
    have HA0 := Lib.hid (heap_alloc_new w (.cells C 23))
    have HBW := Lib.hid (show Below w.heap.size w (w.alloc (.cells C 23)) from (Below.refl _ _).alloc (Nat.le_refl _) _)
    have hs0 : (w.alloc (.cells C 23)).heap.size = w.heap.size + 1 := by simp
    generalize (w.alloc (.cells C 23)) = W at HA0 HBW hs0 ⊢
    obtain ⟨g2, hg2⟩ : ∃ x, w.heap.size = x := ⟨_, rfl⟩
    rw [hg2] at HA0 HBW hs0
    rw [hg2]
    have HGE := Lib.hid hg2
    have HLT := Lib.hid (show g2 < W.heap.size by omega)
    clear hg2 hs0
    go_wp2_with (refine wpList_load_row rfl 23 (.tmp 2) rfl g2 rfl 23 C (0, 0) _ HA0.out Try.underlying23 rfl HRC.out.info ?_)
    refine (HMK.out _).mono ?_
    rintro e w1 ⟨a, b, rfl, h1, h2, hb1⟩
    have HKI := Lib.hid (ev_info d 0 T (.slice a d d) (.slice b d d) HTL.out)
    have HKA := Lib.hid (ev_one d 0 T a b d d d d)
    have HKZ := Lib.hid (show ZEv.size = (evRow d 0 T (.slice a d d) (.slice b d d)).size by rw [zev_size, evRow_size _ _ _ _ _ HTL.out])
    have HSK := Lib.hid (fun u2 v2 n2 m2 c2 e2 w h1 h2 h3 h4 => HSM.out a u2 b v2 d d n2 m2 d c2 d e2 w h1 h2 h3 h4)
    obtain ⟨EK, hEK⟩ : ∃ E, evRow d 0 T (.slice a d d) (.slice b d d) = E := ⟨_, rfl⟩
    rw [hEK] at HKI HKA HKZ HSK
    rw [hEK]
    have HR1 := Lib.hid h1
    have HS1 := Lib.hid h2
    have H21 := Lib.hid ((hb1.block _ HLT.out).trans HA0.out)
    have HB1 := Lib.hid (HBW.out.trans (hb1.mono (Nat.le_of_lt HLT.out)))
    have HL1 := Lib.hid (Nat.lt_of_lt_of_le HLT.out hb1.size)
    clear h1 h2 hb1 hEK
    go_upto_region 2 with (refine wpList_store_row rfl 26 (.tmp 5) (.tmp 11) rfl w1.heap.size EK rfl rfl 26 ZEv (heap_alloc_new _ _) HKI.out HKZ.out HKA.out ?_; rw [World.setRow_alloc_new])
    have hb2 : Below w1.heap.size w1 (w1.alloc (.cells EK 26)) := (Below.refl _ _).alloc (Nat.le_refl _) _
    have H5 := Lib.hid (heap_alloc_new w1 (.cells EK 26))
    have HR2 := Lib.hid (HR1.out.kept hb2)
    have HS2 := Lib.hid (HS1.out.kept hb2)
    have H22 := Lib.hid ((hb2.block _ HL1.out).trans H21.out)
    have HB2 := Lib.hid (HB1.out.trans (hb2.mono (Nat.le_of_lt HL1.out)))
    have hs2 : (w1.alloc (.cells EK 26)).heap.size = w1.heap.size + 1 := by simp
    generalize w1.alloc (.cells EK 26) = w2 at H5 HR2 HS2 H22 HB2 hs2 ⊢
    obtain ⟨g5, hg5⟩ : ∃ x, w1.heap.size = x := ⟨_, rfl⟩
    rw [hg5] at H5 hs2
    rw [hg5]
    have HL2 := Lib.hid (show g2 < w2.heap.size ∧ g5 < w2.heap.size by have := HL1.out; omega)
    clear hb2 hs2 hg5
    go_upto_region 4 with (fail)
    refine QT.wp_region_facts_tail 9 (by kernel_rfl) (fun w' => Below w2.heap.size w2 w') (fun n v w' => (([.val (.int .i64 0), .val (.bool true), .val (.bool true), .val (.agg EK), .val (.agg C), .val (.int .i64 d), .ev d 0 T R S, .val (.bool true), .val (.bool true)] : List FactK).getD n (.val undef) : FactK).holds v w') (by kernel_rfl) (by kernel_rfl) (Below.refl _ _).drew (fun w1 w2 h1 hb => h1.trans (hb.mono h1.size)) (fun n v w1 w2 h hb => FactK.kept _ v w1 w2 h hb) (fun n o hn ho a wz hI hag hdep => ?_) (fun a wz hI hag hf => ?_)
    · have t1 : a.eval (.tmp 1) = .int .i64 d := hag.old 1 _ (by kernel_rfl) rfl
      have t2 : a.eval (.tmp 2) = .pointer (some ⟨g2, 0, none⟩) := hag.old 2 _ (by kernel_rfl) rfl
      have t5 : a.eval (.tmp 5) = .pointer (some ⟨g5, 0, none⟩) := hag.old 5 _ (by kernel_rfl) rfl
      have t6 : a.eval (.tmp 6) = .int .i64 0 := hag.old 6 _ (by kernel_rfl) rfl
      match n, ho with
      | 0, ho =>
        obtain rfl := (Option.some.inj ho).symm
        exact ⟨rfl, QT.wp_value (BigFrame.run_move (.tmp 6) rfl wz) ⟨_, rfl, t6, Below.refl _ _⟩⟩
      | 1, ho =>
        obtain rfl := (Option.some.inj ho).symm
        have d29 : a.eval (.tmp 29) = .int .i64 0 := hdep _ (Array.mem_of_getElem? (i := 0) rfl) rfl _ _ rfl rfl
        exact ⟨rfl, QT.wp_value (v := .bool true) (by simp [go_sem, QT.nf d29]) ⟨_, rfl, rfl, Below.refl _ _⟩⟩
      | 2, ho =>
        obtain rfl := (Option.some.inj ho).symm
        have d30 : a.eval (.tmp 30) = .bool true := hdep _ (Array.mem_of_getElem? (i := 0) rfl) rfl _ _ rfl rfl
        exact ⟨rfl, QT.wp_value (BigFrame.run_move (.tmp 30) rfl wz) ⟨_, rfl, d30, Below.refl _ _⟩⟩
      | 3, ho =>
        obtain rfl := (Option.some.inj ho).symm
        have d31 : a.eval (.tmp 31) = .bool true := hdep _ (Array.mem_of_getElem? (i := 0) rfl) rfl _ _ rfl rfl
        exact ⟨QT.wanted_of rfl rfl rfl d31, wp_load_row 26 (.tmp 5) rfl g5 t5 26 EK (0, 0) _ ((hI.block g5 HL2.out.2).trans H5.out) Try.underlying26 rfl HKI.out ⟨_, rfl, rfl, Below.refl _ _⟩⟩
      | 4, ho =>
        obtain rfl := (Option.some.inj ho).symm
        have d31 : a.eval (.tmp 31) = .bool true := hdep _ (Array.mem_of_getElem? (i := 0) rfl) rfl _ _ rfl rfl
        exact ⟨QT.wanted_of rfl rfl rfl d31, wp_load_row 23 (.tmp 2) rfl g2 t2 23 C (0, 0) _ ((hI.block g2 HL2.out.1).trans H22.out) Try.underlying23 rfl HRC.out.info ⟨_, rfl, rfl, Below.refl _ _⟩⟩
      | 5, ho =>
        obtain rfl := (Option.some.inj ho).symm
        have d31 : a.eval (.tmp 31) = .bool true := hdep _ (Array.mem_of_getElem? (i := 0) rfl) rfl _ _ rfl rfl
        exact ⟨QT.wanted_of rfl rfl rfl d31, QT.wp_value (BigFrame.run_move (.tmp 1) rfl wz) ⟨_, rfl, t1, Below.refl _ _⟩⟩
      | 6, ho =>
        obtain rfl := (Option.some.inj ho).symm
        have d33 : a.eval (.tmp 33) = .agg C := hdep _ (Array.mem_of_getElem? (i := 0) rfl) rfl _ _ rfl rfl
        have d34 : a.eval (.tmp 34) = .int .i64 d := hdep _ (Array.mem_of_getElem? (i := 1) rfl) rfl _ _ rfl rfl
        have d31 : a.eval (.tmp 31) = .bool true := hdep _ (Array.mem_of_getElem? (i := 3) rfl) rfl _ _ rfl rfl
        exact ⟨QT.wanted_of rfl rfl rfl d31, wp_enter_any (f := 17) (args := #[.agg C, .int .i64 d, .int .i64 0]) (by simp [go_sem, QT.nf d33, QT.nf d34]) (HKY.out wz) fun v w' ⟨hh, hb⟩ => ⟨_, rfl, hh, hb⟩⟩
      | 7, ho =>
        obtain rfl := (Option.some.inj ho).symm
        have d32 : a.eval (.tmp 32) = .agg EK := hdep _ (Array.mem_of_getElem? (i := 0) rfl) rfl _ _ rfl rfl
        have d35 : ((.ev d 0 T R S) : FactK).holds (a.eval (.tmp 35)) wz := hdep _ (Array.mem_of_getElem? (i := 1) rfl) rfl _ _ rfl rfl
        have d31 : a.eval (.tmp 31) = .bool true := hdep _ (Array.mem_of_getElem? (i := 3) rfl) rfl _ _ rfl rfl
        obtain ⟨xa, xn, xc, za, zn, zc, hv, h1, h2⟩ := d35
        exact ⟨QT.wanted_of rfl rfl rfl d31, QT.wp_enter (f := 16) (args := #[.agg EK, .agg (evRow d 0 T (.slice xa xn xc) (.slice za zn zc))]) (by simp [go_sem, QT.nf d32, QT.nf hv]) (HSK.out xa za xn zn xc zc wz (HR2.out.kept hI) h1 (HS2.out.kept hI) h2) fun w' hb => ⟨_, rfl, rfl, hb⟩⟩
      | 8, ho =>
        obtain rfl := (Option.some.inj ho).symm
        have d31 : a.eval (.tmp 31) = .bool true := hdep _ (Array.mem_of_getElem? (i := 0) rfl) rfl _ _ rfl rfl
        have d36 : a.eval (.tmp 36) = .bool true := hdep _ (Array.mem_of_getElem? (i := 1) rfl) rfl _ _ rfl rfl
        exact ⟨rfl, QT.wp_value (v := .bool true) (by simp [go_sem, QT.nf d31, QT.nf d36]) ⟨_, rfl, rfl, Below.refl _ _⟩⟩
      | n + 9, ho => omega
    · have f0 : a.eval (.tmp 29) = .int .i64 0 := hf 0 _ _ (by omega) rfl rfl
      have f1 : a.eval (.tmp 30) = .bool true := hf 1 _ _ (by omega) rfl rfl
      have f2 : a.eval (.tmp 31) = .bool true := hf 2 _ _ (by omega) rfl rfl
      have f3 : a.eval (.tmp 32) = .agg EK := hf 3 _ _ (by omega) rfl rfl
      have f4 : a.eval (.tmp 33) = .agg C := hf 4 _ _ (by omega) rfl rfl
      have f5 : a.eval (.tmp 34) = .int .i64 d := hf 5 _ _ (by omega) rfl rfl
      have f6' : ((.ev d 0 T R S) : FactK).holds (a.eval (.tmp 35)) wz := hf 6 _ _ (by omega) rfl rfl
      obtain ⟨xa6, xn6, xc6, za6, zn6, zc6, f6, y6, yy6⟩ := f6'
      have f7 : a.eval (.tmp 36) = .bool true := hf 7 _ _ (by omega) rfl rfl
      have f8 : a.eval (.tmp 37) = .bool true := hf 8 _ _ (by omega) rfl rfl
      have ha := hag.puts [(29, .int .i64 0), (30, .bool true), (31, .bool true), (32, .agg EK), (33, .agg C), (34, .int .i64 d), (35, .agg (evRow d 0 T (.slice xa6 xn6 xc6) (.slice za6 zn6 zc6))), (36, .bool true), (37, .bool true)] rfl (by simp) (by simp only [List.forall_mem_cons, List.not_mem_nil, false_implies, implies_true, and_true]; exact ⟨f0, f1, f2, f3, f4, f5, f6, f7, f8⟩)
      subst ha
      clear hag hf f0 f1 f2 f3 f4 f5 f6 f7 f8
      simp only [List.foldl_cons, List.foldl_nil, Act.put, List.drop_succ_cons, List.drop_zero, List.setIfInBounds_toArray, List.set_cons_succ, List.set_cons_zero]
      have HBF := Lib.hid (HB2.out.trans (hI.mono (Nat.le_of_lt HL2.out.1)))
      clear hI
      go_wp2_with fail
      go_ret
      exact ⟨rfl, HGE.out ▸ HBF.out⟩
  · have hmk := fun w => code_Make_no a0 a1 hd w
    obtain ⟨C, hC⟩ : ∃ C, (valsB a0).toArray = C := ⟨_, rfl⟩
    rw [hC] at HRC hmk
    rw [hC]
    have HMK := Lib.hid (show ∀ w, Calls Try.prog 10 #[.agg C, .int .i64 a1] w fun e w' => e = .returned (.tuple #[.agg ZEv, .int .i64 2]) ∧ Below w.heap.size w w' from hmk)
    clear hmk hC w0
    by_cases h0 : a1 < 0
    · have u1 : decide (a1 < 0) = true := by simp [h0]
      clear hd
      go_enter Try.func4, Try.ntmps4
      go_upto_region 1 with (fail)
      have HA0 := Lib.hid (heap_alloc_new w (.cells C 23))
      have HBW := Lib.hid (show Below w.heap.size w (w.alloc (.cells C 23)) from (Below.refl _ _).alloc (Nat.le_refl _) _)
      have hs0 : (w.alloc (.cells C 23)).heap.size = w.heap.size + 1 := by simp
      generalize (w.alloc (.cells C 23)) = W at HA0 HBW hs0 ⊢
      obtain ⟨g2, hg2⟩ : ∃ x, w.heap.size = x := ⟨_, rfl⟩
      rw [hg2] at HA0 HBW hs0
      rw [hg2]
      have HGE := Lib.hid hg2
      have HLT := Lib.hid (show g2 < W.heap.size by omega)
      clear hg2 hs0
      go_wp2_with (refine wpList_load_row rfl 23 (.tmp 2) rfl g2 rfl 23 C (0, 0) _ HA0.out Try.underlying23 rfl HRC.out.info ?_)
      refine (HMK.out _).mono ?_
      rintro e w1 ⟨rfl, hb1⟩
      have HB1 := Lib.hid (HBW.out.trans (hb1.mono (Nat.le_of_lt HLT.out)))
      clear hb1
      go_upto_region 2 with (refine wpList_store_row rfl 26 (.tmp 5) (.tmp 11) rfl w1.heap.size ZEv rfl rfl 26 ZEv (heap_alloc_new _ _) zev_info rfl zev_one ?_; rw [World.setRow_alloc_new])
      have hb2 : Below w1.heap.size w1 (w1.alloc (.cells ZEv 26)) := (Below.refl _ _).alloc (Nat.le_refl _) _
      have H5 := Lib.hid (heap_alloc_new w1 (.cells ZEv 26))
      have HB2 := Lib.hid (HB1.out.trans (hb2.mono (by have := HB1.out.size; have := HGE.out; omega)))
      clear hb2
      generalize w1.alloc (.cells ZEv 26) = w2 at H5 HB2 ⊢
      go_wp2_with (first
        | (refine wpList_load_row_g rfl 26 (.tmp 5) rfl w1.heap.size rfl 26 ZEv (0, 0) _ H5.out Try.underlying26 rfl zev_info ?_)
        | (refine wpList_build_g rfl 26 #[] rfl ZEv (by kernel_rfl) ?_))
      refine (same_zero _).mono ?_
      rintro e w3 ⟨rfl, hb3⟩
      have HB3 := Lib.hid (HB2.out.trans (hb3.mono (by have := HB2.out.size; have := HGE.out; omega)))
      clear hb3
      go_wp2_with fail
      refine (HWK.out _).mono ?_
      rintro e w4 ⟨rfl, hb4⟩
      have HB4 := Lib.hid (HB3.out.trans (hb4.mono (by have := HB3.out.size; have := HGE.out; omega)))
      clear hb4
      go_wp2_with fail
      go_ret
      exact ⟨rfl, HGE.out ▸ HB4.out⟩
    · have u1 : decide (a1 < 0) = false := by simp [h0]
      have u2 : decide ((4 : Int) < a1) = true := by
        unfold depthP at hd
        simp
        omega
      clear hd
      go_enter Try.func4, Try.ntmps4
      go_upto_region 1 with (fail)
      have HA0 := Lib.hid (heap_alloc_new w (.cells C 23))
      have HBW := Lib.hid (show Below w.heap.size w (w.alloc (.cells C 23)) from (Below.refl _ _).alloc (Nat.le_refl _) _)
      have hs0 : (w.alloc (.cells C 23)).heap.size = w.heap.size + 1 := by simp
      generalize (w.alloc (.cells C 23)) = W at HA0 HBW hs0 ⊢
      obtain ⟨g2, hg2⟩ : ∃ x, w.heap.size = x := ⟨_, rfl⟩
      rw [hg2] at HA0 HBW hs0
      rw [hg2]
      have HGE := Lib.hid hg2
      have HLT := Lib.hid (show g2 < W.heap.size by omega)
      clear hg2 hs0
      go_wp2_with (refine wpList_load_row rfl 23 (.tmp 2) rfl g2 rfl 23 C (0, 0) _ HA0.out Try.underlying23 rfl HRC.out.info ?_)
      refine (HMK.out _).mono ?_
      rintro e w1 ⟨rfl, hb1⟩
      have HB1 := Lib.hid (HBW.out.trans (hb1.mono (Nat.le_of_lt HLT.out)))
      clear hb1
      go_upto_region 2 with (refine wpList_store_row rfl 26 (.tmp 5) (.tmp 11) rfl w1.heap.size ZEv rfl rfl 26 ZEv (heap_alloc_new _ _) zev_info rfl zev_one ?_; rw [World.setRow_alloc_new])
      have hb2 : Below w1.heap.size w1 (w1.alloc (.cells ZEv 26)) := (Below.refl _ _).alloc (Nat.le_refl _) _
      have H5 := Lib.hid (heap_alloc_new w1 (.cells ZEv 26))
      have HB2 := Lib.hid (HB1.out.trans (hb2.mono (by have := HB1.out.size; have := HGE.out; omega)))
      clear hb2
      generalize w1.alloc (.cells ZEv 26) = w2 at H5 HB2 ⊢
      go_wp2_with (first
        | (refine wpList_load_row_g rfl 26 (.tmp 5) rfl w1.heap.size rfl 26 ZEv (0, 0) _ H5.out Try.underlying26 rfl zev_info ?_)
        | (refine wpList_build_g rfl 26 #[] rfl ZEv (by kernel_rfl) ?_))
      refine (same_zero _).mono ?_
      rintro e w3 ⟨rfl, hb3⟩
      have HB3 := Lib.hid (HB2.out.trans (hb3.mono (by have := HB2.out.size; have := HGE.out; omega)))
      clear hb3
      go_wp2_with fail
      refine (HWK.out _).mono ?_
      rintro e w4 ⟨rfl, hb4⟩
      have HB4 := Lib.hid (HB3.out.trans (hb4.mono (by have := HB3.out.size; have := HGE.out; omega)))
      clear hb4
      go_wp2_with fail
      go_ret
      exact ⟨rfl, HGE.out ▸ HB4.out⟩

end Go.Proofs.Ytpifjeghoapjbaa.Evolve
