/- lot: the laws LotWins, LotValues. -/
import Derived.Test.YtogpnfgjdnccdaaLoE
import Derived.Test.YtogpnfgjdnccdaaQFa
import Derived.Test.YtogpnfgjdnccdaaQFt
import Derived.OpenShut
namespace Go.Proofs.Ytogpnfgjdnccdaa.Lot
open Go.RowKit Go.Proofs.Ytogpnfgjdnccdaa.Sha Go.Proofs.Ytogpnfgjdnccdaa.Tree

theorem nat_64 {a : Int} (w : (Lit.int .u64 a).wf = true) : ∃ n : Nat, a = (n : Int) ∧ n < 18446744073709551616 := by
  have h := bounds_u64 w
  obtain ⟨n, rfl⟩ := Int.eq_ofNat_of_zero_le h.1
  exact ⟨n, rfl, by omega⟩
theorem nat_32 {a : Int} (w : (Lit.int .u32 a).wf = true) : ∃ n : Nat, a = (n : Int) ∧ n < 4294967296 := by
  have h := bounds_u32 w
  obtain ⟨n, rfl⟩ := Int.eq_ofNat_of_zero_le h.1
  exact ⟨n, rfl, by omega⟩

set_option maxHeartbeats 3200000 in
theorem wins_true (n s L a b : Nat) (hn : n < 4294967296) (w : World) :
    Calls Try.prog 5 #[.int .u32 n, .int .u64 s, .int .u64 L, .int .u64 a, .int .u64 b] w fun e w' => e = .returned (.bool true) ∧ Below w.heap.size w w' := by
  have HW := Lib.hid (fun w => code_WinsL n s L a b hn w)
  have HR := Lib.hid (fun w => ref_WinsL n s L a b hn w)
  have HL := Lib.hid (fun w => code_LeastL s L a b w)
  have HM := Lib.hid (fun w => ref_LeastL s L a b w)
  have HK := Lib.hid works_any
  have HB0 := Lib.hid (Below.refl w.heap.size w)
  obtain ⟨r, hr⟩ : ∃ r, winsE n s L a b = r := ⟨_, rfl⟩
  obtain ⟨l, hl⟩ : ∃ l, leastE s L a b = l := ⟨_, rfl⟩
  obtain ⟨x, hx⟩ : ∃ x : Int, (if mayN s L a b then 0 else 2) = x := ⟨_, rfl⟩
  rw [hr, hx] at HW HR
  rw [hl, hx] at HL HM
  clear hr hl hx hn
  cases r with
  | false =>
    go_enter Try.func5, Try.ntmps5
    go_wp2_with fail
    refine (HW.out _).mono ?_
    rintro e w1 ⟨rfl, hb⟩
    have HB1 := Lib.hid (HB0.out.trans (hb.mono HB0.out.size))
    clear hb
    go_wp2_with fail
    refine (HR.out _).mono ?_
    rintro e w2 ⟨rfl, hb⟩
    have HB2 := Lib.hid (HB1.out.trans (hb.mono HB1.out.size))
    clear hb
    go_wp2_with fail
    refine (HL.out _).mono ?_
    rintro e w3 ⟨rfl, hb⟩
    have HB3 := Lib.hid (HB2.out.trans (hb.mono HB2.out.size))
    clear hb
    go_wp2_with fail
    refine (HM.out _).mono ?_
    rintro e w4 ⟨rfl, hb⟩
    have HB4 := Lib.hid (HB3.out.trans (hb.mono HB3.out.size))
    clear hb
    go_wp2_with fail
    refine (HK.out _).mono ?_
    rintro e w5 ⟨rfl, hb⟩
    have HB5 := Lib.hid (HB4.out.trans (hb.mono HB4.out.size))
    clear hb
    go_wp2_with fail
    go_ret
    exact ⟨rfl, HB5.out⟩
  | true =>
    go_enter Try.func5, Try.ntmps5
    go_wp2_with fail
    refine (HW.out _).mono ?_
    rintro e w1 ⟨rfl, hb⟩
    have HB1 := Lib.hid (HB0.out.trans (hb.mono HB0.out.size))
    clear hb
    go_wp2_with fail
    refine (HR.out _).mono ?_
    rintro e w2 ⟨rfl, hb⟩
    have HB2 := Lib.hid (HB1.out.trans (hb.mono HB1.out.size))
    clear hb
    go_wp2_with fail
    refine (HL.out _).mono ?_
    rintro e w3 ⟨rfl, hb⟩
    have HB3 := Lib.hid (HB2.out.trans (hb.mono HB2.out.size))
    clear hb
    go_wp2_with fail
    refine (HM.out _).mono ?_
    rintro e w4 ⟨rfl, hb⟩
    have HB4 := Lib.hid (HB3.out.trans (hb.mono HB3.out.size))
    clear hb
    go_wp2_with fail
    refine (HK.out _).mono ?_
    rintro e w5 ⟨rfl, hb⟩
    have HB5 := Lib.hid (HB4.out.trans (hb.mono HB4.out.size))
    clear hb
    go_wp2_with fail
    go_ret
    exact ⟨rfl, HB5.out⟩

theorem law_LotWins (a0 a1 a2 a3 a4 : Int) (w0 : (Lit.int .u32 a0).wf = true) (w1 : (Lit.int .u64 a1).wf = true) (w2 : (Lit.int .u64 a2).wf = true) (w3 : (Lit.int .u64 a3).wf = true) (w4 : (Lit.int .u64 a4).wf = true) (w : World) :
    Calls Try.prog 5 #[.int .u32 a0, .int .u64 a1, .int .u64 a2, .int .u64 a3, .int .u64 a4] w fun e w' => e = .returned (.bool true) ∧ Below w.heap.size w w' := by
  obtain ⟨n, rfl, h0⟩ := nat_32 w0
  obtain ⟨s, rfl, _⟩ := nat_64 w1
  obtain ⟨L, rfl, _⟩ := nat_64 w2
  obtain ⟨a, rfl, _⟩ := nat_64 w3
  obtain ⟨b, rfl, _⟩ := nat_64 w4
  exact wins_true n s L a b h0 w

/-- What an operation leaves. -/
inductive FactV where
  | val (v : Value)
def FactV.holds : FactV → Value → World → Prop
  | .val v0, v, _ => v = v0
theorem FactV.kept (f : FactV) (v : Value) (w w' : World) (h : f.holds v w) (_ : Below w.heap.size w w') : f.holds v w' := by
  cases f with
  | val v0 => exact h

set_option maxRecDepth 100000 in
set_option maxHeartbeats 3200000 in
theorem law_LotValues (a0 : List UInt8) (a1 : Int) (a2 : List UInt8) (w0 : a0.length = 32) (w1 : (Lit.int .u64 a1).wf = true) (w2 : a2.length = 32) (w : World) :
    Calls Try.prog 4 #[.agg (valsB a0).toArray, .int .u64 a1, .agg (valsB a2).toArray] w fun e w' => e = .returned (.bool true) ∧ Below w.heap.size w w' := by
  obtain ⟨k, rfl, hk⟩ := nat_64 w1
  have HK := Lib.hid works_any
  have HRC := Lib.hid (row32 a0 w0)
  have HRP := Lib.hid (row32 a2 w2)
  have HV1 := Lib.hid (fun w => code_ValueL a0 a2 k w0 w2 (by omega) w)
  have HV2 := Lib.hid (fun w => ref_ValueL a0 a2 k w0 w2 (by omega) w)
  have HN1 := Lib.hid (fun w => code_NonceL a0 a2 k w0 w2 (by omega) w)
  have HN2 := Lib.hid (fun w => ref_NonceL a0 a2 k w0 w2 (by omega) w)
  have HE := fun w => eqIn_hash (nonceF a0 k a2) (nonceF a0 k a2) (ofT_len _ _) (ofT_len _ _) w
  obtain ⟨C, hC⟩ : ∃ C, (valsB a0).toArray = C := ⟨_, rfl⟩
  obtain ⟨P, hP⟩ : ∃ C, (valsB a2).toArray = C := ⟨_, rfl⟩
  obtain ⟨D, hD⟩ : ∃ C, (valsB (nonceF a0 k a2)).toArray = C := ⟨_, rfl⟩
  obtain ⟨l, hl⟩ : ∃ l, lotF a0 k a2 = l := ⟨_, rfl⟩
  rw [hC, hP] at HV1 HV2 HN1 HN2
  rw [hD] at HN1 HN2
  rw [hl] at HV1 HV2
  rw [hD, show (nonceF a0 k a2 == nonceF a0 k a2) = true by simp] at HE
  rw [hC] at HRC
  rw [hP] at HRP
  rw [hC, hP]
  have HEQ := Lib.hid HE
  clear hC hP hD hl w0 w1 w2 hk HE
  go_enter Try.func4, Try.ntmps4
  go_upto_region 1 with (fail)
  have HA0 := Lib.hid (heap_alloc2_old w (.cells C 32) (.cells P 32))
  have HA1 := Lib.hid (heap_alloc2_new w (.cells C 32) (.cells P 32))
  have HBW := Lib.hid (show Below w.heap.size w ((w.alloc (.cells C 32)).alloc (.cells P 32)) from ((Below.refl _ _).alloc (Nat.le_refl _) _).alloc (by simp) _)
  have hs0 : ((w.alloc (.cells C 32)).alloc (.cells P 32)).heap.size = w.heap.size + 2 := by simp
  generalize ((w.alloc (.cells C 32)).alloc (.cells P 32)) = w0 at HA0 HA1 HBW hs0 ⊢
  obtain ⟨g3, hg3⟩ : ∃ x, w.heap.size = x := ⟨_, rfl⟩
  obtain ⟨g5, hg5⟩ : ∃ x, g3 + 1 = x := ⟨_, rfl⟩
  rw [hg3] at HA0 HA1 HBW hs0
  rw [hg5] at HA1
  rw [hg3, hg5]
  have HGE := Lib.hid hg3
  have HLT := Lib.hid (show g3 < g5 ∧ g5 < w0.heap.size by omega)
  clear hg3 hg5 hs0
  have HL0 := Lib.hid (show g3 < w0.heap.size ∧ g5 < w0.heap.size by have := HLT.out; omega)
  refine QT.wp_region_facts (by kernel_rfl) (fun w' => Below w0.heap.size w0 w') (fun n v w' => (([.val (.agg C), .val (.int .u64 (k : Int)), .val (.agg P), .val (.int .u32 (l : Int)), .val (.agg C), .val (.int .u64 (k : Int)), .val (.agg P), .val (.int .u32 (l : Int)), .val (.bool true), .val (.bool true), .val (.agg C), .val (.int .u64 (k : Int)), .val (.agg P), .val (.agg D), .val (.agg C), .val (.int .u64 (k : Int)), .val (.agg P), .val (.agg D), .val (.bool true), .val (.bool true), .val (.bool true), .val (.bool true), .val (.bool true), .val (.bool true)] : List FactV).getD n (.val undef) : FactV).holds v w') (by kernel_rfl) (by kernel_rfl) (Below.refl _ _).drew (fun w1 w2 h1 hb => h1.trans (hb.mono h1.size)) (fun n v w1 w2 h hb => FactV.kept _ v w1 w2 h hb) (fun n o ho a wz hI hag hdep => ?_) (fun a wz hI hag hf => ?_)
  · have t1 : a.eval (.tmp 1) = .int .u64 (k : Int) := hag.old 1 _ (by kernel_rfl) rfl
    have t3 : a.eval (.tmp 3) = .pointer (some ⟨g3, 0, none⟩) := hag.old 3 _ (by kernel_rfl) rfl
    have t5 : a.eval (.tmp 5) = .pointer (some ⟨g5, 0, none⟩) := hag.old 5 _ (by kernel_rfl) rfl
    match n, ho with
    | 0, ho =>
      obtain rfl := (Option.some.inj ho).symm
      exact ⟨rfl, wp_load_row 32 (.tmp 3) rfl g3 t3 32 C (0, 0) _ ((hI.block g3 HL0.out.1).trans HA0.out) Try.underlying32 rfl HRC.out.info ⟨_, rfl, rfl, Below.refl _ _⟩⟩
    | 1, ho =>
      obtain rfl := (Option.some.inj ho).symm
      exact ⟨rfl, QT.wp_value (BigFrame.run_move (.tmp 1) rfl wz) ⟨_, rfl, t1, Below.refl _ _⟩⟩
    | 2, ho =>
      obtain rfl := (Option.some.inj ho).symm
      exact ⟨rfl, wp_load_row 32 (.tmp 5) rfl g5 t5 32 P (0, 0) _ ((hI.block g5 HL0.out.2).trans HA1.out) Try.underlying32 rfl HRP.out.info ⟨_, rfl, rfl, Below.refl _ _⟩⟩
    | 3, ho =>
      obtain rfl := (Option.some.inj ho).symm
      have d7 : a.eval (.tmp 7) = .agg C := hdep _ (Array.mem_of_getElem? (i := 0) rfl) rfl _ _ rfl rfl
      have d8 : a.eval (.tmp 8) = .int .u64 (k : Int) := hdep _ (Array.mem_of_getElem? (i := 1) rfl) rfl _ _ rfl rfl
      have d9 : a.eval (.tmp 9) = .agg P := hdep _ (Array.mem_of_getElem? (i := 2) rfl) rfl _ _ rfl rfl
      exact ⟨rfl, QT.wp_enter (f := 14) (args := #[.agg C, .int .u64 (k : Int), .agg P]) (by simp [go_sem, QT.nf d7, QT.nf d8, QT.nf d9]) (HV1.out wz) fun w' hb => ⟨_, rfl, rfl, hb⟩⟩
    | 4, ho =>
      obtain rfl := (Option.some.inj ho).symm
      exact ⟨rfl, wp_load_row 32 (.tmp 3) rfl g3 t3 32 C (0, 0) _ ((hI.block g3 HL0.out.1).trans HA0.out) Try.underlying32 rfl HRC.out.info ⟨_, rfl, rfl, Below.refl _ _⟩⟩
    | 5, ho =>
      obtain rfl := (Option.some.inj ho).symm
      exact ⟨rfl, QT.wp_value (BigFrame.run_move (.tmp 1) rfl wz) ⟨_, rfl, t1, Below.refl _ _⟩⟩
    | 6, ho =>
      obtain rfl := (Option.some.inj ho).symm
      exact ⟨rfl, wp_load_row 32 (.tmp 5) rfl g5 t5 32 P (0, 0) _ ((hI.block g5 HL0.out.2).trans HA1.out) Try.underlying32 rfl HRP.out.info ⟨_, rfl, rfl, Below.refl _ _⟩⟩
    | 7, ho =>
      obtain rfl := (Option.some.inj ho).symm
      have d11 : a.eval (.tmp 11) = .agg C := hdep _ (Array.mem_of_getElem? (i := 0) rfl) rfl _ _ rfl rfl
      have d12 : a.eval (.tmp 12) = .int .u64 (k : Int) := hdep _ (Array.mem_of_getElem? (i := 1) rfl) rfl _ _ rfl rfl
      have d13 : a.eval (.tmp 13) = .agg P := hdep _ (Array.mem_of_getElem? (i := 2) rfl) rfl _ _ rfl rfl
      exact ⟨rfl, QT.wp_enter (f := 15) (args := #[.agg C, .int .u64 (k : Int), .agg P]) (by simp [go_sem, QT.nf d11, QT.nf d12, QT.nf d13]) (HV2.out wz) fun w' hb => ⟨_, rfl, rfl, hb⟩⟩
    | 8, ho =>
      obtain rfl := (Option.some.inj ho).symm
      have d10 : a.eval (.tmp 10) = .int .u32 (l : Int) := hdep _ (Array.mem_of_getElem? (i := 0) rfl) rfl _ _ rfl rfl
      have d14 : a.eval (.tmp 14) = .int .u32 (l : Int) := hdep _ (Array.mem_of_getElem? (i := 1) rfl) rfl _ _ rfl rfl
      exact ⟨rfl, QT.wp_value (v := .bool true) (by simp [go_sem, QT.nf d10, QT.nf d14]) ⟨_, rfl, rfl, Below.refl _ _⟩⟩
    | 9, ho =>
      obtain rfl := (Option.some.inj ho).symm
      have d15 : a.eval (.tmp 15) = .bool true := hdep _ (Array.mem_of_getElem? (i := 0) rfl) rfl _ _ rfl rfl
      exact ⟨rfl, QT.wp_value (BigFrame.run_move (.tmp 15) rfl wz) ⟨_, rfl, d15, Below.refl _ _⟩⟩
    | 10, ho =>
      obtain rfl := (Option.some.inj ho).symm
      have d16 : a.eval (.tmp 16) = .bool true := hdep _ (Array.mem_of_getElem? (i := 0) rfl) rfl _ _ rfl rfl
      exact ⟨QT.wanted_of rfl rfl rfl d16, wp_load_row 32 (.tmp 3) rfl g3 t3 32 C (0, 0) _ ((hI.block g3 HL0.out.1).trans HA0.out) Try.underlying32 rfl HRC.out.info ⟨_, rfl, rfl, Below.refl _ _⟩⟩
    | 11, ho =>
      obtain rfl := (Option.some.inj ho).symm
      have d16 : a.eval (.tmp 16) = .bool true := hdep _ (Array.mem_of_getElem? (i := 0) rfl) rfl _ _ rfl rfl
      exact ⟨QT.wanted_of rfl rfl rfl d16, QT.wp_value (BigFrame.run_move (.tmp 1) rfl wz) ⟨_, rfl, t1, Below.refl _ _⟩⟩
    | 12, ho =>
      obtain rfl := (Option.some.inj ho).symm
      have d16 : a.eval (.tmp 16) = .bool true := hdep _ (Array.mem_of_getElem? (i := 0) rfl) rfl _ _ rfl rfl
      exact ⟨QT.wanted_of rfl rfl rfl d16, wp_load_row 32 (.tmp 5) rfl g5 t5 32 P (0, 0) _ ((hI.block g5 HL0.out.2).trans HA1.out) Try.underlying32 rfl HRP.out.info ⟨_, rfl, rfl, Below.refl _ _⟩⟩
    | 13, ho =>
      obtain rfl := (Option.some.inj ho).symm
      have d17 : a.eval (.tmp 17) = .agg C := hdep _ (Array.mem_of_getElem? (i := 0) rfl) rfl _ _ rfl rfl
      have d18 : a.eval (.tmp 18) = .int .u64 (k : Int) := hdep _ (Array.mem_of_getElem? (i := 1) rfl) rfl _ _ rfl rfl
      have d19 : a.eval (.tmp 19) = .agg P := hdep _ (Array.mem_of_getElem? (i := 2) rfl) rfl _ _ rfl rfl
      have d16 : a.eval (.tmp 16) = .bool true := hdep _ (Array.mem_of_getElem? (i := 4) rfl) rfl _ _ rfl rfl
      exact ⟨QT.wanted_of rfl rfl rfl d16, QT.wp_enter (f := 16) (args := #[.agg C, .int .u64 (k : Int), .agg P]) (by simp [go_sem, QT.nf d17, QT.nf d18, QT.nf d19]) (HN1.out wz) fun w' hb => ⟨_, rfl, rfl, hb⟩⟩
    | 14, ho =>
      obtain rfl := (Option.some.inj ho).symm
      have d16 : a.eval (.tmp 16) = .bool true := hdep _ (Array.mem_of_getElem? (i := 0) rfl) rfl _ _ rfl rfl
      exact ⟨QT.wanted_of rfl rfl rfl d16, wp_load_row 32 (.tmp 3) rfl g3 t3 32 C (0, 0) _ ((hI.block g3 HL0.out.1).trans HA0.out) Try.underlying32 rfl HRC.out.info ⟨_, rfl, rfl, Below.refl _ _⟩⟩
    | 15, ho =>
      obtain rfl := (Option.some.inj ho).symm
      have d16 : a.eval (.tmp 16) = .bool true := hdep _ (Array.mem_of_getElem? (i := 0) rfl) rfl _ _ rfl rfl
      exact ⟨QT.wanted_of rfl rfl rfl d16, QT.wp_value (BigFrame.run_move (.tmp 1) rfl wz) ⟨_, rfl, t1, Below.refl _ _⟩⟩
    | 16, ho =>
      obtain rfl := (Option.some.inj ho).symm
      have d16 : a.eval (.tmp 16) = .bool true := hdep _ (Array.mem_of_getElem? (i := 0) rfl) rfl _ _ rfl rfl
      exact ⟨QT.wanted_of rfl rfl rfl d16, wp_load_row 32 (.tmp 5) rfl g5 t5 32 P (0, 0) _ ((hI.block g5 HL0.out.2).trans HA1.out) Try.underlying32 rfl HRP.out.info ⟨_, rfl, rfl, Below.refl _ _⟩⟩
    | 17, ho =>
      obtain rfl := (Option.some.inj ho).symm
      have d21 : a.eval (.tmp 21) = .agg C := hdep _ (Array.mem_of_getElem? (i := 0) rfl) rfl _ _ rfl rfl
      have d22 : a.eval (.tmp 22) = .int .u64 (k : Int) := hdep _ (Array.mem_of_getElem? (i := 1) rfl) rfl _ _ rfl rfl
      have d23 : a.eval (.tmp 23) = .agg P := hdep _ (Array.mem_of_getElem? (i := 2) rfl) rfl _ _ rfl rfl
      have d16 : a.eval (.tmp 16) = .bool true := hdep _ (Array.mem_of_getElem? (i := 4) rfl) rfl _ _ rfl rfl
      exact ⟨QT.wanted_of rfl rfl rfl d16, QT.wp_enter (f := 17) (args := #[.agg C, .int .u64 (k : Int), .agg P]) (by simp [go_sem, QT.nf d21, QT.nf d22, QT.nf d23]) (HN2.out wz) fun w' hb => ⟨_, rfl, rfl, hb⟩⟩
    | 18, ho =>
      obtain rfl := (Option.some.inj ho).symm
      have d20 : a.eval (.tmp 20) = .agg D := hdep _ (Array.mem_of_getElem? (i := 0) rfl) rfl _ _ rfl rfl
      have d24 : a.eval (.tmp 24) = .agg D := hdep _ (Array.mem_of_getElem? (i := 1) rfl) rfl _ _ rfl rfl
      have d16 : a.eval (.tmp 16) = .bool true := hdep _ (Array.mem_of_getElem? (i := 2) rfl) rfl _ _ rfl rfl
      exact ⟨QT.wanted_of rfl rfl rfl d16, QT.wp_value (v := .bool true) (by simp [go_sem, QT.nf d20, QT.nf d24, HEQ.out]) ⟨_, rfl, rfl, Below.refl _ _⟩⟩
    | 19, ho =>
      obtain rfl := (Option.some.inj ho).symm
      have d16 : a.eval (.tmp 16) = .bool true := hdep _ (Array.mem_of_getElem? (i := 0) rfl) rfl _ _ rfl rfl
      have d25 : a.eval (.tmp 25) = .bool true := hdep _ (Array.mem_of_getElem? (i := 1) rfl) rfl _ _ rfl rfl
      exact ⟨rfl, QT.wp_value (v := .bool true) (by simp [go_sem, QT.nf d16, QT.nf d25]) ⟨_, rfl, rfl, Below.refl _ _⟩⟩
    | 20, ho =>
      obtain rfl := (Option.some.inj ho).symm
      have d26 : a.eval (.tmp 26) = .bool true := hdep _ (Array.mem_of_getElem? (i := 0) rfl) rfl _ _ rfl rfl
      exact ⟨rfl, QT.wp_value (BigFrame.run_move (.tmp 26) rfl wz) ⟨_, rfl, d26, Below.refl _ _⟩⟩
    | 21, ho =>
      obtain rfl := (Option.some.inj ho).symm
      have d27 : a.eval (.tmp 27) = .bool true := hdep _ (Array.mem_of_getElem? (i := 1) rfl) rfl _ _ rfl rfl
      exact ⟨QT.wanted_of rfl rfl rfl d27, QT.wp_enter (f := 11) (args := #[]) (by simp [go_sem]) (HK.out wz) fun w' hb => ⟨_, rfl, rfl, hb⟩⟩
    | 22, ho =>
      obtain rfl := (Option.some.inj ho).symm
      have d27 : a.eval (.tmp 27) = .bool true := hdep _ (Array.mem_of_getElem? (i := 0) rfl) rfl _ _ rfl rfl
      have d28 : a.eval (.tmp 28) = .bool true := hdep _ (Array.mem_of_getElem? (i := 1) rfl) rfl _ _ rfl rfl
      exact ⟨rfl, QT.wp_value (v := .bool true) (by simp [go_sem, QT.nf d27, QT.nf d28]) ⟨_, rfl, rfl, Below.refl _ _⟩⟩
    | 23, ho =>
      obtain rfl := (Option.some.inj ho).symm
      have d29 : a.eval (.tmp 29) = .bool true := hdep _ (Array.mem_of_getElem? (i := 0) rfl) rfl _ _ rfl rfl
      exact ⟨rfl, QT.wp_value (BigFrame.run_assign (.tmp 29) rfl wz) ⟨_, rfl, d29, Below.refl _ _⟩⟩
    | n + 24, ho => simp at ho
  · have f0 : a.eval (.tmp 7) = .agg C := hf 0 _ _ rfl rfl
    have f1 : a.eval (.tmp 8) = .int .u64 (k : Int) := hf 1 _ _ rfl rfl
    have f2 : a.eval (.tmp 9) = .agg P := hf 2 _ _ rfl rfl
    have f3 : a.eval (.tmp 10) = .int .u32 (l : Int) := hf 3 _ _ rfl rfl
    have f4 : a.eval (.tmp 11) = .agg C := hf 4 _ _ rfl rfl
    have f5 : a.eval (.tmp 12) = .int .u64 (k : Int) := hf 5 _ _ rfl rfl
    have f6 : a.eval (.tmp 13) = .agg P := hf 6 _ _ rfl rfl
    have f7 : a.eval (.tmp 14) = .int .u32 (l : Int) := hf 7 _ _ rfl rfl
    have f8 : a.eval (.tmp 15) = .bool true := hf 8 _ _ rfl rfl
    have f9 : a.eval (.tmp 16) = .bool true := hf 9 _ _ rfl rfl
    have f10 : a.eval (.tmp 17) = .agg C := hf 10 _ _ rfl rfl
    have f11 : a.eval (.tmp 18) = .int .u64 (k : Int) := hf 11 _ _ rfl rfl
    have f12 : a.eval (.tmp 19) = .agg P := hf 12 _ _ rfl rfl
    have f13 : a.eval (.tmp 20) = .agg D := hf 13 _ _ rfl rfl
    have f14 : a.eval (.tmp 21) = .agg C := hf 14 _ _ rfl rfl
    have f15 : a.eval (.tmp 22) = .int .u64 (k : Int) := hf 15 _ _ rfl rfl
    have f16 : a.eval (.tmp 23) = .agg P := hf 16 _ _ rfl rfl
    have f17 : a.eval (.tmp 24) = .agg D := hf 17 _ _ rfl rfl
    have f18 : a.eval (.tmp 25) = .bool true := hf 18 _ _ rfl rfl
    have f19 : a.eval (.tmp 26) = .bool true := hf 19 _ _ rfl rfl
    have f20 : a.eval (.tmp 27) = .bool true := hf 20 _ _ rfl rfl
    have f21 : a.eval (.tmp 28) = .bool true := hf 21 _ _ rfl rfl
    have f22 : a.eval (.tmp 29) = .bool true := hf 22 _ _ rfl rfl
    have f23 : a.eval (.tmp 6) = .bool true := hf 23 _ _ rfl rfl
    have ha := hag.puts [(7, .agg C), (8, .int .u64 (k : Int)), (9, .agg P), (10, .int .u32 (l : Int)), (11, .agg C), (12, .int .u64 (k : Int)), (13, .agg P), (14, .int .u32 (l : Int)), (15, .bool true), (16, .bool true), (17, .agg C), (18, .int .u64 (k : Int)), (19, .agg P), (20, .agg D), (21, .agg C), (22, .int .u64 (k : Int)), (23, .agg P), (24, .agg D), (25, .bool true), (26, .bool true), (27, .bool true), (28, .bool true), (29, .bool true), (6, .bool true)] rfl (by simp) (by simp only [List.forall_mem_cons, List.not_mem_nil, false_implies, implies_true, and_true]; exact ⟨f0, f1, f2, f3, f4, f5, f6, f7, f8, f9, f10, f11, f12, f13, f14, f15, f16, f17, f18, f19, f20, f21, f22, f23⟩)
    subst ha
    clear hag hf f0 f1 f2 f3 f4 f5 f6 f7 f8 f9 f10 f11 f12 f13 f14 f15 f16 f17 f18 f19 f20 f21 f22 f23
    simp only [List.foldl_cons, List.foldl_nil, Act.put, List.setIfInBounds_toArray, List.set_cons_succ, List.set_cons_zero]
    have HB1 := Lib.hid (HBW.out.trans (hI.mono (by have := HLT.out; omega)))
    clear hI
    go_wp2_with fail
    go_ret
    exact ⟨rfl, HGE.out ▸ HB1.out⟩

end Go.Proofs.Ytogpnfgjdnccdaa.Lot
