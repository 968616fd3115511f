/- once: OnceShort. -/
import Derived.Test.YtlalipomphgcoaaOnJ
namespace Go.Proofs.Ytlalipomphgcoaa.Once
open Go.RowKit Go.Proofs.Ytlalipomphgcoaa.Sha Go.Proofs.Ytlalipomphgcoaa.Tree

def short (a b : List UInt8) : List UInt8 := a.getD 0 0 :: a.getD 1 0 :: b.drop 2
theorem short_len (a b : List UInt8) (hb : b.length = 32) : (short a b).length = 32 := by simp [short, hb]
theorem short_row (a b : List UInt8) (hb : b.length = 32) : ((valsB b).toArray.setIfInBounds 0 (.int .u8 ((a.getD 0 0).toNat : Int))).setIfInBounds 1 (.int .u8 ((a.getD 1 0).toNat : Int)) = (valsB (short a b)).toArray := by
  match b, hb with
  | x :: y :: r, _ => simp [valsB, short]

set_option maxRecDepth 100000 in
set_option maxHeartbeats 6400000 in
theorem law_OnceShort (a0 a1 a2 : List UInt8) (sig : ByteArray) (w0 : a0.length = 32) (w1 : a1.length = 32) (w2 : a2.length = 32) (w3 : sig.size ≤ maxLen) (w : World) : Calls Try.prog 10 #[.agg (valsB a0).toArray, .agg (valsB a1).toArray, .agg (valsB a2).toArray, .string sig] w fun e w' => e = .returned (.bool true) ∧ Below w.heap.size w w' := by
  have hsz : sig.size ≤ 9223372036854775807 := w3
  have hl2 := short_len a1 a2 w2
  have e0 : a1.getD 0 0 = (short a1 a2).getD 0 0 := rfl
  have e1 : a1.getD 1 0 = (short a1 a2).getD 1 0 := rfl
  have HTA := Lib.hid (fun w => code_TellsA a1 w1 sig w)
  have HTB := Lib.hid (fun w => code_TellsA (short a1 a2) hl2 sig w)
  have hth : tellsH (short a1 a2) sig = tellsH a1 sig := by
    unfold tellsH
    rw [tellK_short (short a1 a2) a1 _ e0.symm e1.symm]
  rw [hth] at HTB
  have HSA := Lib.hid (fun w => code_Sign a0 a1 w0 w1 w)
  have HSB := Lib.hid (fun w => code_Sign a0 (short a1 a2) w0 hl2 w)
  rw [signK_short a0 (short a1 a2) a1 e0.symm e1.symm] at HSB
  have HE := fun w => eqIn_hash (tellsH a1 sig) (tellsH a1 sig) (tellsH_len a1 sig) (tellsH_len a1 sig) w
  rw [show (tellsH a1 sig == tellsH a1 sig) = true by simp] at HE
  have HRS := Lib.hid (row32 a0 w0)
  have HRA := Lib.hid (row32 a1 w1)
  have HRB := Lib.hid (row32 (short a1 a2) hl2)
  have HRD := Lib.hid (row32 (tellsH a1 sig) (tellsH_len a1 sig))
  have hrow := short_row a1 a2 w2
  have hp8 := (a1.getD 0 0).toNat_lt
  have hq8 := (a1.getD 1 0).toNat_lt
  have c0 : (valsB a1).toArray[0]? = some (.int .u8 ((a1.getD 0 0).toNat : Int)) := valsB_get a1 0 _ (by
    rw [List.getD_eq_getElem?_getD, List.getElem?_eq_getElem (by omega)]
    rfl)
  have c1 : (valsB a1).toArray[1]? = some (.int .u8 ((a1.getD 1 0).toNat : Int)) := valsB_get a1 1 _ (by
    rw [List.getD_eq_getElem?_getD, List.getElem?_eq_getElem (by omega)]
    rfl)
  have hB2 : (valsB a2).toArray.size = 32 := by rw [valsB_size, w2]
  obtain ⟨P, hP⟩ : ∃ p, (a1.getD 0 0).toNat = p := ⟨_, rfl⟩
  obtain ⟨Q, hQ⟩ : ∃ p, (a1.getD 1 0).toNat = p := ⟨_, rfl⟩
  rw [hP] at hrow hp8 c0
  rw [hQ] at hrow hq8 c1
  obtain ⟨CS, hCS⟩ : ∃ C, (valsB a0).toArray = C := ⟨_, rfl⟩
  obtain ⟨CA, hCA⟩ : ∃ C, (valsB a1).toArray = C := ⟨_, rfl⟩
  obtain ⟨CB, hCB⟩ : ∃ C, (valsB a2).toArray = C := ⟨_, rfl⟩
  obtain ⟨CN, hCN⟩ : ∃ C, (valsB (short a1 a2)).toArray = C := ⟨_, rfl⟩
  obtain ⟨D, hD⟩ : ∃ C, (valsB (tellsH a1 sig)).toArray = C := ⟨_, rfl⟩
  obtain ⟨E, hEE⟩ : ∃ E, tellsE sig = E := ⟨_, rfl⟩
  obtain ⟨S, hS⟩ : ∃ S : ByteArray, (⟨(signK a0 a1).toArray⟩ : ByteArray) = S := ⟨_, rfl⟩
  rw [hCA, hD, hEE] at HTA
  rw [hCN, hD, hEE] at HTB
  rw [hCS, hCA, hS] at HSA
  rw [hCS, hCN, hS] at HSB
  rw [hD] at HE HRD
  rw [hCS] at HRS
  rw [hCA] at HRA c0 c1
  rw [hCN] at HRB hrow
  rw [hCB] at hrow hB2
  rw [hCS, hCA, hCB]
  have HZ32 := Lib.hid (show (List.replicate 32 (Value.int .u8 0)).toArray.size = D.size by rw [HRD.out.size]; rfl)
  have HROW := Lib.hid hrow
  have HB2 := Lib.hid hB2
  clear hl2 e0 e1 hth hrow hP hQ hCS hCA hCB hCN hD hEE hS w0 w1 w2 w3 hB2
  go_enter Try.func10, Try.ntmps10
  go_upto_region 1 with (fail)
  have HW0 := Lib.hid (three_old w (.cells CS 23) (.cells CA 23) (.cells CB 23))
  have HW1 := Lib.hid (three_mid w (.cells CS 23) (.cells CA 23) (.cells CB 23))
  have HW2 := Lib.hid (three_new w (.cells CS 23) (.cells CA 23) (.cells CB 23))
  have HBW := Lib.hid (three_below w (.cells CS 23) (.cells CA 23) (.cells CB 23))
  generalize ((w.alloc (.cells CS 23)).alloc (.cells CA 23)).alloc (.cells CB 23) = W at HW0 HW1 HW2 HBW ⊢
  obtain ⟨g0, hg0⟩ : ∃ x, w.heap.size = x := ⟨_, rfl⟩
  obtain ⟨g1, hg1⟩ : ∃ x, g0 + 1 = x := ⟨_, rfl⟩
  obtain ⟨g2, hg2⟩ : ∃ x, g1 + 1 = x := ⟨_, rfl⟩
  rw [hg0] at HW0 HW1 HW2 HBW
  rw [hg1] at HW1
  rw [show g0 + 2 = g2 by omega] at HW2
  rw [hg0, hg1, hg2]
  have HG := Lib.hid hg0
  have HNE := Lib.hid (show g0 < g1 ∧ g1 < g2 by omega)
  have HLW := Lib.hid (And.intro ((Array.getElem?_eq_some_iff.1 HW0.out).1) (And.intro ((Array.getElem?_eq_some_iff.1 HW1.out).1) ((Array.getElem?_eq_some_iff.1 HW2.out).1)))
  clear hg0 hg1 hg2
  by_cases hbig : 4096 < sig.size
  · have hb : (4096 : Int) < (sig.size : Int) := by omega
    clear c0 c1
    go_wp2_with fail
    refine (works5 _).mono ?_
    rintro e w3 ⟨rfl, hb3⟩
    have HB3 := Lib.hid (HBW.out.trans (hb3.mono (Nat.le_of_lt HLW.out.1)))
    clear hb3
    go_wp2_with fail
    go_ret
    exact ⟨rfl, HG.out ▸ HB3.out⟩
  · have hb : ¬ (4096 : Int) < (sig.size : Int) := by omega
    have d0 : W.cell? ⟨g1, 0, none⟩ = some (.int .u8 P) := by rw [Lib.cell_of_heap HW1.out]; exact c0
    have d1 : W.cell? ⟨g1, 1, none⟩ = some (.int .u8 Q) := by rw [Lib.cell_of_heap HW1.out]; exact c1
    obtain ⟨u, hu⟩ : ∃ u, CB[0]? = some u := ⟨_, Array.getElem?_eq_getElem (by have := HB2.out; omega)⟩
    obtain ⟨v, hv⟩ : ∃ u, CB[1]? = some u := ⟨_, Array.getElem?_eq_getElem (by have := HB2.out; omega)⟩
    have d2 : W.cell? ⟨g2, 0, none⟩ = some u := by rw [Lib.cell_of_heap HW2.out]; exact hu
    have d3 : W.cell? ⟨g2, 1, none⟩ = some v := by rw [Lib.cell_of_heap HW2.out]; exact hv
    have d4 : W.frozen? ⟨g2, 0, none⟩ = false := Lib.frozen_of_heap HW2.out 0
    have d5 : W.frozen? ⟨g2, 1, none⟩ = false := Lib.frozen_of_heap HW2.out 1
    have hne : g1 ≠ g2 := by have := HNE.out.2; omega
    have hne' : g2 ≠ g1 := by have := HNE.out.2; omega
    clear c0 c1 hu hv
    go_wp2_with fail
    go_region
    have hset : (W.setCell ⟨g2, 0, none⟩ (.int .u8 P)).setCell ⟨g2, 1, none⟩ (.int .u8 Q) = W.setRow g2 CN := by
      rw [setCell_eq_setRow W g2 0 _ _ _ _ HW2.out, setCell_eq_setRow _ g2 1 _ _ _ _ (setRow_heap _ _ _ _ _ _ HW2.out), setRow_setRow, HROW.out]
    rw [hset]
    have X0 := Lib.hid (show ((W.setRow g2 CN).drew).heap[g0]? = some (.cells CS 23 (0, 0)) from (setRow_other W g2 g0 CN (by have := HNE.out; omega)).trans HW0.out)
    have X1 := Lib.hid (show ((W.setRow g2 CN).drew).heap[g1]? = some (.cells CA 23 (0, 0)) from (setRow_other W g2 g1 CN (by have := HNE.out; omega)).trans HW1.out)
    have X2 := Lib.hid (show ((W.setRow g2 CN).drew).heap[g2]? = some (.cells CN 23 (0, 0)) from setRow_heap _ _ _ CN _ _ HW2.out)
    have XB := Lib.hid (show Below g0 w ((W.setRow g2 CN).drew) from (below_setRow HBW.out (by have := HNE.out; omega) CN).drew)
    clear d0 d1 d2 d3 d4 d5 hset hne hne'
    generalize (W.setRow g2 CN).drew = V at X0 X1 X2 XB ⊢
    have XL := Lib.hid (And.intro ((Array.getElem?_eq_some_iff.1 X0.out).1) (And.intro ((Array.getElem?_eq_some_iff.1 X1.out).1) ((Array.getElem?_eq_some_iff.1 X2.out).1)))
    go_wp2_with (refine wpList_load_row rfl 23 (.tmp 5) rfl g1 rfl 23 CA (0, 0) _ X1.out Try.underlying23 rfl HRA.out.info ?_)
    refine (HTA.out _).mono ?_
    rintro e w3 ⟨rfl, hb3⟩
    have HB3 := Lib.hid hb3
    clear hb3
    go_upto_region 5 with (refine wpList_store_row rfl 23 (.tmp 9) (.tmp 27) rfl w3.heap.size D rfl rfl 23 (List.replicate 32 (Value.int .u8 0)).toArray (heap_alloc_new _ _) HRD.out.info HZ32.out HRD.out.one ?_; rw [World.setRow_alloc_new])
    have hb5 : Below w3.heap.size w3 (w3.alloc (.cells D 23)) := (Below.refl _ _).alloc (Nat.le_refl _) _
    have H9' := Lib.hid (heap_alloc_new w3 (.cells D 23))
    have HB5 := Lib.hid (HB3.out.trans (hb5.mono HB3.out.size))
    obtain ⟨g9, hg9⟩ : ∃ x, w3.heap.size = x := ⟨_, rfl⟩
    rw [hg9] at H9'
    rw [hg9]
    clear hb5 hg9
    generalize w3.alloc (.cells D 23) = w5 at H9' HB5 ⊢
    have HW25 := Lib.hid ((HB5.out.block g2 XL.out.2.2).trans X2.out)
    go_wp2_with (refine wpList_load_row rfl 23 (.tmp 6) rfl g2 rfl 23 CN (0, 0) _ HW25.out Try.underlying23 rfl HRB.out.info ?_)
    refine (HTB.out _).mono ?_
    rintro e w6 ⟨rfl, hb6⟩
    have HB6 := Lib.hid hb6
    clear hb6
    go_upto_region 6 with (refine wpList_store_row rfl 23 (.tmp 11) (.tmp 33) rfl w6.heap.size D rfl rfl 23 (List.replicate 32 (Value.int .u8 0)).toArray (heap_alloc_new _ _) HRD.out.info HZ32.out HRD.out.one ?_; rw [World.setRow_alloc_new])
    have hb8 : Below w6.heap.size w6 (w6.alloc (.cells D 23)) := (Below.refl _ _).alloc (Nat.le_refl _) _
    have H11 := Lib.hid (heap_alloc_new w6 (.cells D 23))
    have hb58 := HB6.out.trans (hb8.mono HB6.out.size)
    have H9 := Lib.hid ((hb58.block g9 ((Array.getElem?_eq_some_iff.1 H9'.out).1)).trans H9'.out)
    have HB8 := Lib.hid (HB5.out.trans (hb58.mono HB5.out.size))
    obtain ⟨g11, hg11⟩ : ∃ x, w6.heap.size = x := ⟨_, rfl⟩
    rw [hg11] at H11
    rw [hg11]
    clear hb8 hb58 hg11
    generalize w6.alloc (.cells D 23) = w8 at H9 H11 HB8 ⊢
    have H0 := Lib.hid ((HB8.out.block g0 XL.out.1).trans X0.out)
    have H1 := Lib.hid ((HB8.out.block g1 XL.out.2.1).trans X1.out)
    have H2 := Lib.hid ((HB8.out.block g2 XL.out.2.2).trans X2.out)
    have HL0 := Lib.hid ((Array.getElem?_eq_some_iff.1 H0.out).1)
    have HL1 := Lib.hid ((Array.getElem?_eq_some_iff.1 H1.out).1)
    have HL2 := Lib.hid ((Array.getElem?_eq_some_iff.1 H2.out).1)
    have HL9 := Lib.hid ((Array.getElem?_eq_some_iff.1 H9.out).1)
    have HL11 := Lib.hid ((Array.getElem?_eq_some_iff.1 H11.out).1)
    go_wp2_with fail
    refine QT.wp_region_facts (by kernel_rfl) (fun w' => Below w8.heap.size w8 w') (fun n v w' => (([.val (.agg CS), .val (.agg CA), .val (.string S), .val (.agg CS), .val (.agg CN), .val (.string S), .val (.bool true), .val (.bool true), .val (.agg D), .val (.agg D), .val (.bool true), .val (.bool true), .val (.bool true), .val (.int .i64 E), .val (.int .i64 E), .val (.bool true), .val (.bool true), .val (.bool true), .val (.bool true), .val (.bool true), .val (.bool true)] : List Fact).getD n (.val undef) : Fact).holds v w') (by kernel_rfl) (by kernel_rfl) (Below.refl _ _).drew (fun w1 w2 h1 hb => h1.trans (hb.mono h1.size)) (fun n v w1 w2 h hb => Fact.kept _ v w1 w2 h hb) (fun n o ho a wz hI hag hdep => ?_) (fun a wz hI hag hf => ?_)
    · have t4 : a.eval (.tmp 4) = .pointer (some ⟨g0, 0, none⟩) := hag.old 4 _ (by kernel_rfl) rfl
      have t5 : a.eval (.tmp 5) = .pointer (some ⟨g1, 0, none⟩) := hag.old 5 _ (by kernel_rfl) rfl
      have t6 : a.eval (.tmp 6) = .pointer (some ⟨g2, 0, none⟩) := hag.old 6 _ (by kernel_rfl) rfl
      have t9 : a.eval (.tmp 9) = .pointer (some ⟨g9, 0, none⟩) := hag.old 9 _ (by kernel_rfl) rfl
      have t11 : a.eval (.tmp 11) = .pointer (some ⟨g11, 0, none⟩) := hag.old 11 _ (by kernel_rfl) rfl
      have t10 : a.eval (.tmp 10) = .int .i64 E := hag.old 10 _ (by kernel_rfl) rfl
      have t12 : a.eval (.tmp 12) = .int .i64 E := hag.old 12 _ (by kernel_rfl) rfl
      match n, ho with
      | 0, ho =>
        obtain rfl := (Option.some.inj ho).symm
        exact ⟨rfl, wp_load_row 23 (.tmp 4) rfl g0 t4 23 CS (0, 0) _ ((hI.block g0 HL0.out).trans H0.out) Try.underlying23 rfl HRS.out.info ⟨_, rfl, rfl, Below.refl _ _⟩⟩
      | 1, ho =>
        obtain rfl := (Option.some.inj ho).symm
        exact ⟨rfl, wp_load_row 23 (.tmp 5) rfl g1 t5 23 CA (0, 0) _ ((hI.block g1 HL1.out).trans H1.out) Try.underlying23 rfl HRA.out.info ⟨_, rfl, rfl, Below.refl _ _⟩⟩
      | 2, ho =>
        obtain rfl := (Option.some.inj ho).symm
        have d35 : a.eval (.tmp 35) = .agg CS := hdep _ (Array.mem_of_getElem? (i := 0) rfl) rfl _ _ rfl rfl
        have d36 : a.eval (.tmp 36) = .agg CA := hdep _ (Array.mem_of_getElem? (i := 1) rfl) rfl _ _ rfl rfl
        exact ⟨rfl, QT.wp_enter (f := 26) (args := #[.agg CS, .agg CA]) (by simp [go_sem, QT.nf d35, QT.nf d36]) (HSA.out wz) fun w' hb => ⟨_, rfl, rfl, hb⟩⟩
      | 3, ho =>
        obtain rfl := (Option.some.inj ho).symm
        exact ⟨rfl, wp_load_row 23 (.tmp 4) rfl g0 t4 23 CS (0, 0) _ ((hI.block g0 HL0.out).trans H0.out) Try.underlying23 rfl HRS.out.info ⟨_, rfl, rfl, Below.refl _ _⟩⟩
      | 4, ho =>
        obtain rfl := (Option.some.inj ho).symm
        exact ⟨rfl, wp_load_row 23 (.tmp 6) rfl g2 t6 23 CN (0, 0) _ ((hI.block g2 HL2.out).trans H2.out) Try.underlying23 rfl HRB.out.info ⟨_, rfl, rfl, Below.refl _ _⟩⟩
      | 5, ho =>
        obtain rfl := (Option.some.inj ho).symm
        have d38 : a.eval (.tmp 38) = .agg CS := hdep _ (Array.mem_of_getElem? (i := 0) rfl) rfl _ _ rfl rfl
        have d39 : a.eval (.tmp 39) = .agg CN := hdep _ (Array.mem_of_getElem? (i := 1) rfl) rfl _ _ rfl rfl
        exact ⟨rfl, QT.wp_enter (f := 26) (args := #[.agg CS, .agg CN]) (by simp [go_sem, QT.nf d38, QT.nf d39]) (HSB.out wz) fun w' hb => ⟨_, rfl, rfl, hb⟩⟩
      | 6, ho =>
        obtain rfl := (Option.some.inj ho).symm
        have d37 : a.eval (.tmp 37) = .string S := hdep _ (Array.mem_of_getElem? (i := 0) rfl) rfl _ _ rfl rfl
        have d40 : a.eval (.tmp 40) = .string S := hdep _ (Array.mem_of_getElem? (i := 1) rfl) rfl _ _ rfl rfl
        exact ⟨rfl, QT.wp_value (v := .bool true) (by simp [go_sem, QT.nf d37, QT.nf d40]) ⟨_, rfl, rfl, Below.refl _ _⟩⟩
      | 7, ho =>
        obtain rfl := (Option.some.inj ho).symm
        have d41 : a.eval (.tmp 41) = .bool true := hdep _ (Array.mem_of_getElem? (i := 0) rfl) rfl _ _ rfl rfl
        exact ⟨rfl, QT.wp_value (BigFrame.run_move (.tmp 41) rfl wz) ⟨_, rfl, d41, Below.refl _ _⟩⟩
      | 8, ho =>
        obtain rfl := (Option.some.inj ho).symm
        have d42 : a.eval (.tmp 42) = .bool true := hdep _ (Array.mem_of_getElem? (i := 0) rfl) rfl _ _ rfl rfl
        exact ⟨QT.wanted_of rfl rfl rfl d42, wp_load_row 23 (.tmp 9) rfl g9 t9 23 D (0, 0) _ ((hI.block g9 HL9.out).trans H9.out) Try.underlying23 rfl HRD.out.info ⟨_, rfl, rfl, Below.refl _ _⟩⟩
      | 9, ho =>
        obtain rfl := (Option.some.inj ho).symm
        have d42 : a.eval (.tmp 42) = .bool true := hdep _ (Array.mem_of_getElem? (i := 0) rfl) rfl _ _ rfl rfl
        exact ⟨QT.wanted_of rfl rfl rfl d42, wp_load_row 23 (.tmp 11) rfl g11 t11 23 D (0, 0) _ ((hI.block g11 HL11.out).trans H11.out) Try.underlying23 rfl HRD.out.info ⟨_, rfl, rfl, Below.refl _ _⟩⟩
      | 10, ho =>
        obtain rfl := (Option.some.inj ho).symm
        have d43 : a.eval (.tmp 43) = .agg D := hdep _ (Array.mem_of_getElem? (i := 0) rfl) rfl _ _ rfl rfl
        have d44 : a.eval (.tmp 44) = .agg D := hdep _ (Array.mem_of_getElem? (i := 1) rfl) rfl _ _ rfl rfl
        have d42 : a.eval (.tmp 42) = .bool true := hdep _ (Array.mem_of_getElem? (i := 2) rfl) rfl _ _ rfl rfl
        exact ⟨QT.wanted_of rfl rfl rfl d42, QT.wp_value (v := .bool true) (by simp [go_sem, QT.nf d43, QT.nf d44, HE wz]) ⟨_, rfl, rfl, Below.refl _ _⟩⟩
      | 11, ho =>
        obtain rfl := (Option.some.inj ho).symm
        have d42 : a.eval (.tmp 42) = .bool true := hdep _ (Array.mem_of_getElem? (i := 0) rfl) rfl _ _ rfl rfl
        have d45 : a.eval (.tmp 45) = .bool true := hdep _ (Array.mem_of_getElem? (i := 1) rfl) rfl _ _ rfl rfl
        exact ⟨rfl, QT.wp_value (v := .bool true) (by simp [go_sem, QT.nf d42, QT.nf d45]) ⟨_, rfl, rfl, Below.refl _ _⟩⟩
      | 12, ho =>
        obtain rfl := (Option.some.inj ho).symm
        have d46 : a.eval (.tmp 46) = .bool true := hdep _ (Array.mem_of_getElem? (i := 0) rfl) rfl _ _ rfl rfl
        exact ⟨rfl, QT.wp_value (BigFrame.run_move (.tmp 46) rfl wz) ⟨_, rfl, d46, Below.refl _ _⟩⟩
      | 13, ho =>
        obtain rfl := (Option.some.inj ho).symm
        have d47 : a.eval (.tmp 47) = .bool true := hdep _ (Array.mem_of_getElem? (i := 0) rfl) rfl _ _ rfl rfl
        exact ⟨QT.wanted_of rfl rfl rfl d47, QT.wp_value (BigFrame.run_move (.tmp 10) rfl wz) ⟨_, rfl, t10, Below.refl _ _⟩⟩
      | 14, ho =>
        obtain rfl := (Option.some.inj ho).symm
        have d47 : a.eval (.tmp 47) = .bool true := hdep _ (Array.mem_of_getElem? (i := 0) rfl) rfl _ _ rfl rfl
        exact ⟨QT.wanted_of rfl rfl rfl d47, QT.wp_value (BigFrame.run_move (.tmp 12) rfl wz) ⟨_, rfl, t12, Below.refl _ _⟩⟩
      | 15, ho =>
        obtain rfl := (Option.some.inj ho).symm
        have d48 : a.eval (.tmp 48) = .int .i64 E := hdep _ (Array.mem_of_getElem? (i := 0) rfl) rfl _ _ rfl rfl
        have d49 : a.eval (.tmp 49) = .int .i64 E := hdep _ (Array.mem_of_getElem? (i := 1) rfl) rfl _ _ rfl rfl
        have d47 : a.eval (.tmp 47) = .bool true := hdep _ (Array.mem_of_getElem? (i := 2) rfl) rfl _ _ rfl rfl
        exact ⟨QT.wanted_of rfl rfl rfl d47, QT.wp_value (v := .bool true) (by simp [go_sem, QT.nf d48, QT.nf d49]) ⟨_, rfl, rfl, Below.refl _ _⟩⟩
      | 16, ho =>
        obtain rfl := (Option.some.inj ho).symm
        have d47 : a.eval (.tmp 47) = .bool true := hdep _ (Array.mem_of_getElem? (i := 0) rfl) rfl _ _ rfl rfl
        have d50 : a.eval (.tmp 50) = .bool true := hdep _ (Array.mem_of_getElem? (i := 1) rfl) rfl _ _ rfl rfl
        exact ⟨rfl, QT.wp_value (v := .bool true) (by simp [go_sem, QT.nf d47, QT.nf d50]) ⟨_, rfl, rfl, Below.refl _ _⟩⟩
      | 17, ho =>
        obtain rfl := (Option.some.inj ho).symm
        have d51 : a.eval (.tmp 51) = .bool true := hdep _ (Array.mem_of_getElem? (i := 0) rfl) rfl _ _ rfl rfl
        exact ⟨rfl, QT.wp_value (BigFrame.run_move (.tmp 51) rfl wz) ⟨_, rfl, d51, Below.refl _ _⟩⟩
      | 18, ho =>
        obtain rfl := (Option.some.inj ho).symm
        have d52 : a.eval (.tmp 52) = .bool true := hdep _ (Array.mem_of_getElem? (i := 1) rfl) rfl _ _ rfl rfl
        exact ⟨QT.wanted_of rfl rfl rfl d52, QT.wp_enter (f := 22) (args := #[]) (by simp [go_sem]) (works5 wz) fun w' hb => ⟨_, rfl, rfl, hb⟩⟩
      | 19, ho =>
        obtain rfl := (Option.some.inj ho).symm
        have d52 : a.eval (.tmp 52) = .bool true := hdep _ (Array.mem_of_getElem? (i := 0) rfl) rfl _ _ rfl rfl
        have d53 : a.eval (.tmp 53) = .bool true := hdep _ (Array.mem_of_getElem? (i := 1) rfl) rfl _ _ rfl rfl
        exact ⟨rfl, QT.wp_value (v := .bool true) (by simp [go_sem, QT.nf d52, QT.nf d53]) ⟨_, rfl, rfl, Below.refl _ _⟩⟩
      | 20, ho =>
        obtain rfl := (Option.some.inj ho).symm
        have d54 : a.eval (.tmp 54) = .bool true := hdep _ (Array.mem_of_getElem? (i := 0) rfl) rfl _ _ rfl rfl
        exact ⟨rfl, QT.wp_value (BigFrame.run_assign (.tmp 54) rfl wz) ⟨_, rfl, d54, Below.refl _ _⟩⟩
      | n + 21, ho => simp at ho
    · have f0 : a.eval (.tmp 35) = .agg CS := hf 0 _ _ rfl rfl
      have f1 : a.eval (.tmp 36) = .agg CA := hf 1 _ _ rfl rfl
      have f2 : a.eval (.tmp 37) = .string S := hf 2 _ _ rfl rfl
      have f3 : a.eval (.tmp 38) = .agg CS := hf 3 _ _ rfl rfl
      have f4 : a.eval (.tmp 39) = .agg CN := hf 4 _ _ rfl rfl
      have f5 : a.eval (.tmp 40) = .string S := hf 5 _ _ rfl rfl
      have f6 : a.eval (.tmp 41) = .bool true := hf 6 _ _ rfl rfl
      have f7 : a.eval (.tmp 42) = .bool true := hf 7 _ _ rfl rfl
      have f8 : a.eval (.tmp 43) = .agg D := hf 8 _ _ rfl rfl
      have f9 : a.eval (.tmp 44) = .agg D := hf 9 _ _ rfl rfl
      have f10 : a.eval (.tmp 45) = .bool true := hf 10 _ _ rfl rfl
      have f11 : a.eval (.tmp 46) = .bool true := hf 11 _ _ rfl rfl
      have f12 : a.eval (.tmp 47) = .bool true := hf 12 _ _ rfl rfl
      have f13 : a.eval (.tmp 48) = .int .i64 E := hf 13 _ _ rfl rfl
      have f14 : a.eval (.tmp 49) = .int .i64 E := hf 14 _ _ rfl rfl
      have f15 : a.eval (.tmp 50) = .bool true := hf 15 _ _ rfl rfl
      have f16 : a.eval (.tmp 51) = .bool true := hf 16 _ _ rfl rfl
      have f17 : a.eval (.tmp 52) = .bool true := hf 17 _ _ rfl rfl
      have f18 : a.eval (.tmp 53) = .bool true := hf 18 _ _ rfl rfl
      have f19 : a.eval (.tmp 54) = .bool true := hf 19 _ _ rfl rfl
      have f20 : a.eval (.tmp 8) = .bool true := hf 20 _ _ rfl rfl
      have ha := hag.puts [(35, .agg CS), (36, .agg CA), (37, .string S), (38, .agg CS), (39, .agg CN), (40, .string S), (41, .bool true), (42, .bool true), (43, .agg D), (44, .agg D), (45, .bool true), (46, .bool true), (47, .bool true), (48, .int .i64 E), (49, .int .i64 E), (50, .bool true), (51, .bool true), (52, .bool true), (53, .bool true), (54, .bool true), (8, .bool true)] rfl (by simp) (by simp only [List.forall_mem_cons, List.not_mem_nil, false_implies, implies_true, and_true]; exact ⟨f0, f1, f2, f3, f4, f5, f6, f7, f8, f9, f10, f11, f12, f13, f14, f15, f16, f17, f18, f19, f20⟩)
      subst ha
      clear hag hf f0 f1 f2 f3 f4 f5 f6 f7 f8 f9 f10 f11 f12 f13 f14 f15 f16 f17 f18 f19 f20
      simp only [List.foldl_cons, List.foldl_nil, Act.put, List.setIfInBounds_toArray, List.set_cons_succ, List.set_cons_zero]
      go_wp2_with fail
      go_ret
      exact ⟨rfl, HG.out ▸ XB.out.trans ((HB8.out.mono (Nat.le_of_lt XL.out.1)).trans (hI.mono (Nat.le_of_lt HL0.out)))⟩

end Go.Proofs.Ytlalipomphgcoaa.Once
