/- once: the code's signatures. -/
import Derived.Test.YtlalipomphgcoaaOnP
namespace Go.Proofs.Ytlalipomphgcoaa.Once
open Go.RowKit Go.Proofs.Ytlalipomphgcoaa.Sha Go.Proofs.Ytlalipomphgcoaa.Tree

set_option maxRecDepth 100000 in
set_option maxHeartbeats 3200000 in
theorem code_Sign (seed m : List UInt8) (hs : seed.length = 32) (hm : m.length = 32) (w : World) :
    Calls Try.prog 26 #[.agg (valsB seed).toArray, .agg (valsB m).toArray] w fun e w' => e = .returned (.string ⟨(signK seed m).toArray⟩) ∧ Below w.heap.size w w' := by
  have HSEC := Lib.hid (fun i hi w => code_secrets seed hs i hi w)
  have HBIT := Lib.hid (fun i hi w => code_bit m hm i hi w)
  have HMK := Lib.hid (fun j w => code_mark (secF seed j) rfl w)
  have HRS := Lib.hid (row32 seed hs)
  have HRM := Lib.hid (row32 m hm)
  have HKL := Lib.hid (fun k => keyA_len (signF seed m) (signF_len seed m) k)
  have HBL := Lib.hid (fun k => bitF_lt m k)
  obtain ⟨CS, hCS⟩ : ∃ C, (valsB seed).toArray = C := ⟨_, rfl⟩
  obtain ⟨CM, hCM⟩ : ∃ C, (valsB m).toArray = C := ⟨_, rfl⟩
  rw [hCS] at HSEC HRS
  rw [hCM] at HBIT HRM
  rw [hCS, hCM]
  clear hCS hCM
  go_enter Try.func26, Try.ntmps26
  go_upto_region 1 with (fail)
  have hs0 : ((w.alloc (.cells CS 23)).alloc (.cells CM 23)).heap.size = w.heap.size + 2 := by simp
  have HG0 := Lib.hid (heap_alloc2_old w (.cells CS 23) (.cells CM 23))
  have HG1 := Lib.hid (heap_alloc2_new w (.cells CS 23) (.cells CM 23))
  have HBW := Lib.hid (show Below w.heap.size w ((w.alloc (.cells CS 23)).alloc (.cells CM 23)) from ((Below.refl _ _).alloc (Nat.le_refl _) _).alloc (by simp) _)
  generalize (w.alloc (.cells CS 23)).alloc (.cells CM 23) = W at hs0 HG0 HG1 HBW ⊢
  obtain ⟨g0, hg0⟩ : ∃ g, w.heap.size = g := ⟨_, rfl⟩
  obtain ⟨g1, hg1⟩ : ∃ g, g0 + 1 = g := ⟨_, rfl⟩
  rw [hg0] at HG0 HG1 HBW hs0
  rw [hg1] at HG1
  rw [hg0, hg1]
  have HW0 := Lib.hid hg0
  have hfr := Lib.fresh_isBuilder 58 5 W
  obtain ⟨b, hb⟩ : ∃ b, W.heap.size = b := ⟨_, rfl⟩
  rw [hb] at hfr hs0
  have HFR := Lib.hid hfr
  have HWB := Lib.hid hb
  have HGB := Lib.hid (show g0 < b ∧ g1 < b by omega)
  clear hg0 hg1 hfr hb hs0
  go_wp2_with fail
  rw [HWB.out]
  go_loopw [9] (fun iv wr => ∃ k : Nat, k ≤ 16 ∧ iv = .int .i64 k ∧ Lib.IsBuilder 58 5 b b (Lib.byteCells (keyA (signF seed m) k)) wr ∧ Below b W wr) (fun iv _ => 16 - (intOf iv).toNat)
  case atStart =>
    refine ⟨0, by omega, rfl, HFR.out, ?_⟩
    exact (Below.refl b W).alloc (Nat.le_of_eq HWB.out.symm) _
  case round =>
    obtain ⟨k, hk, rfl, hbld, hbel⟩ := hrel
    have HBLD := Lib.hid hbld
    have HBEL := Lib.hid hbel
    have HSW := Lib.hid (show b ≤ wr.heap.size by have := hbel.size; rw [HWB.out] at this; exact this)
    have H0 := Lib.hid ((hbel.block g0 HGB.out.1).trans HG0.out)
    have H1 := Lib.hid ((hbel.block g1 HGB.out.2).trans HG1.out)
    clear hbld hbel
    by_cases hlt : k < 16
    · have HL0 := Lib.hid (Nat.lt_of_lt_of_le HGB.out.1 HSW.out)
      have HL1 := Lib.hid (Nat.lt_of_lt_of_le HGB.out.2 HSW.out)
      have HLB := Lib.hid (show b < wr.heap.size by rcases HBLD.out with h | h <;> exact h.lt)
      have HSE := Lib.hid (fun w => HSEC.out k hlt w)
      have HBI := Lib.hid (fun w => HBIT.out k hlt w)
      have hkl := HKL.out k
      have hx2 := HBL.out k
      have hsf : signF seed m k = (secF seed (2 * k + bitF m k), markF (secF seed (2 * k + (1 - bitF m k)))) := rfl
      obtain ⟨x, hx⟩ : ∃ x, bitF m k = x := ⟨_, rfl⟩
      obtain ⟨y, hy⟩ : ∃ y, 1 - x = y := ⟨_, rfl⟩
      rw [hx] at HBI hx2 hsf
      rw [hy] at hsf
      have HMA := Lib.hid (fun w => HMK.out (2 * k + y) w)
      obtain ⟨S0, hS0⟩ : ∃ S : ByteArray, (⟨(secF seed (2 * k)).toArray⟩ : ByteArray) = S := ⟨_, rfl⟩
      obtain ⟨S1, hS1⟩ : ∃ S : ByteArray, (⟨(secF seed (2 * k + 1)).toArray⟩ : ByteArray) = S := ⟨_, rfl⟩
      rw [hS0, hS1] at HSE
      have HCX := Lib.hid (show (#[Value.string S0, Value.string S1] : Array Value)[x]? = some (.string ⟨(secF seed (2 * k + x)).toArray⟩) by
        have : x = 0 ∨ x = 1 := by omega
        rcases this with rfl | rfl
        · rw [← hS0]; rfl
        · rw [← hS1]; rfl)
      have HCY := Lib.hid (show (#[Value.string S0, Value.string S1] : Array Value)[y]? = some (.string ⟨(secF seed (2 * k + y)).toArray⟩) by
        have : y = 0 ∨ y = 1 := by omega
        rcases this with rfl | rfl
        · rw [← hS0]; rfl
        · rw [← hS1]; rfl)
      have HX := Lib.hid (text_len (secF seed (2 * k + x)) rfl)
      have HXC := Lib.hid (strCells_mk (secF seed (2 * k + x)))
      have HM := Lib.hid (text_len (markF (secF seed (2 * k + y))) rfl)
      have HMC := Lib.hid (strCells_mk (markF (secF seed (2 * k + y))))
      obtain ⟨PX, hPX⟩ : ∃ S : ByteArray, (⟨(secF seed (2 * k + x)).toArray⟩ : ByteArray) = S := ⟨_, rfl⟩
      obtain ⟨PY, hPY⟩ : ∃ S : ByteArray, (⟨(secF seed (2 * k + y)).toArray⟩ : ByteArray) = S := ⟨_, rfl⟩
      obtain ⟨MY, hMY⟩ : ∃ S : ByteArray, (⟨(markF (secF seed (2 * k + y))).toArray⟩ : ByteArray) = S := ⟨_, rfl⟩
      rw [hPX] at HCX HX HXC
      rw [hPY] at HCY
      rw [hPY, hMY] at HMA
      rw [hMY] at HM HMC
      have HSF := Lib.hid hsf
      have HKK := Lib.hid hkl
      have HDA := Lib.hid (row2_one S0 S1)
      have hk0 : (0 : Int) ≤ (k : Int) := by omega
      have hki : (k : Int) < 16 := by omega
      have hx0 : (0 : Int) ≤ (x : Int) := by omega
      have hxi : (x : Int) < 2 := by omega
      have hy0 : (0 : Int) ≤ (y : Int) := by omega
      have hyi : (y : Int) < 2 := by omega
      have hxy : (1 : Int) - (x : Int) = (y : Int) := by omega
      clear hkl hsf hS0 hS1 hPX hPY hMY hx hy
      go_wp2_with fail
      refine QT.wp_region_facts_tail 7 (by kernel_rfl) (fun w' => Below wr.heap.size wr w') (fun n v w' => (([.val (.agg CS), .val (.int .i64 k), .val (.agg #[.string S0, .string S1]), .val (.agg CM), .val (.int .i64 k), .val (.int .i64 x), .fresh wr.heap.size #[.string ⟨#[]⟩, .string ⟨#[]⟩] 77] : List Fact).getD n (.val undef) : Fact).holds v w') (by kernel_rfl) (by kernel_rfl) (Below.refl _ _).drew (fun w1 w2 h1 hb => h1.trans (hb.mono h1.size)) (fun n v w1 w2 h hb => Fact.kept _ v w1 w2 h hb) (fun n o hn ho a wz hI hag hdep => ?_) (fun a wz hI hag hf => ?_)
      · have t6 : a.eval (.tmp 6) = .int .i64 k := hag.old 6 _ (by kernel_rfl) rfl
        have t2 : a.eval (.tmp 2) = .pointer (some ⟨g0, 0, none⟩) := hag.old 2 _ (by kernel_rfl) rfl
        have t3 : a.eval (.tmp 3) = .pointer (some ⟨g1, 0, none⟩) := hag.old 3 _ (by kernel_rfl) rfl
        match n, ho with
        | 0, ho =>
          obtain rfl := (Option.some.inj ho).symm
          exact ⟨rfl, wp_load_row 23 (.tmp 2) rfl g0 t2 23 CS (0, 0) _ ((hI.block g0 HL0.out).trans H0.out) Try.underlying23 rfl HRS.out.info ⟨_, rfl, rfl, Below.refl _ _⟩⟩
        | 1, ho =>
          obtain rfl := (Option.some.inj ho).symm
          exact ⟨rfl, QT.wp_value (BigFrame.run_move (.tmp 6) rfl wz) ⟨_, rfl, t6, Below.refl _ _⟩⟩
        | 2, ho =>
          obtain rfl := (Option.some.inj ho).symm
          have d12 : a.eval (.tmp 12) = .agg CS := hdep _ (Array.mem_of_getElem? (i := 0) rfl) rfl _ _ rfl rfl
          have d13 : a.eval (.tmp 13) = .int .i64 k := hdep _ (Array.mem_of_getElem? (i := 1) rfl) rfl _ _ rfl rfl
          exact ⟨rfl, QT.wp_enter (f := 57) (args := #[.agg CS, .int .i64 k]) (by simp [go_sem, QT.nf d12, QT.nf d13]) (HSE.out wz) fun w' hb => ⟨_, rfl, rfl, hb⟩⟩
        | 3, ho =>
          obtain rfl := (Option.some.inj ho).symm
          exact ⟨rfl, wp_load_row 23 (.tmp 3) rfl g1 t3 23 CM (0, 0) _ ((hI.block g1 HL1.out).trans H1.out) Try.underlying23 rfl HRM.out.info ⟨_, rfl, rfl, Below.refl _ _⟩⟩
        | 4, ho =>
          obtain rfl := (Option.some.inj ho).symm
          exact ⟨rfl, QT.wp_value (BigFrame.run_move (.tmp 6) rfl wz) ⟨_, rfl, t6, Below.refl _ _⟩⟩
        | 5, ho =>
          obtain rfl := (Option.some.inj ho).symm
          have d15 : a.eval (.tmp 15) = .agg CM := hdep _ (Array.mem_of_getElem? (i := 0) rfl) rfl _ _ rfl rfl
          have d16 : a.eval (.tmp 16) = .int .i64 k := hdep _ (Array.mem_of_getElem? (i := 1) rfl) rfl _ _ rfl rfl
          exact ⟨rfl, QT.wp_enter (f := 54) (args := #[.agg CM, .int .i64 k]) (by simp [go_sem, QT.nf d15, QT.nf d16]) (HBI.out wz) fun w' hb => ⟨_, rfl, rfl, hb⟩⟩
        | 6, ho =>
          obtain rfl := (Option.some.inj ho).symm
          exact ⟨rfl, wp_runTo (.pointer (some ⟨wz.heap.size, 0, none⟩)) (wz.alloc (.cells #[.string ⟨#[]⟩, .string ⟨#[]⟩] 77)) (by kernel_rfl) ⟨_, rfl, ⟨_, rfl, hI.size, heap_alloc_new _ _⟩, (Below.refl _ _).alloc (Nat.le_refl _) _⟩⟩
        | n + 7, ho => omega
      · have f0 : a.eval (.tmp 12) = .agg CS := hf 0 _ _ (by omega) rfl rfl
        have f1 : a.eval (.tmp 13) = .int .i64 k := hf 1 _ _ (by omega) rfl rfl
        have f2 : a.eval (.tmp 14) = .agg #[.string S0, .string S1] := hf 2 _ _ (by omega) rfl rfl
        have f3 : a.eval (.tmp 15) = .agg CM := hf 3 _ _ (by omega) rfl rfl
        have f4 : a.eval (.tmp 16) = .int .i64 k := hf 4 _ _ (by omega) rfl rfl
        have f5 : a.eval (.tmp 17) = .int .i64 x := hf 5 _ _ (by omega) rfl rfl
        have f6' : ((.fresh wr.heap.size #[.string ⟨#[]⟩, .string ⟨#[]⟩] 77) : Fact).holds (a.eval (.tmp 7)) wz := hf 6 _ _ (by omega) rfl rfl
        obtain ⟨q6, f6, y6⟩ := f6'
        have ha := hag.puts [(12, .agg CS), (13, .int .i64 k), (14, .agg #[.string S0, .string S1]), (15, .agg CM), (16, .int .i64 k), (17, .int .i64 x), (7, .pointer (some ⟨q6, 0, none⟩))] rfl (by simp) (by simp only [List.forall_mem_cons, List.not_mem_nil, false_implies, implies_true, and_true]; exact ⟨f0, f1, f2, f3, f4, f5, f6⟩)
        subst ha
        clear hag hf f0 f1 f2 f3 f4 f5 f6
        simp only [List.foldl_cons, List.foldl_nil, Act.put, List.drop_succ_cons, List.drop_zero, List.setIfInBounds_toArray, List.set_cons_succ, List.set_cons_zero]
        have hq7 : q6 < wz.heap.size := (Array.getElem?_eq_some_iff.1 y6.2).1
        have HQ := Lib.hid y6.2
        have HQL := Lib.hid y6.1
        have HI := Lib.hid hI
        clear y6 hI
        obtain ⟨D, hD⟩ : ∃ D : Array Value, #[.string S0, .string S1] = D := ⟨_, rfl⟩
        have HDI := Lib.hid (show (Try.prog.info? 77).map (·.size) = some D.size by rw [← hD]; exact info77)
        have HDS := Lib.hid (show 2 = D.size by rw [← hD]; rfl)
        rw [hD] at HDA HCX HCY
        rw [hD]
        clear hD
        go_upto_region 6 with (refine wpList_store_row rfl 77 (.tmp 7) (.tmp 14) rfl q6 D rfl rfl 77 _ HQ.out HDI.out HDS.out HDA.out ?_)
        have HD := Lib.hid (setRow_heap _ _ _ D _ _ HQ.out)
        have HB2 := Lib.hid (below_setRow HI.out HQL.out D)
        have HL2 := Lib.hid (show q6 < (wz.setRow q6 D).heap.size by rw [setRow_size]; exact hq7)
        generalize wz.setRow q6 D = w2 at HD HB2 HL2 ⊢
        have hbld2 := builder_kept HBLD.out HB2.out
        have hap := Bld.apart_new (k := q6) (w' := w2) HBLD.out HQL.out (HB2.out.block b HLB.out)
        have HWK := Lib.hid (Bld.write_keep b b _ PX _ hbld2 (by rw [Lib.byteCells_length, HKK.out, HX.out]; omega) (Nat.le_trans HSW.out HB2.out.size) q6 HL2.out (by have := HQL.out; have := HLB.out; omega) hap)
        have hcx : w2.cell? ⟨q6, x, none⟩ = some (.string PX) := by rw [Lib.cell_of_heap HD.out]; exact HCX.out
        clear hbld2 hap hq7
        go_wp2_with fail
        refine HWK.out.mono ?_
        rintro e w3 ⟨rfl, ⟨hat3, hb3⟩, hk3⟩
        have hcy : w3.cell? ⟨q6, y, none⟩ = some (.string PY) := by rw [Lib.cell_of_heap (hk3.trans HD.out)]; exact HCY.out
        have HAT3 := Lib.hid hat3
        have HB3 := Lib.hid ((HB2.out.mono HSW.out).trans hb3)
        clear hat3 hb3 hk3 hcx
        go_wp2_with fail
        refine (HMA.out _).mono ?_
        rintro e w4 ⟨rfl, hb4⟩
        have hsz3 : b ≤ w3.heap.size := Nat.le_trans HSW.out HB3.out.size
        have HWN := Lib.hid (Bld.write_any b b _ MY w4 (builder_kept (Or.inr HAT3.out) hb4) (by rw [List.length_append, Lib.byteCells_length, Lib.strCells_length, HKK.out, HX.out, HM.out]; omega) (Nat.le_trans hsz3 hb4.size))
        have HB4 := Lib.hid (HB3.out.trans (hb4.mono hsz3))
        clear hb4 hsz3 hcy
        go_wp2_with fail
        refine HWN.out.mono ?_
        rintro e w5 ⟨rfl, hat5, hb5⟩
        have HAT5 := Lib.hid hat5
        have HB5 := Lib.hid (HB4.out.trans hb5)
        clear hat5 hb5
        go_wp2_with fail
        go_roundw
        case rel => exact ⟨k + 1, by omega, by go_num, Or.inr (by
          have h := HAT5.out
          rw [HXC.out, HMC.out, ← Lib.byteCells_append, ← Lib.byteCells_append, List.append_assoc] at h
          have e : keyA (signF seed m) (k + 1) = keyA (signF seed m) k ++ (secF seed (2 * k + x) ++ markF (secF seed (2 * k + y))) := by
            conv => lhs; unfold keyA
            rw [HSF.out]
          rw [e]
          exact h), HBEL.out.trans HB5.out⟩
        case measure => simp [intOf]; omega
    · obtain rfl : k = 16 := by omega
      have HST := Lib.hid (Try.Builder_String_any b b (keyA (signF seed m) 16) wr HBLD.out HSW.out)
      rw [show keyA (signF seed m) 16 = signK seed m from rfl] at HST
      obtain ⟨T, hT⟩ : ∃ T : ByteArray, (⟨(signK seed m).toArray⟩ : ByteArray) = T := ⟨_, rfl⟩
      rw [hT] at HST
      have HT := Lib.hid hT
      clear hT
      go_wp2_with fail
      refine HST.out.mono ?_
      rintro e w3 ⟨rfl, hb3⟩
      have HB3 := Lib.hid ((HBW.out.trans (HBEL.out.mono (Nat.le_of_lt HGB.out.1))).trans (hb3.mono (Nat.le_of_lt HGB.out.1)))
      clear hb3
      go_wp2_with fail
      go_ret
      exact ⟨by rw [HT.out]; rfl, HW0.out ▸ HB3.out⟩

end Go.Proofs.Ytlalipomphgcoaa.Once
