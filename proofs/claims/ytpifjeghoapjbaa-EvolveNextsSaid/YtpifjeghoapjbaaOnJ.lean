/- once: the code's signatures, what they tell, whether they are checked; that the package works; OnceKnown. -/
import Derived.Test.YtpifjeghoapjbaaOnI
namespace Go.Proofs.Ytpifjeghoapjbaa.Once
open Go.RowKit Go.Proofs.Ytpifjeghoapjbaa.Sha Go.Proofs.Ytpifjeghoapjbaa.Tree

set_option maxRecDepth 100000 in
set_option maxHeartbeats 3200000 in
theorem code_Sign (seed m : List UInt8) (hs : seed.length = 32) (hm : m.length = 32) (w : World) :
    Calls Try.prog 35 #[.agg (valsB seed).toArray, .agg (valsB m).toArray] w fun e w' => e = .returned (.string ⟨(signK seed m).toArray⟩) ∧ Below w.heap.size w w' := by
  have HSEC := Lib.hid (fun i hi w => code_secrets seed hs i hi w)
  have HBIT := Lib.hid (fun i hi w => code_bit m hm i hi w)
  have HMK := Lib.hid (fun j w => code_mark (secF seed j) rfl w)
  have HRS := Lib.hid (row32 seed hs)
  have HRM := Lib.hid (row32 m hm)
  have HKL := Lib.hid (fun k => keyA_len (signF seed m) (signF_len seed m) k)
  have HBL := Lib.hid (fun k => bitF_lt m k)
  obtain ⟨CS, hCS⟩ : ∃ C, (valsB seed).toArray = C := ⟨_, rfl⟩
  obtain ⟨CM, hCM⟩ : ∃ C, (valsB m).toArray = C := ⟨_, rfl⟩
  rw [hCS] at HSEC HRS
  rw [hCM] at HBIT HRM
  rw [hCS, hCM]
  clear hCS hCM
  go_enter Try.func35, Try.ntmps35
  go_upto_region 1 with (fail)
  have hs0 : ((w.alloc (.cells CS 23)).alloc (.cells CM 23)).heap.size = w.heap.size + 2 := by simp
  have HG0 := Lib.hid (heap_alloc2_old w (.cells CS 23) (.cells CM 23))
  have HG1 := Lib.hid (heap_alloc2_new w (.cells CS 23) (.cells CM 23))
  have HBW := Lib.hid (show Below w.heap.size w ((w.alloc (.cells CS 23)).alloc (.cells CM 23)) from ((Below.refl _ _).alloc (Nat.le_refl _) _).alloc (by simp) _)
  generalize (w.alloc (.cells CS 23)).alloc (.cells CM 23) = W at hs0 HG0 HG1 HBW ⊢
  obtain ⟨g0, hg0⟩ : ∃ g, w.heap.size = g := ⟨_, rfl⟩
  obtain ⟨g1, hg1⟩ : ∃ g, g0 + 1 = g := ⟨_, rfl⟩
  rw [hg0] at HG0 HG1 HBW hs0
  rw [hg1] at HG1
  rw [hg0, hg1]
  have HW0 := Lib.hid hg0
  have hfr := Lib.fresh_isBuilder 58 5 W
  obtain ⟨b, hb⟩ : ∃ b, W.heap.size = b := ⟨_, rfl⟩
  rw [hb] at hfr hs0
  have HFR := Lib.hid hfr
  have HWB := Lib.hid hb
  have HGB := Lib.hid (show g0 < b ∧ g1 < b by omega)
  clear hg0 hg1 hfr hb hs0
  go_wp2_with fail
  rw [HWB.out]
  go_loopw [9] (fun iv wr => ∃ k : Nat, k ≤ 16 ∧ iv = .int .i64 k ∧ Lib.IsBuilder 58 5 b b (Lib.byteCells (keyA (signF seed m) k)) wr ∧ Below b W wr) (fun iv _ => 16 - (intOf iv).toNat)
  case atStart =>
    refine ⟨0, by omega, rfl, HFR.out, ?_⟩
    exact (Below.refl b W).alloc (Nat.le_of_eq HWB.out.symm) _
  case round =>
    obtain ⟨k, hk, rfl, hbld, hbel⟩ := hrel
    have HBLD := Lib.hid hbld
    have HBEL := Lib.hid hbel
    have HSW := Lib.hid (show b ≤ wr.heap.size by have := hbel.size; rw [HWB.out] at this; exact this)
    have H0 := Lib.hid ((hbel.block g0 HGB.out.1).trans HG0.out)
    have H1 := Lib.hid ((hbel.block g1 HGB.out.2).trans HG1.out)
    clear hbld hbel
    by_cases hlt : k < 16
    · have HL0 := Lib.hid (Nat.lt_of_lt_of_le HGB.out.1 HSW.out)
      have HL1 := Lib.hid (Nat.lt_of_lt_of_le HGB.out.2 HSW.out)
      have HLB := Lib.hid (show b < wr.heap.size by rcases HBLD.out with h | h <;> exact h.lt)
      have HSE := Lib.hid (fun w => HSEC.out k hlt w)
      have HBI := Lib.hid (fun w => HBIT.out k hlt w)
      have hkl := HKL.out k
      have hx2 := HBL.out k
      have hsf : signF seed m k = (secF seed (2 * k + bitF m k), markF (secF seed (2 * k + (1 - bitF m k)))) := rfl
      obtain ⟨x, hx⟩ : ∃ x, bitF m k = x := ⟨_, rfl⟩
      obtain ⟨y, hy⟩ : ∃ y, 1 - x = y := ⟨_, rfl⟩
      rw [hx] at HBI hx2 hsf
      rw [hy] at hsf
      have HMA := Lib.hid (fun w => HMK.out (2 * k + y) w)
      obtain ⟨S0, hS0⟩ : ∃ S : ByteArray, (⟨(secF seed (2 * k)).toArray⟩ : ByteArray) = S := ⟨_, rfl⟩
      obtain ⟨S1, hS1⟩ : ∃ S : ByteArray, (⟨(secF seed (2 * k + 1)).toArray⟩ : ByteArray) = S := ⟨_, rfl⟩
      rw [hS0, hS1] at HSE
      have HCX := Lib.hid (show (#[Value.string S0, Value.string S1] : Array Value)[x]? = some (.string ⟨(secF seed (2 * k + x)).toArray⟩) by
        have : x = 0 ∨ x = 1 := by omega
        rcases this with rfl | rfl
        · rw [← hS0]; rfl
        · rw [← hS1]; rfl)
      have HCY := Lib.hid (show (#[Value.string S0, Value.string S1] : Array Value)[y]? = some (.string ⟨(secF seed (2 * k + y)).toArray⟩) by
        have : y = 0 ∨ y = 1 := by omega
        rcases this with rfl | rfl
        · rw [← hS0]; rfl
        · rw [← hS1]; rfl)
      have HX := Lib.hid (text_len (secF seed (2 * k + x)) rfl)
      have HXC := Lib.hid (strCells_mk (secF seed (2 * k + x)))
      have HM := Lib.hid (text_len (markF (secF seed (2 * k + y))) rfl)
      have HMC := Lib.hid (strCells_mk (markF (secF seed (2 * k + y))))
      obtain ⟨PX, hPX⟩ : ∃ S : ByteArray, (⟨(secF seed (2 * k + x)).toArray⟩ : ByteArray) = S := ⟨_, rfl⟩
      obtain ⟨PY, hPY⟩ : ∃ S : ByteArray, (⟨(secF seed (2 * k + y)).toArray⟩ : ByteArray) = S := ⟨_, rfl⟩
      obtain ⟨MY, hMY⟩ : ∃ S : ByteArray, (⟨(markF (secF seed (2 * k + y))).toArray⟩ : ByteArray) = S := ⟨_, rfl⟩
      rw [hPX] at HCX HX HXC
      rw [hPY] at HCY
      rw [hPY, hMY] at HMA
      rw [hMY] at HM HMC
      have HSF := Lib.hid hsf
      have HKK := Lib.hid hkl
      have HDA := Lib.hid (row2_one S0 S1)
      have hk0 : (0 : Int) ≤ (k : Int) := by omega
      have hki : (k : Int) < 16 := by omega
      have hx0 : (0 : Int) ≤ (x : Int) := by omega
      have hxi : (x : Int) < 2 := by omega
      have hy0 : (0 : Int) ≤ (y : Int) := by omega
      have hyi : (y : Int) < 2 := by omega
      have hxy : (1 : Int) - (x : Int) = (y : Int) := by omega
      clear hkl hsf hS0 hS1 hPX hPY hMY hx hy
      go_wp2_with fail
      refine QT.wp_region_facts_tail 7 (by kernel_rfl) (fun w' => Below wr.heap.size wr w') (fun n v w' => (([.val (.agg CS), .val (.int .i64 k), .val (.agg #[.string S0, .string S1]), .val (.agg CM), .val (.int .i64 k), .val (.int .i64 x), .fresh wr.heap.size #[.string ⟨#[]⟩, .string ⟨#[]⟩] 75] : List Fact).getD n (.val undef) : Fact).holds v w') (by kernel_rfl) (by kernel_rfl) (Below.refl _ _).drew (fun w1 w2 h1 hb => h1.trans (hb.mono h1.size)) (fun n v w1 w2 h hb => Fact.kept _ v w1 w2 h hb) (fun n o hn ho a wz hI hag hdep => ?_) (fun a wz hI hag hf => ?_)
      · have t6 : a.eval (.tmp 6) = .int .i64 k := hag.old 6 _ (by kernel_rfl) rfl
        have t2 : a.eval (.tmp 2) = .pointer (some ⟨g0, 0, none⟩) := hag.old 2 _ (by kernel_rfl) rfl
        have t3 : a.eval (.tmp 3) = .pointer (some ⟨g1, 0, none⟩) := hag.old 3 _ (by kernel_rfl) rfl
        match n, ho with
        | 0, ho =>
          obtain rfl := (Option.some.inj ho).symm
          exact ⟨rfl, wp_load_row 23 (.tmp 2) rfl g0 t2 23 CS (0, 0) _ ((hI.block g0 HL0.out).trans H0.out) Try.underlying23 rfl HRS.out.info ⟨_, rfl, rfl, Below.refl _ _⟩⟩
        | 1, ho =>
          obtain rfl := (Option.some.inj ho).symm
          exact ⟨rfl, QT.wp_value (BigFrame.run_move (.tmp 6) rfl wz) ⟨_, rfl, t6, Below.refl _ _⟩⟩
        | 2, ho =>
          obtain rfl := (Option.some.inj ho).symm
          have d12 : a.eval (.tmp 12) = .agg CS := hdep _ (Array.mem_of_getElem? (i := 0) rfl) rfl _ _ rfl rfl
          have d13 : a.eval (.tmp 13) = .int .i64 k := hdep _ (Array.mem_of_getElem? (i := 1) rfl) rfl _ _ rfl rfl
          exact ⟨rfl, QT.wp_enter (f := 55) (args := #[.agg CS, .int .i64 k]) (by simp [go_sem, QT.nf d12, QT.nf d13]) (HSE.out wz) fun w' hb => ⟨_, rfl, rfl, hb⟩⟩
        | 3, ho =>
          obtain rfl := (Option.some.inj ho).symm
          exact ⟨rfl, wp_load_row 23 (.tmp 3) rfl g1 t3 23 CM (0, 0) _ ((hI.block g1 HL1.out).trans H1.out) Try.underlying23 rfl HRM.out.info ⟨_, rfl, rfl, Below.refl _ _⟩⟩
        | 4, ho =>
          obtain rfl := (Option.some.inj ho).symm
          exact ⟨rfl, QT.wp_value (BigFrame.run_move (.tmp 6) rfl wz) ⟨_, rfl, t6, Below.refl _ _⟩⟩
        | 5, ho =>
          obtain rfl := (Option.some.inj ho).symm
          have d15 : a.eval (.tmp 15) = .agg CM := hdep _ (Array.mem_of_getElem? (i := 0) rfl) rfl _ _ rfl rfl
          have d16 : a.eval (.tmp 16) = .int .i64 k := hdep _ (Array.mem_of_getElem? (i := 1) rfl) rfl _ _ rfl rfl
          exact ⟨rfl, QT.wp_enter (f := 56) (args := #[.agg CM, .int .i64 k]) (by simp [go_sem, QT.nf d15, QT.nf d16]) (HBI.out wz) fun w' hb => ⟨_, rfl, rfl, hb⟩⟩
        | 6, ho =>
          obtain rfl := (Option.some.inj ho).symm
          exact ⟨rfl, wp_runTo (.pointer (some ⟨wz.heap.size, 0, none⟩)) (wz.alloc (.cells #[.string ⟨#[]⟩, .string ⟨#[]⟩] 75)) (by kernel_rfl) ⟨_, rfl, ⟨_, rfl, hI.size, heap_alloc_new _ _⟩, (Below.refl _ _).alloc (Nat.le_refl _) _⟩⟩
        | n + 7, ho => omega
      · have f0 : a.eval (.tmp 12) = .agg CS := hf 0 _ _ (by omega) rfl rfl
        have f1 : a.eval (.tmp 13) = .int .i64 k := hf 1 _ _ (by omega) rfl rfl
        have f2 : a.eval (.tmp 14) = .agg #[.string S0, .string S1] := hf 2 _ _ (by omega) rfl rfl
        have f3 : a.eval (.tmp 15) = .agg CM := hf 3 _ _ (by omega) rfl rfl
        have f4 : a.eval (.tmp 16) = .int .i64 k := hf 4 _ _ (by omega) rfl rfl
        have f5 : a.eval (.tmp 17) = .int .i64 x := hf 5 _ _ (by omega) rfl rfl
        have f6' : ((.fresh wr.heap.size #[.string ⟨#[]⟩, .string ⟨#[]⟩] 75) : Fact).holds (a.eval (.tmp 7)) wz := hf 6 _ _ (by omega) rfl rfl
        obtain ⟨q6, f6, y6⟩ := f6'
        have ha := hag.puts [(12, .agg CS), (13, .int .i64 k), (14, .agg #[.string S0, .string S1]), (15, .agg CM), (16, .int .i64 k), (17, .int .i64 x), (7, .pointer (some ⟨q6, 0, none⟩))] rfl (by simp) (by simp only [List.forall_mem_cons, List.not_mem_nil, false_implies, implies_true, and_true]; exact ⟨f0, f1, f2, f3, f4, f5, f6⟩)
        subst ha
        clear hag hf f0 f1 f2 f3 f4 f5 f6
        simp only [List.foldl_cons, List.foldl_nil, Act.put, List.drop_succ_cons, List.drop_zero, List.setIfInBounds_toArray, List.set_cons_succ, List.set_cons_zero]
        have hq7 : q6 < wz.heap.size := (Array.getElem?_eq_some_iff.1 y6.2).1
        have HQ := Lib.hid y6.2
        have HQL := Lib.hid y6.1
        have HI := Lib.hid hI
        clear y6 hI
        obtain ⟨D, hD⟩ : ∃ D : Array Value, #[.string S0, .string S1] = D := ⟨_, rfl⟩
        have HDI := Lib.hid (show (Try.prog.info? 75).map (·.size) = some D.size by rw [← hD]; exact info77)
        have HDS := Lib.hid (show 2 = D.size by rw [← hD]; rfl)
        rw [hD] at HDA HCX HCY
        rw [hD]
        clear hD
        go_upto_region 6 with (refine wpList_store_row rfl 75 (.tmp 7) (.tmp 14) rfl q6 D rfl rfl 75 _ HQ.out HDI.out HDS.out HDA.out ?_)
        have HD := Lib.hid (setRow_heap _ _ _ D _ _ HQ.out)
        have HB2 := Lib.hid (below_setRow HI.out HQL.out D)
        have HL2 := Lib.hid (show q6 < (wz.setRow q6 D).heap.size by rw [setRow_size]; exact hq7)
        generalize wz.setRow q6 D = w2 at HD HB2 HL2 ⊢
        have hbld2 := builder_kept HBLD.out HB2.out
        have hap := Bld.apart_new (k := q6) (w' := w2) HBLD.out HQL.out (HB2.out.block b HLB.out)
        have HWK := Lib.hid (Bld.write_keep b b _ PX _ hbld2 (by rw [Lib.byteCells_length, HKK.out, HX.out]; omega) (Nat.le_trans HSW.out HB2.out.size) q6 HL2.out (by have := HQL.out; have := HLB.out; omega) hap)
        have hcx : w2.cell? ⟨q6, x, none⟩ = some (.string PX) := by rw [Lib.cell_of_heap HD.out]; exact HCX.out
        clear hbld2 hap hq7
        go_wp2_with fail
        refine HWK.out.mono ?_
        rintro e w3 ⟨rfl, ⟨hat3, hb3⟩, hk3⟩
        have hcy : w3.cell? ⟨q6, y, none⟩ = some (.string PY) := by rw [Lib.cell_of_heap (hk3.trans HD.out)]; exact HCY.out
        have HAT3 := Lib.hid hat3
        have HB3 := Lib.hid ((HB2.out.mono HSW.out).trans hb3)
        clear hat3 hb3 hk3 hcx
        go_wp2_with fail
        refine (HMA.out _).mono ?_
        rintro e w4 ⟨rfl, hb4⟩
        have hsz3 : b ≤ w3.heap.size := Nat.le_trans HSW.out HB3.out.size
        have HWN := Lib.hid (Bld.write_any b b _ MY w4 (builder_kept (Or.inr HAT3.out) hb4) (by rw [List.length_append, Lib.byteCells_length, Lib.strCells_length, HKK.out, HX.out, HM.out]; omega) (Nat.le_trans hsz3 hb4.size))
        have HB4 := Lib.hid (HB3.out.trans (hb4.mono hsz3))
        clear hb4 hsz3 hcy
        go_wp2_with fail
        refine HWN.out.mono ?_
        rintro e w5 ⟨rfl, hat5, hb5⟩
        have HAT5 := Lib.hid hat5
        have HB5 := Lib.hid (HB4.out.trans hb5)
        clear hat5 hb5
        go_wp2_with fail
        go_roundw
        case rel => exact ⟨k + 1, by omega, by go_num, Or.inr (by
          have h := HAT5.out
          rw [HXC.out, HMC.out, ← Lib.byteCells_append, ← Lib.byteCells_append, List.append_assoc] at h
          have e : keyA (signF seed m) (k + 1) = keyA (signF seed m) k ++ (secF seed (2 * k + x) ++ markF (secF seed (2 * k + y))) := by
            conv => lhs; unfold keyA
            rw [HSF.out]
          rw [e]
          exact h), HBEL.out.trans HB5.out⟩
        case measure => simp [intOf]; omega
    · obtain rfl : k = 16 := by omega
      have HST := Lib.hid (Try.Builder_String_any b b (keyA (signF seed m) 16) wr HBLD.out HSW.out)
      rw [show keyA (signF seed m) 16 = signK seed m from rfl] at HST
      obtain ⟨T, hT⟩ : ∃ T : ByteArray, (⟨(signK seed m).toArray⟩ : ByteArray) = T := ⟨_, rfl⟩
      rw [hT] at HST
      have HT := Lib.hid hT
      clear hT
      go_wp2_with fail
      refine HST.out.mono ?_
      rintro e w3 ⟨rfl, hb3⟩
      have HB3 := Lib.hid ((HBW.out.trans (HBEL.out.mono (Nat.le_of_lt HGB.out.1))).trans (hb3.mono (Nat.le_of_lt HGB.out.1)))
      clear hb3
      go_wp2_with fail
      go_ret
      exact ⟨by rw [HT.out]; rfl, HW0.out ▸ HB3.out⟩

end Go.Proofs.Ytpifjeghoapjbaa.Once

namespace Go.Proofs.Ytpifjeghoapjbaa.Once
open Go.RowKit Go.Proofs.Ytpifjeghoapjbaa.Sha Go.Proofs.Ytpifjeghoapjbaa.Tree

theorem mk_data (p : ByteArray) : (⟨p.data.toList.toArray⟩ : ByteArray) = p := by
  cases p
  simp
theorem list_size (p : ByteArray) : p.data.toList.length = p.size := by rw [Array.length_toList]; rfl
theorem code_mark' (p : ByteArray) (hp : p.size = 32) (w : World) :
    Calls Try.prog 57 #[.string p] w fun e w' => e = .returned (.string ⟨(markF p.data.toList).toArray⟩) ∧ Below w.heap.size w w' := by
  have h := code_mark p.data.toList (by rw [list_size, hp]) w
  rw [mk_data] at h
  exact h
theorem half_first (sig : ByteArray) (i : Nat) : ((sig.extract (64 * i) (64 * i + 64)).extract 0 32).data.toList = halfA sig.data.toList i := by
  rw [Lib.extract_data, Lib.extract_data, List.drop_zero, Nat.sub_zero, List.take_take]
  unfold halfA
  congr 1
  omega
theorem half_last (sig : ByteArray) (i : Nat) : ((sig.extract (64 * i) (64 * i + 64)).extract 32 64).data.toList = halfB sig.data.toList i := by
  rw [Lib.extract_data, Lib.extract_data, List.drop_take, List.drop_drop]
  unfold halfB
  rw [List.take_take]
  congr 1
  omega
theorem extract_size (sig : ByteArray) (a b : Nat) (h1 : a ≤ b) (h2 : b ≤ sig.size) : (sig.extract a b).size = b - a := by
  rw [ByteArray.size_extract]
  omega
def tellRow (A B : ByteArray) (x : Nat) : Array Value := if x = 0 then #[.string A, .string B] else #[.string B, .string A]
theorem tellRow_set (A B : ByteArray) (x y : Nat) (hx : x < 2) (hy : y = 1 - x) : ((#[Value.string ⟨#[]⟩, Value.string ⟨#[]⟩] : Array Value).setIfInBounds x (.string A)).setIfInBounds y (.string B) = tellRow A B x := by
  subst hy
  have : x = 0 ∨ x = 1 := by omega
  rcases this with rfl | rfl <;> rfl

set_option maxRecDepth 100000 in
set_option maxHeartbeats 3200000 in
theorem code_tell1 (m : List UInt8) (hm : m.length = 32) (sig : ByteArray) (hsz : sig.size = 1024) (g0 g1 : Nat) (i : Nat) (hi : i < 16) (w : World) (h0 : w.heap[g0]? = some (.cells #[.string sig] 9 (0, 0))) (h1 : w.heap[g1]? = some (.cells (valsB m).toArray 23 (0, 0))) :
    Calls Try.prog 63 #[.int .i64 i, .pointer (some ⟨g0, 0, none⟩), .pointer (some ⟨g1, 0, none⟩)] w fun e w' => e = .returned (.agg #[.string ⟨(tellF m sig.data.toList i).1.toArray⟩, .string ⟨(tellF m sig.data.toList i).2.toArray⟩]) ∧ Below w.heap.size w w' := by
  have HBI := Lib.hid (fun w => code_bit m hm i hi w)
  have HRM := Lib.hid (row32 m hm)
  have hx2 := bitF_lt m i
  have hps : (sig.extract (64 * i) (64 * i + 64)).size = 64 := by rw [extract_size _ _ _ (by omega) (by omega)]; omega
  have hqs : ((sig.extract (64 * i) (64 * i + 64)).extract 0 32).size = 32 := by rw [extract_size _ _ _ (by omega) (by omega)]
  have HMA := Lib.hid (fun w => code_mark' _ hqs w)
  have hA := half_first sig i
  have hB := half_last sig i
  have htf : (#[.string ⟨(tellF m sig.data.toList i).1.toArray⟩, .string ⟨(tellF m sig.data.toList i).2.toArray⟩] : Array Value) = tellRow ⟨(markF (halfA sig.data.toList i)).toArray⟩ ⟨(halfB sig.data.toList i).toArray⟩ (bitF m i) := by
    unfold tellF tellRow
    by_cases h : bitF m i = 0
    · rw [if_pos h, if_pos h]
    · rw [if_neg h, if_neg h]
  rw [htf, ← hA, ← hB, mk_data]
  clear htf hA hB
  obtain ⟨CM, hCM⟩ : ∃ C, (valsB m).toArray = C := ⟨_, rfl⟩
  rw [hCM] at HBI HRM h1
  obtain ⟨x, hx⟩ : ∃ x, bitF m i = x := ⟨_, rfl⟩
  rw [hx] at HBI hx2
  rw [hx]
  obtain ⟨j, hj⟩ : ∃ j, 64 * i = j := ⟨_, rfl⟩
  obtain ⟨j2, hj2⟩ : ∃ x, j + 64 = x := ⟨_, rfl⟩
  rw [hj, hj2] at hps hqs HMA
  rw [hj, hj2]
  obtain ⟨P, hP⟩ : ∃ P, sig.extract j j2 = P := ⟨_, rfl⟩
  rw [hP] at hps hqs HMA
  rw [hP]
  obtain ⟨PA, hPA⟩ : ∃ p, P.extract 0 32 = p := ⟨_, rfl⟩
  obtain ⟨PB, hPB⟩ : ∃ p, P.extract 32 64 = p := ⟨_, rfl⟩
  rw [hPA] at HMA
  rw [hPA, hPB]
  obtain ⟨M, hM⟩ : ∃ p : ByteArray, (⟨(markF PA.data.toList).toArray⟩ : ByteArray) = p := ⟨_, rfl⟩
  rw [hM] at HMA
  rw [hM]
  obtain ⟨y, hy⟩ : ∃ y, 1 - x = y := ⟨_, rfl⟩
  have HTR := Lib.hid (tellRow_set M PB x y hx2 hy.symm)
  have H0' := Lib.hid h0
  have H1' := Lib.hid h1
  have hgl0 : g0 < w.heap.size := (Array.getElem?_eq_some_iff.1 h0).1
  have hgl1 : g1 < w.heap.size := (Array.getElem?_eq_some_iff.1 h1).1
  have hji : (64 : Int) * (i : Int) = (j : Int) := by omega
  have hj2i : (j : Int) + 64 = (j2 : Int) := by omega
  have hwj : IntKind.i64.wrap (j : Int) = (j : Int) := by unfold IntKind.wrap; simp [IntKind.bits, IntKind.signed]; omega
  have hwj2 : IntKind.i64.wrap (j2 : Int) = (j2 : Int) := by unfold IntKind.wrap; simp [IntKind.bits, IntKind.signed]; omega
  have hj0 : (0 : Int) ≤ (j : Int) := by omega
  have hjj2 : (j : Int) ≤ (j2 : Int) := by omega
  have hj2s : (j2 : Int) ≤ 1024 := by omega
  have hx0 : (0 : Int) ≤ (x : Int) := by omega
  have hxi : (x : Int) < 2 := by omega
  have hy0 : (0 : Int) ≤ (y : Int) := by omega
  have hyi : (y : Int) < 2 := by omega
  have hxy : (1 : Int) - (x : Int) = (y : Int) := by omega
  obtain ⟨D, hD⟩ : ∃ D, tellRow M PB x = D := ⟨_, rfl⟩
  rw [hD] at HTR
  rw [hD]
  have HDS := Lib.hid (show 2 = D.size by rw [← hD]; unfold tellRow; split <;> rfl)
  have HDA := Lib.hid (show D.all (·.oneCell') = true by rw [← hD]; unfold tellRow; split <;> exact row2_one _ _)
  have HDI := Lib.hid (show (Try.prog.info? 75).map (·.size) = some D.size by rw [← HDS.out]; exact info77)
  have hyne : y ≠ x := by omega
  obtain ⟨ov, hov⟩ : ∃ v, ((#[Value.string ⟨#[]⟩, Value.string ⟨#[]⟩] : Array Value).setIfInBounds x (.string M))[y]? = some v := by
    have : x = 0 ∨ x = 1 := by omega
    rcases this with rfl | rfl <;> (subst hy; exact ⟨_, rfl⟩)
  obtain ⟨ou, hou⟩ : ∃ v, (#[Value.string ⟨#[]⟩, Value.string ⟨#[]⟩] : Array Value)[x]? = some v := by
    have : x = 0 ∨ x = 1 := by omega
    rcases this with rfl | rfl <;> exact ⟨_, rfl⟩
  have HOV := Lib.hid hov
  have HOU := Lib.hid hou
  have HPS := Lib.hid hps
  clear hCM hx hj hj2 h0 h1 hM hy hD hqs hov hou hyne hx2
  go_enter Try.func63, Try.ntmps63
  go_upto_region 1 with (fail)
  have e0 : ∀ T, w.alloc (.cells #[.string ByteArray.empty, .string ByteArray.empty] T) = w.alloc (.cells #[.string ⟨#[]⟩, .string ⟨#[]⟩] T) := fun _ => rfl
  try rw [e0]
  clear e0
  have HT := Lib.hid (heap_alloc_new w (.cells #[.string ⟨#[]⟩, .string ⟨#[]⟩] 75))
  have HBW := Lib.hid (show Below w.heap.size w (w.alloc (.cells #[.string ⟨#[]⟩, .string ⟨#[]⟩] 75)) from (Below.refl _ _).alloc (Nat.le_refl _) _)
  have hW : w.heap.size < (w.alloc (.cells #[.string ⟨#[]⟩, .string ⟨#[]⟩] 75)).heap.size := by simp
  obtain ⟨g3, hg3⟩ : ∃ x, w.heap.size = x := ⟨_, rfl⟩
  rw [hg3] at HT HBW hW hgl0 hgl1
  rw [hg3]
  have H3 := Lib.hid hg3
  generalize w.alloc (.cells #[.string ⟨#[]⟩, .string ⟨#[]⟩] 75) = W at HT HBW hW ⊢
  have H0 := Lib.hid ((HBW.out.block g0 hgl0).trans H0'.out)
  have H1 := Lib.hid ((HBW.out.block g1 hgl1).trans H1'.out)
  have HL0 := Lib.hid (Nat.lt_trans hgl0 hW)
  have HL1 := Lib.hid (Nat.lt_trans hgl1 hW)
  have HWS := Lib.hid hW
  clear hg3 hW hgl0 hgl1
  go_wp2_with fail
  refine QT.wp_region_facts (by kernel_rfl) (fun w' => Below W.heap.size W w') (fun n v w' => (([.val (.string sig), .val (.int .i64 i), .val (.int .i64 j), .val (.int .i64 i), .val (.int .i64 j), .val (.int .i64 j2), .val (.string P), .val (.agg CM), .val (.int .i64 i), .val (.int .i64 x), .val (.string P), .val (.int .i64 x)] : List Fact).getD n (.val undef) : Fact).holds v w') (by kernel_rfl) (by kernel_rfl) (Below.refl _ _).drew (fun w1 w2 h1 hb => h1.trans (hb.mono h1.size)) (fun n v w1 w2 h hb => Fact.kept _ v w1 w2 h hb) (fun n o ho a wz hI hag hdep => ?_) (fun a wz hI hag hf => ?_)
  · have t0 : a.eval (.tmp 0) = .int .i64 i := hag.old 0 _ (by kernel_rfl) rfl
    have t1 : a.eval (.tmp 1) = .pointer (some ⟨g0, 0, none⟩) := hag.old 1 _ (by kernel_rfl) rfl
    have t2 : a.eval (.tmp 2) = .pointer (some ⟨g1, 0, none⟩) := hag.old 2 _ (by kernel_rfl) rfl
    have c0 : wz.cell? ⟨g0, 0, none⟩ = some (.string sig) := by rw [Lib.cell_of_heap ((hI.block g0 HL0.out).trans H0.out)]; rfl
    match n, ho with
    | 0, ho =>
      obtain rfl := (Option.some.inj ho).symm
      exact ⟨rfl, QT.wp_value (v := .string sig) (by simp [go_sem, QT.nf t1, c0]) ⟨_, rfl, rfl, Below.refl _ _⟩⟩
    | 1, ho =>
      obtain rfl := (Option.some.inj ho).symm
      exact ⟨rfl, QT.wp_value (BigFrame.run_move (.tmp 0) rfl wz) ⟨_, rfl, t0, Below.refl _ _⟩⟩
    | 2, ho =>
      obtain rfl := (Option.some.inj ho).symm
      have d8 : a.eval (.tmp 8) = .int .i64 i := hdep _ (Array.mem_of_getElem? (i := 0) rfl) rfl _ _ rfl rfl
      exact ⟨rfl, QT.wp_value (v := .int .i64 j) (by simp [go_sem, QT.nf d8, hji, hwj]) ⟨_, rfl, rfl, Below.refl _ _⟩⟩
    | 3, ho =>
      obtain rfl := (Option.some.inj ho).symm
      exact ⟨rfl, QT.wp_value (BigFrame.run_move (.tmp 0) rfl wz) ⟨_, rfl, t0, Below.refl _ _⟩⟩
    | 4, ho =>
      obtain rfl := (Option.some.inj ho).symm
      have d10 : a.eval (.tmp 10) = .int .i64 i := hdep _ (Array.mem_of_getElem? (i := 0) rfl) rfl _ _ rfl rfl
      exact ⟨rfl, QT.wp_value (v := .int .i64 j) (by simp [go_sem, QT.nf d10, hji, hwj]) ⟨_, rfl, rfl, Below.refl _ _⟩⟩
    | 5, ho =>
      obtain rfl := (Option.some.inj ho).symm
      have d11 : a.eval (.tmp 11) = .int .i64 j := hdep _ (Array.mem_of_getElem? (i := 0) rfl) rfl _ _ rfl rfl
      exact ⟨rfl, QT.wp_value (v := .int .i64 j2) (by simp [go_sem, QT.nf d11, hj2i, hwj2]) ⟨_, rfl, rfl, Below.refl _ _⟩⟩
    | 6, ho =>
      obtain rfl := (Option.some.inj ho).symm
      have d7 : a.eval (.tmp 7) = .string sig := hdep _ (Array.mem_of_getElem? (i := 0) rfl) rfl _ _ rfl rfl
      have d9 : a.eval (.tmp 9) = .int .i64 j := hdep _ (Array.mem_of_getElem? (i := 1) rfl) rfl _ _ rfl rfl
      have d12 : a.eval (.tmp 12) = .int .i64 j2 := hdep _ (Array.mem_of_getElem? (i := 2) rfl) rfl _ _ rfl rfl
      exact ⟨rfl, QT.wp_value (v := .string P) (by simp [go_sem, QT.nf d7, QT.nf d9, QT.nf d12, hsz, hj0, hjj2, hj2s, hP]) ⟨_, rfl, rfl, Below.refl _ _⟩⟩
    | 7, ho =>
      obtain rfl := (Option.some.inj ho).symm
      exact ⟨rfl, wp_load_row 23 (.tmp 2) rfl g1 t2 23 CM (0, 0) _ ((hI.block g1 HL1.out).trans H1.out) Try.underlying23 rfl HRM.out.info ⟨_, rfl, rfl, Below.refl _ _⟩⟩
    | 8, ho =>
      obtain rfl := (Option.some.inj ho).symm
      exact ⟨rfl, QT.wp_value (BigFrame.run_move (.tmp 0) rfl wz) ⟨_, rfl, t0, Below.refl _ _⟩⟩
    | 9, ho =>
      obtain rfl := (Option.some.inj ho).symm
      have d14 : a.eval (.tmp 14) = .agg CM := hdep _ (Array.mem_of_getElem? (i := 0) rfl) rfl _ _ rfl rfl
      have d15 : a.eval (.tmp 15) = .int .i64 i := hdep _ (Array.mem_of_getElem? (i := 1) rfl) rfl _ _ rfl rfl
      exact ⟨rfl, QT.wp_enter (f := 56) (args := #[.agg CM, .int .i64 i]) (by simp [go_sem, QT.nf d14, QT.nf d15]) (HBI.out wz) fun w' hb => ⟨_, rfl, rfl, hb⟩⟩
    | 10, ho =>
      obtain rfl := (Option.some.inj ho).symm
      have d13 : a.eval (.tmp 13) = .string P := hdep _ (Array.mem_of_getElem? (i := 0) rfl) rfl _ _ rfl rfl
      exact ⟨rfl, QT.wp_value (BigFrame.run_assign (.tmp 13) rfl wz) ⟨_, rfl, d13, Below.refl _ _⟩⟩
    | 11, ho =>
      obtain rfl := (Option.some.inj ho).symm
      have d16 : a.eval (.tmp 16) = .int .i64 x := hdep _ (Array.mem_of_getElem? (i := 0) rfl) rfl _ _ rfl rfl
      exact ⟨rfl, QT.wp_value (BigFrame.run_assign (.tmp 16) rfl wz) ⟨_, rfl, d16, Below.refl _ _⟩⟩
    | n + 12, ho => simp at ho
  · have f0 : a.eval (.tmp 7) = .string sig := hf 0 _ _ rfl rfl
    have f1 : a.eval (.tmp 8) = .int .i64 i := hf 1 _ _ rfl rfl
    have f2 : a.eval (.tmp 9) = .int .i64 j := hf 2 _ _ rfl rfl
    have f3 : a.eval (.tmp 10) = .int .i64 i := hf 3 _ _ rfl rfl
    have f4 : a.eval (.tmp 11) = .int .i64 j := hf 4 _ _ rfl rfl
    have f5 : a.eval (.tmp 12) = .int .i64 j2 := hf 5 _ _ rfl rfl
    have f6 : a.eval (.tmp 13) = .string P := hf 6 _ _ rfl rfl
    have f7 : a.eval (.tmp 14) = .agg CM := hf 7 _ _ rfl rfl
    have f8 : a.eval (.tmp 15) = .int .i64 i := hf 8 _ _ rfl rfl
    have f9 : a.eval (.tmp 16) = .int .i64 x := hf 9 _ _ rfl rfl
    have f10 : a.eval (.tmp 5) = .string P := hf 10 _ _ rfl rfl
    have f11 : a.eval (.tmp 6) = .int .i64 x := hf 11 _ _ rfl rfl
    have ha := hag.puts [(7, .string sig), (8, .int .i64 i), (9, .int .i64 j), (10, .int .i64 i), (11, .int .i64 j), (12, .int .i64 j2), (13, .string P), (14, .agg CM), (15, .int .i64 i), (16, .int .i64 x), (5, .string P), (6, .int .i64 x)] rfl (by simp) (by simp only [List.forall_mem_cons, List.not_mem_nil, false_implies, implies_true, and_true]; exact ⟨f0, f1, f2, f3, f4, f5, f6, f7, f8, f9, f10, f11⟩)
    subst ha
    clear hag hf f0 f1 f2 f3 f4 f5 f6 f7 f8 f9 f10 f11
    simp only [List.foldl_cons, List.foldl_nil, Act.put, List.setIfInBounds_toArray, List.set_cons_succ, List.set_cons_zero]
    have HI := Lib.hid hI
    clear hI
    have hP32 : (32 : Int) ≤ (P.size : Int) := by rw [HPS.out]; decide
    go_wp2_with fail
    refine (HMA.out _).mono ?_
    rintro e w3 ⟨rfl, hb3⟩
    have HB3 := Lib.hid (HI.out.trans (hb3.mono HI.out.size))
    clear hb3
    have HT3 := Lib.hid ((HB3.out.block g3 HWS.out).trans HT.out)
    have hc3 : w3.cell? ⟨g3, x, none⟩ = some ou := by rw [Lib.cell_of_heap HT3.out]; exact HOU.out
    have hf3 : w3.frozen? ⟨g3, x, none⟩ = false := Lib.frozen_of_heap HT3.out x
    have HSET := Lib.hid (setCell_eq_setRow w3 g3 x _ _ _ (.string M) HT3.out)
    have HT4 := Lib.hid (setRow_heap _ _ _ ((#[Value.string ⟨#[]⟩, Value.string ⟨#[]⟩] : Array Value).setIfInBounds x (.string M)) _ _ HT3.out)
    have HB4 := Lib.hid (below_setRow (HBW.out.trans (HB3.out.mono (Nat.le_of_lt HWS.out))) (Nat.le_refl _) ((#[Value.string ⟨#[]⟩, Value.string ⟨#[]⟩] : Array Value).setIfInBounds x (.string M)))
    go_upto_region 3 with (fail)
    rw [HSET.out]
    generalize w3.setRow g3 ((#[Value.string ⟨#[]⟩, Value.string ⟨#[]⟩] : Array Value).setIfInBounds x (.string M)) = w4 at HT4 HB4 ⊢
    have hc4 : w4.cell? ⟨g3, y, none⟩ = some ov := by rw [Lib.cell_of_heap HT4.out]; exact HOV.out
    have hf4 : w4.frozen? ⟨g3, y, none⟩ = false := Lib.frozen_of_heap HT4.out y
    have HSET4 := Lib.hid (setCell_eq_setRow w4 g3 y _ _ _ (.string PB) HT4.out)
    rw [HTR.out] at HSET4
    have HT5 := Lib.hid (setRow_heap _ _ _ D _ _ HT4.out)
    have HB5 := Lib.hid (below_setRow HB4.out (Nat.le_refl _) D)
    clear hc3 hf3
    have hps64 : P.size = 64 := HPS.out
    go_upto_region 4 with (fail)
    rw [HSET4.out]
    generalize w4.setRow g3 D = w5 at HT5 HB5 ⊢
    have HSELF := Lib.hid (setRow_self w5 g3 D 75 (0, 0) HT5.out)
    clear hc4 hf4
    go_wp2_with (first
      | (refine wpList_load_row rfl 75 (.tmp 4) rfl g3 rfl 75 D (0, 0) _ HT5.out Try.underlying75 rfl HDI.out ?_)
      | (refine wpList_store_row rfl 75 (.tmp 4) (.tmp 27) rfl g3 D rfl rfl 75 D HT5.out HDI.out rfl HDA.out ?_; rw [HSELF.out]))
    refine bodyPost_ret (results_cell_row (p := 4) (ty := 75) Try.results63 _ _ g3 75 D (0, 0) _ rfl HT5.out Try.underlying75 rfl HDI.out) rfl ⟨rfl, H3.out ▸ HB5.out⟩

end Go.Proofs.Ytpifjeghoapjbaa.Once

namespace Go.Proofs.Ytpifjeghoapjbaa.Once
open Go.RowKit Go.Proofs.Ytpifjeghoapjbaa.Sha Go.Proofs.Ytpifjeghoapjbaa.Tree

/-- Three blocks laid one behind the other. -/
theorem three_old (w : World) (a b c : Obj) : (((w.alloc a).alloc b).alloc c).heap[w.heap.size]? = some a := by
  have h := heap_alloc2_old w a b
  have hb : Below ((w.alloc a).alloc b).heap.size ((w.alloc a).alloc b) (((w.alloc a).alloc b).alloc c) := (Below.refl _ _).alloc (Nat.le_refl _) _
  rw [hb.block _ (by simp; omega)]
  exact h
theorem three_mid (w : World) (a b c : Obj) : (((w.alloc a).alloc b).alloc c).heap[w.heap.size + 1]? = some b := by
  have h := heap_alloc2_new w a b
  have hb : Below ((w.alloc a).alloc b).heap.size ((w.alloc a).alloc b) (((w.alloc a).alloc b).alloc c) := (Below.refl _ _).alloc (Nat.le_refl _) _
  rw [hb.block _ (by simp)]
  exact h
theorem three_new (w : World) (a b c : Obj) : (((w.alloc a).alloc b).alloc c).heap[w.heap.size + 2]? = some c := by
  have h := heap_alloc_new ((w.alloc a).alloc b) c
  rw [show ((w.alloc a).alloc b).heap.size = w.heap.size + 2 by simp] at h
  exact h
theorem three_below (w : World) (a b c : Obj) : Below w.heap.size w (((w.alloc a).alloc b).alloc c) := (((Below.refl _ _).alloc (Nat.le_refl _) _).alloc (by simp) _).alloc (by simp; omega) _

set_option maxRecDepth 100000 in
set_option maxHeartbeats 3200000 in
theorem code_Tells_no (m : List UInt8) (sig : ByteArray) (hsz : sig.size ≠ 1024) (w : World) :
    Calls Try.prog 45 #[.agg (valsB m).toArray, .string sig] w fun e w' => e = .returned (.tuple #[.agg zeroB, .int .i64 6]) ∧ Below w.heap.size w w' := by
  obtain ⟨CM, hCM⟩ : ∃ C, (valsB m).toArray = C := ⟨_, rfl⟩
  rw [hCM]
  have hlen : ((sig.size : Int) != 1024) = true := by simp; omega
  clear hCM hsz
  go_enter Try.func45, Try.ntmps45
  go_upto_region 1 with (fail)
  rw [zero32]
  obtain ⟨Z, hZ⟩ : ∃ Z, (List.replicate 32 (Value.int .u8 0)).toArray = Z := ⟨_, rfl⟩
  have HZS := Lib.hid (show Z.size = 32 by rw [← hZ]; rfl)
  rw [hZ]
  clear hZ
  have HS := Lib.hid (three_mid w (.cells CM 23) (.cells #[.string sig] 9) (.cells Z 23))
  have HZ := Lib.hid (three_new w (.cells CM 23) (.cells #[.string sig] 9) (.cells Z 23))
  have HB := Lib.hid (three_below w (.cells CM 23) (.cells #[.string sig] 9) (.cells Z 23))
  generalize ((w.alloc (.cells CM 23)).alloc (.cells #[.string sig] 9)).alloc (.cells Z 23) = W at HS HZ HB ⊢
  have hc : W.cell? ⟨w.heap.size + 1, 0, none⟩ = some (.string sig) := by rw [Lib.cell_of_heap HS.out]; rfl
  have HZD := Lib.hid (show Z.size = zeroB.size by rw [HZS.out]; rfl)
  go_wp2_with (first | (refine wpList_build_as rfl 23 _ rfl zeroB (by kernel_rfl) ?_) | (refine wpList_store_row rfl 23 (.tmp 4) (.tmp 10) rfl (w.heap.size + 2) zeroB rfl rfl 23 Z HZ.out zeroB_info HZD.out zeroB_one ?_))
  refine bodyPost_ret (Sha.results_cell_tmp (p := 4) (t := 5) (ty := 23) Try.results45 _ _ (w.heap.size + 2) 23 zeroB (0, 0) _ _ rfl rfl (setRow_heap _ _ _ _ _ _ HZ.out) Try.underlying23 rfl zeroB_info) rfl ⟨rfl, below_setRow HB.out (by omega) _⟩

set_option maxRecDepth 100000 in
set_option maxHeartbeats 3200000 in
theorem code_Tells (m : List UInt8) (hm : m.length = 32) (sig : ByteArray) (hsz : sig.size = 1024) (w : World) :
    Calls Try.prog 45 #[.agg (valsB m).toArray, .string sig] w fun e w' => e = .returned (.tuple #[.agg (valsB (tellK m sig.data.toList)).toArray, .int .i64 0]) ∧ Below w.heap.size w w' := by
  have hls : sig.data.toList.length = 1024 := by rw [list_size, hsz]
  have HK := Lib.hid (fun (g0 g1 : Nat) (w : World) (h0 : w.heap[g0]? = some (.cells #[.string sig] 9 (0, 0))) (h1 : w.heap[g1]? = some (.cells (valsB m).toArray 23 (0, 0))) => code_keyOf_tell (tellF m sig.data.toList) (fun i hi => tellF_len m _ hls i hi) g0 g1 w fun i W hi hb => code_tell1 m hm sig hsz g0 g1 i hi W ((hb.block g0 ((Array.getElem?_eq_some_iff.1 h0).1)).trans h0) ((hb.block g1 ((Array.getElem?_eq_some_iff.1 h1).1)).trans h1))
  rw [show onceF (keyA (tellF m sig.data.toList) 16) = tellK m sig.data.toList from rfl] at HK
  have HRM := Lib.hid (row32 m hm)
  obtain ⟨CM, hCM⟩ : ∃ C, (valsB m).toArray = C := ⟨_, rfl⟩
  rw [hCM] at HRM
  simp only [hCM] at HK
  rw [hCM]
  have HRD := Lib.hid (row32 (tellK m sig.data.toList) rfl)
  obtain ⟨D, hD⟩ : ∃ D, (valsB (tellK m sig.data.toList)).toArray = D := ⟨_, rfl⟩
  rw [hD] at HRD
  simp only [hD] at HK
  rw [hD]
  have hlen : ((sig.size : Int) != 1024) = false := by simp; omega
  clear hCM hD hm hls hsz
  go_enter Try.func45, Try.ntmps45
  go_upto_region 1 with (fail)
  rw [zero32]
  obtain ⟨Z, hZ⟩ : ∃ Z, (List.replicate 32 (Value.int .u8 0)).toArray = Z := ⟨_, rfl⟩
  have HZS := Lib.hid (show Z.size = 32 by rw [← hZ]; rfl)
  have HZE := Lib.hid hZ
  rw [hZ]
  clear hZ
  have HM := Lib.hid (three_old w (.cells CM 23) (.cells #[.string sig] 9) (.cells Z 23))
  have HS := Lib.hid (three_mid w (.cells CM 23) (.cells #[.string sig] 9) (.cells Z 23))
  have HZ := Lib.hid (three_new w (.cells CM 23) (.cells #[.string sig] 9) (.cells Z 23))
  have HB := Lib.hid (three_below w (.cells CM 23) (.cells #[.string sig] 9) (.cells Z 23))
  generalize ((w.alloc (.cells CM 23)).alloc (.cells #[.string sig] 9)).alloc (.cells Z 23) = W at HM HS HZ HB ⊢
  have hc : W.cell? ⟨w.heap.size + 1, 0, none⟩ = some (.string sig) := by rw [Lib.cell_of_heap HS.out]; rfl
  obtain ⟨g0, hg0⟩ : ∃ g, w.heap.size = g := ⟨_, rfl⟩
  obtain ⟨g1, hg1⟩ : ∃ g, g0 + 1 = g := ⟨_, rfl⟩
  obtain ⟨g2, hg2⟩ : ∃ g, g1 + 1 = g := ⟨_, rfl⟩
  rw [hg0] at HM HS HZ HB hc
  rw [hg1] at HS hc
  rw [show g0 + 2 = g2 by omega] at HZ
  rw [hg0, hg1, hg2]
  have HG := Lib.hid (And.intro hg0 (show g0 ≤ g2 by omega))
  have HKC := Lib.hid (HK.out g1 g0 W HS.out HM.out)
  have HZL := Lib.hid ((Array.getElem?_eq_some_iff.1 HZ.out).1)
  clear hg0 hg1 hg2
  have hmf : ∀ (fn : Fn) (first cap : Array Value) (w : World), (Instr.makeFunc fn first cap).run Try.prog w = .ok (.func fn first cap) w := fun _ _ _ _ => rfl
  go_wp2_with fail
  refine HKC.out.mono ?_
  rintro e w4 ⟨rfl, hb⟩
  have HZ4 := Lib.hid ((hb.block _ HZL.out).trans HZ.out)
  have HB4 := Lib.hid (HB.out.trans (hb.mono (by have := HG.out.2; have := HZL.out; omega)))
  have HL4 := Lib.hid (Nat.lt_of_lt_of_le HZL.out hb.size)
  clear hb
  have HZD := Lib.hid (show Z.size = D.size by rw [HZS.out, HRD.out.size])
  have HZ32 := Lib.hid (show (List.replicate 32 (Value.int .u8 0)).toArray.size = D.size by rw [HRD.out.size]; rfl)
  go_upto_region 4 with (refine wpList_store_row rfl 23 (.tmp 6) (.tmp 12) rfl w4.heap.size D rfl rfl 23 (List.replicate 32 (Value.int .u8 0)).toArray (heap_alloc_new _ _) HRD.out.info HZ32.out HRD.out.one ?_; rw [World.setRow_alloc_new])
  have hb5 : Below w4.heap.size w4 (w4.alloc (.cells D 23)) := (Below.refl _ _).alloc (Nat.le_refl _) _
  have H6 := Lib.hid (heap_alloc_new w4 (.cells D 23))
  have HZ5 := Lib.hid ((hb5.block _ HL4.out).trans HZ4.out)
  have HB5 := Lib.hid (HB4.out.trans (hb5.mono (by have := HG.out.2; have := HL4.out; omega)))
  clear hb5
  generalize w4.alloc (.cells D 23) = w5 at H6 HZ5 HB5 ⊢
  go_wp2_with (first
    | (refine wpList_load_row rfl 23 (.tmp 6) rfl w4.heap.size rfl 23 D (0, 0) _ H6.out Try.underlying23 rfl HRD.out.info ?_)
    | (refine wpList_store_row rfl 23 (.tmp 4) (.tmp 13) rfl g2 D rfl rfl 23 Z HZ5.out HRD.out.info HZD.out HRD.out.one ?_))
  refine bodyPost_ret (Sha.results_cell_tmp (p := 4) (t := 5) (ty := 23) Try.results45 _ _ g2 23 D (0, 0) _ _ rfl rfl (setRow_heap _ _ _ _ _ _ HZ5.out) Try.underlying23 rfl HRD.out.info) rfl ⟨rfl, HG.out.1 ▸ below_setRow HB5.out HG.out.2 _⟩

/-- What is told of any bytes, and its error. -/
def tellsH (m : List UInt8) (sig : ByteArray) : List UInt8 := if sig.size = 1024 then tellK m sig.data.toList else List.replicate 32 0
def tellsE (sig : ByteArray) : Int := if sig.size = 1024 then 0 else 6
theorem tellsH_len (m : List UInt8) (sig : ByteArray) : (tellsH m sig).length = 32 := by
  unfold tellsH
  split <;> rfl
theorem code_TellsA (m : List UInt8) (hm : m.length = 32) (sig : ByteArray) (w : World) :
    Calls Try.prog 45 #[.agg (valsB m).toArray, .string sig] w fun e w' => e = .returned (.tuple #[.agg (valsB (tellsH m sig)).toArray, .int .i64 (tellsE sig)]) ∧ Below w.heap.size w w' := by
  by_cases h : sig.size = 1024
  · rw [show tellsH m sig = tellK m sig.data.toList from if_pos h, show tellsE sig = 0 from if_pos h]
    exact code_Tells m hm sig h w
  · rw [show tellsH m sig = List.replicate 32 0 from if_neg h, show tellsE sig = 6 from if_neg h]
    exact code_Tells_no m sig h w

def checkK (pub m : List UInt8) (sig : ByteArray) : Bool := decide (sig.size = 1024) && (tellsH m sig == pub)

end Go.Proofs.Ytpifjeghoapjbaa.Once

namespace Go.Proofs.Ytpifjeghoapjbaa.Once
open Go.RowKit Go.Proofs.Ytpifjeghoapjbaa.Sha Go.Proofs.Ytpifjeghoapjbaa.Tree

theorem check_right (seed m : List UInt8) (sig : ByteArray) (h : sig.data.toList = signK seed m) : checkK (pubK seed) m sig = true := by
  have hs : sig.size = 1024 := by rw [← list_size, h, signK_len]
  unfold checkK tellsH
  rw [if_pos hs, h, tell_right]
  simp [hs]
theorem check_sized (pub m : List UInt8) (sig : ByteArray) (h : sig.size ≠ 1024) : checkK pub m sig = false := by
  unfold checkK
  simp [h]
def seed1 : List UInt8 := 1 :: List.replicate 31 0
def seed2 : List UInt8 := 2 :: List.replicate 31 0
theorem mk_list (l : List UInt8) : (⟨l.toArray⟩ : ByteArray).data.toList = l := rfl
theorem pubK_len (seed : List UInt8) : (pubK seed).length = 32 := rfl
theorem signK_size (seed m : List UInt8) : (⟨(signK seed m).toArray⟩ : ByteArray).size = 1024 := by rw [size_mk, signK_len]

theorem seed1_len : seed1.length = 32 := rfl
theorem seed2_len : seed2.length = 32 := rfl
theorem seed1_built : ∀ a : Act, Try.prog.built 23 ((#[(0, .const (.int .u8 1))] : Array (Nat × Operand)).map fun (i, x) => (i, a.eval x)).toList = some (valsB seed1).toArray := fun a => by kernel_rfl
theorem seed2_built : ∀ a : Act, Try.prog.built 23 ((#[(0, .const (.int .u8 2))] : Array (Nat × Operand)).map fun (i, x) => (i, a.eval x)).toList = some (valsB seed2).toArray := fun a => by kernel_rfl
theorem zero_built : ∀ a : Act, Try.prog.built 23 ((#[] : Array (Nat × Operand)).map fun (i, x) => (i, a.eval x)).toList = some zeroB := fun a => by kernel_rfl

end Go.Proofs.Ytpifjeghoapjbaa.Once
