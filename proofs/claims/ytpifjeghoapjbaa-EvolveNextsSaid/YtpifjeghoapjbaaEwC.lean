/- evolve: the code's way up: by a key's sides, by a signature's. -/
import Derived.Test.YtpifjeghoapjbaaEwB
import Derived.Test.YtpifjeghoapjbaaEvH
namespace Go.Proofs.Ytpifjeghoapjbaa.Evolve
open Go.RowKit Go.Proofs.Ytpifjeghoapjbaa.Sha Go.Proofs.Ytpifjeghoapjbaa.Tree Go.Proofs.Ytpifjeghoapjbaa.Once

set_option maxRecDepth 100000 in
set_option maxHeartbeats 6400000 in
theorem code_up_key (d p top : Nat) (hd : d ≤ 4) (hp : p < 16) (ht : top ≤ 1000) (h : List UInt8) (hl : h.length = 32) (side : List (List UInt8)) (hsl : d ≤ side.length) (h32 : H32 side) (p0 : Nat) (w : World)
    (HCL : ∀ (i : Nat) (s : List UInt8) (W : World), side[i]? = some s → top ≤ i → i < d → Below w.heap.size w W → Calls Try.prog 52 #[.int .i64 i, .pointer (some ⟨p0, 0, none⟩)] W fun e w' => e = .returned (.agg (valsB s).toArray) ∧ Below W.heap.size W w') :
    Calls Try.prog 46 #[.agg #[.int .i64 d, .int .i64 p], .int .i64 top, .agg (valsB h).toArray, .func (.func 52) #[] #[.pointer (some ⟨p0, 0, none⟩)]] w fun e w' => e = .returned (.agg (valsB (overE (digitsE d p) side top d h)).toArray) ∧ Below w.heap.size w w' := by
  have HC := Lib.hid HCL
  have H32S := Lib.hid h32
  have HSL := Lib.hid hsl
  have HRH := Lib.hid (row32 h hl)
  have HHL := Lib.hid hl
  have HRE := Lib.hid (row32 (overE (digitsE d p) side top d h) (overE_len _ _ _ _ _ hl))
  obtain ⟨CE, hCE⟩ : ∃ C, (valsB (overE (digitsE d p) side top d h)).toArray = C := ⟨_, rfl⟩
  obtain ⟨CH, hCH⟩ : ∃ C, (valsB h).toArray = C := ⟨_, rfl⟩
  rw [hCE] at HRE
  rw [hCH] at HRH
  rw [hCE, hCH]
  have HCE := Lib.hid hCE
  have HCH := Lib.hid hCH
  clear HCL h32 hsl hl hCE hCH
  go_enter Try.func46, Try.ntmps46
  go_upto_region 1 with (fail)
  rw [zero32]
  obtain ⟨Z, hZ⟩ : ∃ Z, (List.replicate 32 (Value.int .u8 0)).toArray = Z := ⟨_, rfl⟩
  have HZE := Lib.hid (show Z.size = CE.size by rw [← hZ, HRE.out.size]; rfl)
  rw [hZ]
  clear hZ
  obtain ⟨CW, hCW⟩ : ∃ C, #[Value.int .i64 d, Value.int .i64 p] = C := ⟨_, rfl⟩
  have HIW := Lib.hid (show (Try.prog.info? 49).map (·.size) = some CW.size by rw [← hCW]; kernel_rfl)
  have HCW := Lib.hid hCW
  rw [hCW]
  have hs0 : (((w.alloc (.cells CW 49)).alloc (.cells CH 23)).alloc (.cells Z 23)).heap.size = w.heap.size + 3 := by simp
  have hw1 : (w.alloc (.cells CW 49)).heap.size = w.heap.size + 1 := by simp
  have HG4 := Lib.hid ((Below.heap_alloc _ (.cells Z 23) w.heap.size (by simp; omega)).trans (heap_alloc2_old w (.cells CW 49) (.cells CH 23)))
  have HG6 := Lib.hid ((Below.heap_alloc _ (.cells Z 23) (w.heap.size + 1) (by simp)).trans (heap_alloc2_new w (.cells CW 49) (.cells CH 23)))
  have HG8 := Lib.hid (show (((w.alloc (.cells CW 49)).alloc (.cells CH 23)).alloc (.cells Z 23)).heap[w.heap.size + 1 + 1]? = some (.cells Z 23 (0, 0)) by
    have h := heap_alloc2_new (w.alloc (.cells CW 49)) (.cells CH 23) (.cells Z 23)
    rw [hw1] at h
    exact h)
  have HBW := Lib.hid (show Below w.heap.size w (((w.alloc (.cells CW 49)).alloc (.cells CH 23)).alloc (.cells Z 23)) from (((Below.refl _ _).alloc (Nat.le_refl _) _).alloc (by simp) _).alloc (by simp; omega) _)
  have c40 : (((w.alloc (.cells CW 49)).alloc (.cells CH 23)).alloc (.cells Z 23)).cell? ⟨w.heap.size, 0, none⟩ = some (.int .i64 d) := by rw [Lib.cell_of_heap HG4.out, ← hCW]; rfl
  clear hw1 hCW
  generalize ((w.alloc (.cells CW 49)).alloc (.cells CH 23)).alloc (.cells Z 23) = W at HG4 HG6 HG8 HBW hs0 c40 ⊢
  obtain ⟨g4, hg4⟩ : ∃ x, w.heap.size = x := ⟨_, rfl⟩
  obtain ⟨g6, hg6⟩ : ∃ x, g4 + 1 = x := ⟨_, rfl⟩
  obtain ⟨g8, hg8⟩ : ∃ x, g6 + 1 = x := ⟨_, rfl⟩
  rw [hg4] at hs0 HG4 HG6 HG8 HBW c40
  rw [hg6] at HG6 HG8
  rw [hg8] at HG8
  rw [hg4, hg6, hg8]
  have HGE := Lib.hid hg4
  have HS := Lib.hid (show g4 < g6 ∧ g6 < g8 ∧ g8 < W.heap.size by omega)
  clear hg4 hg6 hg8 hs0
  go_wp2_with fail
  clear c40
  go_loopw [9] (fun iv wr => ∃ (n : Nat) (T : List UInt8), iv = .int .i64 ((n : Int) - 1) ∧ n ≤ d ∧ T.length = 32 ∧ wr.heap[g4]? = some (.cells CW 49 (0, 0)) ∧ wr.heap[g6]? = some (.cells (valsB T).toArray 23 (0, 0)) ∧ wr.heap[g8]? = some (.cells Z 23 (0, 0)) ∧ overE (digitsE d p) side top n T = overE (digitsE d p) side top d h ∧ Below g4 w wr ∧ g8 < wr.heap.size) (fun iv _ => (intOf iv + 1).toNat)
  case atStart => exact ⟨d, h, rfl, Nat.le_refl _, HHL.out, HG4.out, by rw [HCH.out]; exact HG6.out, HG8.out, rfl, HBW.out, HS.out.2.2⟩
  case round =>
    obtain ⟨n, T, rfl, hn, hTl, hg4, hg6, hg8, hov, hbel, hlt⟩ := hrel
    have HTL := Lib.hid hTl
    have HT4 := Lib.hid hg4
    have HT6 := Lib.hid hg6
    have HT8 := Lib.hid hg8
    have HOV := Lib.hid hov
    have HBEL := Lib.hid hbel
    have HLT := Lib.hid hlt
    clear hTl hg4 hg6 hg8 hov hbel hlt
    by_cases hgo : top < n
    · obtain ⟨m, rfl⟩ : ∃ m, n = m + 1 := ⟨n - 1, by omega⟩
      have hmi : ((m + 1 : Nat) : Int) - 1 = (m : Int) := by omega
      rw [hmi]
      have HO2 := Lib.hid (show overE (digitsE d p) side top m (beside (digitsE d p) side m T) = overE (digitsE d p) side top d h by rw [← HOV.out, overE_go _ _ _ _ _ (by omega)])
      obtain ⟨b, hbw⟩ : ∃ b, rightAt d p m = b := ⟨_, rfl⟩
      obtain ⟨s, hsd⟩ : ∃ s, side[m]? = some s := ⟨side[m]'(by have := HSL.out; omega), List.getElem?_eq_getElem _⟩
      have hsl32 := H32S.out s (List.mem_of_getElem? hsd)
      have HBS := Lib.hid (show beside (digitsE d p) side m T = if b then sumF s T else sumF T s by
        unfold beside
        rw [List.getD_eq_getElem?_getD, digitsE_get d p m (by omega), hbw, List.getD_eq_getElem?_getD, hsd]
        rfl)
      have HGR := Lib.hid (show ∀ w, Calls Try.prog 41 #[.agg CW, .int .i64 m] w fun e w' => e = .returned (.bool b) ∧ Below w.heap.size w w' by
        intro w
        rw [← HCW.out, ← hbw]
        exact code_goesRight d p m (by omega) hd hp w)
      have HRT := Lib.hid (row32 T HTL.out)
      have HRN := Lib.hid (row32 (beside (digitsE d p) side m T) (beside_len _ _ _ _))
      have HST := Lib.hid (fun w => code_esum s T hsl32 HTL.out w)
      have HTS := Lib.hid (fun w => code_esum T s HTL.out hsl32 w)
      have HCK := Lib.hid (fun W hW => HC.out m s W hsd (by omega) (by omega) hW)
      obtain ⟨CT, hCT⟩ : ∃ C, (valsB T).toArray = C := ⟨_, rfl⟩
      obtain ⟨CN, hCN⟩ : ∃ C, (valsB (beside (digitsE d p) side m T)).toArray = C := ⟨_, rfl⟩
      obtain ⟨CS, hCS⟩ : ∃ C, (valsB s).toArray = C := ⟨_, rfl⟩
      rw [hCT] at HT6 HRT HST HTS
      rw [hCN] at HRN
      rw [hCS] at HST HTS HCK
      have HCN := Lib.hid hCN
      have HTN := Lib.hid (show CT.size = CN.size by rw [HRT.out.size, HRN.out.size])
      have hti : (top : Int) ≤ (m : Int) := by omega
      clear hbw hsd hCT hCN hCS hmi
      cases b with
      | true =>
        have HS2 := Lib.hid (show ∀ w, Calls Try.prog 64 #[.agg CS, .agg CT] w fun e w' => e = .returned (.agg CN) ∧ Below w.heap.size w w' by
          rw [← HCN.out, HBS.out]
          exact HST.out)
        go_wp2_with (refine wpList_load_row rfl 49 (.tmp 4) rfl g4 rfl 49 CW (0, 0) _ HT4.out Try.underlying49 rfl HIW.out ?_)
        refine (HGR.out _).mono ?_
        rintro e w2 ⟨rfl, hb2⟩
        have HX4 := Lib.hid ((hb2.block _ (Nat.lt_trans (Nat.lt_trans HS.out.1 HS.out.2.1) HLT.out)).trans HT4.out)
        have HX6 := Lib.hid ((hb2.block _ (Nat.lt_trans HS.out.2.1 HLT.out)).trans HT6.out)
        have HX8 := Lib.hid ((hb2.block _ HLT.out).trans HT8.out)
        have HXB := Lib.hid (HBEL.out.trans (hb2.mono (Nat.le_of_lt (Nat.lt_trans (Nat.lt_trans HS.out.1 HS.out.2.1) HLT.out))))
        have HXL := Lib.hid (Nat.lt_of_lt_of_le HLT.out hb2.size)
        have HCQ := Lib.hid (fun d os => HCK.out (Sort.grow (redrawn w2 d) os) (HGE.out.symm ▸ HXB.out.trans ((below_regrown w2 d os).mono (Nat.le_of_lt (Nat.lt_trans (Nat.lt_trans HS.out.1 HS.out.2.1) HXL.out)))))
        clear hb2
        go_wp2_with fail
        refine QT.wp_region_below_tail 5 (by kernel_rfl) (by kernel_rfl) ?_
        simp only [List.take_succ_cons, List.take_zero, List.drop_succ_cons, List.drop_zero]
        repeat (first
          | (refine wpQuiet_step (fun K hK => ?_); rw [if_pos (by rfl)]; refine quiet_load_row 23 (.tmp 6) rfl g6 rfl 23 CT (0, 0) _ HX6.out Try.underlying23 rfl HRT.out.info ?_; refine hK _ ?_; clear hK K)
          | (quiet_step (first | (with_reducible exact Calls.regrown_of (HCQ.out _ _)) | (with_reducible exact Calls.regrown_of (HS2.out _)))))
        refine wpQuiet_nil ?_
        intro _ hw'
        obtain ⟨⟨dq, osq⟩, hw''⟩ := hw'
        subst hw''
        have hbq := below_regrown w2 dq osq
        dsimp only
        generalize Sort.grow (redrawn w2 dq) osq = w5 at hbq ⊢
        have HQ4 := Lib.hid ((hbq.block _ (Nat.lt_trans (Nat.lt_trans HS.out.1 HS.out.2.1) HXL.out)).trans HX4.out)
        have HQ6 := Lib.hid ((hbq.block _ (Nat.lt_trans HS.out.2.1 HXL.out)).trans HX6.out)
        have HQ8 := Lib.hid ((hbq.block _ HXL.out).trans HX8.out)
        have HQB := Lib.hid (HXB.out.trans (hbq.mono (Nat.le_of_lt (Nat.lt_trans (Nat.lt_trans HS.out.1 HS.out.2.1) HXL.out))))
        have HQL := Lib.hid (Nat.lt_of_lt_of_le HXL.out hbq.size)
        clear hbq
        go_wp2_with (refine wpList_store_row rfl 23 (.tmp 6) (.tmp 25) rfl g6 CN rfl rfl 23 CT HQ6.out HRN.out.info HTN.out HRN.out.one ?_)
        go_roundw
        case rel => exact ⟨m, beside (digitsE d p) side m T, rfl, by omega, beside_len _ _ _ _, by rw [setRow_other _ _ _ _ (Nat.ne_of_lt HS.out.1)]; exact HQ4.out, by rw [HCN.out]; exact setRow_heap _ _ _ _ _ _ HQ6.out, by rw [setRow_other _ _ _ _ (Nat.ne_of_gt HS.out.2.1)]; exact HQ8.out, HO2.out, below_setRow HQB.out (Nat.le_of_lt HS.out.1) _, by rw [setRow_size]; exact HQL.out⟩
        case measure => simp [intOf]
      | false =>
        have HS2 := Lib.hid (show ∀ w, Calls Try.prog 64 #[.agg CT, .agg CS] w fun e w' => e = .returned (.agg CN) ∧ Below w.heap.size w w' by
          rw [← HCN.out, HBS.out]
          exact HTS.out)
        go_wp2_with (refine wpList_load_row rfl 49 (.tmp 4) rfl g4 rfl 49 CW (0, 0) _ HT4.out Try.underlying49 rfl HIW.out ?_)
        refine (HGR.out _).mono ?_
        rintro e w2 ⟨rfl, hb2⟩
        have HX4 := Lib.hid ((hb2.block _ (Nat.lt_trans (Nat.lt_trans HS.out.1 HS.out.2.1) HLT.out)).trans HT4.out)
        have HX6 := Lib.hid ((hb2.block _ (Nat.lt_trans HS.out.2.1 HLT.out)).trans HT6.out)
        have HX8 := Lib.hid ((hb2.block _ HLT.out).trans HT8.out)
        have HXB := Lib.hid (HBEL.out.trans (hb2.mono (Nat.le_of_lt (Nat.lt_trans (Nat.lt_trans HS.out.1 HS.out.2.1) HLT.out))))
        have HXL := Lib.hid (Nat.lt_of_lt_of_le HLT.out hb2.size)
        have HCQ := Lib.hid (fun d os => HCK.out (Sort.grow (redrawn w2 d) os) (HGE.out.symm ▸ HXB.out.trans ((below_regrown w2 d os).mono (Nat.le_of_lt (Nat.lt_trans (Nat.lt_trans HS.out.1 HS.out.2.1) HXL.out)))))
        clear hb2
        go_wp2_with fail
        refine QT.wp_region_below_tail 5 (by kernel_rfl) (by kernel_rfl) ?_
        simp only [List.take_succ_cons, List.take_zero, List.drop_succ_cons, List.drop_zero]
        repeat (first
          | (refine wpQuiet_step (fun K hK => ?_); rw [if_pos (by rfl)]; refine quiet_load_row 23 (.tmp 6) rfl g6 rfl 23 CT (0, 0) _ HX6.out Try.underlying23 rfl HRT.out.info ?_; refine hK _ ?_; clear hK K)
          | (quiet_step (first | (with_reducible exact Calls.regrown_of (HCQ.out _ _)) | (with_reducible exact Calls.regrown_of (HS2.out _)))))
        refine wpQuiet_nil ?_
        intro _ hw'
        obtain ⟨⟨dq, osq⟩, hw''⟩ := hw'
        subst hw''
        have hbq := below_regrown w2 dq osq
        dsimp only
        generalize Sort.grow (redrawn w2 dq) osq = w5 at hbq ⊢
        have HQ4 := Lib.hid ((hbq.block _ (Nat.lt_trans (Nat.lt_trans HS.out.1 HS.out.2.1) HXL.out)).trans HX4.out)
        have HQ6 := Lib.hid ((hbq.block _ (Nat.lt_trans HS.out.2.1 HXL.out)).trans HX6.out)
        have HQ8 := Lib.hid ((hbq.block _ HXL.out).trans HX8.out)
        have HQB := Lib.hid (HXB.out.trans (hbq.mono (Nat.le_of_lt (Nat.lt_trans (Nat.lt_trans HS.out.1 HS.out.2.1) HXL.out))))
        have HQL := Lib.hid (Nat.lt_of_lt_of_le HXL.out hbq.size)
        clear hbq
        go_wp2_with (refine wpList_store_row rfl 23 (.tmp 6) (.tmp 30) rfl g6 CN rfl rfl 23 CT HQ6.out HRN.out.info HTN.out HRN.out.one ?_)
        go_roundw
        case rel => exact ⟨m, beside (digitsE d p) side m T, rfl, by omega, beside_len _ _ _ _, by rw [setRow_other _ _ _ _ (Nat.ne_of_lt HS.out.1)]; exact HQ4.out, by rw [HCN.out]; exact setRow_heap _ _ _ _ _ _ HQ6.out, by rw [setRow_other _ _ _ _ (Nat.ne_of_gt HS.out.2.1)]; exact HQ8.out, HO2.out, below_setRow HQB.out (Nat.le_of_lt HS.out.1) _, by rw [setRow_size]; exact HQL.out⟩
        case measure => simp [intOf]
    · have hTE : T = overE (digitsE d p) side top d h := by rw [← HOV.out, overE_stop _ _ _ _ _ (by omega)]
      have HTE := Lib.hid (show wr.heap[g6]? = some (.cells CE 23 (0, 0)) by rw [← HCE.out, ← hTE]; exact HT6.out)
      obtain ⟨i, hi⟩ : ∃ i : Int, (n : Int) - 1 = i := ⟨_, rfl⟩
      rw [hi]
      have hci : ¬ (top : Int) ≤ i := by omega
      clear hTE hi
      go_wp2_with (first
        | (refine wpList_load_row rfl 23 (.tmp 6) rfl g6 rfl 23 CE (0, 0) _ HTE.out Try.underlying23 rfl HRE.out.info ?_)
        | (refine wpList_store_row rfl 23 (.tmp 8) (.tmp 31) rfl g8 CE rfl rfl 23 Z HT8.out HRE.out.info HZE.out HRE.out.one ?_))
      refine bodyPost_ret (results_cell_row (p := 8) (ty := 23) Try.results46 _ _ g8 23 CE (0, 0) _ rfl (setRow_heap _ _ _ _ _ _ HT8.out) Try.underlying23 rfl HRE.out.info) rfl ⟨rfl, HGE.out ▸ below_setRow HBEL.out (Nat.le_of_lt (Nat.lt_trans HS.out.1 HS.out.2.1)) _⟩

set_option maxRecDepth 100000 in
set_option maxHeartbeats 6400000 in
theorem code_up_sig (d p top : Nat) (hd : d ≤ 4) (hp : p < 16) (ht : top ≤ 1000) (h : List UInt8) (hl : h.length = 32) (side : List (List UInt8)) (hsl : d ≤ side.length) (h32 : H32 side) (p0 : Nat) (w : World)
    (HCL : ∀ (i : Nat) (s : List UInt8) (W : World), side[i]? = some s → top ≤ i → i < d → Below w.heap.size w W → Calls Try.prog 47 #[.int .i64 i, .pointer (some ⟨p0, 0, none⟩)] W fun e w' => e = .returned (.agg (valsB s).toArray) ∧ Below W.heap.size W w') :
    Calls Try.prog 46 #[.agg #[.int .i64 d, .int .i64 p], .int .i64 top, .agg (valsB h).toArray, .func (.func 47) #[] #[.pointer (some ⟨p0, 0, none⟩)]] w fun e w' => e = .returned (.agg (valsB (overE (digitsE d p) side top d h)).toArray) ∧ Below w.heap.size w w' := by
  have HC := Lib.hid HCL
  have H32S := Lib.hid h32
  have HSL := Lib.hid hsl
  have HRH := Lib.hid (row32 h hl)
  have HHL := Lib.hid hl
  have HRE := Lib.hid (row32 (overE (digitsE d p) side top d h) (overE_len _ _ _ _ _ hl))
  obtain ⟨CE, hCE⟩ : ∃ C, (valsB (overE (digitsE d p) side top d h)).toArray = C := ⟨_, rfl⟩
  obtain ⟨CH, hCH⟩ : ∃ C, (valsB h).toArray = C := ⟨_, rfl⟩
  rw [hCE] at HRE
  rw [hCH] at HRH
  rw [hCE, hCH]
  have HCE := Lib.hid hCE
  have HCH := Lib.hid hCH
  clear HCL h32 hsl hl hCE hCH
  go_enter Try.func46, Try.ntmps46
  go_upto_region 1 with (fail)
  rw [zero32]
  obtain ⟨Z, hZ⟩ : ∃ Z, (List.replicate 32 (Value.int .u8 0)).toArray = Z := ⟨_, rfl⟩
  have HZE := Lib.hid (show Z.size = CE.size by rw [← hZ, HRE.out.size]; rfl)
  rw [hZ]
  clear hZ
  obtain ⟨CW, hCW⟩ : ∃ C, #[Value.int .i64 d, Value.int .i64 p] = C := ⟨_, rfl⟩
  have HIW := Lib.hid (show (Try.prog.info? 49).map (·.size) = some CW.size by rw [← hCW]; kernel_rfl)
  have HCW := Lib.hid hCW
  rw [hCW]
  have hs0 : (((w.alloc (.cells CW 49)).alloc (.cells CH 23)).alloc (.cells Z 23)).heap.size = w.heap.size + 3 := by simp
  have hw1 : (w.alloc (.cells CW 49)).heap.size = w.heap.size + 1 := by simp
  have HG4 := Lib.hid ((Below.heap_alloc _ (.cells Z 23) w.heap.size (by simp; omega)).trans (heap_alloc2_old w (.cells CW 49) (.cells CH 23)))
  have HG6 := Lib.hid ((Below.heap_alloc _ (.cells Z 23) (w.heap.size + 1) (by simp)).trans (heap_alloc2_new w (.cells CW 49) (.cells CH 23)))
  have HG8 := Lib.hid (show (((w.alloc (.cells CW 49)).alloc (.cells CH 23)).alloc (.cells Z 23)).heap[w.heap.size + 1 + 1]? = some (.cells Z 23 (0, 0)) by
    have h := heap_alloc2_new (w.alloc (.cells CW 49)) (.cells CH 23) (.cells Z 23)
    rw [hw1] at h
    exact h)
  have HBW := Lib.hid (show Below w.heap.size w (((w.alloc (.cells CW 49)).alloc (.cells CH 23)).alloc (.cells Z 23)) from (((Below.refl _ _).alloc (Nat.le_refl _) _).alloc (by simp) _).alloc (by simp; omega) _)
  have c40 : (((w.alloc (.cells CW 49)).alloc (.cells CH 23)).alloc (.cells Z 23)).cell? ⟨w.heap.size, 0, none⟩ = some (.int .i64 d) := by rw [Lib.cell_of_heap HG4.out, ← hCW]; rfl
  clear hw1 hCW
  generalize ((w.alloc (.cells CW 49)).alloc (.cells CH 23)).alloc (.cells Z 23) = W at HG4 HG6 HG8 HBW hs0 c40 ⊢
  obtain ⟨g4, hg4⟩ : ∃ x, w.heap.size = x := ⟨_, rfl⟩
  obtain ⟨g6, hg6⟩ : ∃ x, g4 + 1 = x := ⟨_, rfl⟩
  obtain ⟨g8, hg8⟩ : ∃ x, g6 + 1 = x := ⟨_, rfl⟩
  rw [hg4] at hs0 HG4 HG6 HG8 HBW c40
  rw [hg6] at HG6 HG8
  rw [hg8] at HG8
  rw [hg4, hg6, hg8]
  have HGE := Lib.hid hg4
  have HS := Lib.hid (show g4 < g6 ∧ g6 < g8 ∧ g8 < W.heap.size by omega)
  clear hg4 hg6 hg8 hs0
  go_wp2_with fail
  clear c40
  go_loopw [9] (fun iv wr => ∃ (n : Nat) (T : List UInt8), iv = .int .i64 ((n : Int) - 1) ∧ n ≤ d ∧ T.length = 32 ∧ wr.heap[g4]? = some (.cells CW 49 (0, 0)) ∧ wr.heap[g6]? = some (.cells (valsB T).toArray 23 (0, 0)) ∧ wr.heap[g8]? = some (.cells Z 23 (0, 0)) ∧ overE (digitsE d p) side top n T = overE (digitsE d p) side top d h ∧ Below g4 w wr ∧ g8 < wr.heap.size) (fun iv _ => (intOf iv + 1).toNat)
  case atStart => exact ⟨d, h, rfl, Nat.le_refl _, HHL.out, HG4.out, by rw [HCH.out]; exact HG6.out, HG8.out, rfl, HBW.out, HS.out.2.2⟩
  case round =>
    obtain ⟨n, T, rfl, hn, hTl, hg4, hg6, hg8, hov, hbel, hlt⟩ := hrel
    have HTL := Lib.hid hTl
    have HT4 := Lib.hid hg4
    have HT6 := Lib.hid hg6
    have HT8 := Lib.hid hg8
    have HOV := Lib.hid hov
    have HBEL := Lib.hid hbel
    have HLT := Lib.hid hlt
    clear hTl hg4 hg6 hg8 hov hbel hlt
    by_cases hgo : top < n
    · obtain ⟨m, rfl⟩ : ∃ m, n = m + 1 := ⟨n - 1, by omega⟩
      have hmi : ((m + 1 : Nat) : Int) - 1 = (m : Int) := by omega
      rw [hmi]
      have HO2 := Lib.hid (show overE (digitsE d p) side top m (beside (digitsE d p) side m T) = overE (digitsE d p) side top d h by rw [← HOV.out, overE_go _ _ _ _ _ (by omega)])
      obtain ⟨b, hbw⟩ : ∃ b, rightAt d p m = b := ⟨_, rfl⟩
      obtain ⟨s, hsd⟩ : ∃ s, side[m]? = some s := ⟨side[m]'(by have := HSL.out; omega), List.getElem?_eq_getElem _⟩
      have hsl32 := H32S.out s (List.mem_of_getElem? hsd)
      have HBS := Lib.hid (show beside (digitsE d p) side m T = if b then sumF s T else sumF T s by
        unfold beside
        rw [List.getD_eq_getElem?_getD, digitsE_get d p m (by omega), hbw, List.getD_eq_getElem?_getD, hsd]
        rfl)
      have HGR := Lib.hid (show ∀ w, Calls Try.prog 41 #[.agg CW, .int .i64 m] w fun e w' => e = .returned (.bool b) ∧ Below w.heap.size w w' by
        intro w
        rw [← HCW.out, ← hbw]
        exact code_goesRight d p m (by omega) hd hp w)
      have HRT := Lib.hid (row32 T HTL.out)
      have HRN := Lib.hid (row32 (beside (digitsE d p) side m T) (beside_len _ _ _ _))
      have HST := Lib.hid (fun w => code_esum s T hsl32 HTL.out w)
      have HTS := Lib.hid (fun w => code_esum T s HTL.out hsl32 w)
      have HCK := Lib.hid (fun W hW => HC.out m s W hsd (by omega) (by omega) hW)
      obtain ⟨CT, hCT⟩ : ∃ C, (valsB T).toArray = C := ⟨_, rfl⟩
      obtain ⟨CN, hCN⟩ : ∃ C, (valsB (beside (digitsE d p) side m T)).toArray = C := ⟨_, rfl⟩
      obtain ⟨CS, hCS⟩ : ∃ C, (valsB s).toArray = C := ⟨_, rfl⟩
      rw [hCT] at HT6 HRT HST HTS
      rw [hCN] at HRN
      rw [hCS] at HST HTS HCK
      have HCN := Lib.hid hCN
      have HTN := Lib.hid (show CT.size = CN.size by rw [HRT.out.size, HRN.out.size])
      have hti : (top : Int) ≤ (m : Int) := by omega
      clear hbw hsd hCT hCN hCS hmi
      cases b with
      | true =>
        have HS2 := Lib.hid (show ∀ w, Calls Try.prog 64 #[.agg CS, .agg CT] w fun e w' => e = .returned (.agg CN) ∧ Below w.heap.size w w' by
          rw [← HCN.out, HBS.out]
          exact HST.out)
        go_wp2_with (refine wpList_load_row rfl 49 (.tmp 4) rfl g4 rfl 49 CW (0, 0) _ HT4.out Try.underlying49 rfl HIW.out ?_)
        refine (HGR.out _).mono ?_
        rintro e w2 ⟨rfl, hb2⟩
        have HX4 := Lib.hid ((hb2.block _ (Nat.lt_trans (Nat.lt_trans HS.out.1 HS.out.2.1) HLT.out)).trans HT4.out)
        have HX6 := Lib.hid ((hb2.block _ (Nat.lt_trans HS.out.2.1 HLT.out)).trans HT6.out)
        have HX8 := Lib.hid ((hb2.block _ HLT.out).trans HT8.out)
        have HXB := Lib.hid (HBEL.out.trans (hb2.mono (Nat.le_of_lt (Nat.lt_trans (Nat.lt_trans HS.out.1 HS.out.2.1) HLT.out))))
        have HXL := Lib.hid (Nat.lt_of_lt_of_le HLT.out hb2.size)
        have HCQ := Lib.hid (fun d os => HCK.out (Sort.grow (redrawn w2 d) os) (HGE.out.symm ▸ HXB.out.trans ((below_regrown w2 d os).mono (Nat.le_of_lt (Nat.lt_trans (Nat.lt_trans HS.out.1 HS.out.2.1) HXL.out)))))
        clear hb2
        go_wp2_with fail
        refine QT.wp_region_below_tail 5 (by kernel_rfl) (by kernel_rfl) ?_
        simp only [List.take_succ_cons, List.take_zero, List.drop_succ_cons, List.drop_zero]
        repeat (first
          | (refine wpQuiet_step (fun K hK => ?_); rw [if_pos (by rfl)]; refine quiet_load_row 23 (.tmp 6) rfl g6 rfl 23 CT (0, 0) _ HX6.out Try.underlying23 rfl HRT.out.info ?_; refine hK _ ?_; clear hK K)
          | (quiet_step (first | (with_reducible exact Calls.regrown_of (HCQ.out _ _)) | (with_reducible exact Calls.regrown_of (HS2.out _)))))
        refine wpQuiet_nil ?_
        intro _ hw'
        obtain ⟨⟨dq, osq⟩, hw''⟩ := hw'
        subst hw''
        have hbq := below_regrown w2 dq osq
        dsimp only
        generalize Sort.grow (redrawn w2 dq) osq = w5 at hbq ⊢
        have HQ4 := Lib.hid ((hbq.block _ (Nat.lt_trans (Nat.lt_trans HS.out.1 HS.out.2.1) HXL.out)).trans HX4.out)
        have HQ6 := Lib.hid ((hbq.block _ (Nat.lt_trans HS.out.2.1 HXL.out)).trans HX6.out)
        have HQ8 := Lib.hid ((hbq.block _ HXL.out).trans HX8.out)
        have HQB := Lib.hid (HXB.out.trans (hbq.mono (Nat.le_of_lt (Nat.lt_trans (Nat.lt_trans HS.out.1 HS.out.2.1) HXL.out))))
        have HQL := Lib.hid (Nat.lt_of_lt_of_le HXL.out hbq.size)
        clear hbq
        go_wp2_with (refine wpList_store_row rfl 23 (.tmp 6) (.tmp 25) rfl g6 CN rfl rfl 23 CT HQ6.out HRN.out.info HTN.out HRN.out.one ?_)
        go_roundw
        case rel => exact ⟨m, beside (digitsE d p) side m T, rfl, by omega, beside_len _ _ _ _, by rw [setRow_other _ _ _ _ (Nat.ne_of_lt HS.out.1)]; exact HQ4.out, by rw [HCN.out]; exact setRow_heap _ _ _ _ _ _ HQ6.out, by rw [setRow_other _ _ _ _ (Nat.ne_of_gt HS.out.2.1)]; exact HQ8.out, HO2.out, below_setRow HQB.out (Nat.le_of_lt HS.out.1) _, by rw [setRow_size]; exact HQL.out⟩
        case measure => simp [intOf]
      | false =>
        have HS2 := Lib.hid (show ∀ w, Calls Try.prog 64 #[.agg CT, .agg CS] w fun e w' => e = .returned (.agg CN) ∧ Below w.heap.size w w' by
          rw [← HCN.out, HBS.out]
          exact HTS.out)
        go_wp2_with (refine wpList_load_row rfl 49 (.tmp 4) rfl g4 rfl 49 CW (0, 0) _ HT4.out Try.underlying49 rfl HIW.out ?_)
        refine (HGR.out _).mono ?_
        rintro e w2 ⟨rfl, hb2⟩
        have HX4 := Lib.hid ((hb2.block _ (Nat.lt_trans (Nat.lt_trans HS.out.1 HS.out.2.1) HLT.out)).trans HT4.out)
        have HX6 := Lib.hid ((hb2.block _ (Nat.lt_trans HS.out.2.1 HLT.out)).trans HT6.out)
        have HX8 := Lib.hid ((hb2.block _ HLT.out).trans HT8.out)
        have HXB := Lib.hid (HBEL.out.trans (hb2.mono (Nat.le_of_lt (Nat.lt_trans (Nat.lt_trans HS.out.1 HS.out.2.1) HLT.out))))
        have HXL := Lib.hid (Nat.lt_of_lt_of_le HLT.out hb2.size)
        have HCQ := Lib.hid (fun d os => HCK.out (Sort.grow (redrawn w2 d) os) (HGE.out.symm ▸ HXB.out.trans ((below_regrown w2 d os).mono (Nat.le_of_lt (Nat.lt_trans (Nat.lt_trans HS.out.1 HS.out.2.1) HXL.out)))))
        clear hb2
        go_wp2_with fail
        refine QT.wp_region_below_tail 5 (by kernel_rfl) (by kernel_rfl) ?_
        simp only [List.take_succ_cons, List.take_zero, List.drop_succ_cons, List.drop_zero]
        repeat (first
          | (refine wpQuiet_step (fun K hK => ?_); rw [if_pos (by rfl)]; refine quiet_load_row 23 (.tmp 6) rfl g6 rfl 23 CT (0, 0) _ HX6.out Try.underlying23 rfl HRT.out.info ?_; refine hK _ ?_; clear hK K)
          | (quiet_step (first | (with_reducible exact Calls.regrown_of (HCQ.out _ _)) | (with_reducible exact Calls.regrown_of (HS2.out _)))))
        refine wpQuiet_nil ?_
        intro _ hw'
        obtain ⟨⟨dq, osq⟩, hw''⟩ := hw'
        subst hw''
        have hbq := below_regrown w2 dq osq
        dsimp only
        generalize Sort.grow (redrawn w2 dq) osq = w5 at hbq ⊢
        have HQ4 := Lib.hid ((hbq.block _ (Nat.lt_trans (Nat.lt_trans HS.out.1 HS.out.2.1) HXL.out)).trans HX4.out)
        have HQ6 := Lib.hid ((hbq.block _ (Nat.lt_trans HS.out.2.1 HXL.out)).trans HX6.out)
        have HQ8 := Lib.hid ((hbq.block _ HXL.out).trans HX8.out)
        have HQB := Lib.hid (HXB.out.trans (hbq.mono (Nat.le_of_lt (Nat.lt_trans (Nat.lt_trans HS.out.1 HS.out.2.1) HXL.out))))
        have HQL := Lib.hid (Nat.lt_of_lt_of_le HXL.out hbq.size)
        clear hbq
        go_wp2_with (refine wpList_store_row rfl 23 (.tmp 6) (.tmp 30) rfl g6 CN rfl rfl 23 CT HQ6.out HRN.out.info HTN.out HRN.out.one ?_)
        go_roundw
        case rel => exact ⟨m, beside (digitsE d p) side m T, rfl, by omega, beside_len _ _ _ _, by rw [setRow_other _ _ _ _ (Nat.ne_of_lt HS.out.1)]; exact HQ4.out, by rw [HCN.out]; exact setRow_heap _ _ _ _ _ _ HQ6.out, by rw [setRow_other _ _ _ _ (Nat.ne_of_gt HS.out.2.1)]; exact HQ8.out, HO2.out, below_setRow HQB.out (Nat.le_of_lt HS.out.1) _, by rw [setRow_size]; exact HQL.out⟩
        case measure => simp [intOf]
    · have hTE : T = overE (digitsE d p) side top d h := by rw [← HOV.out, overE_stop _ _ _ _ _ (by omega)]
      have HTE := Lib.hid (show wr.heap[g6]? = some (.cells CE 23 (0, 0)) by rw [← HCE.out, ← hTE]; exact HT6.out)
      obtain ⟨i, hi⟩ : ∃ i : Int, (n : Int) - 1 = i := ⟨_, rfl⟩
      rw [hi]
      have hci : ¬ (top : Int) ≤ i := by omega
      clear hTE hi
      go_wp2_with (first
        | (refine wpList_load_row rfl 23 (.tmp 6) rfl g6 rfl 23 CE (0, 0) _ HTE.out Try.underlying23 rfl HRE.out.info ?_)
        | (refine wpList_store_row rfl 23 (.tmp 8) (.tmp 31) rfl g8 CE rfl rfl 23 Z HT8.out HRE.out.info HZE.out HRE.out.one ?_))
      refine bodyPost_ret (results_cell_row (p := 8) (ty := 23) Try.results46 _ _ g8 23 CE (0, 0) _ rfl (setRow_heap _ _ _ _ _ _ HT8.out) Try.underlying23 rfl HRE.out.info) rfl ⟨rfl, HGE.out ▸ below_setRow HBEL.out (Nat.le_of_lt (Nat.lt_trans HS.out.1 HS.out.2.1)) _⟩

end Go.Proofs.Ytpifjeghoapjbaa.Evolve
