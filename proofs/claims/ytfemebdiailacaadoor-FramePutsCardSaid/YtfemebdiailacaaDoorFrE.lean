/- frame: the document's Put and Take. -/
import Derived.Test.YtfemebdiailacaaDoorFrD
namespace Go.Proofs.YtfemebdiailacaaDoor.Frame
open Go.RowKit Go.Proofs.YtfemebdiailacaaDoor.Gr

set_option maxHeartbeats 400000 in
theorem ref_Put_long (s : ByteArray) (w : World) (hs : 65536 < s.size) (hm : s.size ≤ maxLen) :
    Calls Tryd.prog 16 #[.string s] w fun e w' => e = .returned (.tuple #[.string ⟨#[]⟩, .int .i64 3]) ∧ Below w.heap.size w w' := by
  unfold maxLen at hm
  go_enter Tryd.func16, Tryd.ntmps16
  go_wp2
  go_ret2
  exact ⟨rfl, Below.refl _ _⟩

theorem cat_bytes (l : List UInt8) (s : ByteArray) : (bs l ++ s).data.toList = l ++ s.data.toList := by
  rw [ByteArray.data_append, Array.toList_append]

set_option maxHeartbeats 1000000 in
theorem ref_Put_ok (s : ByteArray) (w : World) (hs : s.size ≤ 65536) :
    Calls Tryd.prog 16 #[.string s] w fun e w' => e = .returned (.tuple #[.string (bs (frameL s.data.toList)), .int .i64 0]) ∧ Below w.heap.size w w' := by
  have HFB := Lib.hid (frame_bytes s)
  have y1 : (bs (fourL s.size)).size = 4 := rfl
  have y3 : (bs (fourL s.size) ++ s).size = 4 + s.size := by rw [ByteArray.size_append, y1]
  have y5 : ¬ 9223372036854775807 < 4 + s.size := by omega
  have HCK := Lib.hid (fun W => ref_Check (bs (fourL s.size) ++ s) W (by rw [y3]; unfold maxLen; omega))
  rw [cat_bytes] at HCK
  go_enter Tryd.func16, Tryd.ntmps16
  go_wp2_with (first
    | (go_at_call 29; refine (ref_Four s.size _ (by omega)).mono ?_; rintro e w1 ⟨rfl, hb1⟩)
    | fail)
  refine (HCK.out _).mono ?_
  rintro e w2 ⟨rfl, hb2⟩
  have hck := checkN_lt (fourL s.size ++ s.data.toList)
  generalize checkN (fourL s.size ++ s.data.toList) = c at *
  have z2 : (bs (fourL c)).size = 4 := rfl
  have z3 : (bs (fourL s.size) ++ bs (fourL c)).size = 8 := by rw [ByteArray.size_append, y1, z2]
  have z4 : (bs (fourL s.size) ++ bs (fourL c) ++ s).size = 8 + s.size := by rw [ByteArray.size_append, z3]
  have z5 : ¬ 9223372036854775807 < 8 + s.size := by omega
  have z6 : ¬ 9223372036854775807 < 8 + s.size + 1 := by omega
  go_wp2_with (go_at_call 29; refine (ref_Four c _ hck).mono ?_; rintro e w3 ⟨rfl, hb3⟩)
  go_ret2
  exact ⟨ret_pair HFB.out, (hb1.trans (hb2.mono hb1.size)).trans (hb3.mono (Nat.le_trans hb1.size hb2.size))⟩

set_option maxHeartbeats 1000000 in
theorem ref_Take (s : ByteArray) (w : World) (hs : s.size ≤ maxLen) :
    Calls Tryd.prog 18 #[.string s] w fun e w' => e = bkE (takeL s.data.toList) ∧ Below w.heap.size w w' := by
  have HMX := Lib.hid hs
  unfold maxLen at hs
  by_cases h9 : s.size < 9
  · have HE := Lib.hid (show takeL s.data.toList = ([], 0, 10) by unfold takeL; rw [if_pos (by rw [len_data]; exact h9)])
    go_enter Tryd.func18, Tryd.ntmps18
    go_wp2
    refine bodyPost_ret (v := .tuple #[.string (bs []), .int .i64 0, .int .i64 10]) (by simp [results, Tryd.results18, go_sem]) rfl ⟨?_, Below.refl _ _⟩
    rw [HE.out]; rfl
  · have hn := valK_lt4 s 0
    have HL9 := Lib.hid (show ¬ s.data.toList.length < 9 by rw [len_data]; exact h9)
    have HN := Lib.hid (valK_0 s)
    have HV := Lib.hid (fun W => ref_value s W (by omega) HMX.out)
    generalize valK s 0 4 = n at *
    by_cases h1 : 65536 < n
    · have HE := Lib.hid (show takeL s.data.toList = ([], 0, 3) by unfold takeL; rw [if_neg HL9.out, if_pos (by rw [← HN.out]; exact h1)])
      go_enter Tryd.func18, Tryd.ntmps18
      go_wp2_with (go_at_call 31; refine (HV.out _).mono ?_; rintro e w1 ⟨rfl, hb1⟩)
      refine bodyPost_ret (v := .tuple #[.string (bs []), .int .i64 0, .int .i64 3]) (by simp [results, Tryd.results18, go_sem]) rfl ⟨?_, by assumption⟩
      rw [HE.out]; rfl
    by_cases h2 : s.size < n + 9
    · have HE := Lib.hid (show takeL s.data.toList = ([], 0, 10) by unfold takeL; rw [if_neg HL9.out, ← HN.out, if_neg h1, if_pos (by rw [len_data]; exact h2)])
      go_enter Tryd.func18, Tryd.ntmps18
      go_wp2_with (go_at_call 31; refine (HV.out _).mono ?_; rintro e w1 ⟨rfl, hb1⟩)
      refine bodyPost_ret (v := .tuple #[.string (bs []), .int .i64 0, .int .i64 10]) (by simp [results, Tryd.results18, go_sem]) rfl ⟨?_, by assumption⟩
      rw [HE.out]; rfl
    have hi8 : n + 8 < s.size := by omega
    have hlast : s.data.toList.getD (n + 8) 0 = s[n + 8] := by
      rw [List.getD, List.getElem?_eq_getElem (by rw [len_data]; exact hi8)]
      rfl
    by_cases h3 : s.data.toList.getD (n + 8) 0 = 90
    · have hx : ((s[n + 8].toNat : Int) != 90) = false := by rw [← hlast, h3]; rfl
      clear hlast
      obtain ⟨A, hA⟩ : ∃ A, s.extract 0 4 = A := ⟨_, rfl⟩
      obtain ⟨F, hF⟩ : ∃ F, s.extract 4 8 = F := ⟨_, rfl⟩
      obtain ⟨T, hT⟩ : ∃ T, s.extract 8 (n + 8) = T := ⟨_, rfl⟩
      have zA : A.size = 4 := by rw [← hA, ByteArray.size_extract]; omega
      have zF : F.size = 4 := by rw [← hF, ByteArray.size_extract]; omega
      have zT : T.size = n := by rw [← hT, ByteArray.size_extract]; omega
      have HVF := Lib.hid (fun W => ref_value F W (by omega) (by unfold maxLen; omega))
      rw [show valK F 0 4 = valK s 4 4 by
        unfold valK
        rw [← hF, ext_list, List.drop_zero, List.take_take]
        rfl] at HVF
      have HCF := Lib.hid (fun W => ref_Check (A ++ T) W (by rw [ByteArray.size_append, zA, zT]; unfold maxLen; omega))
      rw [show (A ++ T).data.toList = s.data.toList.take 4 ++ (s.data.toList.drop 8).take n by
        rw [ByteArray.data_append, Array.toList_append, ← hA, ← hT, ext_list, ext_list, show n + 8 - 8 = n by omega]
        rfl] at HCF
      have HTB := Lib.hid (show T = bs ((s.data.toList.drop 8).take n) by rw [← hT, ext_bs, show n + 8 - 8 = n by omega])
      have HCK := Lib.hid (show takeL s.data.toList = if checkN (s.data.toList.take 4 ++ (s.data.toList.drop 8).take n) ≠ valK s 4 4 then ([], 0, 110) else ((s.data.toList.drop 8).take n, n + 9, 0) by
        unfold takeL
        rw [if_neg HL9.out, ← HN.out, if_neg h1, if_neg (by rw [len_data]; exact h2), if_neg (fun h => h h3)]
        rfl)
      have hck := checkN_lt (s.data.toList.take 4 ++ (s.data.toList.drop 8).take n)
      generalize checkN (s.data.toList.take 4 ++ (s.data.toList.drop 8).take n) = c at *
      have hm4 := valK_lt4 s 4
      generalize valK s 4 4 = m at *
      have hs4 : (4 : Int) ≤ (s.size : Int) := by omega
      have hs8 : (8 : Int) ≤ (s.size : Int) := by omega
      have hs4' : 4 ≤ s.size := by omega
      have hs8' : 8 ≤ s.size := by omega
      have hov : ¬ 9223372036854775807 < 4 + n := by omega
      clear h3
      by_cases h4 : m = c
      · subst h4
        have HEE := Lib.hid HCK.out
        rw [if_neg (fun h => h rfl)] at HEE
        clear HCK
        go_enter Tryd.func18, Tryd.ntmps18
        go_wp2_with (first
          | (go_at_call 31; refine (HV.out _).mono ?_; rintro e w1 ⟨rfl, hb1⟩)
          | fail)
        refine wp_region_quiet_below (by kernel_rfl) (by kernel_rfl) ?_
        repeat (quiet_step (first | (go_at_call 31; with_reducible exact Calls.regrown_of (HVF.out _)) | (go_at_call 17; with_reducible exact Calls.regrown_of (HCF.out _))))
        refine wpQuiet_nil ?_
        intro _ hw'
        obtain ⟨⟨dq, osq⟩, hw''⟩ := hw'
        subst hw''
        have hbq := below_regrown w1 dq osq
        have HB3 := Lib.hid (hb1.trans (hbq.mono hb1.size))
        clear hbq
        dsimp only
        generalize Sort.grow (redrawn w1 dq) osq = w3 at HB3 ⊢
        go_wp2
        refine bodyPost_ret (v := .tuple #[.string T, .int .i64 ((n : Int) + 9), .int .i64 0]) (by simp [results, Tryd.results18, go_sem]) rfl ⟨?_, HB3.out⟩
        rw [HEE.out, HTB.out]
        rfl
      · have HEE := Lib.hid HCK.out
        rw [if_pos (fun h => h4 h.symm)] at HEE
        clear HCK
        go_enter Tryd.func18, Tryd.ntmps18
        go_wp2_with (first
          | (go_at_call 31; refine (HV.out _).mono ?_; rintro e w1 ⟨rfl, hb1⟩)
          | fail)
        refine wp_region_quiet_below (by kernel_rfl) (by kernel_rfl) ?_
        repeat (quiet_step (first | (go_at_call 31; with_reducible exact Calls.regrown_of (HVF.out _)) | (go_at_call 17; with_reducible exact Calls.regrown_of (HCF.out _))))
        refine wpQuiet_nil ?_
        intro _ hw'
        obtain ⟨⟨dq, osq⟩, hw''⟩ := hw'
        subst hw''
        have hbq := below_regrown w1 dq osq
        have HB3 := Lib.hid (hb1.trans (hbq.mono hb1.size))
        clear hbq
        dsimp only
        generalize Sort.grow (redrawn w1 dq) osq = w3 at HB3 ⊢
        go_wp2
        refine bodyPost_ret (v := .tuple #[.string (bs []), .int .i64 0, .int .i64 110]) (by simp [results, Tryd.results18, go_sem]) rfl ⟨?_, HB3.out⟩
        rw [HEE.out]
        rfl
    · have hx : ((s[n + 8].toNat : Int) != 90) = true := by
        rw [bne_iff_ne]
        intro h
        have h90 : (90 : UInt8).toNat = 90 := rfl
        exact h3 (by rw [hlast]; exact UInt8.toNat_inj.1 (by rw [h90]; omega))
      have HE := Lib.hid (show takeL s.data.toList = ([], 0, 6) by unfold takeL; rw [if_neg HL9.out, ← HN.out, if_neg h1, if_neg (by rw [len_data]; exact h2), if_pos h3])
      clear hlast h3
      go_enter Tryd.func18, Tryd.ntmps18
      go_wp2_with (go_at_call 31; refine (HV.out _).mono ?_; rintro e w1 ⟨rfl, hb1⟩)
      refine bodyPost_ret (v := .tuple #[.string (bs []), .int .i64 0, .int .i64 6]) (by simp [results, Tryd.results18, go_sem]) rfl ⟨?_, by assumption⟩
      rw [HE.out]; rfl
end Go.Proofs.YtfemebdiailacaaDoor.Frame
