/- origin: OriginKnown, OriginBack. -/
import Derived.Test.YtdgaoebjbhomdaaDoorOgW
namespace Go.Proofs.YtdgaoebjbhomdaaDoor.Og
open Go.RowKit Go.Proofs.YtdgaoebjbhomdaaDoor.Sha Go.Proofs.YtdgaoebjbhomdaaDoor.Gr Go.Proofs.YtdgaoebjbhomdaaDoor.Digit Go.Proofs.YtdgaoebjbhomdaaDoor.Deed Go.Proofs.YtdgaoebjbhomdaaDoor.Tree

theorem total_small (w : World) (ht : Tab w) : Calls Tryd.prog 8 #[oV small0 nilS nilS nilS] w fun e w' => e = .returned (.tuple #[.int .u64 5, .int .i64 0]) ∧ Below w.heap.size w w' := by
  have h := code_Total (small_at w) ht
  unfold mayE at h
  rw [if_pos small_may, if_pos small_may, show sumN small0 = 5 from by decide +kernel] at h
  exact h
theorem par1 (w : World) (ht : Tab w) : Calls Tryd.prog 11 #[.int .u64 4, .int .u64 1000] w fun e w' => e = .returned (.int .i64 0) ∧ Below w.heap.size w w' := code_Param 4 1000 w ht (by decide)
theorem par2 (w : World) (ht : Tab w) : Calls Tryd.prog 11 #[.int .u64 4, .int .u64 1001] w fun e w' => e = .returned (.int .i64 2) ∧ Below w.heap.size w w' := code_Param 4 1001 w ht (by decide)
theorem par3 (w : World) (ht : Tab w) : Calls Tryd.prog 11 #[.int .u64 6, .int .u64 0] w fun e w' => e = .returned (.int .i64 2) ∧ Below w.heap.size w w' := code_Param 6 0 w ht (by decide)
theorem par4 (w : World) (ht : Tab w) : Calls Tryd.prog 11 #[.int .u64 8, .int .u64 0] w fun e w' => e = .returned (.int .i64 5) ∧ Below w.heap.size w w' := code_Param 8 0 w ht (by decide)
set_option maxRecDepth 100000 in
set_option maxHeartbeats 1600000 in
theorem known_any (w : World) (ht : Tab w) : Calls Tryd.prog 3 #[] w fun e w' => e = .returned (.bool true) ∧ Below w.heap.size w w' := by
  have HT := Lib.hid ht
  clear ht
  go_enter Tryd.func3, Tryd.ntmps3
  go_wp2_with (first
    | (go_at_call 9; refine (code_small _).mono ?_; rintro e w1 ⟨rfl, hb1⟩; have HB1 := Lib.hid hb1; clear hb1)
    | (go_at_call 8; refine (total_small _ (HT.out.kept HB1.out)).mono ?_; rintro e w2 ⟨rfl, hb2⟩; have HB2 := Lib.hid (HB1.out.trans (hb2.mono HB1.out.size)); clear hb2)
    | (go_at_call 10; refine (works_any _ (HT.out.kept HB2.out)).mono ?_; rintro e w3 ⟨rfl, hb3⟩; have HB3 := Lib.hid (HB2.out.trans (hb3.mono HB2.out.size)); clear hb3)
    | (go_at_call 11; with_reducible refine (par1 _ (HT.out.kept HB3.out)).mono ?_; rintro e w4 ⟨rfl, hb4⟩; have HB4 := Lib.hid (HB3.out.trans (hb4.mono HB3.out.size)); clear hb4)
    | (go_at_call 11; with_reducible refine (par2 _ (HT.out.kept HB4.out)).mono ?_; rintro e w5 ⟨rfl, hb5⟩; have HB5 := Lib.hid (HB4.out.trans (hb5.mono HB4.out.size)); clear hb5)
    | (go_at_call 11; with_reducible refine (par3 _ (HT.out.kept HB5.out)).mono ?_; rintro e w6 ⟨rfl, hb6⟩; have HB6 := Lib.hid (HB5.out.trans (hb6.mono HB5.out.size)); clear hb6)
    | (go_at_call 11; with_reducible refine (par4 _ (HT.out.kept HB6.out)).mono ?_; rintro e w7 ⟨rfl, hb7⟩; have HB7 := Lib.hid (HB6.out.trans (hb7.mono HB6.out.size)); clear hb7))
  go_ret
  exact ⟨rfl, HB7.out⟩


abbrev huge (x : OriginD) : Prop := x.coins.length ≤ 1000000000000000000 ∧ x.seats.length ≤ 1000000000000000000 ∧ x.trusts.length ≤ 1000000000000000000
theorem take_any' (sl : ByteArray) (hs : sl.size ≤ 16384) (w : World) (ht : Tab w) : Calls Tryd.prog 12 #[.string sl] w fun e w' => ∃ x c s t er, e = .returned (.tuple #[oV x c s t, .int .i64 (er : Nat)]) ∧ OAt w' x c s t ∧ Below w.heap.size w w' ∧ ((takeO sl.data.toList = some x ∧ er = 0) ∨ (takeO sl.data.toList = none ∧ er = 6 ∧ x = orig0)) := by
  have h := code_Take (w := w) sl.data.toList (by rw [Array.length_toList]; exact Nat.le_trans hs (by decide)) ht
  exact h
set_option maxRecDepth 100000 in
set_option maxHeartbeats 3200000 in
theorem back_any {w : World} {x : OriginD} {c s t : Value} (h : OAt w x c s t) (hl : huge x) (sl : ByteArray) (ht : Tab w) : Calls Tryd.prog 6 #[oV x c s t, .string sl] w fun e w' => e = .returned (.bool true) ∧ Below w.heap.size w w' := by
  have HGR := Lib.hid (fun w (h : OAt w x c s t) => code_great h hl)
  have HPU := Lib.hid (fun w (h : OAt w x c s t) (ht : Tab w) => code_Put h ht)
  have HHW := Lib.hid (heap_alloc_new w (.cells (cellsO x c s t).toArray 34))
  have HIO := Lib.hid (show (Tryd.prog.info? 34).map (·.size) = some (cellsO x c s t).toArray.size by rw [List.size_toArray]; exact info_O h)
  have HTW := Lib.hid (ht.kept (show Below w.heap.size w (w.alloc (.cells (cellsO x c s t).toArray 34)) from (Below.refl _ _).alloc (Nat.le_refl _) _))
  have hgn := @great_no x
  obtain ⟨bg, hbg⟩ : ∃ b, greatB x = b := ⟨_, rfl⟩
  simp only [hbg] at HGR hgn
  unfold mayE at HPU
  have HTB := Lib.hid (fun (hm : mayO x = true) (hl : few x) (w : World) (ht : Tab w) => take_back (w := w) hm h.n hl ht)
  have HSS := Lib.hid (fun (hl : few x) (w : World) (c2 s2 t2 : Value) (h2 : OAt w x c2 s2 t2) (h : OAt w x c s t) => same_self h2 h hl)
  unfold oV at HGR HPU HSS
  clear hbg
  obtain ⟨h1, h2, h3, h4⟩ := box_o h
  unfold oV
  have HP := Lib.hid h1
  have HO := Lib.hid h2
  have HBW := Lib.hid h3
  have HLT := Lib.hid h4
  clear h1 h2 h3 h4
  obtain ⟨C, hC⟩ : ∃ C, (cellsO x c s t).toArray = C := ⟨_, rfl⟩
  have HC := Lib.hid hC
  rw [hC] at HP HO HBW HLT HHW HIO HTW
  simp only [hC] at HGR HPU HSS
  rw [hC]
  clear hC
  go_enter Tryd.func6, Tryd.ntmps6
  go_upto_region 1 with (fail)
  generalize w.alloc (.cells C 34) = W at HP HO HBW HLT HHW HTW ⊢
  obtain ⟨g, hg⟩ : ∃ g, w.heap.size = g := ⟨_, rfl⟩
  have HG := Lib.hid hg
  rw [hg] at HP HBW HLT HHW
  rw [hg]
  clear hg
  cases bg with
  | true =>
    go_wp2_with (first
      | (go_at_call 10; refine (works_any _ (HTW.out.kept HB1.out)).mono ?_; rintro e w2 ⟨rfl, hb⟩; have HB2 := Lib.hid (HB1.out.trans (hb.mono HB1.out.size)); clear hb)
      | (go_at_call 18; refine (HGR.out _ HO.out).mono ?_; rintro e w1 ⟨rfl, hb⟩; have HB1 := Lib.hid hb; clear hb)
      | (refine wpList_load_row rfl 34 (.tmp 2) rfl g rfl 34 C (0, 0) _ HHW.out Tryd.underlying34 rfl HIO.out ?_; go_frame))
    go_ret
    exact ⟨rfl, by rw [HG.out]; exact HBW.out.trans (HB2.out.mono (by have := HBW.out.size; have := HG.out; omega))⟩
  | false =>
    have hfew := hgn rfl
    clear hgn
    by_cases hsz : 16384 < sl.size
    · have hszi : (16384 : Int) < (sl.size : Int) := by omega
      go_wp2_with (first
        | (go_at_call 10; refine (works_any _ (HTW.out.kept HB1.out)).mono ?_; rintro e w2 ⟨rfl, hb⟩; have HB2 := Lib.hid (HB1.out.trans (hb.mono HB1.out.size)); clear hb)
        | (go_at_call 18; refine (HGR.out _ HO.out).mono ?_; rintro e w1 ⟨rfl, hb⟩; have HB1 := Lib.hid hb; clear hb)
        | (refine wpList_load_row rfl 34 (.tmp 2) rfl g rfl 34 C (0, 0) _ HHW.out Tryd.underlying34 rfl HIO.out ?_; go_frame))
      go_ret
      exact ⟨rfl, by rw [HG.out]; exact HBW.out.trans (HB2.out.mono (by have := HBW.out.size; have := HG.out; omega))⟩
    · have hszi : decide ((16384 : Int) < (sl.size : Int)) = false := decide_eq_false (by omega)
      have HTK := Lib.hid (fun w ht => take_any' sl (by omega) w ht)
      have HFEW := Lib.hid hfew
      have htake := @takeO_some sl.data.toList
      clear hsz hfew
      go_upto_region 3 with (first
        | (go_at_call 18; refine (HGR.out _ HO.out).mono ?_; rintro e w1 ⟨rfl, hb⟩; have HB1 := Lib.hid hb; clear hb)
        | (refine wpList_load_row rfl 34 (.tmp 2) rfl g rfl 34 C (0, 0) _ HHW.out Tryd.underlying34 rfl HIO.out ?_; go_frame))
      have HH1 := Lib.hid ((HB1.out.block g HLT.out).trans HHW.out)
      have HO1 := Lib.hid (HO.out.kept HB1.out)
      have HT1 := Lib.hid (HTW.out.kept HB1.out)
      rcases Bool.eq_false_or_eq_true (mayO x) with hmay | hmay
      · have hm : mayO x = true := hmay
        rw [hm] at HPU
        simp only [if_true] at HPU
        go_upto_region 4 with (first
          | (go_at_call 19; refine (HPU.out _ HO1.out HT1.out).mono ?_; rintro e w3 ⟨rfl, hb⟩; have HB3 := Lib.hid (HB1.out.trans (hb.mono HB1.out.size)); clear hb)
          | (refine wpList_load_row rfl 34 (.tmp 2) rfl g rfl 34 C (0, 0) _ HH1.out Tryd.underlying34 rfl HIO.out ?_; go_frame))
        go_upto_region 6 with (first
          | (go_at_call 12; refine (HTB.out hm HFEW.out _ (HTW.out.kept HB3.out)).mono ?_; rintro e w4 ⟨c2, s2, t2, rfl, hoa, hb⟩; have HB4 := Lib.hid (HB3.out.trans (hb.mono HB3.out.size)); have HOA := Lib.hid hoa; clear hb hoa)
          | (refine wpList_new_var (T := 34) (Z := zOrig.toArray) (C := (cellsO x c2 s2 t2).toArray) (by rw [List.size_toArray, cellsO_len HOA.out]; exact orig_info) (by rw [List.size_toArray, List.size_toArray, cellsO_len HOA.out]; exact zOrig_len) HOA.out.forms (.tmp 7) (.tmp 28) rfl rfl rfl rfl (fun _ => rfl) (fun _ => rfl) ?_; intro w5 hh5 hs5 hb5; go_frame))
        have HB5 := Lib.hid (HB4.out.trans (hb5.mono HB4.out.size))
        have HO5 := Lib.hid (HOA.out.kept hb5)
        have HI5 := Lib.hid (show (Tryd.prog.info? 34).map (·.size) = some (cellsO x c2 s2 t2).toArray.size by rw [List.size_toArray]; exact info_O HOA.out)
        have HH5 := Lib.hid hh5
        have HHX := Lib.hid ((HB5.out.block g HLT.out).trans HHW.out)
        have HSX := Lib.hid (fun w h2 h => HSS.out HFEW.out w c2 s2 t2 h2 h)
        obtain ⟨C2, hC2⟩ : ∃ C, (cellsO x c2 s2 t2).toArray = C := ⟨_, rfl⟩
        simp only [hC2] at HSX
        rw [hC2] at HH5 HI5
        obtain ⟨g5, hg5⟩ : ∃ n, w4.heap.size = n := ⟨_, rfl⟩
        rw [hg5] at HH5 ⊢
        clear hh5 hs5 hb5 hC2 hg5
        go_upto_region 8 with (first
          | (go_at_call 14; refine (HSX.out _ HO5.out (HO.out.kept HB5.out)).mono ?_; rintro e w6 ⟨rfl, hb⟩; have HB6 := Lib.hid (HB5.out.trans (hb.mono HB5.out.size)); clear hb)
          | (refine wpList_load_row_g (by rfl) 34 (.tmp 7) rfl g5 rfl 34 C2 (0, 0) _ HH5.out Tryd.underlying34 rfl HI5.out ?_; go_frame)
          | (refine wpList_load_row_g (by rfl) 34 (.tmp 2) rfl g rfl 34 C (0, 0) _ HHX.out Tryd.underlying34 rfl HIO.out ?_; go_frame))
        have HBZ := HB6
        have HTZ := Lib.hid (HTW.out.kept HBZ.out)
        go_upto_region 9 with (first
          | (go_at_call 12; refine (HTK.out _ HTZ.out).mono ?_; rintro e w7 ⟨y, cy, sy, ty, er, rfl, hoa, hb, hd⟩; have HB7 := Lib.hid (HBZ.out.trans (hb.mono HBZ.out.size)); have HOY := Lib.hid hoa; clear hb hoa)
          | (refine wpList_new_var (T := 34) (Z := zOrig.toArray) (C := (cellsO y cy sy ty).toArray) (by rw [List.size_toArray, cellsO_len HOY.out]; exact orig_info) (by rw [List.size_toArray, List.size_toArray, cellsO_len HOY.out]; exact zOrig_len) HOY.out.forms (.tmp 9) (.tmp 41) rfl rfl rfl rfl (fun _ => rfl) (fun _ => rfl) ?_; intro w8 hh8 hs8 hb8; go_frame))
        have HB8 := Lib.hid (HB7.out.trans (hb8.mono HB7.out.size))
        have HO8 := Lib.hid (HOY.out.kept hb8)
        have HT8 := Lib.hid (HTW.out.kept HB8.out)
        have HI8 := Lib.hid (show (Tryd.prog.info? 34).map (·.size) = some (cellsO y cy sy ty).toArray.size by rw [List.size_toArray]; exact info_O HOY.out)
        have HH8 := Lib.hid hh8
        rcases hd with ⟨hd1, rfl⟩ | ⟨hd1, rfl, rfl⟩
        · obtain ⟨hmy, hlist, hlens⟩ := htake hd1
          have HPY := Lib.hid (fun w (h : OAt w y cy sy ty) (ht : Tab w) => code_Put h ht)
          unfold mayE oV at HPY
          simp only [hmy, if_true] at HPY
          have HSE := Lib.hid (show bs (origL y) = sl by rw [← hlist])
          rw [HSE.out] at HPY
          obtain ⟨CY, hCY⟩ : ∃ C, (cellsO y cy sy ty).toArray = C := ⟨_, rfl⟩
          simp only [hCY] at HPY
          rw [hCY] at HH8 HI8
          clear hCY hh8 hs8 hb8 htake hd1 hlist
          have heq : (sl.toList == sl.toList) = true := beq_self_eq_true _
          obtain ⟨g8, hg8⟩ : ∃ n, w7.heap.size = n := ⟨_, rfl⟩
          rw [hg8] at HH8 ⊢
          clear hg8
          go_wp2_with (first
            | (go_at_call 19; refine (HPY.out _ HO8.out HT8.out).mono ?_; rintro e w9 ⟨rfl, hb⟩; have HB9 := Lib.hid (HB8.out.trans (hb.mono HB8.out.size)); clear hb)
            | (refine wpList_load_row rfl 34 (.tmp 9) rfl g8 rfl 34 CY (0, 0) _ HH8.out Tryd.underlying34 rfl HI8.out ?_; go_frame))
          go_ret
          exact ⟨rfl, by rw [HG.out]; exact HBW.out.trans (HB9.out.mono (by have := HBW.out.size; have := HG.out; omega))⟩
        · have HSZ := Lib.hid (fun w (h : OAt w orig0 cy sy ty) => same_self h (zOrig_at w) (show few orig0 from ⟨by decide, by decide, by decide⟩))
          unfold oV at HSZ
          have HZB := Lib.hid zOrig_built
          rw [show (cellsO orig0 nilS nilS nilS) = zOrig from rfl] at HSZ
          obtain ⟨ZO, hZO⟩ : ∃ C, zOrig.toArray = C := ⟨_, rfl⟩
          simp only [hZO] at HSZ HZB
          obtain ⟨CY, hCY⟩ : ∃ C, (cellsO orig0 cy sy ty).toArray = C := ⟨_, rfl⟩
          simp only [hCY] at HSZ
          rw [hCY] at HH8 HI8
          clear hCY hh8 hs8 hb8 htake hd1 hZO
          obtain ⟨g8, hg8⟩ : ∃ n, w7.heap.size = n := ⟨_, rfl⟩
          rw [hg8] at HH8 ⊢
          clear hg8
          go_wp2_with (first
            | (go_at_call 14; refine (HSZ.out _ HO8.out).mono ?_; rintro e w9 ⟨rfl, hb⟩; have HB9 := Lib.hid (HB8.out.trans (hb.mono HB8.out.size)); clear hb)
            | (go_at_call 10; refine (works_any _ (HTW.out.kept HB9.out)).mono ?_; rintro e w10 ⟨rfl, hb⟩; have HB10 := Lib.hid (HB9.out.trans (hb.mono HB9.out.size)); clear hb)
            | (refine wpList_load_row rfl 34 (.tmp 9) rfl g8 rfl 34 CY (0, 0) _ HH8.out Tryd.underlying34 rfl HI8.out ?_; go_frame)
            | (refine Bl.wpList_build_as rfl 34 #[] rfl ZO (by simpa using HZB.out) ?_; go_frame))
          go_ret
          exact ⟨rfl, by rw [HG.out]; exact HBW.out.trans (HB10.out.mono (by have := HBW.out.size; have := HG.out; omega))⟩
      · have hm : mayO x = false := hmay
        rw [hm] at HPU
        simp only [Bool.false_eq_true, if_false] at HPU
        go_upto_region 8 with (first
          | (go_at_call 19; refine (HPU.out _ HO1.out HT1.out).mono ?_; rintro e w3 ⟨rfl, hb⟩; have HB3 := Lib.hid (HB1.out.trans (hb.mono HB1.out.size)); clear hb)
          | (refine wpList_load_row rfl 34 (.tmp 2) rfl g rfl 34 C (0, 0) _ HH1.out Tryd.underlying34 rfl HIO.out ?_; go_frame))
        have HBZ := HB3
        have HTZ := Lib.hid (HTW.out.kept HBZ.out)
        go_upto_region 9 with (first
          | (go_at_call 12; refine (HTK.out _ HTZ.out).mono ?_; rintro e w7 ⟨y, cy, sy, ty, er, rfl, hoa, hb, hd⟩; have HB7 := Lib.hid (HBZ.out.trans (hb.mono HBZ.out.size)); have HOY := Lib.hid hoa; clear hb hoa)
          | (refine wpList_new_var (T := 34) (Z := zOrig.toArray) (C := (cellsO y cy sy ty).toArray) (by rw [List.size_toArray, cellsO_len HOY.out]; exact orig_info) (by rw [List.size_toArray, List.size_toArray, cellsO_len HOY.out]; exact zOrig_len) HOY.out.forms (.tmp 9) (.tmp 41) rfl rfl rfl rfl (fun _ => rfl) (fun _ => rfl) ?_; intro w8 hh8 hs8 hb8; go_frame))
        have HB8 := Lib.hid (HB7.out.trans (hb8.mono HB7.out.size))
        have HO8 := Lib.hid (HOY.out.kept hb8)
        have HT8 := Lib.hid (HTW.out.kept HB8.out)
        have HI8 := Lib.hid (show (Tryd.prog.info? 34).map (·.size) = some (cellsO y cy sy ty).toArray.size by rw [List.size_toArray]; exact info_O HOY.out)
        have HH8 := Lib.hid hh8
        rcases hd with ⟨hd1, rfl⟩ | ⟨hd1, rfl, rfl⟩
        · obtain ⟨hmy, hlist, hlens⟩ := htake hd1
          have HPY := Lib.hid (fun w (h : OAt w y cy sy ty) (ht : Tab w) => code_Put h ht)
          unfold mayE oV at HPY
          simp only [hmy, if_true] at HPY
          have HSE := Lib.hid (show bs (origL y) = sl by rw [← hlist])
          rw [HSE.out] at HPY
          obtain ⟨CY, hCY⟩ : ∃ C, (cellsO y cy sy ty).toArray = C := ⟨_, rfl⟩
          simp only [hCY] at HPY
          rw [hCY] at HH8 HI8
          clear hCY hh8 hs8 hb8 htake hd1 hlist
          have heq : (sl.toList == sl.toList) = true := beq_self_eq_true _
          obtain ⟨g8, hg8⟩ : ∃ n, w7.heap.size = n := ⟨_, rfl⟩
          rw [hg8] at HH8 ⊢
          clear hg8
          go_wp2_with (first
            | (go_at_call 19; refine (HPY.out _ HO8.out HT8.out).mono ?_; rintro e w9 ⟨rfl, hb⟩; have HB9 := Lib.hid (HB8.out.trans (hb.mono HB8.out.size)); clear hb)
            | (refine wpList_load_row rfl 34 (.tmp 9) rfl g8 rfl 34 CY (0, 0) _ HH8.out Tryd.underlying34 rfl HI8.out ?_; go_frame))
          go_ret
          exact ⟨rfl, by rw [HG.out]; exact HBW.out.trans (HB9.out.mono (by have := HBW.out.size; have := HG.out; omega))⟩
        · have HSZ := Lib.hid (fun w (h : OAt w orig0 cy sy ty) => same_self h (zOrig_at w) (show few orig0 from ⟨by decide, by decide, by decide⟩))
          unfold oV at HSZ
          have HZB := Lib.hid zOrig_built
          rw [show (cellsO orig0 nilS nilS nilS) = zOrig from rfl] at HSZ
          obtain ⟨ZO, hZO⟩ : ∃ C, zOrig.toArray = C := ⟨_, rfl⟩
          simp only [hZO] at HSZ HZB
          obtain ⟨CY, hCY⟩ : ∃ C, (cellsO orig0 cy sy ty).toArray = C := ⟨_, rfl⟩
          simp only [hCY] at HSZ
          rw [hCY] at HH8 HI8
          clear hCY hh8 hs8 hb8 htake hd1 hZO
          obtain ⟨g8, hg8⟩ : ∃ n, w7.heap.size = n := ⟨_, rfl⟩
          rw [hg8] at HH8 ⊢
          clear hg8
          go_wp2_with (first
            | (go_at_call 14; refine (HSZ.out _ HO8.out).mono ?_; rintro e w9 ⟨rfl, hb⟩; have HB9 := Lib.hid (HB8.out.trans (hb.mono HB8.out.size)); clear hb)
            | (go_at_call 10; refine (works_any _ (HTW.out.kept HB9.out)).mono ?_; rintro e w10 ⟨rfl, hb⟩; have HB10 := Lib.hid (HB9.out.trans (hb.mono HB9.out.size)); clear hb)
            | (refine wpList_load_row rfl 34 (.tmp 9) rfl g8 rfl 34 CY (0, 0) _ HH8.out Tryd.underlying34 rfl HI8.out ?_; go_frame)
            | (refine Bl.wpList_build_as rfl 34 #[] rfl ZO (by simpa using HZB.out) ?_; go_frame))
          go_ret
          exact ⟨rfl, by rw [HG.out]; exact HBW.out.trans (HB10.out.mono (by have := HBW.out.size; have := HG.out; omega))⟩

end Go.Proofs.YtdgaoebjbhomdaaDoor.Og
