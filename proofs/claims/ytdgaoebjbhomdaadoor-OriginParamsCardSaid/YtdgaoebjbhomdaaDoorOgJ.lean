/- origin: the code's May, Put, Total. -/
import Derived.Test.YtdgaoebjbhomdaaDoorOgI
namespace Go.Proofs.YtdgaoebjbhomdaaDoor.Og
open Go.RowKit Go.Proofs.YtdgaoebjbhomdaaDoor.Sha Go.Proofs.YtdgaoebjbhomdaaDoor.Gr Go.Proofs.YtdgaoebjbhomdaaDoor.Digit Go.Proofs.YtdgaoebjbhomdaaDoor.Deed Go.Proofs.YtdgaoebjbhomdaaDoor.Tree

def mayE (o : OriginD) : Nat := if mayO o = true then 0 else 2
theorem cnt_lens {o : OriginD} (h : cntB o = true) : o.coins.length ≤ 32 ∧ o.seats.length ≤ 16 ∧ o.trusts.length ≤ 32 := by
  unfold cntB at h
  simpa using h
theorem range_params {w : World} {g : Nat} {l : List UInt64} (h : w.rangeAt g 0 (l.map nV)) : w.rangeAt g 5 (((l.drop 5).take 8).map nV) := fun j v hv => by
  rw [List.getElem?_map] at hv
  obtain ⟨n, hn, rfl⟩ := Option.map_eq_some_iff.1 hv
  rw [List.getElem?_take] at hn
  split at hn
  · rw [List.getElem?_drop] at hn
    have := h (5 + j) (nV n) (by rw [List.getElem?_map, hn]; rfl)
    rwa [Nat.zero_add] at this
  · cases hn


set_option maxRecDepth 100000 in
set_option maxHeartbeats 6400000 in
theorem code_May {w : World} {o : OriginD} {c s t : Value} (h : OAt w o c s t) (ht : Tab w) : Calls Tryd.prog 20 #[oV o c s t] w fun e w' => e = .returned (.int .i64 (mayE o : Nat)) ∧ Below w.heap.size w w' := by
  have HL := Lib.hid (@cnt_lens o)
  have HN := Lib.hid h.n
  have HC1 := Lib.hid (fun w (h : OAt w o c s t) => code_mayCount h)
  have HC2 := Lib.hid (fun w (h : OAt w o c s t) => code_mayNumbers h)
  have HC3 := Lib.hid (fun w (ht : Tab w) => code_mayParams h.n w ht)
  have HC4 := Lib.hid (fun w (h : OAt w o c s t) (hl : o.coins.length ≤ 32 ∧ o.seats.length ≤ 16 ∧ o.trusts.length ≤ 32) => code_mayCoins c o.coins w h.coins (Nat.le_trans hl.1 (by decide)))
  have HC5 := Lib.hid (fun w (h : OAt w o c s t) (hl : o.coins.length ≤ 32 ∧ o.seats.length ≤ 16 ∧ o.trusts.length ≤ 32) => code_maySeats s o.seats w h.seats (Nat.le_trans hl.2.1 (by decide)))
  have HC6 := Lib.hid (fun w (h : OAt w o c s t) (hl : o.coins.length ≤ 32 ∧ o.seats.length ≤ 16 ∧ o.trusts.length ≤ 32) => code_mayTrusts t o.trusts s o.seats w h.trusts (Nat.le_trans hl.2.2 (by decide)) h.seats (Nat.le_trans hl.2.1 (by decide)))
  have HC7 := Lib.hid (fun w (h : OAt w o c s t) (hl : o.coins.length ≤ 32 ∧ o.seats.length ≤ 16 ∧ o.trusts.length ≤ 32) => code_mayTotal h (Nat.le_trans hl.1 (by decide)))
  obtain ⟨r, hr⟩ : ∃ r, mayE o = r := ⟨_, rfl⟩
  have HR := Lib.hid (show (if mayO o = true then 0 else 2) = r from hr)
  rw [hr]
  clear hr
  unfold mayO at HR
  obtain ⟨b1, hb1⟩ : ∃ b, cntB o = b := ⟨_, rfl⟩
  simp only [hb1] at HR HC1 HL
  clear hb1
  obtain ⟨b2, hb2⟩ : ∃ b, numsB o = b := ⟨_, rfl⟩
  simp only [hb2] at HR HC2
  clear hb2
  obtain ⟨b3, hb3⟩ : ∃ b, allN 8 (parI o) = b := ⟨_, rfl⟩
  simp only [hb3] at HR HC3
  clear hb3
  obtain ⟨b4, hb4⟩ : ∃ b, allN o.coins.length (coinI o.coins) = b := ⟨_, rfl⟩
  simp only [hb4] at HR HC4
  clear hb4
  obtain ⟨b5, hb5⟩ : ∃ b, seatsB o.seats = b := ⟨_, rfl⟩
  simp only [hb5] at HR HC5
  clear hb5
  obtain ⟨b6, hb6⟩ : ∃ b, trustsB o.trusts o.seats = b := ⟨_, rfl⟩
  simp only [hb6] at HR HC6
  clear hb6
  obtain ⟨b7, hb7⟩ : ∃ b, totB o = b := ⟨_, rfl⟩
  simp only [hb7] at HR HC7
  clear hb7
  unfold oV at HC1 HC2 HC7
  have HIO := Lib.hid (show (Tryd.prog.info? 34).map (·.size) = some (cellsO o c s t).toArray.size by rw [List.size_toArray]; exact info_O h)
  have HHW := Lib.hid (heap_alloc_new w (.cells (cellsO o c s t).toArray 34))
  have HIP := Lib.hid (show (Tryd.prog.info? 27).map (·.size) = some (((o.n.drop 5).take 8).map nV).length by rw [List.length_map, params_len h.n]; kernel_rfl)
  have HTW := Lib.hid (ht.kept (show Below w.heap.size w (w.alloc (.cells (cellsO o c s t).toArray 34)) from (Below.refl _ _).alloc (Nat.le_refl _) _))
  obtain ⟨h1, h2, h3, h4⟩ := box_o h
  unfold oV
  have HP := Lib.hid h1
  have HO := Lib.hid h2
  have HBW := Lib.hid h3
  have HLT := Lib.hid h4
  clear h1 h2 h3 h4
  obtain ⟨C, hC⟩ : ∃ C, (cellsO o c s t).toArray = C := ⟨_, rfl⟩
  have HC := Lib.hid hC
  rw [hC] at HP HO HBW HLT HIO HHW HTW
  simp only [hC] at HC1 HC2 HC7
  rw [hC]
  clear hC
  go_enter Tryd.func20, Tryd.ntmps20
  go_upto_region 1 with (fail)
  generalize w.alloc (.cells C 34) = W at HP HO HBW HLT HHW HTW ⊢
  obtain ⟨g, hg⟩ : ∃ g, w.heap.size = g := ⟨_, rfl⟩
  have HG := Lib.hid hg
  rw [hg] at HP HBW HLT HHW
  rw [hg]
  clear hg
  have q1 := HP.out.c
  have q2 := HP.out.s
  have q3 := HP.out.t
  have HPR := Lib.hid (range_params HP.out.ns)
  obtain ⟨CP, hCP⟩ : ∃ C, (((o.n.drop 5).take 8).map nV).toArray = C := ⟨_, rfl⟩
  have HCP := Lib.hid hCP
  simp only [hCP] at HC3
  clear hCP
  cases b1 with
  | false =>
    go_wp2_with (first
      | (go_at_call 43; refine (HC1.out _ HO.out).mono ?_; rintro e w1 ⟨rfl, hb⟩; have HB1 := Lib.hid hb; have HH1 := Lib.hid ((HB1.out.block g HLT.out).trans HHW.out); clear hb)
      | (refine wpList_load_row rfl 34 (.tmp 1) rfl g rfl 34 C (0, 0) _ HHW.out Tryd.underlying34 rfl HIO.out ?_; go_frame))
    go_ret
    exact ⟨by rw [← HR.out]; rfl, by rw [HG.out]; exact HBW.out.trans (HB1.out.mono (by have := HBW.out.size; have := HG.out; omega))⟩
  | true =>
    have hl := HL.out rfl
    cases b2 with
    | false =>
      go_wp2_with (first
        | (go_at_call 44; refine (HC2.out _ (HO.out.kept HB1.out)).mono ?_; rintro e w2 ⟨rfl, hb⟩; have HB2 := Lib.hid (HB1.out.trans (hb.mono HB1.out.size)); have HH2 := Lib.hid ((HB2.out.block g HLT.out).trans HHW.out); have HP2 := Lib.hid (range_kept HB2.out HPR.out); clear hb)
        | (go_at_call 43; refine (HC1.out _ HO.out).mono ?_; rintro e w1 ⟨rfl, hb⟩; have HB1 := Lib.hid hb; have HH1 := Lib.hid ((HB1.out.block g HLT.out).trans HHW.out); clear hb)
        | (refine wpList_load_row rfl 34 (.tmp 1) rfl g rfl 34 C (0, 0) _ HHW.out Tryd.underlying34 rfl HIO.out ?_; go_frame)
        | (refine wpList_load_row_g (by rfl) 34 (.tmp 1) rfl g rfl 34 C (0, 0) _ HH1.out Tryd.underlying34 rfl HIO.out ?_; go_frame))
      go_ret
      exact ⟨by rw [← HR.out]; rfl, by rw [HG.out]; exact HBW.out.trans (HB2.out.mono (by have := HBW.out.size; have := HG.out; omega))⟩
    | true =>
      cases b3 with
      | false =>
        go_wp2_with (first
          | (go_at_call 45; refine (HC3.out _ (HTW.out.kept HB2.out)).mono ?_; rintro e w3 ⟨rfl, hb⟩; have HB3 := Lib.hid (HB2.out.trans (hb.mono HB2.out.size)); have HH3 := Lib.hid ((HB3.out.block g HLT.out).trans HHW.out); have x1 := (HB3.out.cell HLT.out).trans q1; clear hb)
          | (go_at_call 44; refine (HC2.out _ (HO.out.kept HB1.out)).mono ?_; rintro e w2 ⟨rfl, hb⟩; have HB2 := Lib.hid (HB1.out.trans (hb.mono HB1.out.size)); have HH2 := Lib.hid ((HB2.out.block g HLT.out).trans HHW.out); have HP2 := Lib.hid (range_kept HB2.out HPR.out); clear hb)
          | (go_at_call 43; refine (HC1.out _ HO.out).mono ?_; rintro e w1 ⟨rfl, hb⟩; have HB1 := Lib.hid hb; have HH1 := Lib.hid ((HB1.out.block g HLT.out).trans HHW.out); clear hb)
          | (refine wpList_load_row rfl 34 (.tmp 1) rfl g rfl 34 C (0, 0) _ HHW.out Tryd.underlying34 rfl HIO.out ?_; go_frame)
          | (refine wpList_load_mid_g (by rfl) 27 (.tmp 10) rfl g 5 rfl (((o.n.drop 5).take 8).map nV) _ HP2.out Tryd.underlying27 rfl HIP.out ?_; rw [HCP.out]; go_frame)
          | (refine wpList_load_row_g (by rfl) 34 (.tmp 1) rfl g rfl 34 C (0, 0) _ HH1.out Tryd.underlying34 rfl HIO.out ?_; go_frame))
        go_ret
        exact ⟨by rw [← HR.out]; rfl, by rw [HG.out]; exact HBW.out.trans (HB3.out.mono (by have := HBW.out.size; have := HG.out; omega))⟩
      | true =>
        cases b4 with
        | false =>
          go_wp2_with (first
            | (go_at_call 46; refine (HC4.out _ (HO.out.kept HB3.out) hl).mono ?_; rintro e w4 ⟨rfl, hb⟩; have HB4 := Lib.hid (HB3.out.trans (hb.mono HB3.out.size)); have HH4 := Lib.hid ((HB4.out.block g HLT.out).trans HHW.out); have x2 := (HB4.out.cell HLT.out).trans q2; clear hb)
            | (go_at_call 45; refine (HC3.out _ (HTW.out.kept HB2.out)).mono ?_; rintro e w3 ⟨rfl, hb⟩; have HB3 := Lib.hid (HB2.out.trans (hb.mono HB2.out.size)); have HH3 := Lib.hid ((HB3.out.block g HLT.out).trans HHW.out); have x1 := (HB3.out.cell HLT.out).trans q1; clear hb)
            | (go_at_call 44; refine (HC2.out _ (HO.out.kept HB1.out)).mono ?_; rintro e w2 ⟨rfl, hb⟩; have HB2 := Lib.hid (HB1.out.trans (hb.mono HB1.out.size)); have HH2 := Lib.hid ((HB2.out.block g HLT.out).trans HHW.out); have HP2 := Lib.hid (range_kept HB2.out HPR.out); clear hb)
            | (go_at_call 43; refine (HC1.out _ HO.out).mono ?_; rintro e w1 ⟨rfl, hb⟩; have HB1 := Lib.hid hb; have HH1 := Lib.hid ((HB1.out.block g HLT.out).trans HHW.out); clear hb)
            | (refine wpList_load_row rfl 34 (.tmp 1) rfl g rfl 34 C (0, 0) _ HHW.out Tryd.underlying34 rfl HIO.out ?_; go_frame)
            | (refine wpList_load_mid_g (by rfl) 27 (.tmp 10) rfl g 5 rfl (((o.n.drop 5).take 8).map nV) _ HP2.out Tryd.underlying27 rfl HIP.out ?_; rw [HCP.out]; go_frame)
            | (refine wpList_load_row_g (by rfl) 34 (.tmp 1) rfl g rfl 34 C (0, 0) _ HH1.out Tryd.underlying34 rfl HIO.out ?_; go_frame))
          go_ret
          exact ⟨by rw [← HR.out]; rfl, by rw [HG.out]; exact HBW.out.trans (HB4.out.mono (by have := HBW.out.size; have := HG.out; omega))⟩
        | true =>
          cases b5 with
          | false =>
            go_wp2_with (first
              | (go_at_call 47; refine (HC5.out _ (HO.out.kept HB4.out) hl).mono ?_; rintro e w5 ⟨rfl, hb⟩; have HB5 := Lib.hid (HB4.out.trans (hb.mono HB4.out.size)); have HH5 := Lib.hid ((HB5.out.block g HLT.out).trans HHW.out); have x3 := (HB5.out.cell HLT.out).trans q3; have x4 := (HB5.out.cell HLT.out).trans q2; clear hb)
              | (go_at_call 46; refine (HC4.out _ (HO.out.kept HB3.out) hl).mono ?_; rintro e w4 ⟨rfl, hb⟩; have HB4 := Lib.hid (HB3.out.trans (hb.mono HB3.out.size)); have HH4 := Lib.hid ((HB4.out.block g HLT.out).trans HHW.out); have x2 := (HB4.out.cell HLT.out).trans q2; clear hb)
              | (go_at_call 45; refine (HC3.out _ (HTW.out.kept HB2.out)).mono ?_; rintro e w3 ⟨rfl, hb⟩; have HB3 := Lib.hid (HB2.out.trans (hb.mono HB2.out.size)); have HH3 := Lib.hid ((HB3.out.block g HLT.out).trans HHW.out); have x1 := (HB3.out.cell HLT.out).trans q1; clear hb)
              | (go_at_call 44; refine (HC2.out _ (HO.out.kept HB1.out)).mono ?_; rintro e w2 ⟨rfl, hb⟩; have HB2 := Lib.hid (HB1.out.trans (hb.mono HB1.out.size)); have HH2 := Lib.hid ((HB2.out.block g HLT.out).trans HHW.out); have HP2 := Lib.hid (range_kept HB2.out HPR.out); clear hb)
              | (go_at_call 43; refine (HC1.out _ HO.out).mono ?_; rintro e w1 ⟨rfl, hb⟩; have HB1 := Lib.hid hb; have HH1 := Lib.hid ((HB1.out.block g HLT.out).trans HHW.out); clear hb)
              | (refine wpList_load_row rfl 34 (.tmp 1) rfl g rfl 34 C (0, 0) _ HHW.out Tryd.underlying34 rfl HIO.out ?_; go_frame)
              | (refine wpList_load_mid_g (by rfl) 27 (.tmp 10) rfl g 5 rfl (((o.n.drop 5).take 8).map nV) _ HP2.out Tryd.underlying27 rfl HIP.out ?_; rw [HCP.out]; go_frame)
              | (refine wpList_load_row_g (by rfl) 34 (.tmp 1) rfl g rfl 34 C (0, 0) _ HH1.out Tryd.underlying34 rfl HIO.out ?_; go_frame))
            go_ret
            exact ⟨by rw [← HR.out]; rfl, by rw [HG.out]; exact HBW.out.trans (HB5.out.mono (by have := HBW.out.size; have := HG.out; omega))⟩
          | true =>
            cases b6 with
            | false =>
              go_wp2_with (first
                | (go_at_call 48; refine (HC6.out _ (HO.out.kept HB5.out) hl).mono ?_; rintro e w6 ⟨rfl, hb⟩; have HB6 := Lib.hid (HB5.out.trans (hb.mono HB5.out.size)); have HH6 := Lib.hid ((HB6.out.block g HLT.out).trans HHW.out); clear hb)
                | (go_at_call 47; refine (HC5.out _ (HO.out.kept HB4.out) hl).mono ?_; rintro e w5 ⟨rfl, hb⟩; have HB5 := Lib.hid (HB4.out.trans (hb.mono HB4.out.size)); have HH5 := Lib.hid ((HB5.out.block g HLT.out).trans HHW.out); have x3 := (HB5.out.cell HLT.out).trans q3; have x4 := (HB5.out.cell HLT.out).trans q2; clear hb)
                | (go_at_call 46; refine (HC4.out _ (HO.out.kept HB3.out) hl).mono ?_; rintro e w4 ⟨rfl, hb⟩; have HB4 := Lib.hid (HB3.out.trans (hb.mono HB3.out.size)); have HH4 := Lib.hid ((HB4.out.block g HLT.out).trans HHW.out); have x2 := (HB4.out.cell HLT.out).trans q2; clear hb)
                | (go_at_call 45; refine (HC3.out _ (HTW.out.kept HB2.out)).mono ?_; rintro e w3 ⟨rfl, hb⟩; have HB3 := Lib.hid (HB2.out.trans (hb.mono HB2.out.size)); have HH3 := Lib.hid ((HB3.out.block g HLT.out).trans HHW.out); have x1 := (HB3.out.cell HLT.out).trans q1; clear hb)
                | (go_at_call 44; refine (HC2.out _ (HO.out.kept HB1.out)).mono ?_; rintro e w2 ⟨rfl, hb⟩; have HB2 := Lib.hid (HB1.out.trans (hb.mono HB1.out.size)); have HH2 := Lib.hid ((HB2.out.block g HLT.out).trans HHW.out); have HP2 := Lib.hid (range_kept HB2.out HPR.out); clear hb)
                | (go_at_call 43; refine (HC1.out _ HO.out).mono ?_; rintro e w1 ⟨rfl, hb⟩; have HB1 := Lib.hid hb; have HH1 := Lib.hid ((HB1.out.block g HLT.out).trans HHW.out); clear hb)
                | (refine wpList_load_row rfl 34 (.tmp 1) rfl g rfl 34 C (0, 0) _ HHW.out Tryd.underlying34 rfl HIO.out ?_; go_frame)
                | (refine wpList_load_mid_g (by rfl) 27 (.tmp 10) rfl g 5 rfl (((o.n.drop 5).take 8).map nV) _ HP2.out Tryd.underlying27 rfl HIP.out ?_; rw [HCP.out]; go_frame)
                | (refine wpList_load_row_g (by rfl) 34 (.tmp 1) rfl g rfl 34 C (0, 0) _ HH1.out Tryd.underlying34 rfl HIO.out ?_; go_frame))
              go_ret
              exact ⟨by rw [← HR.out]; rfl, by rw [HG.out]; exact HBW.out.trans (HB6.out.mono (by have := HBW.out.size; have := HG.out; omega))⟩
            | true =>
              cases b7 with
              | false =>
                go_wp2_with (first
                  | (go_at_call 49; refine (HC7.out _ (HO.out.kept HB6.out) hl).mono ?_; rintro e w7 ⟨rfl, hb⟩; have HB7 := Lib.hid (HB6.out.trans (hb.mono HB6.out.size)); have HH7 := Lib.hid ((HB7.out.block g HLT.out).trans HHW.out); clear hb)
                  | (go_at_call 48; refine (HC6.out _ (HO.out.kept HB5.out) hl).mono ?_; rintro e w6 ⟨rfl, hb⟩; have HB6 := Lib.hid (HB5.out.trans (hb.mono HB5.out.size)); have HH6 := Lib.hid ((HB6.out.block g HLT.out).trans HHW.out); clear hb)
                  | (go_at_call 47; refine (HC5.out _ (HO.out.kept HB4.out) hl).mono ?_; rintro e w5 ⟨rfl, hb⟩; have HB5 := Lib.hid (HB4.out.trans (hb.mono HB4.out.size)); have HH5 := Lib.hid ((HB5.out.block g HLT.out).trans HHW.out); have x3 := (HB5.out.cell HLT.out).trans q3; have x4 := (HB5.out.cell HLT.out).trans q2; clear hb)
                  | (go_at_call 46; refine (HC4.out _ (HO.out.kept HB3.out) hl).mono ?_; rintro e w4 ⟨rfl, hb⟩; have HB4 := Lib.hid (HB3.out.trans (hb.mono HB3.out.size)); have HH4 := Lib.hid ((HB4.out.block g HLT.out).trans HHW.out); have x2 := (HB4.out.cell HLT.out).trans q2; clear hb)
                  | (go_at_call 45; refine (HC3.out _ (HTW.out.kept HB2.out)).mono ?_; rintro e w3 ⟨rfl, hb⟩; have HB3 := Lib.hid (HB2.out.trans (hb.mono HB2.out.size)); have HH3 := Lib.hid ((HB3.out.block g HLT.out).trans HHW.out); have x1 := (HB3.out.cell HLT.out).trans q1; clear hb)
                  | (go_at_call 44; refine (HC2.out _ (HO.out.kept HB1.out)).mono ?_; rintro e w2 ⟨rfl, hb⟩; have HB2 := Lib.hid (HB1.out.trans (hb.mono HB1.out.size)); have HH2 := Lib.hid ((HB2.out.block g HLT.out).trans HHW.out); have HP2 := Lib.hid (range_kept HB2.out HPR.out); clear hb)
                  | (go_at_call 43; refine (HC1.out _ HO.out).mono ?_; rintro e w1 ⟨rfl, hb⟩; have HB1 := Lib.hid hb; have HH1 := Lib.hid ((HB1.out.block g HLT.out).trans HHW.out); clear hb)
                  | (refine wpList_load_row rfl 34 (.tmp 1) rfl g rfl 34 C (0, 0) _ HHW.out Tryd.underlying34 rfl HIO.out ?_; go_frame)
                  | (refine wpList_load_mid_g (by rfl) 27 (.tmp 10) rfl g 5 rfl (((o.n.drop 5).take 8).map nV) _ HP2.out Tryd.underlying27 rfl HIP.out ?_; rw [HCP.out]; go_frame)
                  | (refine wpList_load_row_g (by rfl) 34 (.tmp 1) rfl g rfl 34 C (0, 0) _ HH6.out Tryd.underlying34 rfl HIO.out ?_; go_frame)
                  | (refine wpList_load_row_g (by rfl) 34 (.tmp 1) rfl g rfl 34 C (0, 0) _ HH1.out Tryd.underlying34 rfl HIO.out ?_; go_frame))
                go_ret
                exact ⟨by rw [← HR.out]; rfl, by rw [HG.out]; exact HBW.out.trans (HB7.out.mono (by have := HBW.out.size; have := HG.out; omega))⟩
              | true =>
                go_wp2_with (first
                  | (go_at_call 49; refine (HC7.out _ (HO.out.kept HB6.out) hl).mono ?_; rintro e w7 ⟨rfl, hb⟩; have HB7 := Lib.hid (HB6.out.trans (hb.mono HB6.out.size)); have HH7 := Lib.hid ((HB7.out.block g HLT.out).trans HHW.out); clear hb)
                  | (go_at_call 48; refine (HC6.out _ (HO.out.kept HB5.out) hl).mono ?_; rintro e w6 ⟨rfl, hb⟩; have HB6 := Lib.hid (HB5.out.trans (hb.mono HB5.out.size)); have HH6 := Lib.hid ((HB6.out.block g HLT.out).trans HHW.out); clear hb)
                  | (go_at_call 47; refine (HC5.out _ (HO.out.kept HB4.out) hl).mono ?_; rintro e w5 ⟨rfl, hb⟩; have HB5 := Lib.hid (HB4.out.trans (hb.mono HB4.out.size)); have HH5 := Lib.hid ((HB5.out.block g HLT.out).trans HHW.out); have x3 := (HB5.out.cell HLT.out).trans q3; have x4 := (HB5.out.cell HLT.out).trans q2; clear hb)
                  | (go_at_call 46; refine (HC4.out _ (HO.out.kept HB3.out) hl).mono ?_; rintro e w4 ⟨rfl, hb⟩; have HB4 := Lib.hid (HB3.out.trans (hb.mono HB3.out.size)); have HH4 := Lib.hid ((HB4.out.block g HLT.out).trans HHW.out); have x2 := (HB4.out.cell HLT.out).trans q2; clear hb)
                  | (go_at_call 45; refine (HC3.out _ (HTW.out.kept HB2.out)).mono ?_; rintro e w3 ⟨rfl, hb⟩; have HB3 := Lib.hid (HB2.out.trans (hb.mono HB2.out.size)); have HH3 := Lib.hid ((HB3.out.block g HLT.out).trans HHW.out); have x1 := (HB3.out.cell HLT.out).trans q1; clear hb)
                  | (go_at_call 44; refine (HC2.out _ (HO.out.kept HB1.out)).mono ?_; rintro e w2 ⟨rfl, hb⟩; have HB2 := Lib.hid (HB1.out.trans (hb.mono HB1.out.size)); have HH2 := Lib.hid ((HB2.out.block g HLT.out).trans HHW.out); have HP2 := Lib.hid (range_kept HB2.out HPR.out); clear hb)
                  | (go_at_call 43; refine (HC1.out _ HO.out).mono ?_; rintro e w1 ⟨rfl, hb⟩; have HB1 := Lib.hid hb; have HH1 := Lib.hid ((HB1.out.block g HLT.out).trans HHW.out); clear hb)
                  | (refine wpList_load_row rfl 34 (.tmp 1) rfl g rfl 34 C (0, 0) _ HHW.out Tryd.underlying34 rfl HIO.out ?_; go_frame)
                  | (refine wpList_load_mid_g (by rfl) 27 (.tmp 10) rfl g 5 rfl (((o.n.drop 5).take 8).map nV) _ HP2.out Tryd.underlying27 rfl HIP.out ?_; rw [HCP.out]; go_frame)
                  | (refine wpList_load_row_g (by rfl) 34 (.tmp 1) rfl g rfl 34 C (0, 0) _ HH6.out Tryd.underlying34 rfl HIO.out ?_; go_frame)
                  | (refine wpList_load_row_g (by rfl) 34 (.tmp 1) rfl g rfl 34 C (0, 0) _ HH1.out Tryd.underlying34 rfl HIO.out ?_; go_frame))
                go_ret
                exact ⟨by rw [← HR.out]; rfl, by rw [HG.out]; exact HBW.out.trans (HB7.out.mono (by have := HBW.out.size; have := HG.out; omega))⟩

end Go.Proofs.YtdgaoebjbhomdaaDoor.Og
