/- origin: the code's reader: coin, seat, trust. -/
import Derived.Test.YtdgaoebjbhomdaaDoorOgL
namespace Go.Proofs.YtdgaoebjbhomdaaDoor.Og
open Go.RowKit Go.Proofs.YtdgaoebjbhomdaaDoor.Sha Go.Proofs.YtdgaoebjbhomdaaDoor.Gr Go.Proofs.YtdgaoebjbhomdaaDoor.Digit Go.Proofs.YtdgaoebjbhomdaaDoor.Deed Go.Proofs.YtdgaoebjbhomdaaDoor.Tree

theorem results_cell_mid {P : Program} {fn : Func} {p : Tmp} {ty : TypeId} (h : fn.results = #[.cell p ty]) (tmps : Array Value) (w : World) (g : Nat) (cs : List Value) (d : TypeDesc)
    (hp : tmps.getD p undef = .pointer (some ⟨g, 0, none⟩)) (hg : w.rangeAt g 0 cs)
    (hu : P.underlying ty = some d) (hd : d.isRow = true) (hi : (P.info? ty).map (·.size) = some cs.length) :
    (results fn tmps).run P w = .ok (.agg cs.toArray) w := by
  have hp' : tmps[p]?.getD undef = .pointer (some ⟨g, 0, none⟩) := by simpa using hp
  simp [results, h, hp', asAddr, run_loadVar_mid w g 0 ty cs d hg hu hd hi]
def zOut : List Value := z32 ++ (z32 ++ [Value.int .u64 0])
theorem coin_cells (r : Rd) : ([] ++ hsC (rowR hashC 2 r).1) ++ (rowR numC 1 (rowR hashC 2 r).2).1.map nV = KOut.enc (coinR hashC numC r).1 ∧ (rowR numC 1 (rowR hashC 2 r).2).2 = (coinR hashC numC r).2 := by
  refine ⟨?_, rfl⟩
  simp [rowR, hsC, KOut, coinR, mapR, andR]
theorem seat_cells (r : Rd) : ([] ++ hsC (rowR hashC 2 r).1) ++ (rowR numC 3 (rowR hashC 2 r).2).1.map nV = KSeat.enc (seatR hashC numC r).1 ∧ (rowR numC 3 (rowR hashC 2 r).2).2 = (seatR hashC numC r).2 := by
  refine ⟨?_, ?_⟩
  · simp [rowR, hsC, KSeat, seatR, mapR, andR]
  · simp only [rowR, seatR, mapR, andR]
theorem trust_cells (r : Rd) : [] ++ hsC (rowR hashC 2 r).1 = KTrust.enc (trustR hashC r).1 ∧ (rowR hashC 2 r).2 = (trustR hashC r).2 := by
  refine ⟨?_, rfl⟩
  simp [rowR, hsC, KTrust, trustR, mapR, andR]
theorem z64_at {j : Nat} (h : j < 2 * 32) (l : List Value) : (z32 ++ (z32 ++ l))[j]? = some (Value.int .u8 0) := by
  rw [← List.append_assoc, List.getElem?_append_left (by simpa using h), show z32 ++ z32 = List.replicate 64 (Value.int .u8 0) from rfl, List.getElem?_replicate, if_pos (by omega)]
theorem zOut_at {j : Nat} (h : j < 1) : zOut[64 + j]? = some (nV 0) := by
  obtain rfl : j = 0 := by omega
  rfl
theorem zSeat_at {j : Nat} (h : j < 3) : zSeat[64 + j]? = some (nV 0) := by
  rcases j with _ | _ | _ | j
  · rfl
  · rfl
  · rfl
  · omega


set_option maxRecDepth 100000 in
set_option maxHeartbeats 1600000 in
theorem code_rCoin {w : World} {q : Nat} {r : Rd} (hr : CAt w q r) (hs : r.1.length ≤ 1099511627776) :
    Calls Tryd.prog 54 #[.pointer (some ⟨q, 0, none⟩)] w fun e w' => e = .returned (.agg (KOut.enc (coinR hashC numC r).1).toArray) ∧ CAt w' q (coinR hashC numC r).2 ∧ Frm (atQ q) w w' := by
  have HR := Lib.hid hr
  have HS := Lib.hid hs
  have HLE := Lib.hid (rowR_le hashC_le 2 r)
  have HLN := Lib.hid (rowR_len hashC 2 r)
  have HCE := Lib.hid (coin_cells r)
  obtain ⟨⟨xs, r2⟩, hR2⟩ : ∃ R, rowR hashC 2 r = R := ⟨_, rfl⟩
  have HRH := Lib.hid hR2
  obtain ⟨⟨x, r3⟩, hR3⟩ : ∃ R, coinR hashC numC r = R := ⟨_, rfl⟩
  rw [hR2] at HLE HLN HCE
  rw [hR3] at HCE ⊢
  simp only at HLE HLN HCE ⊢
  clear hr hs hR2 hR3
  go_enter Tryd.func54, Tryd.ntmps54
  go_upto_region 1 with (refine wpList_alloc_kind (K := KOut) rfl rfl ?_; intro wX hhX hbX; go_frame)
  have HF0 := Lib.hid (Fill.new (Z := zOut) (show wX.heap[w.heap.size]? = some (.cells zOut.toArray KOut.T (0, 0)) from hhX))
  have HR0 := Lib.hid (HR.out.below hbX)
  have HB0 := Lib.hid hbX
  have HLX := Lib.hid (show w.heap.size < wX.heap.size from (Array.getElem?_eq_some_iff.1 hhX).1)
  have hqX := HR.out.lt
  clear hhX hbX
  obtain ⟨X, hX⟩ : ∃ n, w.heap.size = n := ⟨_, rfl⟩
  have HX := Lib.hid hX
  rw [hX] at HF0 HB0 HLX hqX ⊢
  clear hX
  have hXq : X ≠ q := by omega
  have hXw : X ≠ wX.heap.size := by have := HLX.out; omega
  have hqw : q ≠ wX.heap.size := by have := HLX.out; omega
  go_upto_region 2 with (first
    | (go_at_call 52; refine (code_rHashes (o0 := 0) (m := 2) rfl (HR0.out.below hb1) (HF0.out.frm (F := fun _ => False) (Frm.of_below hb1) id) hXq HS.out (by decide) (fun j hj => by rw [Nat.zero_add]; exact z64_at hj _) hh1 (fun e => hXw e.symm) (fun e => hqw e.symm)).mono ?_; rintro e w2 ⟨rfl, hr2, hf2, hm2⟩; rw [HRH.out] at hr2 hf2; have HR2 := Lib.hid hr2; have HF2 := Lib.hid hf2; have HM2 := Lib.hid (((Frm.of_below hb1 (F := atXQ X q)).trans hm2 (fun _ h => Or.inl h))); clear hr2 hf2 hm2)
    | (refine wpList_build_vals (K := KQ) rfl pV (fun _ => rfl) 132 2 _ rfl Tryd.underlying132 (qtrs X 0 2) rfl (by decide) (by decide) (by simp [Act.eval, qtrs, List.range, List.range.loop]) ?_; intro w1 hat1 hh1 hb1 hs1; go_frame))
  have hXw2 : X ≠ w2.heap.size := by have := HF2.out.toVar.lt; omega
  have hqw2 : q ≠ w2.heap.size := by have := HR2.out.lt; omega
  have hcl : (([] : List Value) ++ hsC xs).length = 64 := by rw [List.nil_append, hsC_len, HLN.out]
  go_upto_region 3 with (first
    | (go_at_call 51; refine (code_rNumbers (o0 := 64) (m := 1) hcl (HR2.out.below hb3) (HF2.out.frm (F := fun _ => False) (Frm.of_below hb3) id) hXq (Nat.le_trans HLE.out HS.out) (by decide) (fun j hj => zOut_at hj) hh3 (fun e => hXw2 e.symm) (fun e => hqw2 e.symm)).mono ?_; rintro e w4 ⟨rfl, hr4, hf4, hm4⟩; rw [HCE.out.2] at hr4; rw [HCE.out.1] at hf4; have HR4 := Lib.hid hr4; have HF4 := Lib.hid hf4; have HM4 := Lib.hid (HM2.out.trans ((Frm.of_below hb3 (F := atXQ X q)).trans hm4 (fun _ h => Or.inl h)) (fun _ h => Or.inl h)); clear hr4 hf4 hm4)
    | (refine wpList_build_vals (K := KP) rfl pV (fun _ => rfl) 131 1 _ rfl Tryd.underlying131 (ptrs X 64 1) rfl (by decide) (by decide) (by simp [Act.eval, ptrs, List.range, List.range.loop]) ?_; intro w3 hat3 hh3 hb3 hs3; go_frame))
  have HII := Lib.hid (KOut.infoL x)
  have HIA := Lib.hid (KOut.infoA x)
  have HON := Lib.hid (KOut.oneA x)
  have HSZ := Lib.hid (show (KOut.enc x).toArray.size = (zOut : List Value).length by rw [List.size_toArray, KOut.len]; rfl)
  have HTH := Lib.hid (show w4.there X 0 (KOut.enc x).toArray.size by rw [HSZ.out]; exact HF4.out.toVar.there)
  obtain ⟨C, hC⟩ : ∃ C, (KOut.enc x).toArray = C := ⟨_, rfl⟩
  have HC := Lib.hid hC
  rw [hC] at HIA HON HTH
  have HCL := Lib.hid (show C.toList = KOut.enc x by rw [← hC])
  clear hC
  go_wp2_with (first
    | (refine wpList_load_mid rfl 52 (.tmp 2) rfl X 0 rfl (KOut.enc x) _ HF4.out.toVar.range Tryd.underlying52 rfl HII.out ?_; rw [HC.out]; go_frame)
    | (refine wpList_store_mid rfl 52 (.tmp 2) (.tmp 12) rfl X 0 C rfl rfl HTH.out HIA.out HON.out ?_; rw [HCL.out]; go_frame))
  have hR := World.rangeAt_setCells_same w4 X 0 (KOut.enc x) (by have h := HTH.out; rw [← HC.out, List.size_toArray] at h; exact h)
  refine bodyPost_ret (results_cell_mid (p := 2) (ty := 52) Tryd.results54 _ _ X (KOut.enc x) _ rfl hR Tryd.underlying52 rfl HII.out) rfl ⟨rfl, CAt.otherCells X hXq _ _ HR4.out, ?_⟩
  have h1 : Frm (atXQ X q) wX (w4.setCells X 0 (KOut.enc x)) := Frm.setCells X (Or.inl (Or.inl rfl)) _ _ _ HM4.out
  exact (Frm.of_below (HX.out.symm ▸ HB0.out) (F := atQ q)).trans h1 (fun i h => by
    rcases h with h | h
    · exact Or.inr (by rw [HX.out]; omega)
    · exact Or.inl h)


set_option maxRecDepth 100000 in
set_option maxHeartbeats 1600000 in
theorem code_rSeat {w : World} {q : Nat} {r : Rd} (hr : CAt w q r) (hs : r.1.length ≤ 1099511627776) :
    Calls Tryd.prog 56 #[.pointer (some ⟨q, 0, none⟩)] w fun e w' => e = .returned (.agg (KSeat.enc (seatR hashC numC r).1).toArray) ∧ CAt w' q (seatR hashC numC r).2 ∧ Frm (atQ q) w w' := by
  have HR := Lib.hid hr
  have HS := Lib.hid hs
  have HLE := Lib.hid (rowR_le hashC_le 2 r)
  have HLN := Lib.hid (rowR_len hashC 2 r)
  have HCE := Lib.hid (seat_cells r)
  obtain ⟨⟨xs, r2⟩, hR2⟩ : ∃ R, rowR hashC 2 r = R := ⟨_, rfl⟩
  have HRH := Lib.hid hR2
  obtain ⟨⟨x, r3⟩, hR3⟩ : ∃ R, seatR hashC numC r = R := ⟨_, rfl⟩
  rw [hR2] at HLE HLN HCE
  rw [hR3] at HCE ⊢
  simp only at HLE HLN HCE ⊢
  clear hr hs hR2 hR3
  go_enter Tryd.func56, Tryd.ntmps56
  go_upto_region 1 with (refine wpList_alloc_kind (K := KSeat) rfl rfl ?_; intro wX hhX hbX; go_frame)
  have HF0 := Lib.hid (Fill.new (Z := zSeat) (show wX.heap[w.heap.size]? = some (.cells zSeat.toArray KSeat.T (0, 0)) from hhX))
  have HR0 := Lib.hid (HR.out.below hbX)
  have HB0 := Lib.hid hbX
  have HLX := Lib.hid (show w.heap.size < wX.heap.size from (Array.getElem?_eq_some_iff.1 hhX).1)
  have hqX := HR.out.lt
  clear hhX hbX
  obtain ⟨X, hX⟩ : ∃ n, w.heap.size = n := ⟨_, rfl⟩
  have HX := Lib.hid hX
  rw [hX] at HF0 HB0 HLX hqX ⊢
  clear hX
  have hXq : X ≠ q := by omega
  have hXw : X ≠ wX.heap.size := by have := HLX.out; omega
  have hqw : q ≠ wX.heap.size := by have := HLX.out; omega
  go_upto_region 2 with (first
    | (go_at_call 52; refine (code_rHashes (o0 := 0) (m := 2) rfl (HR0.out.below hb1) (HF0.out.frm (F := fun _ => False) (Frm.of_below hb1) id) hXq HS.out (by decide) (fun j hj => by rw [Nat.zero_add]; exact z64_at hj _) hh1 (fun e => hXw e.symm) (fun e => hqw e.symm)).mono ?_; rintro e w2 ⟨rfl, hr2, hf2, hm2⟩; rw [HRH.out] at hr2 hf2; have HR2 := Lib.hid hr2; have HF2 := Lib.hid hf2; have HM2 := Lib.hid (((Frm.of_below hb1 (F := atXQ X q)).trans hm2 (fun _ h => Or.inl h))); clear hr2 hf2 hm2)
    | (refine wpList_build_vals (K := KQ) rfl pV (fun _ => rfl) 132 2 _ rfl Tryd.underlying132 (qtrs X 0 2) rfl (by decide) (by decide) (by simp [Act.eval, qtrs, List.range, List.range.loop]) ?_; intro w1 hat1 hh1 hb1 hs1; go_frame))
  have hXw2 : X ≠ w2.heap.size := by have := HF2.out.toVar.lt; omega
  have hqw2 : q ≠ w2.heap.size := by have := HR2.out.lt; omega
  have hcl : (([] : List Value) ++ hsC xs).length = 64 := by rw [List.nil_append, hsC_len, HLN.out]
  go_upto_region 3 with (first
    | (go_at_call 51; refine (code_rNumbers (o0 := 64) (m := 3) hcl (HR2.out.below hb3) (HF2.out.frm (F := fun _ => False) (Frm.of_below hb3) id) hXq (Nat.le_trans HLE.out HS.out) (by decide) (fun j hj => zSeat_at hj) hh3 (fun e => hXw2 e.symm) (fun e => hqw2 e.symm)).mono ?_; rintro e w4 ⟨rfl, hr4, hf4, hm4⟩; rw [HCE.out.2] at hr4; rw [HCE.out.1] at hf4; have HR4 := Lib.hid hr4; have HF4 := Lib.hid hf4; have HM4 := Lib.hid (HM2.out.trans ((Frm.of_below hb3 (F := atXQ X q)).trans hm4 (fun _ h => Or.inl h)) (fun _ h => Or.inl h)); clear hr4 hf4 hm4)
    | (refine wpList_build_vals (K := KP) rfl pV (fun _ => rfl) 131 3 _ rfl Tryd.underlying131 (ptrs X 64 3) rfl (by decide) (by decide) (by simp [Act.eval, ptrs, List.range, List.range.loop]) ?_; intro w3 hat3 hh3 hb3 hs3; go_frame))
  have HII := Lib.hid (KSeat.infoL x)
  have HIA := Lib.hid (KSeat.infoA x)
  have HON := Lib.hid (KSeat.oneA x)
  have HSZ := Lib.hid (show (KSeat.enc x).toArray.size = (zSeat : List Value).length by rw [List.size_toArray, KSeat.len]; rfl)
  have HTH := Lib.hid (show w4.there X 0 (KSeat.enc x).toArray.size by rw [HSZ.out]; exact HF4.out.toVar.there)
  obtain ⟨C, hC⟩ : ∃ C, (KSeat.enc x).toArray = C := ⟨_, rfl⟩
  have HC := Lib.hid hC
  rw [hC] at HIA HON HTH
  have HCL := Lib.hid (show C.toList = KSeat.enc x by rw [← hC])
  clear hC
  go_wp2_with (first
    | (refine wpList_load_mid rfl 67 (.tmp 2) rfl X 0 rfl (KSeat.enc x) _ HF4.out.toVar.range Tryd.underlying67 rfl HII.out ?_; rw [HC.out]; go_frame)
    | (refine wpList_store_mid rfl 67 (.tmp 2) (.tmp 14) rfl X 0 C rfl rfl HTH.out HIA.out HON.out ?_; rw [HCL.out]; go_frame))
  have hR := World.rangeAt_setCells_same w4 X 0 (KSeat.enc x) (by have h := HTH.out; rw [← HC.out, List.size_toArray] at h; exact h)
  refine bodyPost_ret (results_cell_mid (p := 2) (ty := 67) Tryd.results56 _ _ X (KSeat.enc x) _ rfl hR Tryd.underlying67 rfl HII.out) rfl ⟨rfl, CAt.otherCells X hXq _ _ HR4.out, ?_⟩
  have h1 : Frm (atXQ X q) wX (w4.setCells X 0 (KSeat.enc x)) := Frm.setCells X (Or.inl (Or.inl rfl)) _ _ _ HM4.out
  exact (Frm.of_below (HX.out.symm ▸ HB0.out) (F := atQ q)).trans h1 (fun i h => by
    rcases h with h | h
    · exact Or.inr (by rw [HX.out]; omega)
    · exact Or.inl h)


set_option maxRecDepth 100000 in
set_option maxHeartbeats 1600000 in
theorem code_rTrust {w : World} {q : Nat} {r : Rd} (hr : CAt w q r) (hs : r.1.length ≤ 1099511627776) :
    Calls Tryd.prog 58 #[.pointer (some ⟨q, 0, none⟩)] w fun e w' => e = .returned (.agg (KTrust.enc (trustR hashC r).1).toArray) ∧ CAt w' q (trustR hashC r).2 ∧ Frm (atQ q) w w' := by
  have HR := Lib.hid hr
  have HS := Lib.hid hs
  have HLE := Lib.hid (rowR_le hashC_le 2 r)
  have HLN := Lib.hid (rowR_len hashC 2 r)
  have HCE := Lib.hid (trust_cells r)
  obtain ⟨⟨xs, r2⟩, hR2⟩ : ∃ R, rowR hashC 2 r = R := ⟨_, rfl⟩
  have HRH := Lib.hid hR2
  obtain ⟨⟨x, r3⟩, hR3⟩ : ∃ R, trustR hashC r = R := ⟨_, rfl⟩
  rw [hR2] at HLE HLN HCE
  rw [hR3] at HCE ⊢
  simp only at HLE HLN HCE ⊢
  clear hr hs hR2 hR3
  go_enter Tryd.func58, Tryd.ntmps58
  go_upto_region 1 with (refine wpList_alloc_kind (K := KTrust) rfl rfl ?_; intro wX hhX hbX; go_frame)
  have HF0 := Lib.hid (Fill.new (Z := (z32 ++ z32)) (show wX.heap[w.heap.size]? = some (.cells (z32 ++ z32).toArray KTrust.T (0, 0)) from hhX))
  have HR0 := Lib.hid (HR.out.below hbX)
  have HB0 := Lib.hid hbX
  have HLX := Lib.hid (show w.heap.size < wX.heap.size from (Array.getElem?_eq_some_iff.1 hhX).1)
  have hqX := HR.out.lt
  clear hhX hbX
  obtain ⟨X, hX⟩ : ∃ n, w.heap.size = n := ⟨_, rfl⟩
  have HX := Lib.hid hX
  rw [hX] at HF0 HB0 HLX hqX ⊢
  clear hX
  have hXq : X ≠ q := by omega
  have hXw : X ≠ wX.heap.size := by have := HLX.out; omega
  have hqw : q ≠ wX.heap.size := by have := HLX.out; omega
  go_upto_region 2 with (first
    | (go_at_call 52; refine (code_rHashes (o0 := 0) (m := 2) rfl (HR0.out.below hb1) (HF0.out.frm (F := fun _ => False) (Frm.of_below hb1) id) hXq HS.out (by decide) (fun j hj => by rw [Nat.zero_add]; exact (by have h := z64_at hj []; rwa [List.append_nil] at h)) hh1 (fun e => hXw e.symm) (fun e => hqw e.symm)).mono ?_; rintro e w2 ⟨rfl, hr2, hf2, hm2⟩; rw [HRH.out] at hr2 hf2; have HR2 := Lib.hid hr2; have HF2 := Lib.hid hf2; have HM2 := Lib.hid (((Frm.of_below hb1 (F := atXQ X q)).trans hm2 (fun _ h => Or.inl h))); clear hr2 hf2 hm2)
    | (refine wpList_build_vals (K := KQ) rfl pV (fun _ => rfl) 132 2 _ rfl Tryd.underlying132 (qtrs X 0 2) rfl (by decide) (by decide) (by simp [Act.eval, qtrs, List.range, List.range.loop]) ?_; intro w1 hat1 hh1 hb1 hs1; go_frame))
  have HR4 := Lib.hid (by have h := HR2.out; rw [HCE.out.2] at h; exact h)
  have HF4 := Lib.hid (by have h := HF2.out; rw [HCE.out.1] at h; exact h)
  have HM4 := HM2
  generalize w2 = w4 at HR4 HF4 HM4 ⊢
  have HII := Lib.hid (KTrust.infoL x)
  have HIA := Lib.hid (KTrust.infoA x)
  have HON := Lib.hid (KTrust.oneA x)
  have HSZ := Lib.hid (show (KTrust.enc x).toArray.size = ((z32 ++ z32) : List Value).length by rw [List.size_toArray, KTrust.len]; rfl)
  have HTH := Lib.hid (show w4.there X 0 (KTrust.enc x).toArray.size by rw [HSZ.out]; exact HF4.out.toVar.there)
  obtain ⟨C, hC⟩ : ∃ C, (KTrust.enc x).toArray = C := ⟨_, rfl⟩
  have HC := Lib.hid hC
  rw [hC] at HIA HON HTH
  have HCL := Lib.hid (show C.toList = KTrust.enc x by rw [← hC])
  clear hC
  go_wp2_with (first
    | (refine wpList_load_mid rfl 69 (.tmp 2) rfl X 0 rfl (KTrust.enc x) _ HF4.out.toVar.range Tryd.underlying69 rfl HII.out ?_; rw [HC.out]; go_frame)
    | (refine wpList_store_mid rfl 69 (.tmp 2) (.tmp 8) rfl X 0 C rfl rfl HTH.out HIA.out HON.out ?_; rw [HCL.out]; go_frame))
  have hR := World.rangeAt_setCells_same w4 X 0 (KTrust.enc x) (by have h := HTH.out; rw [← HC.out, List.size_toArray] at h; exact h)
  refine bodyPost_ret (results_cell_mid (p := 2) (ty := 69) Tryd.results58 _ _ X (KTrust.enc x) _ rfl hR Tryd.underlying69 rfl HII.out) rfl ⟨rfl, CAt.otherCells X hXq _ _ HR4.out, ?_⟩
  have h1 : Frm (atXQ X q) wX (w4.setCells X 0 (KTrust.enc x)) := Frm.setCells X (Or.inl (Or.inl rfl)) _ _ _ HM4.out
  exact (Frm.of_below (HX.out.symm ▸ HB0.out) (F := atQ q)).trans h1 (fun i h => by
    rcases h with h | h
    · exact Or.inr (by rw [HX.out]; omega)
    · exact Or.inl h)

end Go.Proofs.YtdgaoebjbhomdaaDoor.Og
