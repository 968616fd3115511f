/- origin: the code's takeList. -/
import Derived.Test.YtdgaoebjbhomdaaDoorOgN
namespace Go.Proofs.YtdgaoebjbhomdaaDoor.Og
open Go.RowKit Go.Proofs.YtdgaoebjbhomdaaDoor.Sha Go.Proofs.YtdgaoebjbhomdaaDoor.Gr Go.Proofs.YtdgaoebjbhomdaaDoor.Digit Go.Proofs.YtdgaoebjbhomdaaDoor.Deed Go.Proofs.YtdgaoebjbhomdaaDoor.Tree

theorem own_frm {α : Type} {P : Program} {K : Kind P α} {B : Nat} {v : Value} {L : List α} {w w' : World} {F : Nat → Prop} (h : K.Own B v L w) (hf : Frm F w w') (hF : ∀ k, F k → k < B) : K.Own B v L w' := by
  refine ⟨h.1, ?_⟩
  rcases h.2 with hn | ⟨g, cap, cur, hv, hb, hg, rest⟩
  · exact Or.inl hn
  · refine Or.inr ⟨g, cap, cur, hv, hb, ?_, rest⟩
    rw [hf.block g (Array.getElem?_eq_some_iff.1 hg).1 (fun h => by have := hF g h; omega)]
    exact hg
theorem frm_below {F : Nat → Prop} {a b c : World} {B : Nat} (h : Frm F a b) (hb : Below B b c) (hB : B = a.heap.size) : Frm F a c :=
  h.trans (F := F) (G := fun k => B ≤ k) ⟨hb.os, hb.tape, hb.output, hb.size, fun k _ hn => hb.block k (Nat.lt_of_not_le hn)⟩ (fun i hi => Or.inr (by omega))
theorem at_frm {α : Type} {P : Program} {K : Kind P α} {B : Nat} {v : Value} {L : List α} {w : World} (h : K.Own B v L w) : K.At w v L := h.reads
theorem andR_le {α β : Type} {f : Rd → α × Rd} {g : Rd → β × Rd} (hf : ∀ r, (f r).2.1.length ≤ r.1.length) (hg : ∀ r, (g r).2.1.length ≤ r.1.length) (r : Rd) : (andR f g r).2.1.length ≤ r.1.length := Nat.le_trans (hg _) (hf r)
theorem mapR_le {α β : Type} {f : Rd → α × Rd} (m : α → β) (hf : ∀ r, (f r).2.1.length ≤ r.1.length) (r : Rd) : (mapR m f r).2.1.length ≤ r.1.length := hf r
theorem coinR_le (r : Rd) : (coinR hashC numC r).2.1.length ≤ r.1.length := mapR_le _ (andR_le hashC_le (andR_le hashC_le numC_le)) r
theorem seatR_le (r : Rd) : (seatR hashC numC r).2.1.length ≤ r.1.length := mapR_le _ (andR_le hashC_le (andR_le hashC_le (andR_le numC_le (andR_le numC_le numC_le)))) r
theorem trustR_le (r : Rd) : (trustR hashC r).2.1.length ≤ r.1.length := mapR_le _ (andR_le hashC_le hashC_le) r
theorem one_zero {j : Nat} (h : j < 1) : ([nV 0] : List Value)[0 + j]? = some (nV 0) := by
  obtain rfl : j = 0 := by omega
  rfl
theorem heap_lt {w : World} {g : Nat} {o : Obj} (h : w.heap[g]? = some o) : g < w.heap.size := (Array.getElem?_eq_some_iff.1 h).1


set_option maxRecDepth 100000 in
set_option maxHeartbeats 1600000 in
theorem code_rListCoin {w : World} {q most : Nat} {r : Rd} (hr : CAt w q r) (hs : r.1.length ≤ 1099511627776) (hm : most ≤ 100) :
    Calls Tryd.prog 53 #[.pointer (some ⟨q, 0, none⟩), .int .u64 most, .func (.func 54) #[.pointer (some ⟨q, 0, none⟩)] #[]] w fun e w' => ∃ v, e = .returned v ∧ KOut.Own w.heap.size v (manyC most (coinR hashC numC) r).1 w' ∧ CAt w' q (manyC most (coinR hashC numC) r).2 ∧ Frm (atQ q) w w' := by
  have HR := Lib.hid hr
  have HS := Lib.hid hs
  have HLE := Lib.hid (numC_le r)
  have HMC := Lib.hid (show manyC most (coinR hashC numC) r = if most < (numC r).1.toNat then ([], Og.bad) else rowR (coinR hashC numC) (numC r).1.toNat (numC r).2 from rfl)
  obtain ⟨⟨L, rz⟩, hM⟩ : ∃ R, manyC most (coinR hashC numC) r = R := ⟨_, rfl⟩
  rw [hM] at HMC ⊢
  have HRN := Lib.hid (show rowR numC 1 r = ([(numC r).1], (numC r).2) from rfl)
  obtain ⟨⟨n, r2⟩, hN⟩ : ∃ R, numC r = R := ⟨_, rfl⟩
  rw [hN] at HLE HMC HRN
  simp only at HLE HMC HRN ⊢
  have HS2 := Lib.hid (Nat.le_trans HLE.out HS.out)
  obtain ⟨k, hk⟩ : ∃ k, n.toNat = k := ⟨_, rfl⟩
  have HNV := Lib.hid (show nV n = .int .u64 k by unfold nV; rw [hk])
  rw [hk] at HMC
  clear hr hs hM hN hk
  obtain ⟨B, hB⟩ : ∃ n, w.heap.size = n := ⟨_, rfl⟩
  have HBB := Lib.hid hB
  rw [hB]
  clear hB
  go_enter Tryd.func53, Tryd.ntmps53
  go_upto_region 2 with (fail)
  have HF0 := Lib.hid (Fill.new (Z := [nV 0]) (show (w.alloc (.cells #[.int .u64 0] 22)).heap[w.heap.size]? = some (.cells [nV 0].toArray 22 (0, 0)) from heap_alloc_new w _))
  have HB0 := Lib.hid (show Below w.heap.size w (w.alloc (.cells #[.int .u64 0] 22)) from (Below.refl _ _).alloc (Nat.le_refl _) _)
  have HR0 := Lib.hid (HR.out.below HB0.out)
  have HLX := Lib.hid (show w.heap.size < (w.alloc (.cells #[.int .u64 0] 22)).heap.size by simp)
  have hqX := HR.out.lt
  rw [HBB.out] at HF0 HB0 HLX hqX ⊢
  generalize w.alloc (.cells #[.int .u64 0] 22) = wX at HF0 HB0 HR0 HLX ⊢
  have hXq : B ≠ q := by omega
  have hXw : B ≠ wX.heap.size := by have := HLX.out; omega
  have hqw : q ≠ wX.heap.size := by have := HLX.out; omega
  go_upto_region 3 with (first
    | (go_at_call 51; refine (code_rNumbers (o0 := 0) (m := 1) rfl (HR0.out.below hb1) (HF0.out.frm (F := fun _ => False) (Frm.of_below hb1) id) hXq HS.out (by decide) (fun j hj => one_zero hj) hh1 (fun e => hXw e.symm) (fun e => hqw e.symm)).mono ?_; rintro e w2 ⟨rfl, hr2, hf2, hm2⟩; rw [HRN.out] at hr2 hf2; have HR2 := Lib.hid hr2; have HF2 := Lib.hid hf2; have HM2 := Lib.hid (((Frm.of_below hb1 (F := atXQ B q)).trans hm2 (fun _ h => Or.inl h))); clear hr2 hf2 hm2)
    | (refine wpList_build_vals (K := KP) rfl pV (fun _ => rfl) 131 1 _ rfl Tryd.underlying131 (ptrs B 0 1) rfl (by decide) (by decide) (by simp [Act.eval, ptrs, List.range, List.range.loop]) ?_; intro w1 hat1 hh1 hb1 hs1; go_frame))
  have HFQ := Lib.hid (show Frm (atQ q) w w2 from (Frm.of_below (HBB.out.symm ▸ HB0.out) (F := atQ q)).trans HM2.out (fun i h => by
    rcases h with h | h
    · exact Or.inr (by rw [HBB.out]; omega)
    · exact Or.inl h))
  have cm : w2.cell? ⟨B, 0, none⟩ = some (.int .u64 k) := by
    have := HF2.out.toVar.range 0 (nV n) rfl
    rw [HNV.out] at this
    exact this
  by_cases hgt : most < k
  · have hgi : (most : Int) < (k : Int) := by omega
    have hmc := HMC.out
    rw [if_pos hgt] at hmc
    obtain ⟨rfl, rfl⟩ := Prod.mk.inj hmc
    have HFA := Lib.hid (code_fail HR2.out)
    clear hmc
    go_wp2_with (go_at_call 80; refine HFA.out.mono ?_; rintro e w3 ⟨rfl, hr3, hf3⟩)
    go_ret
    exact ⟨_, rfl, Kind.Own.nil _ _, hr3, HFQ.out.trans hf3 (fun _ h => Or.inl h)⟩
  · have hgi : ¬ (most : Int) < (k : Int) := by omega
    have hmc := HMC.out
    rw [if_neg hgt] at hmc
    have HMC2 := Lib.hid hmc
    clear hmc
    go_upto_region 7 with (fail)
    go_loopw [6, 17] (fun av iv wr => ∃ i : Nat, i ≤ k ∧ iv = .int .u64 i ∧ KOut.Own B av (rowR (coinR hashC numC) i r2).1 wr ∧ CAt wr q (rowR (coinR hashC numC) i r2).2 ∧ Frm (atQ q) w wr) (fun _ iv _ => k - (intOf iv).toNat)
    case atStart => exact ⟨0, Nat.zero_le _, rfl, Kind.Own.nil _ _, HR2.out, HFQ.out⟩
    case round =>
      obtain ⟨i, hi, rfl, hown, hrd, hfr⟩ := hrel
      have HOWN := Lib.hid hown
      have HRD := Lib.hid hrd
      have HFR := Lib.hid hfr
      clear hown hrd hfr
      by_cases hlt : i < k
      · have hki : (i : Int) < (k : Int) := by omega
        have HADD := Lib.hid (rowR_add (coinR hashC numC) i 1 r2)
        have HLK := Lib.hid (Nat.le_trans (rowR_le coinR_le i r2) HS2.out)
        have HLN := Lib.hid (rowR_len (coinR hashC numC) i r2)
        obtain ⟨⟨xs, rk⟩, hK⟩ : ∃ R, rowR (coinR hashC numC) i r2 = R := ⟨_, rfl⟩
        rw [hK] at HOWN HRD HADD HLK HLN
        simp only at HOWN HRD HADD HLK HLN
        rw [rowR_one] at HADD
        have HC1 := Lib.hid (code_rCoin HRD.out HLK.out)
        obtain ⟨⟨x, rn⟩, hX⟩ : ∃ R, coinR hashC numC rk = R := ⟨_, rfl⟩
        rw [hX] at HADD HC1
        simp only at HADD HC1
        have HNN := Lib.hid (show (xs.length + ([x] : List OutD).length) * (KOut.bytes + 1) ≤ 1099511627776 by rw [HLN.out]; simp [KOut] <;> omega)
        obtain ⟨C, hC⟩ : ∃ C, (KOut.enc x).toArray = C := ⟨_, rfl⟩
        have HC := Lib.hid hC
        rw [hC] at HC1
        have hwB : w.heap.size = B := HBB.out
        clear hK hX hC
        go_wp2_with (first
          | (go_at_call 54; refine HC1.out.mono ?_; rintro e w3 ⟨rfl, hr3, hf3⟩; have HR3 := Lib.hid hr3; have HF3 := Lib.hid (HFR.out.trans hf3 (fun _ h => Or.inl h)); have HO3 := Lib.hid (own_frm HOWN.out hf3 (fun k h => by have h2 : k = q := h; omega)); clear hr3 hf3)
          | (refine wpList_build_one (K := KOut) rfl 30 (.tmp 21) rfl Tryd.underlying30 x (by rw [HC.out]; rfl) (by decide) ?_; intro v4 w4 hat4 hb4; have HAT4 := Lib.hid hat4; have HR4 := Lib.hid (HR3.out.below hb4); have HF4 := Lib.hid (HF3.out.then_below hb4); have HO4 := Lib.hid (HO3.out.kept hb4); clear hat4 hb4; go_frame)
          | (refine wpList_append_at (K := KOut) rfl (.tmp 19) (.tmp 22) 30 rfl Tryd.underlying30 B rfl HO4.out _ _ rfl HAT4.out HNN.out (by have := HF4.out.size; omega) ?_; intro v5 w5 hown5 hb5; have HO5 := Lib.hid hown5; have HB5 := Lib.hid hb5; clear hown5 hb5; go_frame))
        go_roundw
        case rel => exact ⟨i + 1, by omega, by go_num, by rw [HADD.out]; exact HO5.out, by rw [HADD.out]; exact (HB5.out.block q hqX).trans HR4.out, frm_below HF4.out HB5.out HBB.out.symm⟩
        case measure => simp [intOf]; omega
      · obtain rfl : i = k := by omega
        have hown := HOWN.out
        have hrd := HRD.out
        rw [← HMC2.out] at hown hrd
        have HOWN2 := Lib.hid hown
        have HRD2 := Lib.hid hrd
        clear hown hrd
        go_wp2_with fail
        go_ret
        exact ⟨_, rfl, HOWN2.out, HRD2.out, HFR.out⟩


set_option maxRecDepth 100000 in
set_option maxHeartbeats 1600000 in
theorem code_rListSeat {w : World} {q most : Nat} {r : Rd} (hr : CAt w q r) (hs : r.1.length ≤ 1099511627776) (hm : most ≤ 100) :
    Calls Tryd.prog 55 #[.pointer (some ⟨q, 0, none⟩), .int .u64 most, .func (.func 56) #[.pointer (some ⟨q, 0, none⟩)] #[]] w fun e w' => ∃ v, e = .returned v ∧ KSeat.Own w.heap.size v (manyC most (seatR hashC numC) r).1 w' ∧ CAt w' q (manyC most (seatR hashC numC) r).2 ∧ Frm (atQ q) w w' := by
  have HR := Lib.hid hr
  have HS := Lib.hid hs
  have HLE := Lib.hid (numC_le r)
  have HMC := Lib.hid (show manyC most (seatR hashC numC) r = if most < (numC r).1.toNat then ([], Og.bad) else rowR (seatR hashC numC) (numC r).1.toNat (numC r).2 from rfl)
  obtain ⟨⟨L, rz⟩, hM⟩ : ∃ R, manyC most (seatR hashC numC) r = R := ⟨_, rfl⟩
  rw [hM] at HMC ⊢
  have HRN := Lib.hid (show rowR numC 1 r = ([(numC r).1], (numC r).2) from rfl)
  obtain ⟨⟨n, r2⟩, hN⟩ : ∃ R, numC r = R := ⟨_, rfl⟩
  rw [hN] at HLE HMC HRN
  simp only at HLE HMC HRN ⊢
  have HS2 := Lib.hid (Nat.le_trans HLE.out HS.out)
  obtain ⟨k, hk⟩ : ∃ k, n.toNat = k := ⟨_, rfl⟩
  have HNV := Lib.hid (show nV n = .int .u64 k by unfold nV; rw [hk])
  rw [hk] at HMC
  clear hr hs hM hN hk
  obtain ⟨B, hB⟩ : ∃ n, w.heap.size = n := ⟨_, rfl⟩
  have HBB := Lib.hid hB
  rw [hB]
  clear hB
  go_enter Tryd.func55, Tryd.ntmps55
  go_upto_region 2 with (fail)
  have HF0 := Lib.hid (Fill.new (Z := [nV 0]) (show (w.alloc (.cells #[.int .u64 0] 22)).heap[w.heap.size]? = some (.cells [nV 0].toArray 22 (0, 0)) from heap_alloc_new w _))
  have HB0 := Lib.hid (show Below w.heap.size w (w.alloc (.cells #[.int .u64 0] 22)) from (Below.refl _ _).alloc (Nat.le_refl _) _)
  have HR0 := Lib.hid (HR.out.below HB0.out)
  have HLX := Lib.hid (show w.heap.size < (w.alloc (.cells #[.int .u64 0] 22)).heap.size by simp)
  have hqX := HR.out.lt
  rw [HBB.out] at HF0 HB0 HLX hqX ⊢
  generalize w.alloc (.cells #[.int .u64 0] 22) = wX at HF0 HB0 HR0 HLX ⊢
  have hXq : B ≠ q := by omega
  have hXw : B ≠ wX.heap.size := by have := HLX.out; omega
  have hqw : q ≠ wX.heap.size := by have := HLX.out; omega
  go_upto_region 3 with (first
    | (go_at_call 51; refine (code_rNumbers (o0 := 0) (m := 1) rfl (HR0.out.below hb1) (HF0.out.frm (F := fun _ => False) (Frm.of_below hb1) id) hXq HS.out (by decide) (fun j hj => one_zero hj) hh1 (fun e => hXw e.symm) (fun e => hqw e.symm)).mono ?_; rintro e w2 ⟨rfl, hr2, hf2, hm2⟩; rw [HRN.out] at hr2 hf2; have HR2 := Lib.hid hr2; have HF2 := Lib.hid hf2; have HM2 := Lib.hid (((Frm.of_below hb1 (F := atXQ B q)).trans hm2 (fun _ h => Or.inl h))); clear hr2 hf2 hm2)
    | (refine wpList_build_vals (K := KP) rfl pV (fun _ => rfl) 131 1 _ rfl Tryd.underlying131 (ptrs B 0 1) rfl (by decide) (by decide) (by simp [Act.eval, ptrs, List.range, List.range.loop]) ?_; intro w1 hat1 hh1 hb1 hs1; go_frame))
  have HFQ := Lib.hid (show Frm (atQ q) w w2 from (Frm.of_below (HBB.out.symm ▸ HB0.out) (F := atQ q)).trans HM2.out (fun i h => by
    rcases h with h | h
    · exact Or.inr (by rw [HBB.out]; omega)
    · exact Or.inl h))
  have cm : w2.cell? ⟨B, 0, none⟩ = some (.int .u64 k) := by
    have := HF2.out.toVar.range 0 (nV n) rfl
    rw [HNV.out] at this
    exact this
  by_cases hgt : most < k
  · have hgi : (most : Int) < (k : Int) := by omega
    have hmc := HMC.out
    rw [if_pos hgt] at hmc
    obtain ⟨rfl, rfl⟩ := Prod.mk.inj hmc
    have HFA := Lib.hid (code_fail HR2.out)
    clear hmc
    go_wp2_with (go_at_call 80; refine HFA.out.mono ?_; rintro e w3 ⟨rfl, hr3, hf3⟩)
    go_ret
    exact ⟨_, rfl, Kind.Own.nil _ _, hr3, HFQ.out.trans hf3 (fun _ h => Or.inl h)⟩
  · have hgi : ¬ (most : Int) < (k : Int) := by omega
    have hmc := HMC.out
    rw [if_neg hgt] at hmc
    have HMC2 := Lib.hid hmc
    clear hmc
    go_upto_region 7 with (fail)
    go_loopw [6, 17] (fun av iv wr => ∃ i : Nat, i ≤ k ∧ iv = .int .u64 i ∧ KSeat.Own B av (rowR (seatR hashC numC) i r2).1 wr ∧ CAt wr q (rowR (seatR hashC numC) i r2).2 ∧ Frm (atQ q) w wr) (fun _ iv _ => k - (intOf iv).toNat)
    case atStart => exact ⟨0, Nat.zero_le _, rfl, Kind.Own.nil _ _, HR2.out, HFQ.out⟩
    case round =>
      obtain ⟨i, hi, rfl, hown, hrd, hfr⟩ := hrel
      have HOWN := Lib.hid hown
      have HRD := Lib.hid hrd
      have HFR := Lib.hid hfr
      clear hown hrd hfr
      by_cases hlt : i < k
      · have hki : (i : Int) < (k : Int) := by omega
        have HADD := Lib.hid (rowR_add (seatR hashC numC) i 1 r2)
        have HLK := Lib.hid (Nat.le_trans (rowR_le seatR_le i r2) HS2.out)
        have HLN := Lib.hid (rowR_len (seatR hashC numC) i r2)
        obtain ⟨⟨xs, rk⟩, hK⟩ : ∃ R, rowR (seatR hashC numC) i r2 = R := ⟨_, rfl⟩
        rw [hK] at HOWN HRD HADD HLK HLN
        simp only at HOWN HRD HADD HLK HLN
        rw [rowR_one] at HADD
        have HC1 := Lib.hid (code_rSeat HRD.out HLK.out)
        obtain ⟨⟨x, rn⟩, hX⟩ : ∃ R, seatR hashC numC rk = R := ⟨_, rfl⟩
        rw [hX] at HADD HC1
        simp only at HADD HC1
        have HNN := Lib.hid (show (xs.length + ([x] : List SeatD).length) * (KSeat.bytes + 1) ≤ 1099511627776 by rw [HLN.out]; simp [KSeat] <;> omega)
        obtain ⟨C, hC⟩ : ∃ C, (KSeat.enc x).toArray = C := ⟨_, rfl⟩
        have HC := Lib.hid hC
        rw [hC] at HC1
        have hwB : w.heap.size = B := HBB.out
        clear hK hX hC
        go_wp2_with (first
          | (go_at_call 56; refine HC1.out.mono ?_; rintro e w3 ⟨rfl, hr3, hf3⟩; have HR3 := Lib.hid hr3; have HF3 := Lib.hid (HFR.out.trans hf3 (fun _ h => Or.inl h)); have HO3 := Lib.hid (own_frm HOWN.out hf3 (fun k h => by have h2 : k = q := h; omega)); clear hr3 hf3)
          | (refine wpList_build_one (K := KSeat) rfl 31 (.tmp 21) rfl Tryd.underlying31 x (by rw [HC.out]; rfl) (by decide) ?_; intro v4 w4 hat4 hb4; have HAT4 := Lib.hid hat4; have HR4 := Lib.hid (HR3.out.below hb4); have HF4 := Lib.hid (HF3.out.then_below hb4); have HO4 := Lib.hid (HO3.out.kept hb4); clear hat4 hb4; go_frame)
          | (refine wpList_append_at (K := KSeat) rfl (.tmp 19) (.tmp 22) 31 rfl Tryd.underlying31 B rfl HO4.out _ _ rfl HAT4.out HNN.out (by have := HF4.out.size; omega) ?_; intro v5 w5 hown5 hb5; have HO5 := Lib.hid hown5; have HB5 := Lib.hid hb5; clear hown5 hb5; go_frame))
        go_roundw
        case rel => exact ⟨i + 1, by omega, by go_num, by rw [HADD.out]; exact HO5.out, by rw [HADD.out]; exact (HB5.out.block q hqX).trans HR4.out, frm_below HF4.out HB5.out HBB.out.symm⟩
        case measure => simp [intOf]; omega
      · obtain rfl : i = k := by omega
        have hown := HOWN.out
        have hrd := HRD.out
        rw [← HMC2.out] at hown hrd
        have HOWN2 := Lib.hid hown
        have HRD2 := Lib.hid hrd
        clear hown hrd
        go_wp2_with fail
        go_ret
        exact ⟨_, rfl, HOWN2.out, HRD2.out, HFR.out⟩


set_option maxRecDepth 100000 in
set_option maxHeartbeats 1600000 in
theorem code_rListTrust {w : World} {q most : Nat} {r : Rd} (hr : CAt w q r) (hs : r.1.length ≤ 1099511627776) (hm : most ≤ 100) :
    Calls Tryd.prog 57 #[.pointer (some ⟨q, 0, none⟩), .int .u64 most, .func (.func 58) #[.pointer (some ⟨q, 0, none⟩)] #[]] w fun e w' => ∃ v, e = .returned v ∧ KTrust.Own w.heap.size v (manyC most (trustR hashC) r).1 w' ∧ CAt w' q (manyC most (trustR hashC) r).2 ∧ Frm (atQ q) w w' := by
  have HR := Lib.hid hr
  have HS := Lib.hid hs
  have HLE := Lib.hid (numC_le r)
  have HMC := Lib.hid (show manyC most (trustR hashC) r = if most < (numC r).1.toNat then ([], Og.bad) else rowR (trustR hashC) (numC r).1.toNat (numC r).2 from rfl)
  obtain ⟨⟨L, rz⟩, hM⟩ : ∃ R, manyC most (trustR hashC) r = R := ⟨_, rfl⟩
  rw [hM] at HMC ⊢
  have HRN := Lib.hid (show rowR numC 1 r = ([(numC r).1], (numC r).2) from rfl)
  obtain ⟨⟨n, r2⟩, hN⟩ : ∃ R, numC r = R := ⟨_, rfl⟩
  rw [hN] at HLE HMC HRN
  simp only at HLE HMC HRN ⊢
  have HS2 := Lib.hid (Nat.le_trans HLE.out HS.out)
  obtain ⟨k, hk⟩ : ∃ k, n.toNat = k := ⟨_, rfl⟩
  have HNV := Lib.hid (show nV n = .int .u64 k by unfold nV; rw [hk])
  rw [hk] at HMC
  clear hr hs hM hN hk
  obtain ⟨B, hB⟩ : ∃ n, w.heap.size = n := ⟨_, rfl⟩
  have HBB := Lib.hid hB
  rw [hB]
  clear hB
  go_enter Tryd.func57, Tryd.ntmps57
  go_upto_region 2 with (fail)
  have HF0 := Lib.hid (Fill.new (Z := [nV 0]) (show (w.alloc (.cells #[.int .u64 0] 22)).heap[w.heap.size]? = some (.cells [nV 0].toArray 22 (0, 0)) from heap_alloc_new w _))
  have HB0 := Lib.hid (show Below w.heap.size w (w.alloc (.cells #[.int .u64 0] 22)) from (Below.refl _ _).alloc (Nat.le_refl _) _)
  have HR0 := Lib.hid (HR.out.below HB0.out)
  have HLX := Lib.hid (show w.heap.size < (w.alloc (.cells #[.int .u64 0] 22)).heap.size by simp)
  have hqX := HR.out.lt
  rw [HBB.out] at HF0 HB0 HLX hqX ⊢
  generalize w.alloc (.cells #[.int .u64 0] 22) = wX at HF0 HB0 HR0 HLX ⊢
  have hXq : B ≠ q := by omega
  have hXw : B ≠ wX.heap.size := by have := HLX.out; omega
  have hqw : q ≠ wX.heap.size := by have := HLX.out; omega
  go_upto_region 3 with (first
    | (go_at_call 51; refine (code_rNumbers (o0 := 0) (m := 1) rfl (HR0.out.below hb1) (HF0.out.frm (F := fun _ => False) (Frm.of_below hb1) id) hXq HS.out (by decide) (fun j hj => one_zero hj) hh1 (fun e => hXw e.symm) (fun e => hqw e.symm)).mono ?_; rintro e w2 ⟨rfl, hr2, hf2, hm2⟩; rw [HRN.out] at hr2 hf2; have HR2 := Lib.hid hr2; have HF2 := Lib.hid hf2; have HM2 := Lib.hid (((Frm.of_below hb1 (F := atXQ B q)).trans hm2 (fun _ h => Or.inl h))); clear hr2 hf2 hm2)
    | (refine wpList_build_vals (K := KP) rfl pV (fun _ => rfl) 131 1 _ rfl Tryd.underlying131 (ptrs B 0 1) rfl (by decide) (by decide) (by simp [Act.eval, ptrs, List.range, List.range.loop]) ?_; intro w1 hat1 hh1 hb1 hs1; go_frame))
  have HFQ := Lib.hid (show Frm (atQ q) w w2 from (Frm.of_below (HBB.out.symm ▸ HB0.out) (F := atQ q)).trans HM2.out (fun i h => by
    rcases h with h | h
    · exact Or.inr (by rw [HBB.out]; omega)
    · exact Or.inl h))
  have cm : w2.cell? ⟨B, 0, none⟩ = some (.int .u64 k) := by
    have := HF2.out.toVar.range 0 (nV n) rfl
    rw [HNV.out] at this
    exact this
  by_cases hgt : most < k
  · have hgi : (most : Int) < (k : Int) := by omega
    have hmc := HMC.out
    rw [if_pos hgt] at hmc
    obtain ⟨rfl, rfl⟩ := Prod.mk.inj hmc
    have HFA := Lib.hid (code_fail HR2.out)
    clear hmc
    go_wp2_with (go_at_call 80; refine HFA.out.mono ?_; rintro e w3 ⟨rfl, hr3, hf3⟩)
    go_ret
    exact ⟨_, rfl, Kind.Own.nil _ _, hr3, HFQ.out.trans hf3 (fun _ h => Or.inl h)⟩
  · have hgi : ¬ (most : Int) < (k : Int) := by omega
    have hmc := HMC.out
    rw [if_neg hgt] at hmc
    have HMC2 := Lib.hid hmc
    clear hmc
    go_upto_region 7 with (fail)
    go_loopw [6, 17] (fun av iv wr => ∃ i : Nat, i ≤ k ∧ iv = .int .u64 i ∧ KTrust.Own B av (rowR (trustR hashC) i r2).1 wr ∧ CAt wr q (rowR (trustR hashC) i r2).2 ∧ Frm (atQ q) w wr) (fun _ iv _ => k - (intOf iv).toNat)
    case atStart => exact ⟨0, Nat.zero_le _, rfl, Kind.Own.nil _ _, HR2.out, HFQ.out⟩
    case round =>
      obtain ⟨i, hi, rfl, hown, hrd, hfr⟩ := hrel
      have HOWN := Lib.hid hown
      have HRD := Lib.hid hrd
      have HFR := Lib.hid hfr
      clear hown hrd hfr
      by_cases hlt : i < k
      · have hki : (i : Int) < (k : Int) := by omega
        have HADD := Lib.hid (rowR_add (trustR hashC) i 1 r2)
        have HLK := Lib.hid (Nat.le_trans (rowR_le trustR_le i r2) HS2.out)
        have HLN := Lib.hid (rowR_len (trustR hashC) i r2)
        obtain ⟨⟨xs, rk⟩, hK⟩ : ∃ R, rowR (trustR hashC) i r2 = R := ⟨_, rfl⟩
        rw [hK] at HOWN HRD HADD HLK HLN
        simp only at HOWN HRD HADD HLK HLN
        rw [rowR_one] at HADD
        have HC1 := Lib.hid (code_rTrust HRD.out HLK.out)
        obtain ⟨⟨x, rn⟩, hX⟩ : ∃ R, trustR hashC rk = R := ⟨_, rfl⟩
        rw [hX] at HADD HC1
        simp only at HADD HC1
        have HNN := Lib.hid (show (xs.length + ([x] : List TrustD).length) * (KTrust.bytes + 1) ≤ 1099511627776 by rw [HLN.out]; simp [KTrust] <;> omega)
        obtain ⟨C, hC⟩ : ∃ C, (KTrust.enc x).toArray = C := ⟨_, rfl⟩
        have HC := Lib.hid hC
        rw [hC] at HC1
        have hwB : w.heap.size = B := HBB.out
        clear hK hX hC
        go_wp2_with (first
          | (go_at_call 58; refine HC1.out.mono ?_; rintro e w3 ⟨rfl, hr3, hf3⟩; have HR3 := Lib.hid hr3; have HF3 := Lib.hid (HFR.out.trans hf3 (fun _ h => Or.inl h)); have HO3 := Lib.hid (own_frm HOWN.out hf3 (fun k h => by have h2 : k = q := h; omega)); clear hr3 hf3)
          | (refine wpList_build_one (K := KTrust) rfl 32 (.tmp 21) rfl Tryd.underlying32 x (by rw [HC.out]; rfl) (by decide) ?_; intro v4 w4 hat4 hb4; have HAT4 := Lib.hid hat4; have HR4 := Lib.hid (HR3.out.below hb4); have HF4 := Lib.hid (HF3.out.then_below hb4); have HO4 := Lib.hid (HO3.out.kept hb4); clear hat4 hb4; go_frame)
          | (refine wpList_append_at (K := KTrust) rfl (.tmp 19) (.tmp 22) 32 rfl Tryd.underlying32 B rfl HO4.out _ _ rfl HAT4.out HNN.out (by have := HF4.out.size; omega) ?_; intro v5 w5 hown5 hb5; have HO5 := Lib.hid hown5; have HB5 := Lib.hid hb5; clear hown5 hb5; go_frame))
        go_roundw
        case rel => exact ⟨i + 1, by omega, by go_num, by rw [HADD.out]; exact HO5.out, by rw [HADD.out]; exact (HB5.out.block q hqX).trans HR4.out, frm_below HF4.out HB5.out HBB.out.symm⟩
        case measure => simp [intOf]; omega
      · obtain rfl : i = k := by omega
        have hown := HOWN.out
        have hrd := HRD.out
        rw [← HMC2.out] at hown hrd
        have HOWN2 := Lib.hid hown
        have HRD2 := Lib.hid hrd
        clear hown hrd
        go_wp2_with fail
        go_ret
        exact ⟨_, rfl, HOWN2.out, HRD2.out, HFR.out⟩

end Go.Proofs.YtdgaoebjbhomdaaDoor.Og
