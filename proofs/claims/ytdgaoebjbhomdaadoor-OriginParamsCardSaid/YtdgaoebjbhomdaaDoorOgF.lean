/- origin: the code's mayParams, total, mayTotal. -/
import Derived.Test.YtdgaoebjbhomdaaDoorOgE
namespace Go.Proofs.YtdgaoebjbhomdaaDoor.Og
open Go.RowKit Go.Proofs.YtdgaoebjbhomdaaDoor.Sha Go.Proofs.YtdgaoebjbhomdaaDoor.Gr Go.Proofs.YtdgaoebjbhomdaaDoor.Digit Go.Proofs.YtdgaoebjbhomdaaDoor.Deed

theorem index_row {P : Program} {t e : TypeId} {n : Nat} (ht : P.underlying t = some (.array n e)) {w : World} (h2 : (isAgg e).run P w = .ok false w) (h3 : (sizeOf e).run P w = .ok 1 w) {cs : Array Value} {f : Nat} {v : Value} (hf : f < n) (hv : cs[f]? = some v) (k : IntKind) : (Instr.index t (.agg cs) (.int k f)).run P w = .ok v w := by
  have h4 : (0 : Int) ≤ (f : Int) ∧ (f : Int) < (n : Int) := by omega
  simp only [Instr.index, asIntOf, Sem.run_bind, Sem.run_pure, Result.andThen_ok, run_underlying ht]
  rw [if_pos h4]
  simp only [Sem.run_bind, h3, Result.andThen_ok, part, h2, Int.toNat_natCast, Nat.mul_one]
  simp [hv]
theorem u64_size (w : World) : (sizeOf 22).run Tryd.prog w = .ok 1 w := by kernel_rfl
set_option maxRecDepth 100000 in
set_option maxHeartbeats 800000 in
theorem code_mayParams {o : OriginD} (hn : o.n.length = 15) (w : World) (ht : Tab w) : Calls Tryd.prog 45 #[.agg (((o.n.drop 5).take 8).map nV).toArray] w fun e w' => e = .returned (.bool (allN 8 (parI o))) ∧ Below w.heap.size w w' := by
  have HT := Lib.hid ht
  have HG := Lib.hid (fun i hi => params_get hn i hi)
  have HZ := Lib.hid (show (((o.n.drop 5).take 8).map nV).toArray.size = 8 by rw [List.size_toArray, List.length_map, params_len hn])
  have HI := Lib.hid (show (Tryd.prog.info? 27).map (·.size) = some (((o.n.drop 5).take 8).map nV).toArray.size by rw [HZ.out]; kernel_rfl)
  clear ht
  have HG' := Lib.hid (fun i hi => show (((o.n.drop 5).take 8).map nV).toArray[i]? = some (Value.int .u64 (o.num (5 + i))) by rw [List.getElem?_toArray]; exact HG.out i hi)
  clear HG
  obtain ⟨C, hC⟩ : ∃ C, (((o.n.drop 5).take 8).map nV).toArray = C := ⟨_, rfl⟩
  rw [hC] at HZ HI ⊢
  simp only [hC] at HG'
  clear hC
  obtain ⟨r, hr⟩ : ∃ r, allN 8 (parI o) = r := ⟨_, rfl⟩
  have HR := Lib.hid hr
  rw [hr]
  clear hr
  go_enter Tryd.func45, Tryd.ntmps45
  go_upto_region 1 with (fail)
  have HBW := Lib.hid (show Below w.heap.size w (w.alloc (.cells C 27)) from (Below.refl _ _).alloc (Nat.le_refl _) _)
  have HH := Lib.hid (heap_alloc_new w (.cells C 27))
  generalize w.alloc (.cells C 27) = W at HBW HH ⊢
  go_upto_region 2 with (refine wpList_load_row rfl 27 (.tmp 1) rfl w.heap.size rfl 27 C (0, 0) _ HH.out Tryd.underlying27 rfl HI.out ?_)
  go_loopw [6] (fun iv wr => ∃ i : Nat, i ≤ 8 ∧ iv = .int .i64 i ∧ (∀ j, j < i → parI o j = true) ∧ Below w.heap.size w wr) (fun iv _ => 8 - (intOf iv).toNat)
  case atStart => exact ⟨0, by decide, rfl, fun j hj => absurd hj (Nat.not_lt_zero _), HBW.out⟩
  case round =>
    obtain ⟨i, hi, rfl, hall, hb⟩ := hrel
    have HALL := Lib.hid hall
    have HB := Lib.hid hb
    clear hall hb
    by_cases hlt : i < 8
    · have hki : (i : Int) < 8 := by omega
      have hcell := fun w => index_row Tryd.underlying27 (by simp [isAgg, run_underlying Tryd.underlying22]) (u64_size w) hlt (HG'.out i hlt) .i64 (w := w)
      have HP := Lib.hid (code_Param i (o.num (5 + i)) wr (HT.out.kept HB.out) (by omega))
      have HPI := Lib.hid (show parI o i = decide (parE i (o.num (5 + i)) = 0) from rfl)
      obtain ⟨m, hm⟩ : ∃ n, o.num (5 + i) = n := ⟨_, rfl⟩
      rw [hm] at hcell HP HPI
      obtain ⟨e0, he0⟩ : ∃ n, parE i m = n := ⟨_, rfl⟩
      rw [he0] at HP HPI
      clear hm he0
      by_cases hz : e0 = 0
      · subst hz
        go_wp2_with (go_at_call 11; refine HP.out.mono ?_; rintro e w1 ⟨rfl, hb1⟩)
        go_roundw
        case rel => exact ⟨i + 1, by omega, by go_num, fun j hj => by
          rcases Nat.lt_or_ge j i with h | h
          · exact HALL.out j h
          · obtain rfl : j = i := by omega
            rw [HPI.out]; simp, HB.out.trans (hb1.mono HB.out.size)⟩
        case measure => simp [intOf]; omega
      · have hei : ((e0 : Int) == 0) = false := by simp; omega
        have hrr : r = false := by rw [← HR.out]; exact allN_no i hlt (by rw [HPI.out]; exact decide_eq_false hz)
        subst hrr
        go_wp2_with (go_at_call 11; refine HP.out.mono ?_; rintro e w1 ⟨rfl, hb1⟩)
        go_ret
        exact ⟨rfl, HB.out.trans (hb1.mono HB.out.size)⟩
    · obtain rfl : i = 8 := by omega
      have hrr : r = true := by rw [← HR.out]; exact allN_iff.2 HALL.out
      subst hrr
      go_wp2_with fail
      go_ret
      exact ⟨rfl, HB.out⟩


theorem range_heap {w : World} {g : Nat} {cs : List Value} {T : TypeId} (h : w.heap[g]? = some (.cells cs.toArray T (0, 0))) : w.rangeAt g 0 cs := fun j v hv => by
  rw [Nat.zero_add, Lib.cell_of_heap h, List.getElem?_toArray]
  exact hv
theorem own_block {w : World} {B g : Nat} (L : List UInt64) (h0 : L.length ≤ 1000) (hB : B ≤ g) (hg : w.heap[g]? = some (.cells (KU.flat L).toArray KU.T (0, 0))) : KU.Own B (.slice (some ⟨g, 0, none⟩) L.length L.length) L w := by
  refine ⟨by rw [KU.flat_len], Or.inr ⟨g, L.length, (KU.flat L).toArray, rfl, hB, hg, Nat.le_refl _, by unfold maxLen; omega, by rw [List.size_toArray, KU.flat_len], ?_⟩⟩
  rw [List.toList_toArray, List.take_of_length_le (by rw [KU.flat_len]; exact Nat.le_refl _)]
theorem nums_own {w : World} {B : Nat} {v : Value} {L : List UInt64} (h : KU.Own B v L w) : ∃ a len cap, v = .slice a len cap ∧ len = L.length ∧ Wide.Nums w a len cap (L.map (·.toNat)) := by
  have hr := h.reads
  have hlt : ∀ x ∈ L.map (·.toNat), x < 18446744073709551616 := fun x hx => by
    obtain ⟨n, _, rfl⟩ := List.mem_map.1 hx
    exact n.toNat_lt
  rcases h.2 with ⟨rfl, h0⟩ | ⟨g, cap, cur, rfl, _, _, h1, h2, _, _⟩
  · obtain rfl := List.eq_nil_of_length_eq_zero h0
    exact ⟨none, 0, 0, rfl, rfl, rfl, Nat.le_refl _, Nat.zero_le _, hlt, Or.inl rfl⟩
  · refine ⟨_, _, _, rfl, rfl, by simp, h1, h2, hlt, ?_⟩
    by_cases h0 : L.length = 0
    · exact Or.inl h0
    · refine Or.inr ⟨_, rfl, fun i x hx => ?_⟩
      obtain ⟨g', o', c', hv, _, hR⟩ := hr.some (by omega)
      injection hv with hv1 _ _
      injection hv1 with hv1
      injection hv1 with hg ho _
      subst hg
      rw [List.getElem?_map] at hx
      obtain ⟨n, hn, rfl⟩ := Option.map_eq_some_iff.1 hx
      have h3 := hR (i * 1 + 0) (nV n) (KU.flat_at L i n 0 (nV n) hn rfl)
      rw [Addr.add_mid]
      rw [show o' + (i * 1 + 0) = 0 + i by omega] at h3
      exact h3
/-- The sum of all that there is. -/
def totE (o : OriginD) : Nat × Nat := if sumN o < 18446744073709551616 then (sumN o, 0) else (0, 9)
def allTot (o : OriginD) : List UInt64 := o.n.getD 13 0 :: o.n.getD 14 0 :: o.coins.map (·.am)
theorem tot_all (o : OriginD) : Wide.sumN ((allTot o).map (·.toNat)) = totE o := by
  have h : Wide.totalL ((o.coins.map (·.am)).map (·.toNat)) = sumO o.coins := by
    unfold sumO
    rw [List.map_map]
    induction o.coins with
    | nil => rfl
    | cons p l ih => simp [Wide.totalL] at ih ⊢; omega
  unfold Wide.sumN totE allTot sumN
  simp only [List.map_cons, Wide.totalL, h]
  rfl
theorem bounds_tot (o : OriginD) : (totE o).1 < 18446744073709551616 := by
  unfold totE
  split
  · assumption
  · decide


set_option maxRecDepth 100000 in
set_option maxHeartbeats 1600000 in
theorem code_total {w : World} {o : OriginD} {c s t : Value} (h : OAt w o c s t) (hl : o.coins.length ≤ 1000000) : Calls Tryd.prog 21 #[oV o c s t] w fun e w' => e = .returned (.tuple #[.int .u64 (totE o).1, .int .i64 (totE o).2]) ∧ Below w.heap.size w w' := by
  obtain ⟨a1, k1, rfl, _⟩ := h.coins.form
  have HTE := Lib.hid (tot_all o)
  obtain ⟨⟨r1, r2⟩, hR⟩ : ∃ R, totE o = R := ⟨_, rfl⟩
  rw [hR] at HTE ⊢
  clear hR
  obtain ⟨h1, h2, h3, h4⟩ := box_o h
  unfold oV
  have HP := Lib.hid h1
  have HO := Lib.hid h2
  have HBW := Lib.hid h3
  have HLT := Lib.hid h4
  clear h1 h2 h3 h4
  obtain ⟨C, hC⟩ : ∃ C, (cellsO o (.slice a1 o.coins.length k1) s t).toArray = C := ⟨_, rfl⟩
  have HC := Lib.hid hC
  rw [hC] at HP HO HBW HLT
  rw [hC]
  clear hC
  go_enter Tryd.func21, Tryd.ntmps21
  go_upto_region 1 with (fail)
  generalize w.alloc (.cells C 34) = W at HP HO HBW HLT ⊢
  obtain ⟨g, hg⟩ : ∃ g, w.heap.size = g := ⟨_, rfl⟩
  have HG := Lib.hid hg
  rw [hg] at HP HBW HLT
  rw [hg]
  clear hg
  have q1 := HP.out.num 13 (by decide)
  have q2 := HP.out.num 14 (by decide)
  have q3 := HP.out.c
  have HAL := Lib.hid (show allTot o = o.n.getD 13 0 :: o.n.getD 14 0 :: o.coins.map (·.am) from rfl)
  obtain ⟨x1, hx1⟩ : ∃ x, o.n.getD 13 0 = x := ⟨_, rfl⟩
  obtain ⟨x2, hx2⟩ : ∃ x, o.n.getD 14 0 = x := ⟨_, rfl⟩
  rw [hx1] at q1 HAL
  rw [hx2] at q2 HAL
  clear hx1 hx2
  have HNN := Lib.hid (show ∀ i, i < o.coins.length → ((x1 :: x2 :: (o.coins.take i).map (·.am)).length + ([0] : List UInt64).length) * (KU.bytes + 1) ≤ 1099511627776 from fun i hi => by simp [KU] <;> omega)
  have HLEW := Lib.hid (show w.heap.size ≤ W.heap.size by rw [HG.out]; have := HBW.out.size; have := HG.out; omega)
  go_upto_region 2 with (refine wpList_build_vals (K := KU) rfl nV (fun _ => rfl) 76 2 _ rfl Tryd.underlying76 [x1, x2] rfl (by decide) (by decide) (by simp [Act.eval]) ?_; intro wv hat hhv hbv hsv; go_frame)
  have HOW := Lib.hid (own_block (B := W.heap.size) [x1, x2] (by simp) (Nat.le_refl _) hhv)
  have HBV := Lib.hid hbv
  have HSV := Lib.hid hsv
  clear hat hhv hbv hsv
  have c47 := (HBV.out.cell HLT.out).trans q3
  obtain ⟨gw, hgw⟩ : ∃ n, W.heap.size = n := ⟨_, rfl⟩
  have HGW := Lib.hid hgw
  rw [hgw] at HOW HBV
  rw [hgw]
  clear hgw
  go_upto_region 3 with (fail)
  go_loopw [4, 15] (fun av iv wr => ∃ i : Nat, i ≤ o.coins.length ∧ iv = .int .i64 i ∧ KU.Own gw av (x1 :: x2 :: (o.coins.take i).map (·.am)) wr ∧ Below gw W wr) (fun _ iv _ => o.coins.length - (intOf iv).toNat)
  case atStart => exact ⟨0, Nat.zero_le _, rfl, HOW.out, HBV.out⟩
  case round =>
    obtain ⟨i, hi, rfl, hown, hb⟩ := hrel
    have HOWN := Lib.hid hown
    have HB := Lib.hid hb
    clear hown hb
    by_cases hlt : i < o.coins.length
    · obtain ⟨ge, oe, cap', ha, _, hr⟩ := (HO.out.coins.kept (by rw [HGW.out]; exact HB.out)).some (by omega)
      have hx := List.getElem?_eq_getElem hlt
      obtain ⟨x, hxx⟩ : ∃ x, o.coins[i] = x := ⟨_, rfl⟩
      rw [hxx] at hx
      have HRX := Lib.hid (range_at hr hx)
      have HTK := Lib.hid (show (o.coins.take (i + 1)).map (·.am) = (o.coins.take i).map (·.am) ++ [x.am] by rw [List.take_add_one, hx]; simp)
      have HIX := Lib.hid (KOut.infoL x)
      injection ha with ha1 ha3 ha2
      clear ha3
      subst ha1 ha2
      have hki : (i : Int) < (o.coins.length : Int) := by omega
      have HNI := Lib.hid (HNN.out i hlt)
      obtain ⟨CX, hCX⟩ : ∃ C, (KOut.enc x).toArray = C := ⟨_, rfl⟩
      have HCX := Lib.hid hCX
      have hca : (w : World) → (h : w.heap[wr.heap.size]? = some (.cells CX KOut.T (0, 0))) → w.cell? ⟨wr.heap.size, 64, none⟩ = some (nV x.am) := fun w h => by
        rw [← hCX] at h
        have := (Out_parts (range_heap h)).2.2
        rwa [Nat.zero_add] at this
      clear hCX hxx hx hr
      go_wp2_with (first
        | (refine wpList_load_mid rfl 52 (.tmp 17) rfl ge (oe + i * 65) rfl (KOut.enc x) _ HRX.out Tryd.underlying52 rfl HIX.out ?_; rw [HCX.out]; go_frame)
        | (refine wpList_new_thing KOut (z32 ++ (z32 ++ [Value.int .u64 0])).toArray rfl x HCX.out (.tmp 6) (.tmp 18) rfl rfl rfl rfl (fun _ => rfl) (fun _ => rfl) ?_; intro wv hhv hsv hbv; have hcv := hca _ hhv; go_frame)
        | (refine wpList_build_vals (K := KU) rfl nV (fun _ => rfl) 76 1 _ rfl Tryd.underlying76 [x.am] rfl (by decide) (by decide) (by simp [Act.eval]) ?_; intro w2 hat2 hh2 hb2 hs2; have HAT2 := Lib.hid hat2; have HB2 := Lib.hid (hbv.trans (hb2.mono hbv.size)); have HO2 := Lib.hid (HOWN.out.kept HB2.out); go_frame)
        | (refine wpList_append_at (K := KU) rfl (.tmp 19) (.tmp 22) 76 rfl Tryd.underlying76 gw rfl HO2.out _ _ rfl HAT2.out HNI.out (by have := HB.out.size; have := HB2.out.size; have := HGW.out; omega) ?_; intro v8 w8 hown8 hb8; have HO8 := Lib.hid hown8; have HB8 := Lib.hid hb8; clear hown8 hb8; go_frame))
      go_roundw
      case rel => exact ⟨i + 1, by omega, by go_num, by rw [HTK.out]; exact HO8.out, (HB.out.trans (HB2.out.mono (by have := HB.out.size; have := HGW.out; omega))).trans HB8.out⟩
      case measure => simp [intOf]; omega
    · obtain rfl : i = o.coins.length := by omega
      have hown := HOWN.out
      rw [List.take_length, ← HAL.out] at hown
      obtain ⟨a3, l3, c3, rfl, hl3, hN⟩ := nums_own hown
      have HSU := Lib.hid (Wide.sum_any a3 l3 c3 _ wr hN)
      rw [HTE.out] at HSU
      clear hown hN hl3
      go_wp2_with (go_at_call 50; refine HSU.out.mono ?_; rintro e w6 ⟨rfl, rfl⟩)
      go_ret2
      exact ⟨rfl, by rw [HG.out]; exact HBW.out.trans (HB.out.mono (by have := HBW.out.size; have := HGW.out; have := HG.out; omega))⟩


theorem tot_cases (o : OriginD) : ((totE o).2 = 0 ∧ (totE o).1 ≤ 9223372036854775807 ∧ totB o = true) ∨ ((totE o).2 = 0 ∧ 9223372036854775807 < (totE o).1 ∧ totB o = false) ∨ ((totE o).2 = 9 ∧ totB o = false) := by
  unfold totE totB
  generalize sumN o = n
  by_cases h2 : n < 18446744073709551616
  · rw [if_pos h2]
    by_cases h : n ≤ 9223372036854775807
    · exact Or.inl ⟨rfl, h, decide_eq_true h⟩
    · exact Or.inr (Or.inl ⟨rfl, Nat.lt_of_not_le h, decide_eq_false h⟩)
  · rw [if_neg h2]
    exact Or.inr (Or.inr ⟨rfl, decide_eq_false (by omega)⟩)
set_option maxRecDepth 100000 in
set_option maxHeartbeats 1600000 in
theorem code_mayTotal {w : World} {o : OriginD} {c s t : Value} (h : OAt w o c s t) (hl : o.coins.length ≤ 1000000) : Calls Tryd.prog 49 #[oV o c s t] w fun e w' => e = .returned (.bool (totB o)) ∧ Below w.heap.size w w' := by
  have HCT := Lib.hid (fun w (h : OAt w o c s t) => code_total h hl)
  have hcs := tot_cases o
  obtain ⟨⟨r1, r2⟩, hR⟩ : ∃ R, totE o = R := ⟨_, rfl⟩
  obtain ⟨b, hb⟩ : ∃ R, totB o = R := ⟨_, rfl⟩
  rw [hR] at HCT
  rw [hR, hb] at hcs
  simp only at hcs
  rw [hb]
  clear hR hb
  unfold oV at HCT
  have HIO := Lib.hid (show (Tryd.prog.info? 34).map (·.size) = some (cellsO o c s t).toArray.size by rw [List.size_toArray]; exact info_O h)
  have HHW := Lib.hid (heap_alloc_new w (.cells (cellsO o c s t).toArray 34))
  obtain ⟨h1, h2, h3, h4⟩ := box_o h
  unfold oV
  have HP := Lib.hid h1
  have HO := Lib.hid h2
  have HBW := Lib.hid h3
  have HLT := Lib.hid h4
  clear h1 h2 h3 h4
  obtain ⟨C, hC⟩ : ∃ C, (cellsO o c s t).toArray = C := ⟨_, rfl⟩
  have HC := Lib.hid hC
  rw [hC] at HP HO HBW HLT HIO HHW
  simp only [hC] at HCT
  rw [hC]
  clear hC
  go_enter Tryd.func49, Tryd.ntmps49
  go_upto_region 1 with (fail)
  generalize w.alloc (.cells C 34) = W at HP HO HBW HLT HHW ⊢
  obtain ⟨g, hg⟩ : ∃ g, w.heap.size = g := ⟨_, rfl⟩
  have HG := Lib.hid hg
  rw [hg] at HP HBW HLT HHW
  rw [hg]
  clear hg
  rcases hcs with ⟨h1, h2, h3⟩ | ⟨h1, h2, h3⟩ | ⟨h1, h3⟩
  · subst h1 h3
    have hlt : (r1 : Int) < 9223372036854775808 := by omega
    go_wp2_with (first
      | (go_at_call 21; refine (HCT.out _ HO.out).mono ?_; rintro e w1 ⟨rfl, hb1⟩; have HB1 := Lib.hid hb1; clear hb1)
      | (refine wpList_load_row rfl 34 (.tmp 1) rfl g rfl 34 C (0, 0) _ HHW.out Tryd.underlying34 rfl HIO.out ?_))
    go_ret
    exact ⟨rfl, by rw [HG.out]; exact HBW.out.trans (HB1.out.mono (by have := HBW.out.size; have := HG.out; omega))⟩
  · subst h1 h3
    have hlt : decide ((r1 : Int) < 9223372036854775808) = false := decide_eq_false (by omega)
    go_wp2_with (first
      | (go_at_call 21; refine (HCT.out _ HO.out).mono ?_; rintro e w1 ⟨rfl, hb1⟩; have HB1 := Lib.hid hb1; clear hb1)
      | (refine wpList_load_row rfl 34 (.tmp 1) rfl g rfl 34 C (0, 0) _ HHW.out Tryd.underlying34 rfl HIO.out ?_))
    go_ret
    exact ⟨rfl, by rw [HG.out]; exact HBW.out.trans (HB1.out.mono (by have := HBW.out.size; have := HG.out; omega))⟩
  · subst h3
    have hne : ((r2 : Int) == 0) = false := by simp; omega
    clear h1
    go_wp2_with (first
      | (go_at_call 21; refine (HCT.out _ HO.out).mono ?_; rintro e w1 ⟨rfl, hb1⟩; have HB1 := Lib.hid hb1; clear hb1)
      | (refine wpList_load_row rfl 34 (.tmp 1) rfl g rfl 34 C (0, 0) _ HHW.out Tryd.underlying34 rfl HIO.out ?_))
    go_ret
    exact ⟨rfl, by rw [HG.out]; exact HBW.out.trans (HB1.out.mono (by have := HBW.out.size; have := HG.out; omega))⟩

end Go.Proofs.YtdgaoebjbhomdaaDoor.Og
