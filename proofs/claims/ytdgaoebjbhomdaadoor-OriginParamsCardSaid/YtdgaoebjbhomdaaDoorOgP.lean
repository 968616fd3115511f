/- origin: the code's reader: origin. -/
import Derived.Test.YtdgaoebjbhomdaaDoorOgO
namespace Go.Proofs.YtdgaoebjbhomdaaDoor.Og
open Go.RowKit Go.Proofs.YtdgaoebjbhomdaaDoor.Sha Go.Proofs.YtdgaoebjbhomdaaDoor.Gr Go.Proofs.YtdgaoebjbhomdaaDoor.Digit Go.Proofs.YtdgaoebjbhomdaaDoor.Deed Go.Proofs.YtdgaoebjbhomdaaDoor.Tree

abbrev nilS : Value := .slice none 0 0
def zOrig : List Value := List.replicate 15 (nV 0) ++ (z32 ++ [nilS, nilS, nilS])
theorem zOrig_num {j : Nat} (h : j < 15) : zOrig[j]? = some (nV 0) := by
  unfold zOrig
  rw [List.getElem?_append_left (by simpa using h), List.getElem?_replicate, if_pos h]
theorem zOrig_hash {j : Nat} (h : j < 32) : zOrig[15 + j]? = some (Value.int .u8 0) := by
  unfold zOrig
  rw [List.getElem?_append_right (by simp), List.length_replicate, Nat.add_sub_cancel_left, List.getElem?_append_left (by simpa using h), List.getElem?_replicate, if_pos h]
theorem zOrig_len : zOrig.length = 50 := by decide
theorem orig_info : (Tryd.prog.info? 34).map (fun i => (i.zero, i.size)) = some (some (.agg zOrig.toArray), 50) := by kernel_rfl
/-- A new variable. -/
theorem wpList_alloc_zero {P : Program} {T : TypeId} {Z : Array Value} {n : Nat} (hi : (P.info? T).map (fun i => (i.zero, i.size)) = some (some (.agg Z), n)) {ops : Array Oper} {rest : List Oper} {o : Oper} {a : Act} {w : World} {Q : Exit → Act → World → Prop} (hgd : o.guard = none) (ho : o.op = .alloc T)
    (h : ∀ w', w'.heap[w.heap.size]? = some (.cells Z T (0, 0)) → w'.heap.size = w.heap.size + 1 → Below w.heap.size w w' → wpList P ops Q rest (a.put o.dst (.pointer (some ⟨w.heap.size, 0, none⟩))) w') : wpList P ops Q (o :: rest) a w := by
  obtain ⟨ie, hie, hq⟩ := Option.map_eq_some_iff.1 hi
  simp only [Prod.mk.injEq] at hq
  have h2 := h (w.alloc (.cells Z T)) (heap_alloc_new w _) (by simp) ((Below.refl _ _).alloc (Nat.le_refl _) _)
  refine wpList_plain hgd fun _ hK => ?_
  unfold Oper.wp execOp
  have hzr : (zeroValue T).run P w = .ok (.agg Z) w := by simp [zeroValue, typeInfo, hie, hq.1]
  simp only [ho, Instr.alloc, Sem.run_bind, hzr, Result.andThen_ok, newVar, newRow, run_newObj_alloc, Sem.run_pure]
  exact hK _ _ h2
theorem own_base {α : Type} {P : Program} {K : Kind P α} {B B' : Nat} {v : Value} {L : List α} {w : World} (h : K.Own B v L w) (hB : B' ≤ B) : K.Own B' v L w := by
  refine ⟨h.1, ?_⟩
  rcases h.2 with hn | ⟨g, cap, cur, hv, hb, rest⟩
  · exact Or.inl hn
  · exact Or.inr ⟨g, cap, cur, hv, Nat.le_trans hB hb, rest⟩
theorem manyC_le {α : Type} {f : Rd → α × Rd} (h : ∀ r, (f r).2.1.length ≤ r.1.length) (m : Nat) (r : Rd) : (manyC m f r).2.1.length ≤ r.1.length := by
  unfold manyC
  split
  · exact Nat.zero_le _
  · exact Nat.le_trans (rowR_le h _ _) (numC_le r)
theorem origR_eq (fh : Rd → H32 × Rd) (fn : Rd → UInt64 × Rd) (fc : Rd → List OutD × Rd) (fs : Rd → List SeatD × Rd) (ft : Rd → List TrustD × Rd) (r : Rd) : origR fh fn fc fs ft r = (⟨(rowR fn 15 r).1, (fh (rowR fn 15 r).2).1, (fc (fh (rowR fn 15 r).2).2).1, (fs (fc (fh (rowR fn 15 r).2).2).2).1, (ft (fs (fc (fh (rowR fn 15 r).2).2).2).2).1⟩, (ft (fs (fc (fh (rowR fn 15 r).2).2).2).2).2) := by
  unfold origR mapR andR
  rfl
theorem rNums_on {w : World} {q X gs a b : Nat} {r : Rd} (hr : CAt w q (rowR numC a r).2) (hf : Fill w X zOrig ((rowR numC a r).1.map nV)) (hXq : X ≠ q) (hs : r.1.length ≤ 1099511627776) (hb : a + b ≤ 15)
    (hv : w.heap[gs]? = some (.cells (KP.flat (ptrs X a b)).toArray KP.T (0, 0))) (hgX : gs ≠ X) (hgq : gs ≠ q) :
    Calls Tryd.prog 51 #[.pointer (some ⟨q, 0, none⟩), .slice (some ⟨gs, 0, none⟩) b b] w fun e w' => e = .returned (.tuple #[]) ∧ CAt w' q (rowR numC (a + b) r).2 ∧ Fill w' X zOrig ((rowR numC (a + b) r).1.map nV) ∧ Frm (atXQ X q) w w' := by
  have h := code_rNumbers (o0 := a) (m := b) (by rw [List.length_map, rowR_len]) hr hf hXq (Nat.le_trans (rowR_le numC_le a r) hs) (by omega) (fun j hj => zOrig_num (by omega)) hv hgX hgq
  rw [rowR_add, List.map_append]
  exact h
theorem own_xq {α : Type} {P : Program} {K : Kind P α} {B X q : Nat} {v : Value} {L : List α} {w w' : World} (h : K.Own B v L w) (hf : Frm (atXQ X q) w w') (hX : X < B) (hq : q < B) : K.Own B v L w' :=
  own_frm h hf (fun k h => by rcases h with h | h <;> omega)
/-- What a slice's cell holds. -/
theorem Fill.sl {w : World} {X : Nat} {cs : List Value} {o : Nat} (h : Fill w X zOrig cs) (hn : o < 50) : (∃ v, w.cell? ⟨X, o, none⟩ = some v) ∧ w.frozen? ⟨X, o, none⟩ = false := by
  have := h.toVar.some o (by rw [zOrig_len]; exact hn)
  exact this


set_option maxRecDepth 100000 in
set_option maxHeartbeats 800000 in
theorem code_rOrigin {w : World} {q : Nat} {r : Rd} (hr : CAt w q r) (hs : r.1.length ≤ 1099511627776) :
    Calls Tryd.prog 23 #[.pointer (some ⟨q, 0, none⟩)] w fun e w' => ∃ c s t, e = .returned (oV (codeO r).1 c s t) ∧ (∀ wz, Frm (fun k => k < w.heap.size) w' wz → OAt wz (codeO r).1 c s t) ∧ CAt w' q (codeO r).2 ∧ Frm (atQ q) w w' := by
  have HR := Lib.hid hr
  have HS := Lib.hid hs
  have HL15 := Lib.hid (Nat.le_trans (rowR_le numC_le 15 r) hs)
  have HN15 := Lib.hid (rowR_len numC 15 r)
  have HE := Lib.hid (show codeO r = (⟨(rowR numC 15 r).1, (hashC (rowR numC 15 r).2).1, (manyC 32 (coinR hashC numC) (hashC (rowR numC 15 r).2).2).1, (manyC 16 (seatR hashC numC) (manyC 32 (coinR hashC numC) (hashC (rowR numC 15 r).2).2).2).1, (manyC 32 (trustR hashC) (manyC 16 (seatR hashC numC) (manyC 32 (coinR hashC numC) (hashC (rowR numC 15 r).2).2).2).2).1⟩, (manyC 32 (trustR hashC) (manyC 16 (seatR hashC numC) (manyC 32 (coinR hashC numC) (hashC (rowR numC 15 r).2).2).2).2).2) from origR_eq _ _ _ _ _ r)
  obtain ⟨⟨o, rz⟩, hO⟩ : ∃ R, codeO r = R := ⟨_, rfl⟩
  rw [hO] at HE ⊢
  clear hr hs hO
  simp only
  go_enter Tryd.func23, Tryd.ntmps23
  go_upto_region 1 with (refine wpList_alloc_zero orig_info rfl rfl ?_; intro wX hhX hsX hbX; go_frame)
  have HF0 := Lib.hid (show Fill wX w.heap.size zOrig ((rowR numC 0 r).1.map nV) from Fill.new hhX)
  have HR0 := Lib.hid (show CAt wX q (rowR numC 0 r).2 from HR.out.below hbX)
  have HB0 := Lib.hid hbX
  have HLX := Lib.hid (show w.heap.size < wX.heap.size by omega)
  have hqX := HR.out.lt
  clear hhX hbX hsX
  obtain ⟨X, hX⟩ : ∃ n, w.heap.size = n := ⟨_, rfl⟩
  have HX := Lib.hid hX
  rw [hX] at HF0 HB0 HLX hqX ⊢
  clear hX
  have hXq : X ≠ q := by omega
  have HM0 := Lib.hid (Frm.refl (atXQ X q) wX)
  have W0ne : X ≠ wX.heap.size ∧ q ≠ wX.heap.size := by have := HLX.out; omega
  go_upto_region 2 with (first
    | (go_at_call 51; refine (rNums_on (a := 0) (b := 5) (HR0.out.below hb1) (HF0.out.frm (F := fun _ => False) (Frm.of_below hb1) id) hXq HS.out (by omega) hh1 (fun e => (W0ne).1 e.symm) (fun e => (W0ne).2 e.symm)).mono ?_; rintro e w2 ⟨rfl, hr2, hf2, hm2⟩; have HR1 := Lib.hid hr2; have HF1 := Lib.hid hf2; have HM1 := Lib.hid (HM0.out.trans ((Frm.of_below hb1 (F := atXQ X q)).trans hm2 (fun _ h => Or.inl h)) (fun _ h => Or.inl h)); clear hr2 hf2 hm2)
    | (refine wpList_build_vals (K := KP) rfl pV (fun _ => rfl) 131 5 _ rfl Tryd.underlying131 (ptrs X 0 5) rfl (by decide) (by decide) (by simp [Act.eval, ptrs, List.range, List.range.loop]) ?_; intro w1 hat1 hh1 hb1 hs1; go_frame))
  go_upto_region 3 with (fail)
  go_loopw [12] (fun iv wr => ∃ i : Nat, i ≤ 8 ∧ iv = .int .i64 i ∧ CAt wr q (rowR numC (5 + i) r).2 ∧ Fill wr X zOrig ((rowR numC (5 + i) r).1.map nV) ∧ Frm (atXQ X q) wX wr) (fun iv _ => 8 - (intOf iv).toNat)
  case atStart => exact ⟨0, Nat.zero_le _, rfl, HR1.out, HF1.out, HM1.out⟩
  case round =>
    obtain ⟨i, hi, rfl, hrd, hfl, hfr⟩ := hrel
    have HRD := Lib.hid hrd
    have HFL := Lib.hid hfl
    have HFR := Lib.hid hfr
    clear hrd hfl hfr
    have Wrne : X ≠ wr.heap.size ∧ q ≠ wr.heap.size := by have := HFL.out.toVar.lt; have := HRD.out.lt; omega
    by_cases hlt : i < 8
    · have hki : (i : Int) < 8 := by omega
      go_wp2_with (first
        | (go_at_call 51; refine (rNums_on (a := (5 + i)) (b := 1) (HRD.out.below hb1) (HFL.out.frm (F := fun _ => False) (Frm.of_below hb1) id) hXq HS.out (by omega) hh1 (fun e => (Wrne).1 e.symm) (fun e => (Wrne).2 e.symm)).mono ?_; rintro e w2 ⟨rfl, hr2, hf2, hm2⟩; have HR2 := Lib.hid hr2; have HF2 := Lib.hid hf2; have HM2 := Lib.hid (HFR.out.trans ((Frm.of_below hb1 (F := atXQ X q)).trans hm2 (fun _ h => Or.inl h)) (fun _ h => Or.inl h)); clear hr2 hf2 hm2)
        | (refine wpList_build_vals (K := KP) rfl pV (fun _ => rfl) 131 1 _ rfl Tryd.underlying131 (ptrs X (5 + i) 1) rfl (by decide) (by decide) (by simp [Act.eval, ptrs, List.range, List.range.loop]) ?_; intro w1 hat1 hh1 hb1 hs1; go_frame))
      go_roundw
      case rel => exact ⟨i + 1, by omega, by go_num, HR2.out, HF2.out, HM2.out⟩
      case measure => simp [intOf]; omega
    · obtain rfl : i = 8 := by omega
      go_upto_region 8 with (first
        | (go_at_call 51; refine (rNums_on (a := 13) (b := 2) (HRD.out.below hb1) (HFL.out.frm (F := fun _ => False) (Frm.of_below hb1) id) hXq HS.out (by omega) hh1 (fun e => (Wrne).1 e.symm) (fun e => (Wrne).2 e.symm)).mono ?_; rintro e w2 ⟨rfl, hr2, hf2, hm2⟩; have HR3 := Lib.hid hr2; have HF3 := Lib.hid hf2; have HM3 := Lib.hid (HFR.out.trans ((Frm.of_below hb1 (F := atXQ X q)).trans hm2 (fun _ h => Or.inl h)) (fun _ h => Or.inl h)); clear hr2 hf2 hm2)
        | (refine wpList_build_vals (K := KP) rfl pV (fun _ => rfl) 131 2 _ rfl Tryd.underlying131 (ptrs X 13 2) rfl (by decide) (by decide) (by simp [Act.eval, ptrs, List.range, List.range.loop]) ?_; intro w1 hat1 hh1 hb1 hs1; go_frame))
      have HRa := Lib.hid (show CAt w2 q (rowR numC 15 r).2 from HR3.out)
      have HFa := Lib.hid (show Fill w2 X zOrig ((rowR numC 15 r).1.map nV) from HF3.out)
      have HMa := Lib.hid HM3.out
      clear HR3 HF3 HM3 HRD HFL HFR HR1 HF1 HM1 HF0 HR0
      generalize w2 = wa at HRa HFa HMa ⊢
      have HLh := Lib.hid (Nat.le_trans (hashC_le (rowR numC 15 r).2) HL15.out)
      obtain ⟨⟨ns, r1⟩, h15⟩ : ∃ R, rowR numC 15 r = R := ⟨_, rfl⟩
      rw [h15] at HRa HFa HE HL15 HN15 HLh
      simp only at HRa HFa HE HL15 HN15 HLh
      have HRH := Lib.hid (show rowR hashC 1 r1 = ([(hashC r1).1], (hashC r1).2) from rfl)
      obtain ⟨⟨no, ra⟩, hha⟩ : ∃ R, hashC r1 = R := ⟨_, rfl⟩
      rw [hha] at HE HLh HRH
      simp only at HE HLh HRH
      have HLb := Lib.hid (Nat.le_trans (manyC_le coinR_le 32 ra) HLh.out)
      obtain ⟨⟨L1, rb⟩, hhb⟩ : ∃ R, manyC 32 (coinR hashC numC) ra = R := ⟨_, rfl⟩
      rw [hhb] at HE HLb
      simp only at HE HLb
      have HLc := Lib.hid (Nat.le_trans (manyC_le seatR_le 16 rb) HLb.out)
      obtain ⟨⟨L2, rc⟩, hhc⟩ : ∃ R, manyC 16 (seatR hashC numC) rb = R := ⟨_, rfl⟩
      rw [hhc] at HE HLc
      simp only at HE HLc
      obtain ⟨⟨L3, rd⟩, hhd⟩ : ∃ R, manyC 32 (trustR hashC) rc = R := ⟨_, rfl⟩
      rw [hhd] at HE
      simp only at HE
      obtain ⟨he1, he2⟩ := Prod.mk.inj HE.out
      have HO1 := Lib.hid he1
      have HO2 := Lib.hid he2
      have HC1 := Lib.hid (fun (w : World) (h : CAt w q ra) => code_rListCoin (most := 32) h HLh.out (by decide))
      have HC2 := Lib.hid (fun (w : World) (h : CAt w q rb) => code_rListSeat (most := 16) h HLb.out (by decide))
      have HC3 := Lib.hid (fun (w : World) (h : CAt w q rc) => code_rListTrust (most := 32) h HLc.out (by decide))
      simp only [hhb] at HC1
      simp only [hhc] at HC2
      simp only [hhd] at HC3
      clear h15 hha hhb hhc hhd he1 he2 HE HLh HLb HLc
      have Wane : X ≠ wa.heap.size ∧ q ≠ wa.heap.size := by have := HFa.out.toVar.lt; have := HRa.out.lt; omega
      have hcl0 : (ns.map nV).length = 15 := by rw [List.length_map, HN15.out]
      go_upto_region 9 with (first
        | (go_at_call 52; refine (code_rHashes (o0 := 15) (m := 1) hcl0 (HRa.out.below hb1) (HFa.out.frm (F := fun _ => False) (Frm.of_below hb1) id) hXq HL15.out (by decide) (fun j hj => zOrig_hash (by omega)) hh1 (fun e => Wane.1 e.symm) (fun e => Wane.2 e.symm)).mono ?_; rintro e w2 ⟨rfl, hr2, hf2, hm2⟩; rw [HRH.out] at hr2 hf2; have HRb := Lib.hid hr2; have HFb := Lib.hid hf2; have HMb := Lib.hid (HMa.out.trans ((Frm.of_below hb1 (F := atXQ X q)).trans hm2 (fun _ h => Or.inl h)) (fun _ h => Or.inl h)); clear hr2 hf2 hm2)
        | (refine wpList_build_vals (K := KQ) rfl pV (fun _ => rfl) 132 1 _ rfl Tryd.underlying132 (qtrs X 15 1) rfl (by decide) (by decide) (by simp [Act.eval, qtrs, List.range, List.range.loop]) ?_; intro w1 hat1 hh1 hb1 hs1; go_frame))
      have hcl1 : (ns.map nV ++ hsC [no]).length = 47 := by rw [List.length_append, hcl0, hsC_len]; rfl
      have hcq : X < w2.heap.size ∧ q < w2.heap.size := ⟨HFb.out.toVar.lt, HRb.out.lt⟩
      clear HRa HFa HMa
      go_upto_region 10 with (go_at_call 53; refine (HC1.out _ HRb.out).mono ?_; rintro e w4 ⟨v4, rfl, hown4, hr4, hf4⟩; obtain ⟨a1, k1, rfl, hcap1⟩ := hown4.reads.form; have HW1 := Lib.hid hown4; have HR4 := Lib.hid hr4; have HF4 := Lib.hid (HFb.out.frm hf4 hXq); have HM4 := Lib.hid (HMb.out.trans (Frm.mono (G := atXQ X q) hf4 (fun _ h => Or.inr h)) (fun _ h => Or.inl h)); obtain ⟨⟨v0, hc0⟩, hz0⟩ := Og.Fill.sl (o := 47) HF4.out (by decide); have hs4 := hf4.size; clear hown4 hr4 hf4)
      have HF5 := Lib.hid (Fill.cell HF4.out (.slice a1 L1.length k1) 47 hcl1 (by rw [zOrig_len]; decide))
      have HR5 := Lib.hid (HR4.out.other ⟨X, 47, none⟩ hXq (.slice a1 L1.length k1))
      have HS5 := Lib.hid (show Frm (atXQ X q) w4 (w4.setCell ⟨X, 47, none⟩ (.slice a1 L1.length k1)) from Frm.set (F := atXQ X q) (Frm.refl _ w4) ⟨X, 47, none⟩ (Or.inl (Or.inl rfl)) _)
      have HM5 := Lib.hid (HM4.out.trans HS5.out (fun _ h => Or.inl h))
      have HWn1 := Lib.hid (own_xq (own_base HW1.out (show w2.heap.size ≤ w2.heap.size from Nat.le_refl _)) HS5.out hcq.1 hcq.2)
      have HLc := Lib.hid (show w2.heap.size ≤ (w4.setCell ⟨X, 47, none⟩ (.slice a1 L1.length k1)).heap.size from Nat.le_trans (Nat.le_refl _) (Nat.le_trans hs4 HS5.out.size))
      clear hc0 hz0 HR4 HF4 HM4 HW1 hs4
      generalize w4.setCell ⟨X, 47, none⟩ (.slice a1 L1.length k1) = wc at HF5 HR5 HM5 HS5 HWn1 HLc ⊢
      have HFc := HF5
      have HRc := HR5
      have HMc := HM5
      clear HF5 HR5 HM5 HS5
      have HW1 := HWn1
      clear HWn1
      go_upto_region 11 with (go_at_call 55; refine (HC2.out _ HRc.out).mono ?_; rintro e w4 ⟨v4, rfl, hown4, hr4, hf4⟩; obtain ⟨a2, k2, rfl, hcap2⟩ := hown4.reads.form; have HW2 := Lib.hid hown4; have HR4 := Lib.hid hr4; have HF4 := Lib.hid (HFc.out.frm hf4 hXq); have HM4 := Lib.hid (HMc.out.trans (Frm.mono (G := atXQ X q) hf4 (fun _ h => Or.inr h)) (fun _ h => Or.inl h)); obtain ⟨⟨v0, hc0⟩, hz0⟩ := Og.Fill.sl (o := 48) HF4.out (by decide); have HWk1 := Lib.hid (own_frm HW1.out hf4 (fun k h => by have h2 : k = q := h; omega)); have hs4 := hf4.size; clear hown4 hr4 hf4)
      have HF5 := Lib.hid (Fill.cell HF4.out (.slice a2 L2.length k2) 48 (by rw [List.length_append, hcl1]; rfl) (by rw [zOrig_len]; decide))
      have HR5 := Lib.hid (HR4.out.other ⟨X, 48, none⟩ hXq (.slice a2 L2.length k2))
      have HS5 := Lib.hid (show Frm (atXQ X q) w4 (w4.setCell ⟨X, 48, none⟩ (.slice a2 L2.length k2)) from Frm.set (F := atXQ X q) (Frm.refl _ w4) ⟨X, 48, none⟩ (Or.inl (Or.inl rfl)) _)
      have HM5 := Lib.hid (HM4.out.trans HS5.out (fun _ h => Or.inl h))
      have HWn1 := Lib.hid (own_xq HWk1.out HS5.out hcq.1 hcq.2)
      have HWn2 := Lib.hid (own_xq (own_base HW2.out (show w2.heap.size ≤ wc.heap.size from HLc.out)) HS5.out hcq.1 hcq.2)
      have HLd := Lib.hid (show w2.heap.size ≤ (w4.setCell ⟨X, 48, none⟩ (.slice a2 L2.length k2)).heap.size from Nat.le_trans (HLc.out) (Nat.le_trans hs4 HS5.out.size))
      clear hc0 hz0 HR4 HF4 HM4 HW1 HW2 HWk1 hs4
      generalize w4.setCell ⟨X, 48, none⟩ (.slice a2 L2.length k2) = wd at HF5 HR5 HM5 HS5 HWn1 HWn2 HLd ⊢
      have HFd := HF5
      have HRd := HR5
      have HMd := HM5
      clear HF5 HR5 HM5 HS5
      have HW1 := HWn1
      clear HWn1
      have HW2 := HWn2
      clear HWn2
      go_upto_region 12 with (go_at_call 57; refine (HC3.out _ HRd.out).mono ?_; rintro e w4 ⟨v4, rfl, hown4, hr4, hf4⟩; obtain ⟨a3, k3, rfl, hcap3⟩ := hown4.reads.form; have HW3 := Lib.hid hown4; have HR4 := Lib.hid hr4; have HF4 := Lib.hid (HFd.out.frm hf4 hXq); have HM4 := Lib.hid (HMd.out.trans (Frm.mono (G := atXQ X q) hf4 (fun _ h => Or.inr h)) (fun _ h => Or.inl h)); obtain ⟨⟨v0, hc0⟩, hz0⟩ := Og.Fill.sl (o := 49) HF4.out (by decide); have HWk1 := Lib.hid (own_frm HW1.out hf4 (fun k h => by have h2 : k = q := h; omega)); have HWk2 := Lib.hid (own_frm HW2.out hf4 (fun k h => by have h2 : k = q := h; omega)); have hs4 := hf4.size; clear hown4 hr4 hf4)
      have HF5 := Lib.hid (Fill.cell HF4.out (.slice a3 L3.length k3) 49 (by rw [List.length_append, List.length_append, hcl1]; rfl) (by rw [zOrig_len]; decide))
      have HR5 := Lib.hid (HR4.out.other ⟨X, 49, none⟩ hXq (.slice a3 L3.length k3))
      have HS5 := Lib.hid (show Frm (atXQ X q) w4 (w4.setCell ⟨X, 49, none⟩ (.slice a3 L3.length k3)) from Frm.set (F := atXQ X q) (Frm.refl _ w4) ⟨X, 49, none⟩ (Or.inl (Or.inl rfl)) _)
      have HM5 := Lib.hid (HM4.out.trans HS5.out (fun _ h => Or.inl h))
      have HWn1 := Lib.hid (own_xq HWk1.out HS5.out hcq.1 hcq.2)
      have HWn2 := Lib.hid (own_xq HWk2.out HS5.out hcq.1 hcq.2)
      have HWn3 := Lib.hid (own_xq (own_base HW3.out (show w2.heap.size ≤ wd.heap.size from HLd.out)) HS5.out hcq.1 hcq.2)
      have HLe := Lib.hid (show w2.heap.size ≤ (w4.setCell ⟨X, 49, none⟩ (.slice a3 L3.length k3)).heap.size from Nat.le_trans (HLd.out) (Nat.le_trans hs4 HS5.out.size))
      clear hc0 hz0 HR4 HF4 HM4 HW1 HW2 HW3 HWk1 HWk2 hs4
      generalize w4.setCell ⟨X, 49, none⟩ (.slice a3 L3.length k3) = we at HF5 HR5 HM5 HS5 HWn1 HWn2 HWn3 HLe ⊢
      have HFe := HF5
      have HRe := HR5
      have HMe := HM5
      clear HF5 HR5 HM5 HS5
      have HW1 := HWn1
      clear HWn1
      have HW2 := HWn2
      clear HWn2
      have HW3 := HWn3
      clear HWn3
      have HTH := Lib.hid (HFe.out.toVar.there)
      have hlen : (ns.map nV ++ hsC [no] ++ [Value.slice a1 L1.length k1] ++ [Value.slice a2 L2.length k2] ++ [Value.slice a3 L3.length k3]).length = 50 := by simp only [List.length_append, List.length_singleton] at hcl1 ⊢; omega
      have HCE := Lib.hid (show ns.map nV ++ hsC [no] ++ [Value.slice a1 L1.length k1] ++ [Value.slice a2 L2.length k2] ++ [Value.slice a3 L3.length k3] = cellsO o (.slice a1 L1.length k1) (.slice a2 L2.length k2) (.slice a3 L3.length k3) by rw [HO1.out]; simp [cellsO, hsC])
      have HOA := Lib.hid (show ∀ wz : World, KOut.At wz (.slice a1 L1.length k1) L1 → KSeat.At wz (.slice a2 L2.length k2) L2 → KTrust.At wz (.slice a3 L3.length k3) L3 → OAt wz o (.slice a1 L1.length k1) (.slice a2 L2.length k2) (.slice a3 L3.length k3) from fun wz h1 h2 h3 => by rw [HO1.out]; exact ⟨HN15.out, h1, h2, h3⟩)
      rw [HCE.out] at HFe hlen
      have HRZ := Lib.hid (by have h := HRe.out; rw [← HO2.out] at h; exact h)
      obtain ⟨CL, hCL⟩ : ∃ C, cellsO o (.slice a1 L1.length k1) (.slice a2 L2.length k2) (.slice a3 L3.length k3) = C := ⟨_, rfl⟩
      have HCL := Lib.hid hCL
      rw [hCL] at HFe hlen
      have HII := Lib.hid (show (Tryd.prog.info? 34).map (·.size) = some CL.length by rw [hlen]; kernel_rfl)
      have HON := Lib.hid (show CL.toArray.all (·.oneCell') = true from all_oneCell_toArray (fun v hv => by
        rw [← hCL] at hv
        unfold cellsO at hv
        simp only [List.mem_append, List.mem_cons, List.not_mem_nil, or_false, List.mem_map] at hv
        rcases hv with ⟨n, _, rfl⟩ | h | rfl | rfl | rfl
        · rfl
        · exact valsB_one _ v h
        · rfl
        · rfl
        · rfl))
      have HIA := Lib.hid (show (Tryd.prog.info? 34).map (·.size) = some CL.toArray.size by rw [List.size_toArray]; exact HII.out)
      have HTH2 := Lib.hid (show we.there X 0 CL.toArray.size by rw [List.size_toArray, hlen]; have h := HTH.out; rw [zOrig_len] at h; exact h)
      clear hCL
      go_wp2_with (first
        | (refine wpList_load_mid rfl 34 (.tmp 2) rfl X 0 rfl CL _ HFe.out.toVar.range Tryd.underlying34 rfl HII.out ?_; go_frame)
        | (refine wpList_store_mid rfl 34 (.tmp 2) (.tmp 46) rfl X 0 CL.toArray rfl rfl HTH2.out HIA.out HON.out ?_; rw [List.toList_toArray]; go_frame))
      have hR := World.rangeAt_setCells_same we X 0 CL (by have h := HTH2.out; rw [List.size_toArray] at h; exact h)
      have hlo : ∀ k, k < w.heap.size → k < w2.heap.size := fun k h => by have := HX.out; have := hcq.1; omega
      have hF2 : Frm (atXQ X q) we (we.setCells X 0 CL) := Frm.setCells X (Or.inl (Or.inl rfl)) _ _ _ (Frm.refl _ we)
      refine bodyPost_ret (results_cell_mid (p := 2) (ty := 34) Tryd.results23 _ _ X CL _ rfl hR Tryd.underlying34 rfl HII.out) rfl ⟨.slice a1 L1.length k1, .slice a2 L2.length k2, .slice a3 L3.length k3, by rw [← HCL.out], fun wz hz => HOA.out _ (own_frm (own_xq HW1.out hF2 hcq.1 hcq.2) hz hlo).reads (own_frm (own_xq HW2.out hF2 hcq.1 hcq.2) hz hlo).reads (own_frm (own_xq HW3.out hF2 hcq.1 hcq.2) hz hlo).reads, CAt.otherCells X hXq _ _ HRZ.out, ?_⟩
      exact (Frm.of_below (HX.out.symm ▸ HB0.out) (F := atQ q)).trans (HMe.out.trans hF2 (fun _ h => Or.inl h)) (fun i h => by
        rcases h with h | h
        · exact Or.inr (by rw [HX.out]; omega)
        · exact Or.inl h)

end Go.Proofs.YtdgaoebjbhomdaaDoor.Og
