/- origin: the code's Take. -/
import Derived.Test.YtdgaoebjbhomdaaDoorOgP
namespace Go.Proofs.YtdgaoebjbhomdaaDoor.Og
open Go.RowKit Go.Proofs.YtdgaoebjbhomdaaDoor.Sha Go.Proofs.YtdgaoebjbhomdaaDoor.Gr Go.Proofs.YtdgaoebjbhomdaaDoor.Digit Go.Proofs.YtdgaoebjbhomdaaDoor.Deed Go.Proofs.YtdgaoebjbhomdaaDoor.Tree

theorem rd_info : (Tryd.prog.info? 59).map (fun i => (i.zero, i.size)) = some (some (.agg #[Value.string ⟨#[]⟩, .bool false]), 2) := by kernel_rfl
theorem zOrig_built : Tryd.prog.built 34 [] = some zOrig.toArray := by kernel_rfl
theorem zOrig_at (w : World) : OAt w orig0 nilS nilS nilS := ⟨rfl, Kind.At.nil _ _, Kind.At.nil _ _, Kind.At.nil _ _⟩
theorem zOrig_cells : zOrig = cellsO orig0 nilS nilS nilS := rfl
theorem cells_one {o : OriginD} {a1 a2 a3 : Option Addr} {n1 n2 n3 k1 k2 k3 : Nat} : (cellsO o (.slice a1 n1 k1) (.slice a2 n2 k2) (.slice a3 n3 k3)).toArray.all (·.oneCell') = true := all_oneCell_toArray (fun v hv => by
  unfold cellsO at hv
  simp only [List.mem_append, List.mem_cons, List.not_mem_nil, or_false, List.mem_map] at hv
  rcases hv with ⟨n, _, rfl⟩ | h | rfl | rfl | rfl
  · rfl
  · exact valsB_one _ v h
  · rfl
  · rfl
  · rfl)
theorem zOrig_one : zOrig.toArray.all (·.oneCell') = true := by rw [zOrig_cells]; exact cells_one
theorem OAt.forms {w : World} {o : OriginD} {c s t : Value} (h : OAt w o c s t) : (cellsO o c s t).toArray.all (·.oneCell') = true := by
  obtain ⟨a1, k1, rfl, _⟩ := h.coins.form
  obtain ⟨a2, k2, rfl, _⟩ := h.seats.form
  obtain ⟨a3, k3, rfl, _⟩ := h.trusts.form
  exact cells_one
theorem takes_cases (l : List UInt8) : ((codeO (l, true)).2.2 = false ∧ takeO l = none) ∨ ((codeO (l, true)).2.2 = true ∧ (codeO (l, true)).2.1 ≠ [] ∧ takeO l = none) ∨ ((codeO (l, true)).2.2 = true ∧ (codeO (l, true)).2.1 = [] ∧ mayO (codeO (l, true)).1 = false ∧ takeO l = none) ∨ ((codeO (l, true)).2.2 = true ∧ (codeO (l, true)).2.1 = [] ∧ mayO (codeO (l, true)).1 = true ∧ takeO l = some (codeO (l, true)).1) := by
  rw [takeO_code]
  generalize codeO (l, true) = R
  obtain ⟨o, rest, b⟩ := R
  cases b with
  | false => exact Or.inl ⟨rfl, by simp⟩
  | true =>
    by_cases h : rest = []
    · subst h
      cases hm : mayO o with
      | false => exact Or.inr (Or.inr (Or.inl ⟨rfl, rfl, rfl, by simp⟩))
      | true => exact Or.inr (Or.inr (Or.inr ⟨rfl, rfl, rfl, by simp⟩))
    · exact Or.inr (Or.inl ⟨rfl, h, by simp [h]⟩)


set_option maxRecDepth 100000 in
set_option maxHeartbeats 600000 in
theorem code_Take {w : World} (l : List UInt8) (hl : l.length ≤ 1099511627776) (ht : Tab w) :
    Calls Tryd.prog 12 #[.string (bs l)] w fun e w' => ∃ o c s t er, e = .returned (.tuple #[oV o c s t, .int .i64 (er : Nat)]) ∧ OAt w' o c s t ∧ Below w.heap.size w w' ∧ ((takeO l = some o ∧ er = 0) ∨ (takeO l = none ∧ er = 6 ∧ o = orig0)) := by
  have hcs := takes_cases l
  have HO := Lib.hid (fun (w : World) (q : Nat) (h : CAt w q (l, true)) => code_rOrigin h hl)
  obtain ⟨⟨o, rest, fl⟩, hO⟩ : ∃ R, codeO (l, true) = R := ⟨_, rfl⟩
  simp only [hO] at HO hcs
  have HT := Lib.hid ht
  clear hO ht
  obtain ⟨SS, hSS⟩ : ∃ S, bs l = S := ⟨_, rfl⟩
  have HCA := Lib.hid (show ∀ (w : World) (q : Nat), w.heap[q]? = some (.cells #[.string SS, .bool false] 59 (0, 0)) → CAt w q (l, true) from fun w q h => by unfold CAt; rw [hSS]; exact h)
  rw [hSS]
  clear hSS
  go_enter Tryd.func12, Tryd.ntmps12
  go_upto_region 1 with (refine wpList_alloc_zero orig_info rfl rfl ?_; intro wA hhA hsA hbA; go_frame)
  have HHA := Lib.hid hhA
  have HBA := Lib.hid hbA
  have HSA := Lib.hid hsA
  clear hhA hbA hsA
  obtain ⟨A, hA⟩ : ∃ n, w.heap.size = n := ⟨_, rfl⟩
  have HA := Lib.hid hA
  rw [hA] at HHA HBA HSA ⊢
  clear hA
  go_upto_region 2 with (fail)
  have hhB := heap_alloc_new wA (.cells #[.string SS, .bool false] 59)
  have hsB : (wA.alloc (.cells #[.string SS, .bool false] 59)).heap.size = wA.heap.size + 1 := by simp
  have hbB : Below wA.heap.size wA (wA.alloc (.cells #[.string SS, .bool false] 59)) := (Below.refl _ _).alloc (Nat.le_refl _) _
  generalize wA.alloc (.cells #[.string SS, .bool false] 59) = wB at hhB hsB hbB ⊢
  have HRB := Lib.hid (HCA.out _ _ hhB)
  have HBB := Lib.hid (HBA.out.trans (hbB.mono (by have := HSA.out; omega)))
  have HHB := Lib.hid ((hbB.block A (by have := HSA.out; omega)).trans HHA.out)
  have HSB := Lib.hid (show wB.heap.size = A + 2 by have := HSA.out; omega)
  have hsA := HSA.out
  clear hhB hsB hbB
  rw [hsA] at HRB ⊢
  clear hsA
  go_upto_region 3 with (first
    | (go_at_call 23; refine (HO.out _ _ HRB.out).mono ?_; rintro e w1 ⟨c, s, t, rfl, hoa, hr1, hf1⟩; have HOA0 := Lib.hid hoa; have HOA := Lib.hid (hoa _ (Frm.refl _ _)); have HR1 := Lib.hid hr1; have HF1 := Lib.hid hf1; clear hoa hr1 hf1)
    | (refine wpList_new_var (T := 34) (Z := zOrig.toArray) (C := (cellsO o c s t).toArray) (by rw [List.size_toArray, cellsO_len HOA.out]; exact orig_info) (by rw [List.size_toArray, List.size_toArray, cellsO_len HOA.out]; exact zOrig_len) HOA.out.forms (.tmp 5) (.tmp 8) rfl rfl rfl rfl (fun _ => rfl) (fun _ => rfl) ?_; intro w2 hh2 hs2 hb2; go_frame))
  have HB2 := Lib.hid (show Below A w w2 from HBB.out.trans ((HF1.out.below (B := A) (by have := HSB.out; omega) (fun k h => by have h2 : k = A + 1 := h; omega)).trans (hb2.mono (by have := HF1.out.size; have := HSB.out; omega))))
  have HOA2 := Lib.hid (HOA.out.kept hb2)
  have HOF := Lib.hid (fun wz (h : Frm (fun k => k = A) w2 wz) => HOA0.out wz ((Frm.of_below hb2 (F := fun k => k < wB.heap.size)).trans h (fun i hi => Or.inl (by have h2 : i = A := hi; have := HSB.out; show i < wB.heap.size; omega))))
  have HR2 := Lib.hid (HR1.out.below hb2)
  have HHA2 := Lib.hid ((hb2.block A (by have := HF1.out.size; have := HSB.out; omega)).trans ((HF1.out.block A (by have := HSB.out; omega) (fun h => by have h2 : A = A + 1 := h; omega)).trans HHB.out))
  have HH2 := Lib.hid hh2
  have HS2 := Lib.hid (show A + 2 ≤ w1.heap.size by have := HF1.out.size; have := HSB.out; omega)
  clear hh2 hs2 hb2
  have HTW := Lib.hid (HT.out.kept (HA.out.symm ▸ HB2.out))
  obtain ⟨g, hg⟩ : ∃ n, w1.heap.size = n := ⟨_, rfl⟩
  have HG := Lib.hid hg
  rw [hg] at HH2 HS2 ⊢
  clear hg
  have HIO := Lib.hid (show (Tryd.prog.info? 34).map (·.size) = some (cellsO o c s t).toArray.size by rw [List.size_toArray]; exact info_O HOA.out)
  have HON := Lib.hid HOA.out.forms
  have HZS := Lib.hid (show zOrig.toArray.size = (cellsO o c s t).toArray.size by rw [List.size_toArray, List.size_toArray, cellsO_len HOA.out]; exact zOrig_len)
  have HM := Lib.hid (fun w (h : OAt w o c s t) (ht : Tab w) => code_May h ht)
  unfold oV mayE at HM
  have HRET := Lib.hid (show ∀ v, v = (cellsO o c s t).toArray → Value.agg v = oV o c s t from fun v h => by rw [h])
  obtain ⟨C, hC⟩ : ∃ C, (cellsO o c s t).toArray = C := ⟨_, rfl⟩
  have HC := Lib.hid hC
  rw [hC] at HH2 HIO HON HZS
  simp only [hC] at HM
  clear hC
  have HZI := Lib.hid (show (Tryd.prog.info? 34).map (·.size) = some zOrig.toArray.size by rw [List.size_toArray, zOrig_len]; kernel_rfl)
  have c0 := HR2.out.c0
  have c1 := HR2.out.c1
  simp only at c0 c1
  rcases hcs with ⟨rfl, htk⟩ | ⟨rfl, hne, htk⟩ | ⟨rfl, rfl, hmm, htk⟩ | ⟨rfl, rfl, hmm, htk⟩
  · have HTK := Lib.hid htk
    clear htk
    go_wp2_with (first
      | (refine Bl.wpList_build_as rfl 34 #[] rfl zOrig.toArray (by simpa using zOrig_built) ?_; go_frame)
      | (refine wpList_store_row rfl 34 (.tmp 2) (.tmp 21) rfl A zOrig.toArray rfl rfl 34 zOrig.toArray HHA2.out HZI.out rfl zOrig_one ?_; go_frame))
    refine bodyPost_ret (Sha.results_cell_tmp (p := 2) (t := 3) (ty := 34) Tryd.results12 _ _ A 34 zOrig.toArray (0, 0) _ _ rfl rfl (setRow_heap _ _ _ _ _ _ HHA2.out) Tryd.underlying34 rfl HZI.out) rfl ⟨orig0, nilS, nilS, nilS, 6, rfl, zOrig_at _, HA.out ▸ below_setRow HB2.out (Nat.le_refl _) _, Or.inr ⟨HTK.out, rfl, rfl⟩⟩
  · obtain ⟨SR, hSR⟩ : ∃ S, bs rest = S := ⟨_, rfl⟩
    have hnl : SR.toList ≠ [] := by rw [← hSR, Lib.toList_data]; exact hne
    have hn3 : (SR.toList == []) = false := by rw [beq_eq_false_iff_ne]; exact hnl
    have hn4 : (SR.toList == (⟨#[]⟩ : ByteArray).toList) = false := by rw [beq_eq_false_iff_ne, show (⟨#[]⟩ : ByteArray).toList = [] from by rw [Lib.toList_data]]; exact hnl
    rw [hSR] at c0
    simp only [Bool.not_true] at c1
    clear hSR
    have HTK := Lib.hid htk
    clear htk
    go_wp2_with (first
      | (refine Bl.wpList_build_as rfl 34 #[] rfl zOrig.toArray (by simpa using zOrig_built) ?_; go_frame)
      | (refine wpList_store_row rfl 34 (.tmp 2) (.tmp 21) rfl A zOrig.toArray rfl rfl 34 zOrig.toArray HHA2.out HZI.out rfl zOrig_one ?_; go_frame))
    refine bodyPost_ret (Sha.results_cell_tmp (p := 2) (t := 3) (ty := 34) Tryd.results12 _ _ A 34 zOrig.toArray (0, 0) _ _ rfl rfl (setRow_heap _ _ _ _ _ _ HHA2.out) Tryd.underlying34 rfl HZI.out) rfl ⟨orig0, nilS, nilS, nilS, 6, rfl, zOrig_at _, HA.out ▸ below_setRow HB2.out (Nat.le_refl _) _, Or.inr ⟨HTK.out, rfl, rfl⟩⟩
  · have hst : (bs ([] : List UInt8)) = ⟨#[]⟩ := rfl
    rw [hst] at c0
    simp only [Bool.not_true] at c1
    simp only [hmm, Bool.false_eq_true, if_false] at HM
    have HTK := Lib.hid htk
    clear htk hst
    go_wp2_with (first
      | (go_at_call 20; refine (HM.out _ HOA2.out HTW.out).mono ?_; rintro e w3 ⟨rfl, hb3⟩; have HB3 := Lib.hid (HB2.out.trans (hb3.mono (by have := HB2.out.size; have := HA.out; omega))); have HHA3 := Lib.hid ((hb3.block A (Array.getElem?_eq_some_iff.1 HHA2.out).1).trans HHA2.out); have HH3 := Lib.hid ((hb3.block g (Array.getElem?_eq_some_iff.1 HH2.out).1).trans HH2.out); have HOA3 := Lib.hid (HOA2.out.kept hb3); clear hb3)
      | (refine wpList_load_row_g (by rfl) 34 (.tmp 5) rfl g rfl 34 C (0, 0) _ HH2.out Tryd.underlying34 rfl HIO.out ?_; go_frame)
      | (refine Bl.wpList_build_as rfl 34 #[] rfl zOrig.toArray (by simpa using zOrig_built) ?_; go_frame)
      | (refine wpList_store_row rfl 34 (.tmp 2) (.tmp 21) rfl A zOrig.toArray rfl rfl 34 zOrig.toArray HHA3.out HZI.out rfl zOrig_one ?_; go_frame))
    refine bodyPost_ret (Sha.results_cell_tmp (p := 2) (t := 3) (ty := 34) Tryd.results12 _ _ A 34 zOrig.toArray (0, 0) _ _ rfl rfl (setRow_heap _ _ _ _ _ _ HHA3.out) Tryd.underlying34 rfl HZI.out) rfl ⟨orig0, nilS, nilS, nilS, 6, rfl, zOrig_at _, HA.out ▸ below_setRow HB3.out (Nat.le_refl _) _, Or.inr ⟨HTK.out, rfl, rfl⟩⟩
  · have hst : (bs ([] : List UInt8)) = ⟨#[]⟩ := rfl
    rw [hst] at c0
    simp only [Bool.not_true] at c1
    simp only [hmm, if_true] at HM
    have HTK := Lib.hid htk
    clear htk hst
    go_wp2_with (first
      | (go_at_call 20; refine (HM.out _ HOA2.out HTW.out).mono ?_; rintro e w3 ⟨rfl, hb3⟩; have HB3 := Lib.hid (HB2.out.trans (hb3.mono (by have := HB2.out.size; have := HA.out; omega))); have HHA3 := Lib.hid ((hb3.block A (Array.getElem?_eq_some_iff.1 HHA2.out).1).trans HHA2.out); have HH3 := Lib.hid ((hb3.block g (Array.getElem?_eq_some_iff.1 HH2.out).1).trans HH2.out); have HBR3 := Lib.hid hb3; clear hb3)
      | (refine wpList_load_row_g (by rfl) 34 (.tmp 5) rfl g rfl 34 C (0, 0) _ HH2.out Tryd.underlying34 rfl HIO.out ?_; go_frame)
      | (refine wpList_load_row rfl 34 (.tmp 5) rfl g rfl 34 C (0, 0) _ HH3.out Tryd.underlying34 rfl HIO.out ?_; go_frame)
      | (refine wpList_store_row rfl 34 (.tmp 2) (.tmp 22) rfl A C rfl rfl 34 zOrig.toArray HHA3.out HIO.out HZS.out HON.out ?_; go_frame))
    have hF : Frm (fun k => k = A) w2 (w3.setRow A C) := Frm.setRow (F := fun k => k = A) (Frm.of_below HBR3.out) (g := A) (Or.inl rfl) _
    refine bodyPost_ret (Sha.results_cell_tmp (p := 2) (t := 3) (ty := 34) Tryd.results12 _ _ A 34 C (0, 0) _ _ rfl rfl (setRow_heap _ _ _ _ _ _ HHA3.out) Tryd.underlying34 rfl HIO.out) rfl ⟨o, c, s, t, 0, by rw [HRET.out C HC.out.symm]; rfl, HOF.out _ hF, HA.out ▸ below_setRow HB3.out (Nat.le_refl _) _, Or.inl ⟨HTK.out, rfl⟩⟩
end Go.Proofs.YtdgaoebjbhomdaaDoor.Og
