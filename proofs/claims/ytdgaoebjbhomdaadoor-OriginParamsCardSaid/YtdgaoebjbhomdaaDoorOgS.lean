/- origin: Same, small, works, great. -/
import Derived.Test.YtdgaoebjbhomdaaDoorOgR
import Derived.Test.YtdgaoebjbhomdaaDoorOgQ
namespace Go.Proofs.YtdgaoebjbhomdaaDoor.Og
open Go.RowKit Go.Proofs.YtdgaoebjbhomdaaDoor.Sha Go.Proofs.YtdgaoebjbhomdaaDoor.Gr Go.Proofs.YtdgaoebjbhomdaaDoor.Digit Go.Proofs.YtdgaoebjbhomdaaDoor.Deed Go.Proofs.YtdgaoebjbhomdaaDoor.Tree

abbrev few (o : OriginD) : Prop := o.coins.length ≤ 200 ∧ o.seats.length ≤ 200 ∧ o.trusts.length ≤ 200
theorem eql_bs (a b : List UInt8) : ((bs a).toList == (bs b).toList) = (a == b) := by rw [Lib.toList_data, Lib.toList_data]


set_option maxRecDepth 100000 in
set_option maxHeartbeats 1600000 in
theorem ref_Same {w : World} {a b : OriginD} {c s t c2 s2 t2 : Value} (ha : OAt w a c s t) (hb : OAt w b c2 s2 t2) (hla : few a) (hlb : few b) : Calls Tryd.prog 14 #[oV a c s t, oV b c2 s2 t2] w fun e w' => e = .returned (.bool (origL a == origL b)) ∧ Below w.heap.size w w' := by
  have HA := Lib.hid ha
  have HB := Lib.hid hb
  have HIA := Lib.hid (show (Tryd.prog.info? 34).map (·.size) = some (cellsO a c s t).toArray.size by rw [List.size_toArray]; exact info_O ha)
  have HIB := Lib.hid (show (Tryd.prog.info? 34).map (·.size) = some (cellsO b c2 s2 t2).toArray.size by rw [List.size_toArray]; exact info_O hb)
  have HRA := Lib.hid (fun w (h : OAt w a c s t) => ref_Bytes h hla)
  have HRB := Lib.hid (fun w (h : OAt w b c2 s2 t2) => ref_Bytes h hlb)
  have hb1 : Below w.heap.size w (w.alloc (.cells (cellsO a c s t).toArray 34)) := (Below.refl _ _).alloc (Nat.le_refl _) _
  have hs1 : (w.alloc (.cells (cellsO a c s t).toArray 34)).heap.size = w.heap.size + 1 := by simp
  have hb2 : Below w.heap.size w ((w.alloc (.cells (cellsO a c s t).toArray 34)).alloc (.cells (cellsO b c2 s2 t2).toArray 34)) := hb1.alloc (by omega) _
  have h1 : ((w.alloc (.cells (cellsO a c s t).toArray 34)).alloc (.cells (cellsO b c2 s2 t2).toArray 34)).heap[w.heap.size]? = some (.cells (cellsO a c s t).toArray 34 (0, 0)) :=
    (((Below.refl _ _).alloc (Nat.le_refl _) _).block _ (by omega)).trans (heap_alloc_new w _)
  have h2 : ((w.alloc (.cells (cellsO a c s t).toArray 34)).alloc (.cells (cellsO b c2 s2 t2).toArray 34)).heap[w.heap.size + 1]? = some (.cells (cellsO b c2 s2 t2).toArray 34 (0, 0)) := by rw [← hs1]; exact heap_alloc_new _ _
  have HH1 := Lib.hid h1
  have HH2 := Lib.hid h2
  have HBW := Lib.hid hb2
  unfold oV at HRA HRB ⊢
  obtain ⟨CA, hCA⟩ : ∃ C, (cellsO a c s t).toArray = C := ⟨_, rfl⟩
  obtain ⟨CB, hCB⟩ : ∃ C, (cellsO b c2 s2 t2).toArray = C := ⟨_, rfl⟩
  rw [hCA] at HIA HH1 HBW HH2
  rw [hCB] at HIB HH1 HH2 HBW
  simp only [hCA] at HRA
  simp only [hCB] at HRB
  rw [hCA, hCB]
  clear hCA hCB ha hb hb1 hb2 hs1 h1 h2
  obtain ⟨r, hr⟩ : ∃ r, (origL a == origL b) = r := ⟨_, rfl⟩
  have HE := Lib.hid (show ((bs (origL a)).toList == (bs (origL b)).toList) = r by rw [eql_bs]; exact hr)
  rw [hr]
  obtain ⟨SA, hSA⟩ : ∃ S, bs (origL a) = S := ⟨_, rfl⟩
  obtain ⟨SB, hSB⟩ : ∃ S, bs (origL b) = S := ⟨_, rfl⟩
  simp only [hSA] at HRA HE
  simp only [hSB] at HRB HE
  clear hSA hSB hr
  go_enter Tryd.func14, Tryd.ntmps14
  go_upto_region 1 with (fail)
  have HA2 := Lib.hid (HA.out.kept HBW.out)
  have HB2 := Lib.hid (HB.out.kept HBW.out)
  generalize (w.alloc (.cells CA 34)).alloc (.cells CB 34) = W at HH1 HH2 HBW HA2 HB2 ⊢
  have hl1 := (Array.getElem?_eq_some_iff.1 HH1.out).1
  have hl2 := (Array.getElem?_eq_some_iff.1 HH2.out).1
  have HE2 := Lib.hid (show (SA.toList == SB.toList) = r from HE.out)
  have he := HE2.out
  obtain ⟨ga, hga⟩ : ∃ n, w.heap.size = n := ⟨_, rfl⟩
  have HGA := Lib.hid hga
  rw [hga] at HH1 HH2 HBW hl1 hl2 ⊢
  clear hga
  refine QT.wp_region_facts (by kernel_rfl) (fun w' => Below W.heap.size W w') (fun n v w' => (([.val (.agg CA), .val (.string SA), .val (.agg CB), .val (.string SB), .val (.bool r), .val (.bool r)] : List FactO).getD n (.val undef) : FactO).holds v w') (by kernel_rfl) (by kernel_rfl) (Below.refl _ _).drew (fun w1 w2 h1 hb => h1.trans (hb.mono h1.size)) (fun n v w1 w2 h hb => FactO.kept _ v w1 w2 h hb) (fun n o ho a wz hI hag hdep => ?_) (fun a wz hI hag hf => ?_)
  · have t2 : a.eval (.tmp 2) = .pointer (some ⟨ga, 0, none⟩) := hag.old 2 _ (by kernel_rfl) rfl
    have t3 : a.eval (.tmp 3) = .pointer (some ⟨ga + 1, 0, none⟩) := hag.old 3 _ (by kernel_rfl) rfl
    match n, ho with
    | 0, ho =>
      obtain rfl := (Option.some.inj ho).symm
      exact ⟨rfl, wp_load_row 34 (.tmp 2) rfl ga t2 34 CA (0, 0) _ ((hI.block _ hl1).trans HH1.out) Tryd.underlying34 rfl HIA.out ⟨_, rfl, rfl, Below.refl _ _⟩⟩
    | 1, ho =>
      obtain rfl := (Option.some.inj ho).symm
      have d5 : a.eval (.tmp 5) = .agg CA := hdep _ (Array.mem_of_getElem? (i := 0) rfl) rfl _ _ rfl rfl
      exact ⟨rfl, QT.wp_enter (v := .string SA) (f := 28) (args := #[.agg CA]) (R := fun w' => Below wz.heap.size wz w') (by simp [go_sem, QT.nf d5]) ((HRA.out wz (HA2.out.kept hI)).mono fun _ _ ⟨h1, h2⟩ => ⟨h1, h2⟩) fun w' h => ⟨_, rfl, rfl, h⟩⟩
    | 2, ho =>
      obtain rfl := (Option.some.inj ho).symm
      exact ⟨rfl, wp_load_row 34 (.tmp 3) rfl (ga + 1) t3 34 CB (0, 0) _ ((hI.block _ hl2).trans HH2.out) Tryd.underlying34 rfl HIB.out ⟨_, rfl, rfl, Below.refl _ _⟩⟩
    | 3, ho =>
      obtain rfl := (Option.some.inj ho).symm
      have d7 : a.eval (.tmp 7) = .agg CB := hdep _ (Array.mem_of_getElem? (i := 0) rfl) rfl _ _ rfl rfl
      exact ⟨rfl, QT.wp_enter (v := .string SB) (f := 28) (args := #[.agg CB]) (R := fun w' => Below wz.heap.size wz w') (by simp [go_sem, QT.nf d7]) ((HRB.out wz (HB2.out.kept hI)).mono fun _ _ ⟨h1, h2⟩ => ⟨h1, h2⟩) fun w' h => ⟨_, rfl, rfl, h⟩⟩
    | 4, ho =>
      obtain rfl := (Option.some.inj ho).symm
      have d6 : a.eval (.tmp 6) = .string SA := hdep _ (Array.mem_of_getElem? (i := 0) rfl) rfl _ _ rfl rfl
      have d8 : a.eval (.tmp 8) = .string SB := hdep _ (Array.mem_of_getElem? (i := 1) rfl) rfl _ _ rfl rfl
      exact ⟨rfl, QT.wp_value (v := .bool r) (by simp [go_sem, QT.nf d6, QT.nf d8, binOp, Op.stringOp, he]) ⟨_, rfl, rfl, Below.refl _ _⟩⟩
    | 5, ho =>
      obtain rfl := (Option.some.inj ho).symm
      have d9 : a.eval (.tmp 9) = .bool r := hdep _ (Array.mem_of_getElem? (i := 0) rfl) rfl _ _ rfl rfl
      exact ⟨rfl, QT.wp_value (BigFrame.run_assign (.tmp 9) rfl wz) ⟨_, rfl, d9, Below.refl _ _⟩⟩
    | n + 6, ho => simp at ho
  · have f0 : a.eval (.tmp 5) = .agg CA := hf 0 _ _ rfl rfl
    have f1 : a.eval (.tmp 6) = .string SA := hf 1 _ _ rfl rfl
    have f2 : a.eval (.tmp 7) = .agg CB := hf 2 _ _ rfl rfl
    have f3 : a.eval (.tmp 8) = .string SB := hf 3 _ _ rfl rfl
    have f4 : a.eval (.tmp 9) = .bool r := hf 4 _ _ rfl rfl
    have f5 : a.eval (.tmp 4) = .bool r := hf 5 _ _ rfl rfl
    have ha := hag.puts [(5, .agg CA), (6, .string SA), (7, .agg CB), (8, .string SB), (9, .bool r), (4, .bool r)] rfl (by simp) (by simp only [List.forall_mem_cons, List.not_mem_nil, false_implies, implies_true, and_true]; exact ⟨f0, f1, f2, f3, f4, f5⟩)
    subst ha
    clear hag hf f0 f1 f2 f3 f4 f5
    simp only [List.foldl_cons, List.foldl_nil, Act.put, List.setIfInBounds_toArray, List.set_cons_succ, List.set_cons_zero]
    have HBI := Lib.hid hI
    clear hI
    go_wp2_with fail
    go_ret
    exact ⟨rfl, by rw [HGA.out]; exact HBW.out.trans (HBI.out.mono (by have := HBW.out.size; have := HGA.out; omega))⟩


def small0 : OriginD := ⟨[1, 1, 1, 1, 1, 0, 0, 0, 0, 0, 0, 1, 1, 5, 0], Deed.h0, [], [], []⟩
theorem small_at (w : World) : OAt w small0 nilS nilS nilS := ⟨rfl, Kind.At.nil _ _, Kind.At.nil _ _, Kind.At.nil _ _⟩
theorem small_may : mayO small0 = true := by decide +kernel
theorem small_few : few small0 := ⟨by decide, by decide, by decide⟩
theorem zero_may : mayO orig0 = false := by decide +kernel
def pars27 : Array Value := #[nV 0, nV 0, nV 0, nV 0, nV 0, nV 0, nV 1, nV 1]
theorem pars_built : Tryd.prog.built 27 [(6, .int .u64 1), (7, .int .u64 1)] = some pars27 := by kernel_rfl
theorem small_built : Tryd.prog.built 34 [(0, .int .u64 1), (1, .int .u64 1), (2, .int .u64 1), (3, .int .u64 1), (4, .int .u64 1), (5, .agg pars27), (6, .int .u64 5)] = some (cellsO small0 nilS nilS nilS).toArray := by kernel_rfl
theorem small_info : (Tryd.prog.info? 34).map (·.size) = some (cellsO small0 nilS nilS nilS).toArray.size := by kernel_rfl
set_option maxRecDepth 100000 in
set_option maxHeartbeats 800000 in
theorem code_small (w : World) : Calls Tryd.prog 9 #[] w fun e w' => e = .returned (oV small0 nilS nilS nilS) ∧ Below w.heap.size w w' := by
  have HBU := Lib.hid small_built
  have HBP := Lib.hid pars_built
  have HI := Lib.hid small_info
  have HZ := Lib.hid (show zOrig.toArray.size = (cellsO small0 nilS nilS nilS).toArray.size from rfl)
  have HON := Lib.hid (show (cellsO small0 nilS nilS nilS).toArray.all (·.oneCell') = true from cells_one)
  unfold oV
  obtain ⟨C, hC⟩ : ∃ C, (cellsO small0 nilS nilS nilS).toArray = C := ⟨_, rfl⟩
  rw [hC] at HBU HI HZ HON ⊢
  clear hC
  obtain ⟨CP, hCP⟩ : ∃ C, pars27 = C := ⟨_, rfl⟩
  rw [hCP] at HBU HBP
  clear hCP
  go_enter Tryd.func9, Tryd.ntmps9
  go_upto_region 1 with (refine wpList_alloc_zero orig_info rfl rfl ?_; intro w1 hh1 hs1 hb1; go_frame)
  go_wp2_with (first
    | (refine Bl.wpList_build_as rfl 27 #[(6, .const (.int .u64 1)), (7, .const (.int .u64 1))] rfl CP (by simpa [Act.eval] using HBP.out) ?_; go_frame)
    | (refine Bl.wpList_build_as rfl 34 #[(0, .const (.int .u64 1)), (1, .const (.int .u64 1)), (2, .const (.int .u64 1)), (3, .const (.int .u64 1)), (4, .const (.int .u64 1)), (5, .tmp 1), (6, .const (.int .u64 5))] rfl C (by simpa [Act.eval] using HBU.out) ?_; go_frame)
    | (refine wpList_store_row rfl 34 (.tmp 0) (.tmp 2) rfl w.heap.size C rfl rfl 34 zOrig.toArray hh1 HI.out HZ.out HON.out ?_; go_frame))
  refine bodyPost_ret (results_cell_row (p := 0) (ty := 34) Tryd.results9 _ _ w.heap.size 34 C (0, 0) _ rfl (setRow_heap _ _ _ _ _ _ hh1) Tryd.underlying34 rfl HI.out) rfl ⟨rfl, below_setRow hb1 (Nat.le_refl _) _⟩

end Go.Proofs.YtdgaoebjbhomdaaDoor.Og
