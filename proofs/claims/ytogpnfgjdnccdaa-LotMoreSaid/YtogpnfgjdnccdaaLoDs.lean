/- lot: the code's sum, Nonce, Value. -/
import Derived.Test.YtogpnfgjdnccdaaLoC
import Derived.Test.YtogpnfgjdnccdaaQFt
import Derived.Laws.CopyOwn
import Derived.Great.BuildSlice
namespace Go.Proofs.Ytogpnfgjdnccdaa.Lot
open Go.RowKit Go.Proofs.Ytogpnfgjdnccdaa.Sha Go.Proofs.Ytogpnfgjdnccdaa.Tree

theorem one_cellsS (v : Value) (h : v.oneCell' = true) : v.cells = #[v] := by cases v <;> first | rfl | cases h
/-- A slice built of three values of one cell each. -/
theorem wp_slice3 {P : Program} {o : Oper} {a : Act} {w : World} {K : Act → World → Prop} {Q : Exit → Act → World → Prop} (t e : TypeId) (x y z : Operand) (ho : o.op = .buildSlice t 3 #[(0, x), (1, y), (2, z)])
    (zz : Value) (hu : P.underlying t = some (.slice e)) (hie : (P.info? e).map (fun i => (i.zero, i.size)) = some (some zz, 1)) (v u s : Value) (hx : a.eval x = v) (hy : a.eval y = u) (hz : a.eval z = s) (h1 : v.oneCell' = true) (h2 : u.oneCell' = true) (h3 : s.oneCell' = true)
    (h : K (a.put o.dst (.slice (some ⟨w.heap.size, 0, none⟩) 3 3)) (w.alloc (.cells #[v, u, s] e))) : o.wp P a w K Q := by
  obtain ⟨ie, hi, hq⟩ := Option.map_eq_some_iff.1 hie
  simp only [Prod.mk.injEq] at hq
  have hc := one_cellsS v h1
  have hd := one_cellsS u h2
  have hee := one_cellsS s h3
  refine wp_buildSlice t e 3 #[(0, x), (1, y), (2, z)] ho #[v, u, s] ie zz hu hi hq.1 (by rw [hq.2]; decide) (by rw [hq.2]; decide) ?_ h
  rw [hq.2]
  have hf := Great.fill_whole (s := 1) (by omega) [v, u, s] ((Array.range (3 * 1)).map (zz.cells[· % zz.cells.size]!)) (fun y hy => by simp at hy; rcases hy with rfl | rfl | rfl <;> simp [hc, hd, hee]) (by simp)
  simpa [hx, hy, hz, hc, hd, hee] using hf

/-- What an operation leaves. -/
inductive FactS where
  | val (v : Value)
  | texts (P : List ByteArray)
def FactS.holds : FactS → Value → World → Prop
  | .val v0, v, _ => v = v0
  | .texts P, v, w => ∃ g, v = .slice (some ⟨g, 0, none⟩) P.length P.length ∧ Texts w (.slice (some ⟨g, 0, none⟩) P.length P.length) P
theorem FactS.kept (f : FactS) (v : Value) (w w' : World) (h : f.holds v w) (hb : Below w.heap.size w w') : f.holds v w' := by
  cases f with
  | val v0 => exact h
  | texts P =>
    obtain ⟨g, hv, hr⟩ := h
    exact ⟨g, hv, hr.kept hb⟩
theorem infoStr : (Try.prog.info? 9).map (fun i => (i.zero, i.size)) = some (some (.string ⟨#[]⟩), 1) := by kernel_rfl

theorem code_of3 (tag : ByteArray) (ht : tag.size ≤ 100) (h p : List UInt8) (k : Nat) (hh : h.length = 32) (hp : p.length = 32) (v : Value) (w : World) (hT : Texts w v (partsF h k p)) :
    Calls Try.prog 33 #[.string tag, v] w fun e w' => e = .returned (.agg (valsB (ofT tag (partsF h k p))).toArray) ∧ Below w.heap.size w w' := by
  obtain ⟨h1, h2, h3, h4⟩ := parts_bounds tag ht h p k hh hp
  exact code_of tag v _ w hT h1 h2 (by omega) h4

set_option maxRecDepth 100000 in
set_option maxHeartbeats 3200000 in
theorem code_sum3 (tag : ByteArray) (ht : tag.size ≤ 100) (h p : List UInt8) (k : Nat) (hh : h.length = 32) (hp : p.length = 32) (hk : k ≤ 18446744073709551615) (w : World) :
    Calls Try.prog 22 #[.string tag, .agg (valsB h).toArray, .int .u64 k, .agg (valsB p).toArray] w fun e w' => e = .returned (.agg (valsB (ofT tag (partsF h k p))).toArray) ∧ Below w.heap.size w w' := by
  have HOF := Lib.hid (fun v w hT => code_of3 tag ht h p k hh hp v w hT)
  have HBA := Lib.hid (fun w => code_bytes h hh w)
  have HBB := Lib.hid (fun w => code_bytes p hp w)
  have HEI := Lib.hid (fun w => Digit.eight_any k w hk)
  have HRCA := Lib.hid (row32 h hh)
  have HRCB := Lib.hid (row32 p hp)
  have HRD := Lib.hid (row32 (ofT tag (partsF h k p)) (ofT_len _ _))
  obtain ⟨CA, hCA⟩ : ∃ C, (valsB h).toArray = C := ⟨_, rfl⟩
  obtain ⟨CB, hCB⟩ : ∃ C, (valsB p).toArray = C := ⟨_, rfl⟩
  obtain ⟨D, hD⟩ : ∃ C, (valsB (ofT tag (partsF h k p))).toArray = C := ⟨_, rfl⟩
  rw [hCA] at HBA HRCA
  rw [hCB] at HBB HRCB
  rw [hD] at HRD
  simp only [hD] at HOF
  rw [hCA, hCB, hD]
  clear hCA hCB hD hk
  obtain ⟨SA, hSA⟩ : ∃ S : ByteArray, (⟨h.toArray⟩ : ByteArray) = S := ⟨_, rfl⟩
  obtain ⟨SB, hSB⟩ : ∃ S : ByteArray, (⟨p.toArray⟩ : ByteArray) = S := ⟨_, rfl⟩
  obtain ⟨SE, hSE⟩ : ∃ S : ByteArray, (⟨(Digit.eightL k).toArray⟩ : ByteArray) = S := ⟨_, rfl⟩
  have hpf : partsF h k p = [SA, SE, SB] := by unfold partsF; rw [hSA, hSB, hSE]
  rw [hSA] at HBA
  rw [hSB] at HBB
  rw [hSE] at HEI
  simp only [hpf] at HOF
  clear hSA hSB hSE hh hp hpf ht
  go_enter Try.func22, Try.ntmps22
  go_upto_region 1 with (fail)
  rw [zero32]
  obtain ⟨Z, hZ⟩ : ∃ Z, (List.replicate 32 (Value.int .u8 0)).toArray = Z := ⟨_, rfl⟩
  have HZZ := Lib.hid (show Z.size = 32 by rw [← hZ]; rfl)
  rw [hZ]
  clear hZ
  have hs0 : (((w.alloc (.cells CA 32)).alloc (.cells CB 32)).alloc (.cells Z 32)).heap.size = w.heap.size + 3 := by simp
  have hw1 : (w.alloc (.cells CA 32)).heap.size = w.heap.size + 1 := by simp
  have HA0 := Lib.hid ((Below.heap_alloc _ (.cells Z 32) w.heap.size (by simp; omega)).trans (heap_alloc2_old w (.cells CA 32) (.cells CB 32)))
  have HA1 := Lib.hid ((Below.heap_alloc _ (.cells Z 32) (w.heap.size + 1) (by simp)).trans (heap_alloc2_new w (.cells CA 32) (.cells CB 32)))
  have HA2 := Lib.hid (show (((w.alloc (.cells CA 32)).alloc (.cells CB 32)).alloc (.cells Z 32)).heap[w.heap.size + 1 + 1]? = some (.cells Z 32 (0, 0)) by
    have h := heap_alloc2_new (w.alloc (.cells CA 32)) (.cells CB 32) (.cells Z 32)
    rw [hw1] at h
    exact h)
  have HBW := Lib.hid (show Below w.heap.size w (((w.alloc (.cells CA 32)).alloc (.cells CB 32)).alloc (.cells Z 32)) from (((Below.refl _ _).alloc (Nat.le_refl _) _).alloc (by simp) _).alloc (by simp; omega) _)
  clear hw1
  generalize (((w.alloc (.cells CA 32)).alloc (.cells CB 32)).alloc (.cells Z 32)) = W at HA0 HA1 HA2 HBW hs0 ⊢
  obtain ⟨g3, hg3⟩ : ∃ x, w.heap.size = x := ⟨_, rfl⟩
  obtain ⟨g5, hg5⟩ : ∃ x, g3 + 1 = x := ⟨_, rfl⟩
  obtain ⟨g6, hg6⟩ : ∃ x, g5 + 1 = x := ⟨_, rfl⟩
  rw [hg3] at HA0 HA1 HA2 HBW hs0
  rw [hg5] at HA1 HA2
  rw [hg6] at HA2
  rw [hg3, hg5, hg6]
  have HGE := Lib.hid hg3
  have HLT := Lib.hid (show g3 < g5 ∧ g5 < g6 ∧ g6 < W.heap.size by omega)
  clear hg3 hg5 hg6 hs0
  refine QT.wp_region_facts_tail 9 (by kernel_rfl) (fun w' => Below W.heap.size W w') (fun n v w' => (([.val (.string tag), .val (.agg CA), .val (.string SA), .val (.int .u64 k), .val (.string SE), .val (.agg CB), .val (.string SB), .texts [SA, SE, SB], .val (.agg D)] : List FactS).getD n (.val undef) : FactS).holds v w') (by kernel_rfl) (by kernel_rfl) (Below.refl _ _).drew (fun w1 w2 h1 hb => h1.trans (hb.mono h1.size)) (fun n v w1 w2 h hb => FactS.kept _ v w1 w2 h hb) (fun n o hn ho a wz hI hag hdep => ?_) (fun a wz hI hag hf => ?_)
  · have t0 : a.eval (.tmp 0) = .string tag := hag.old 0 _ (by kernel_rfl) rfl
    have t2 : a.eval (.tmp 2) = .int .u64 k := hag.old 2 _ (by kernel_rfl) rfl
    have t5 : a.eval (.tmp 5) = .pointer (some ⟨g3, 0, none⟩) := hag.old 5 _ (by kernel_rfl) rfl
    have t7 : a.eval (.tmp 7) = .pointer (some ⟨g5, 0, none⟩) := hag.old 7 _ (by kernel_rfl) rfl
    have t8 : a.eval (.tmp 8) = .pointer (some ⟨g6, 0, none⟩) := hag.old 8 _ (by kernel_rfl) rfl
    match n, ho with
    | 0, ho =>
      obtain rfl := (Option.some.inj ho).symm
      exact ⟨rfl, QT.wp_value (BigFrame.run_move (.tmp 0) rfl wz) ⟨_, rfl, t0, Below.refl _ _⟩⟩
    | 1, ho =>
      obtain rfl := (Option.some.inj ho).symm
      exact ⟨rfl, wp_load_row 32 (.tmp 5) rfl g3 t5 32 CA (0, 0) _ ((hI.block g3 (by have := HLT.out; omega)).trans HA0.out) Try.underlying32 rfl HRCA.out.info ⟨_, rfl, rfl, Below.refl _ _⟩⟩
    | 2, ho =>
      obtain rfl := (Option.some.inj ho).symm
      have d10 : a.eval (.tmp 10) = .agg CA := hdep _ (Array.mem_of_getElem? (i := 0) rfl) rfl _ _ rfl rfl
      exact ⟨rfl, QT.wp_enter (f := 34) (args := #[.agg CA]) (by simp [go_sem, QT.nf d10]) (HBA.out wz) fun w' hb => ⟨_, rfl, rfl, hb⟩⟩
    | 3, ho =>
      obtain rfl := (Option.some.inj ho).symm
      exact ⟨rfl, QT.wp_value (BigFrame.run_move (.tmp 2) rfl wz) ⟨_, rfl, t2, Below.refl _ _⟩⟩
    | 4, ho =>
      obtain rfl := (Option.some.inj ho).symm
      have d12 : a.eval (.tmp 12) = .int .u64 k := hdep _ (Array.mem_of_getElem? (i := 0) rfl) rfl _ _ rfl rfl
      exact ⟨rfl, QT.wp_enter (f := 35) (args := #[.int .u64 k]) (by simp [go_sem, QT.nf d12]) (HEI.out wz) fun w' hb => ⟨_, rfl, rfl, hb⟩⟩
    | 5, ho =>
      obtain rfl := (Option.some.inj ho).symm
      exact ⟨rfl, wp_load_row 32 (.tmp 7) rfl g5 t7 32 CB (0, 0) _ ((hI.block g5 (by have := HLT.out; omega)).trans HA1.out) Try.underlying32 rfl HRCB.out.info ⟨_, rfl, rfl, Below.refl _ _⟩⟩
    | 6, ho =>
      obtain rfl := (Option.some.inj ho).symm
      have d14 : a.eval (.tmp 14) = .agg CB := hdep _ (Array.mem_of_getElem? (i := 0) rfl) rfl _ _ rfl rfl
      exact ⟨rfl, QT.wp_enter (f := 34) (args := #[.agg CB]) (by simp [go_sem, QT.nf d14]) (HBB.out wz) fun w' hb => ⟨_, rfl, rfl, hb⟩⟩
    | 7, ho =>
      obtain rfl := (Option.some.inj ho).symm
      have d11 : a.eval (.tmp 11) = .string SA := hdep _ (Array.mem_of_getElem? (i := 0) rfl) rfl _ _ rfl rfl
      have d13 : a.eval (.tmp 13) = .string SE := hdep _ (Array.mem_of_getElem? (i := 1) rfl) rfl _ _ rfl rfl
      have d15 : a.eval (.tmp 15) = .string SB := hdep _ (Array.mem_of_getElem? (i := 2) rfl) rfl _ _ rfl rfl
      exact ⟨rfl, wp_slice3 45 9 (.tmp 11) (.tmp 13) (.tmp 15) rfl _ Try.underlying45 infoStr _ _ _ d11 d13 d15 rfl rfl rfl ⟨_, rfl, ⟨_, rfl, texts_three wz _ _ _⟩, (Below.refl _ _).alloc (Nat.le_refl _) _⟩⟩
    | 8, ho =>
      obtain rfl := (Option.some.inj ho).symm
      have d9 : a.eval (.tmp 9) = .string tag := hdep _ (Array.mem_of_getElem? (i := 0) rfl) rfl _ _ rfl rfl
      have d16 : ((.texts [SA, SE, SB]) : FactS).holds (a.eval (.tmp 16)) wz := hdep _ (Array.mem_of_getElem? (i := 1) rfl) rfl _ _ rfl rfl
      obtain ⟨g, d, hT⟩ := d16
      exact ⟨rfl, QT.wp_enter (f := 33) (args := #[.string tag, .slice (some ⟨g, 0, none⟩) 3 3]) (by simp [go_sem, QT.nf d9, QT.nf d]) (HOF.out _ wz hT) fun w' hb => ⟨_, rfl, rfl, hb⟩⟩
    | n + 9, ho => omega
  · have f0 : a.eval (.tmp 9) = .string tag := hf 0 _ _ (by omega) rfl rfl
    have f1 : a.eval (.tmp 10) = .agg CA := hf 1 _ _ (by omega) rfl rfl
    have f2 : a.eval (.tmp 11) = .string SA := hf 2 _ _ (by omega) rfl rfl
    have f3 : a.eval (.tmp 12) = .int .u64 k := hf 3 _ _ (by omega) rfl rfl
    have f4 : a.eval (.tmp 13) = .string SE := hf 4 _ _ (by omega) rfl rfl
    have f5 : a.eval (.tmp 14) = .agg CB := hf 5 _ _ (by omega) rfl rfl
    have f6 : a.eval (.tmp 15) = .string SB := hf 6 _ _ (by omega) rfl rfl
    have f7' : ((.texts [SA, SE, SB]) : FactS).holds (a.eval (.tmp 16)) wz := hf 7 _ _ (by omega) rfl rfl
    obtain ⟨q7, f7, _⟩ := f7'
    have f8 : a.eval (.tmp 17) = .agg D := hf 8 _ _ (by omega) rfl rfl
    have ha := hag.puts [(9, .string tag), (10, .agg CA), (11, .string SA), (12, .int .u64 k), (13, .string SE), (14, .agg CB), (15, .string SB), (16, .slice (some ⟨q7, 0, none⟩) 3 3), (17, .agg D)] rfl (by simp) (by simp only [List.forall_mem_cons, List.not_mem_nil, false_implies, implies_true, and_true]; exact ⟨f0, f1, f2, f3, f4, f5, f6, f7, f8⟩)
    subst ha
    clear hag hf f0 f1 f2 f3 f4 f5 f6 f7 f8
    simp only [List.foldl_cons, List.foldl_nil, Act.put, List.drop_succ_cons, List.drop_zero, List.setIfInBounds_toArray, List.set_cons_succ, List.set_cons_zero]
    rename World => w7
    have H67 := Lib.hid ((hI.block g6 (by have := HLT.out; omega)).trans HA2.out)
    have HB7 := Lib.hid (HBW.out.trans (hI.mono (by have := HLT.out; omega)))
    have HZD := Lib.hid (show Z.size = D.size by rw [HZZ.out, HRD.out.size])
    clear hI
    go_wp2_with (refine wpList_store_row rfl 32 (.tmp 8) (.tmp 17) rfl g6 D rfl rfl 32 Z H67.out HRD.out.info HZD.out HRD.out.one ?_)
    refine bodyPost_ret (results_cell_row (p := 8) (ty := 32) Try.results22 _ _ g6 32 D (0, 0) _ rfl (setRow_heap _ _ _ _ _ _ H67.out) Try.underlying32 rfl HRD.out.info) rfl ⟨rfl, HGE.out ▸ below_setRow HB7.out (by have := HLT.out; omega) _⟩

end Go.Proofs.Ytogpnfgjdnccdaa.Lot
