/- lot: what a number of lots comes to: the closure's body. -/
import Derived.Test.YtogpnfgjdnccdaaLoDa
import Derived.Test.YtogpnfgjdnccdaaQFm
import Derived.Laws.CopyOwn
namespace Go.Proofs.Ytogpnfgjdnccdaa.Lot
open Go.RowKit Go.Proofs.Ytogpnfgjdnccdaa.Wide

/-- What an operation leaves. -/
inductive FactW where
  | val (v : Value)
  | fresh (lo : Nat) (c : Array Value) (t : TypeId)
def FactW.holds : FactW → Value → World → Prop
  | .val v0, v, _ => v = v0
  | .fresh lo c t, v, w => ∃ g, v = .pointer (some ⟨g, 0, none⟩) ∧ lo ≤ g ∧ w.heap[g]? = some (.cells c t (0, 0))
theorem FactW.kept (f : FactW) (v : Value) (w w' : World) (h : f.holds v w) (hb : Below w.heap.size w w') : f.holds v w' := by
  cases f with
  | val v0 => exact h
  | fresh lo c t =>
    obtain ⟨g, hv, hl, hr⟩ := h
    exact ⟨g, hv, hl, (hb.block g ((Array.getElem?_eq_some_iff.1 hr).1)).trans hr⟩
theorem wp_runTo {P : Program} {o : Oper} {a : Act} {w : World} {K : Act → World → Prop} {Q : Exit → Act → World → Prop} (v : Value) (w' : World) (h : (execOp a.eval o).run P w = .ok (.value v) w') (hk : K (a.put o.dst v) w') : o.wp P a w K Q := by
  unfold Oper.wp
  rw [h]
  exact hk

/-- Two products, one behind the other. -/
theorem code_mul (n s : Nat) (hn : n ≤ 4294967296) (hs : s < 9223372036854775808) (w : World) :
    Calls Try.prog 46 #[.int .u64 n, .int .u64 s] w fun e w' => e = .returned (.agg #[.int .u64 (hiN (n * s)), .int .u64 (loN (n * s))]) ∧ Below w.heap.size w w' :=
  mul_any n s w (by omega) (by omega)
theorem small_three {n s d : Nat} (hn : n ≤ 4294967296) (hs : s < 9223372036854775808) (hd : d ≤ 65536) : n * s * d < 340282366920938463463374607431768211456 := by
  have h1 := Nat.mul_le_mul (Nat.mul_le_mul hn (show s ≤ 9223372036854775807 by omega)) hd
  omega
theorem code_times (n s d : Nat) (hn : n ≤ 4294967296) (hs : s < 9223372036854775808) (hd : d ≤ 65536) (w : World) :
    Calls Try.prog 45 #[.agg #[.int .u64 (hiN (n * s)), .int .u64 (loN (n * s))], .int .u64 d] w fun e w' => e = .returned (.tuple #[.agg #[.int .u64 (hiN (n * s * d)), .int .u64 (loN (n * s * d))], .int .i64 0]) ∧ Below w.heap.size w w' := by
  have h := times_any (hiN (n * s)) (loN (n * s)) d w (hiN_lt (mul_lt n s (by omega) (by omega))) (loN_lt _) (by omega)
  rw [join_N] at h
  rw [show timesN (n * s) d = (n * s * d, 0) by unfold timesN; rw [if_pos (small_three hn hs hd)]] at h
  exact h

set_option maxRecDepth 100000 in
set_option maxHeartbeats 3200000 in
theorem code_weigh (n s d p q : Nat) (w : World) (hW : WeighAt w p q s d) (hn : n ≤ 4294967296) (hs : s < 9223372036854775808) (hd : d ≤ 65536) :
    Calls Try.prog 44 #[.int .u64 n, .pointer (some ⟨p, 0, none⟩), .pointer (some ⟨q, 0, none⟩)] w fun e w' => e = .returned (.agg #[.int .u64 (hiN (n * s * d)), .int .u64 (loN (n * s * d))]) ∧ Below w.heap.size w w' := by
  have HM := Lib.hid (fun w => code_mul n s hn hs w)
  have HT := Lib.hid (fun w => code_times n s d hn hs hd w)
  have HWI := Lib.hid wide_info
  obtain ⟨xh, hxh⟩ : ∃ x, hiN (n * s) = x := ⟨_, rfl⟩
  obtain ⟨xl, hxl⟩ : ∃ x, loN (n * s) = x := ⟨_, rfl⟩
  obtain ⟨yh, hyh⟩ : ∃ x, hiN (n * s * d) = x := ⟨_, rfl⟩
  obtain ⟨yl, hyl⟩ : ∃ x, loN (n * s * d) = x := ⟨_, rfl⟩
  rw [hxh, hxl] at HM
  rw [hxh, hxl, hyh, hyl] at HT
  rw [hyh, hyl]
  clear hxh hxl hyh hyl hn hs hd
  have HW := Lib.hid hW
  clear hW
  go_enter Try.func44, Try.ntmps44
  go_upto_region 1 with (fail)
  have hbW : Below w.heap.size w (w.alloc (.cells #[.int .u64 0, .int .u64 0] 48)) := (Below.refl _ _).alloc (Nat.le_refl _) _
  have H4 := Lib.hid (heap_alloc_new w (.cells #[.int .u64 0, .int .u64 0] 48))
  have hs0 : (w.alloc (.cells #[.int .u64 0, .int .u64 0] 48)).heap.size = w.heap.size + 1 := by simp
  generalize w.alloc (.cells #[.int .u64 0, .int .u64 0] 48) = W at hbW H4 hs0 ⊢
  have HWW := Lib.hid (HW.out.kept hbW)
  obtain ⟨g4, hg4⟩ : ∃ g, w.heap.size = g := ⟨_, rfl⟩
  rw [hg4] at H4 hbW hs0
  rw [hg4]
  have HG4 := Lib.hid hg4
  have HBW := Lib.hid hbW
  have HLT := Lib.hid (show g4 < W.heap.size by omega)
  clear hg4 hbW hs0
  refine QT.wp_region_facts_mid 9 8 5 (by kernel_rfl) (fun w' => Below W.heap.size W w') (fun zi v w' => (([.val (.int .u64 n), .val (.int .u64 s), .val (.agg #[.int .u64 xh, .int .u64 xl]), .val (.int .u64 d), .val (.tuple #[.agg #[.int .u64 yh, .int .u64 yl], .int .i64 0]), .val (.tuple #[.agg #[.int .u64 yh, .int .u64 yl], .int .i64 0]), .val (.agg #[.int .u64 yh, .int .u64 yl]), .val (.int .i64 0), .fresh W.heap.size #[.int .u64 0, .int .u64 0] 48, .val (.bool false), .val (.int .i64 0)] : List FactW).getD zi (.val undef) : FactW).holds v w') (fun v w' => ∃ g, v = .pointer (some ⟨g, 0, none⟩) ∧ W.heap.size ≤ g ∧ w'.heap[g]? = some (.cells #[.int .u64 yh, .int .u64 yl] 48 (0, 0))) (by kernel_rfl) (by kernel_rfl) (Below.refl _ _).drew (fun w1 w2 h1 hb => h1.trans (hb.mono h1.size)) (fun _ v w1 w2 h hb => FactW.kept _ v w1 w2 h hb) ?_ (fun zi o hzi ho a wz hI hag hdep => ?_) (fun o ho a wz hI hag hdep => ?_) (fun a wz hI hag hf hg => ?_)
  · exact fun v w1 w2 ⟨g, hv, hl, hc⟩ hb => ⟨g, hv, hl, (hb.block g ((Array.getElem?_eq_some_iff.1 hc).1)).trans hc⟩
  · have t0 : a.eval (.tmp 0) = .int .u64 n := hag.old 0 _ (by kernel_rfl) rfl
    have t1 : a.eval (.tmp 1) = .pointer (some ⟨p, 0, none⟩) := hag.old 1 _ (by kernel_rfl) rfl
    have t2 : a.eval (.tmp 2) = .pointer (some ⟨q, 0, none⟩) := hag.old 2 _ (by kernel_rfl) rfl
    have hkw := HWW.out.kept hI
    have cs : wz.cell? ⟨p, 0, none⟩ = some (.int .u64 s) := by rw [Lib.cell_of_heap hkw.one]; rfl
    have cd : wz.cell? ⟨q, 0, none⟩ = some (.int .u64 d) := by rw [Lib.cell_of_heap hkw.two]; rfl
    match zi, hzi, ho with
    | 0, _, ho =>
      obtain rfl := (Option.some.inj ho).symm
      exact ⟨rfl, QT.wp_value (BigFrame.run_move (.tmp 0) rfl wz) ⟨_, rfl, t0, Below.refl _ _⟩⟩
    | 1, _, ho =>
      obtain rfl := (Option.some.inj ho).symm
      exact ⟨rfl, QT.wp_value (v := .int .u64 s) (by simp [go_sem, QT.nf t1, cs]) ⟨_, rfl, rfl, Below.refl _ _⟩⟩
    | 2, _, ho =>
      obtain rfl := (Option.some.inj ho).symm
      have d8 : a.eval (.tmp 8) = .int .u64 n := hdep _ (Array.mem_of_getElem? (i := 0) rfl) rfl (by decide) _ _ rfl rfl
      have d9 : a.eval (.tmp 9) = .int .u64 s := hdep _ (Array.mem_of_getElem? (i := 1) rfl) rfl (by decide) _ _ rfl rfl
      exact ⟨rfl, QT.wp_enter (f := 46) (args := #[.int .u64 n, .int .u64 s]) (by simp [go_sem, QT.nf d8, QT.nf d9]) (HM.out wz) fun w' hb => ⟨_, rfl, rfl, hb⟩⟩
    | 3, _, ho =>
      obtain rfl := (Option.some.inj ho).symm
      exact ⟨rfl, QT.wp_value (v := .int .u64 d) (by simp [go_sem, QT.nf t2, cd]) ⟨_, rfl, rfl, Below.refl _ _⟩⟩
    | 4, _, ho =>
      obtain rfl := (Option.some.inj ho).symm
      have d10 : a.eval (.tmp 10) = .agg #[.int .u64 xh, .int .u64 xl] := hdep _ (Array.mem_of_getElem? (i := 0) rfl) rfl (by decide) _ _ rfl rfl
      have d11 : a.eval (.tmp 11) = .int .u64 d := hdep _ (Array.mem_of_getElem? (i := 1) rfl) rfl (by decide) _ _ rfl rfl
      exact ⟨rfl, QT.wp_enter (f := 45) (args := #[.agg #[.int .u64 xh, .int .u64 xl], .int .u64 d]) (by simp [go_sem, QT.nf d10, QT.nf d11]) (HT.out wz) fun w' hb => ⟨_, rfl, rfl, hb⟩⟩
    | 5, _, ho =>
      obtain rfl := (Option.some.inj ho).symm
      have d12 : a.eval (.tmp 12) = .tuple #[.agg #[.int .u64 yh, .int .u64 yl], .int .i64 0] := hdep _ (Array.mem_of_getElem? (i := 0) rfl) rfl (by decide) _ _ rfl rfl
      exact ⟨rfl, QT.wp_value (BigFrame.run_move (.tmp 12) rfl wz) ⟨_, rfl, d12, Below.refl _ _⟩⟩
    | 6, _, ho =>
      obtain rfl := (Option.some.inj ho).symm
      have d7 : a.eval (.tmp 7) = .tuple #[.agg #[.int .u64 yh, .int .u64 yl], .int .i64 0] := hdep _ (Array.mem_of_getElem? (i := 0) rfl) rfl (by decide) _ _ rfl rfl
      exact ⟨rfl, QT.wp_value (v := .agg #[.int .u64 yh, .int .u64 yl]) (by simp [go_sem, QT.nf d7]) ⟨_, rfl, rfl, Below.refl _ _⟩⟩
    | 7, _, ho =>
      obtain rfl := (Option.some.inj ho).symm
      have d7 : a.eval (.tmp 7) = .tuple #[.agg #[.int .u64 yh, .int .u64 yl], .int .i64 0] := hdep _ (Array.mem_of_getElem? (i := 0) rfl) rfl (by decide) _ _ rfl rfl
      exact ⟨rfl, QT.wp_value (v := .int .i64 0) (by simp [go_sem, QT.nf d7]) ⟨_, rfl, rfl, Below.refl _ _⟩⟩
    | 8, _, ho =>
      obtain rfl := (Option.some.inj ho).symm
      exact ⟨rfl, wp_runTo (.pointer (some ⟨wz.heap.size, 0, none⟩)) (wz.alloc (.cells #[.int .u64 0, .int .u64 0] 48)) (by kernel_rfl) ⟨_, rfl, ⟨_, rfl, hI.size, heap_alloc_new _ _⟩, (Below.refl _ _).alloc (Nat.le_refl _) _⟩⟩
    | 9, hn, _ => exact absurd rfl hn
    | 10, _, ho =>
      obtain rfl := (Option.some.inj ho).symm
      have d14 : a.eval (.tmp 14) = .int .i64 0 := hdep _ (Array.mem_of_getElem? (i := 0) rfl) rfl (by decide) _ _ rfl rfl
      exact ⟨rfl, QT.wp_value (BigFrame.run_assign (.tmp 14) rfl wz) ⟨_, rfl, d14, Below.refl _ _⟩⟩
    | zi + 11, _, ho => simp at ho
  · have t0 : a.eval (.tmp 0) = .int .u64 n := hag.old 0 _ (by kernel_rfl) rfl
    have t1 : a.eval (.tmp 1) = .pointer (some ⟨p, 0, none⟩) := hag.old 1 _ (by kernel_rfl) rfl
    have t2 : a.eval (.tmp 2) = .pointer (some ⟨q, 0, none⟩) := hag.old 2 _ (by kernel_rfl) rfl
    have hkw := HWW.out.kept hI
    have cs : wz.cell? ⟨p, 0, none⟩ = some (.int .u64 s) := by rw [Lib.cell_of_heap hkw.one]; rfl
    have cd : wz.cell? ⟨q, 0, none⟩ = some (.int .u64 d) := by rw [Lib.cell_of_heap hkw.two]; rfl
    obtain rfl := (Option.some.inj ho).symm
    have d5 : ((.fresh W.heap.size #[.int .u64 0, .int .u64 0] 48) : FactW).holds (a.eval (.tmp 5)) wz := hdep _ (Array.mem_of_getElem? (i := 0) rfl) rfl _ _ rfl rfl
    have d13 : a.eval (.tmp 13) = .agg #[.int .u64 yh, .int .u64 yl] := hdep _ (Array.mem_of_getElem? (i := 1) rfl) rfl _ _ rfl rfl
    obtain ⟨g, hg, hgl, hgc⟩ := d5
    refine ⟨rfl, wp_store_row 48 (.tmp 5) (.tmp 13) rfl g #[.int .u64 yh, .int .u64 yl] hg d13 48 _ hgc HWI.out rfl (by simp [Value.oneCell']) ⟨rfl, ⟨g, hg, hgl, setRow_heap _ _ _ _ _ _ hgc⟩, below_setRow hI hgl _, fun i v hi h => ?_⟩⟩
    match i, hi, h with
    | 0, _, h => exact h
    | 1, _, h => exact h
    | 2, _, h => exact h
    | 3, _, h => exact h
    | 4, _, h => exact h
    | 5, _, h => exact h
    | 6, _, h => exact h
    | 7, _, h => exact h
    | 8, hi, _ => exact absurd rfl hi
    | 9, _, h => exact h
    | 10, _, h => exact h
    | i + 11, _, h => exact h
  · have f0 : a.eval (.tmp 8) = .int .u64 n := hf 0 _ _ (by decide) rfl rfl
    have f1 : a.eval (.tmp 9) = .int .u64 s := hf 1 _ _ (by decide) rfl rfl
    have f2 : a.eval (.tmp 10) = .agg #[.int .u64 xh, .int .u64 xl] := hf 2 _ _ (by decide) rfl rfl
    have f3 : a.eval (.tmp 11) = .int .u64 d := hf 3 _ _ (by decide) rfl rfl
    have f4 : a.eval (.tmp 12) = .tuple #[.agg #[.int .u64 yh, .int .u64 yl], .int .i64 0] := hf 4 _ _ (by decide) rfl rfl
    have f5 : a.eval (.tmp 7) = .tuple #[.agg #[.int .u64 yh, .int .u64 yl], .int .i64 0] := hf 5 _ _ (by decide) rfl rfl
    have f6 : a.eval (.tmp 13) = .agg #[.int .u64 yh, .int .u64 yl] := hf 6 _ _ (by decide) rfl rfl
    have f7 : a.eval (.tmp 14) = .int .i64 0 := hf 7 _ _ (by decide) rfl rfl
    obtain ⟨q8, f8, y8⟩ := hg
    have f10 : a.eval (.tmp 6) = .int .i64 0 := hf 10 _ _ (by decide) rfl rfl
    have ha := hag.putsN [(8, .int .u64 n), (9, .int .u64 s), (10, .agg #[.int .u64 xh, .int .u64 xl]), (11, .int .u64 d), (12, .tuple #[.agg #[.int .u64 yh, .int .u64 yl], .int .i64 0]), (7, .tuple #[.agg #[.int .u64 yh, .int .u64 yl], .int .i64 0]), (13, .agg #[.int .u64 yh, .int .u64 yl]), (14, .int .i64 0), (5, .pointer (some ⟨q8, 0, none⟩)), (6, .int .i64 0)] rfl (by simp) (by simp only [List.forall_mem_cons, List.not_mem_nil, false_implies, implies_true, and_true]; exact ⟨f0, f1, f2, f3, f4, f5, f6, f7, f8, f10⟩)
    subst ha
    clear hag hf f0 f1 f2 f3 f4 f5 f6 f7 f8 f10
    simp only [List.foldl_cons, List.foldl_nil, Act.put, List.setIfInBounds_toArray, List.set_cons_succ, List.set_cons_zero]
    rename World => w7
    have HQ := Lib.hid y8.2
    have H47 := Lib.hid ((hI.block g4 HLT.out).trans H4.out)
    have HB7 := Lib.hid (HBW.out.trans (hI.mono (by have := HLT.out; omega)))
    clear hI y8
    go_wp2_with (first
      | (refine wpList_load_row rfl 48 (.tmp 5) rfl q8 rfl 48 #[.int .u64 yh, .int .u64 yl] (0, 0) _ HQ.out Try.underlying48 rfl HWI.out ?_)
      | (refine wpList_store_row rfl 48 (.tmp 4) (.tmp 15) rfl g4 #[.int .u64 yh, .int .u64 yl] rfl rfl 48 #[.int .u64 0, .int .u64 0] H47.out HWI.out rfl (by simp [Value.oneCell']) ?_))
    refine bodyPost_ret (results_cell_row (p := 4) (ty := 48) Try.results44 _ _ g4 48 #[.int .u64 yh, .int .u64 yl] (0, 0) _ rfl (setRow_heap _ _ _ _ _ _ H47.out) Try.underlying48 rfl HWI.out) rfl ⟨rfl, HG4.out ▸ below_setRow HB7.out (Nat.le_refl _) _⟩

end Go.Proofs.Ytogpnfgjdnccdaa.Lot
