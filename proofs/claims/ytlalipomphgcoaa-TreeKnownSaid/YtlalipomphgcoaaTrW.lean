/- The tree's works. -/
import Derived.Test.YtlalipomphgcoaaTrS
import Derived.Test.YtlalipomphgcoaaQFa
import Derived.BigQuiet
namespace Go.Proofs.Ytlalipomphgcoaa.Tree
open Go.RowKit Go.Proofs.Ytlalipomphgcoaa.Sha

theorem step_build_hash1 {ops : Array Oper} {o : Oper} {a : Act} {w : World} {K : Act → World → Prop} {Q : Exit → Act → World → Prop} {E : Prop} (hw : Region.wanted o (yielded ops a.tmps) = true) (x : Operand) (ho : o.op = .buildSlice 28 1 #[(0, x)])
    (y : List UInt8) (hy : y.length = 32) (C : Array Value) (hC : (valsB y).toArray = C) (hx : a.eval x = .agg C)
    (h : ∀ g w', RowOf w' g 1 [y] → Below w.heap.size w w' → K (a.put o.dst (.slice (some ⟨g, 0, none⟩) 1 1)) w') :
    if Region.wanted o (yielded ops a.tmps) = true then Oper.wp Try.prog o a w K Q else E := by
  rw [if_pos hw]
  subst hC
  obtain ⟨ie, hie, hz, hsz, _⟩ := info_row
  have hcs : ((Array.range (1 * 32)).map ((Value.agg (List.replicate 32 (Value.int .u8 0)).toArray).cells[· % (Value.agg (List.replicate 32 (Value.int .u8 0)).toArray).cells.size]!)).size = 1 * 32 := by simp
  have hfill := Great.fill_whole (s := 32) (by omega) [Value.agg (valsB y).toArray] ((Array.range (1 * 32)).map ((Value.agg (List.replicate 32 (Value.int .u8 0)).toArray).cells[· % (Value.agg (List.replicate 32 (Value.int .u8 0)).toArray).cells.size]!)) (fun v hv => by
    simp at hv
    subst hv
    rw [cellsB, valsB_size, hy]) (by rw [hcs]; rfl)
  have hflat : ([Value.agg (valsB y).toArray].flatMap fun v => v.cells.toList) = valsB y := by
    simp [cellsB]
  rw [hflat] at hfill
  refine wp_buildSlice 28 23 1 #[(0, x)] ho (valsB y).toArray ie _ Try.underlying28 hie hz (by rw [hsz]; omega) (by rw [hsz]; omega) (by rw [hsz]; simpa [hx] using hfill) ?_
  refine h w.heap.size _ ⟨fun z hz => by simp at hz; subst hz; exact hy, ⟨_, heap_alloc_new _ _, by rw [valsB_size, hy]⟩, fun i z hz j v hv => ?_⟩ ((Below.refl _ _).alloc (Nat.le_refl _) _)
  match i, hz with
  | 0, hz =>
    simp at hz
    subst hz
    rw [cell_of_row _ _ _ _ _ _ (heap_alloc_new w _), List.getElem?_toArray, Nat.zero_mul, Nat.zero_add]
    exact hv

theorem wp_build1 {o : Oper} {a : Act} {w : World} {K : Act → World → Prop} {Q : Exit → Act → World → Prop} (x : Operand) (ho : o.op = .buildSlice 28 1 #[(0, x)])
    (y : List UInt8) (hy : y.length = 32) (C : Array Value) (hC : (valsB y).toArray = C) (hx : a.eval x = .agg C)
    (h : ∀ g w', RowOf w' g 1 [y] → Below w.heap.size w w' → K (a.put o.dst (.slice (some ⟨g, 0, none⟩) 1 1)) w') : o.wp Try.prog a w K Q := by
  cases hg : o.guard with
  | none =>
    have := step_build_hash1 (ops := #[]) (E := True) (Q := Q) (by unfold Region.wanted; rw [hg]) x ho y hy C hC hx h
    rwa [if_pos (by unfold Region.wanted; rw [hg])] at this
  | some gb =>
    have := step_build_hash1 (o := { o with guard := none }) (a := a) (w := w) (K := K) (ops := #[]) (E := True) (Q := Q) rfl x ho y hy C hC hx h
    have h0 : Region.wanted ({ o with guard := none } : Oper) (yielded #[] a.tmps) = true := rfl
    rw [if_pos h0] at this
    exact this
theorem wp_value {P : Program} {o : Oper} {a : Act} {w : World} {K : Act → World → Prop} {Q : Exit → Act → World → Prop} {v : Value} (h : (execOp a.eval o).run P w = .ok (.value v) w) (hk : K (a.put o.dst v) w) : o.wp P a w K Q := by
  unfold Oper.wp
  rw [h]
  exact hk
theorem wp_enter {P : Program} {o : Oper} {a : Act} {w : World} {K : Act → World → Prop} {Q : Exit → Act → World → Prop} {v : Value} {f : FuncId} {args : Array Value} {R : World → Prop} (h : (execOp a.eval o).run P w = .ok (.enter f args) w) (hc : Calls P f args w fun e w' => e = .returned v ∧ R w') (hk : ∀ w', R w' → K (a.put o.dst v) w') : o.wp P a w K Q := by
  unfold Oper.wp
  rw [h]
  exact hc.mono fun e w' ⟨he, hr⟩ => by subst he; exact hk w' hr
theorem wanted_of {ops : Array Oper} {a : Act} {o og : Oper} {g : Nat} {b : Bool} {d : Tmp} (hg : o.guard = some (g, b)) (ho : ops[g]? = some og) (hd : og.dst = some d) (h : a.eval (.tmp d) = .bool b) : Region.wanted o (yielded ops a.tmps) = true := by
  have hy : yielded ops a.tmps g = some b := by
    unfold yielded
    rw [ho]
    simp only [Option.bind_some, hd]
    unfold Act.eval at h
    cases ht : a.tmps[d]? with
    | none => simp [ht, undef] at h
    | some v =>
      simp [ht] at h
      subst h
      rfl
  unfold Region.wanted
  rw [hg]
  simp [hy]

theorem not_dst {l : List Oper} {t : Tmp} (h : (l.all fun o => o.dst != some t) = true) : ∀ o ∈ l, o.dst ≠ some t := fun o ho => by
  have := List.all_eq_true.1 h o ho
  simpa using this

theorem nf {a : Act} {t : Tmp} {v : Value} (h : a.eval (.tmp t) = v) : a.tmps[t]?.getD undef = v := by
  rw [← Array.getD_eq_getD_getElem?]
  exact h

/-- What an operation leaves. -/
inductive Fact where
  | val (v : Value)
  | hs (L : List (List UInt8))
def Fact.holds : Fact → Value → World → Prop
  | .val v0, v, _ => v = v0
  | .hs L, v, w => ∃ g, v = .slice (some ⟨g, 0, none⟩) L.length L.length ∧ RowOf w g L.length L
theorem Fact.kept (f : Fact) (v : Value) (w w' : World) (h : f.holds v w) (hb : Below w.heap.size w w') : f.holds v w' := by
  cases f with
  | val v0 => exact h
  | hs L =>
    obtain ⟨g, hv, hr⟩ := h
    exact ⟨g, hv, hr.kept hb⟩

def aS : List UInt8 := shaS ⟨#[97]⟩
theorem hashes_one {w : World} {g : Nat} {y : List UInt8} (h : RowOf w g 1 [y]) : Hashes w (.slice (some ⟨g, 0, none⟩) 1 1) [y] := h.hashes (cap := 1)

set_option maxRecDepth 100000 in
set_option maxHeartbeats 6400000 in
theorem works4 (w : World) : Calls Try.prog 16 #[] w fun e w' => e = .returned (.bool true) ∧ Below w.heap.size w w' := by
  have HSU := Lib.hid (fun w => code_sum ⟨#[97]⟩ (by decide) w)
  obtain ⟨y, hy⟩ : ∃ y, shaS ⟨#[97]⟩ = y := ⟨_, rfl⟩
  have hyl : y.length = 32 := by rw [← hy]; rfl
  rw [hy] at HSU
  have h32 : H32 [y] := fun z hz => by simp at hz; subst hz; exact hyl
  have HRT := Lib.hid (fun (w : World) (g : Nat) (h : RowOf w g 1 [y]) => code_Root (.slice (some ⟨g, 0, none⟩) 1 1) [y] w (hashes_one h) h32 (by simp))
  have HRR := Lib.hid (fun (w : World) (g : Nat) (h : RowOf w g 1 [y]) => ref_Root (.slice (some ⟨g, 0, none⟩) 1 1) [y] w (hashes_one h) h32 (by simp))
  have HC0 := Lib.hid (fun w => code_Check1 y hyl none 0 0 (by omega) w)
  have HC1 := Lib.hid (fun w (g : Nat) => code_Check1 y hyl (some ⟨g, 0, none⟩) 1 1 (by omega) w)
  have hrA : rootF 1 (leafF y) = rootA [y] := rfl
  rw [hrA] at HC0 HC1
  have HE := fun w => eqIn_hash (rootA [y]) (rootA [y]) rfl rfl w
  rw [show (rootA [y] == rootA [y]) = true by simp] at HE
  have HRW := Lib.hid (row32 y hyl)
  obtain ⟨CR, hCR⟩ : ∃ C, (valsB (rootA [y])).toArray = C := ⟨_, rfl⟩
  obtain ⟨CY, hcs⟩ : ∃ C, (valsB y).toArray = C := ⟨_, rfl⟩
  rw [hCR] at HRT HRR HC0 HC1 HE
  rw [hcs] at HSU HC0 HC1 HRW
  have HCY := Lib.hid hcs
  have HYL := Lib.hid hyl
  have HY32 := Lib.hid (show 32 = CY.size from HRW.out.size.symm)
  clear hrA hCR hcs hyl hy h32
  go_enter Try.func16, Try.ntmps16
  go_wp2_with fail
  refine (HSU.out _).mono ?_
  rintro e w1 ⟨rfl, hb1⟩
  have HB1 := Lib.hid hb1
  clear hb1
  go_upto_region 2 with (refine wpList_store_row rfl 23 (.tmp 1) (.tmp 2) rfl w1.heap.size CY rfl rfl 23 _ (heap_alloc_new _ _) HRW.out.info HY32.out HRW.out.one ?_; rw [World.setRow_alloc_new])
  have HB2 := Lib.hid (HB1.out.trans ((((Below.refl w1.heap.size w1).alloc (Nat.le_refl _) (.cells CY 23))).mono HB1.out.size))
  have HG := Lib.hid (heap_alloc_new w1 (.cells CY 23))
  obtain ⟨gA, hgA⟩ : ∃ g, w1.heap.size = g := ⟨_, rfl⟩
  rw [hgA] at HG
  rw [hgA]
  clear hgA
  generalize w1.alloc (.cells CY 23) = W at HB2 HG ⊢
  have HLT := Lib.hid ((Array.getElem?_eq_some_iff.1 HG.out).1)
  go_wp2_with fail
  refine QT.wp_region_facts (by kernel_rfl) (fun w' => Below W.heap.size W w') (fun i v w' => (([.val (.agg CY), .hs [y], .val (.agg CR), .val (.agg CY), .hs [y], .val (.agg CR), .val (.bool true), .val (.bool true), .val (.agg CY), .hs [y], .val (.agg CR), .val (.agg CY), .val (.bool true), .val (.bool true), .val (.bool true), .val (.agg CY), .hs [y], .val (.agg CR), .val (.agg CY), .val (.agg CY), .hs [y], .val (.bool false), .val (.bool true), .val (.bool true), .val (.bool true)] : List Fact).getD i (.val undef) : Fact).holds v w') (by kernel_rfl) (by kernel_rfl) (Below.refl _ _).drew (fun w1 w2 h1 hb => h1.trans (hb.mono h1.size)) (fun i v w1 w2 h hb => Fact.kept _ v w1 w2 h hb) (fun i o hi a w hI hag hdep => ?_) (fun a w hI hag hf => ?_)
  · have h1 : a.eval (.tmp 1) = .pointer (some ⟨gA, 0, none⟩) := by
      have h0 := hag.same 1 (not_dst (by kernel_rfl))
      show a.tmps.getD 1 undef = _
      rw [Array.getD_eq_getD_getElem?, h0]
      rfl
    match i, hi with
    | 0, hi =>
      obtain rfl := (Option.some.inj hi).symm
      refine ⟨rfl, ?_⟩
      exact wp_load_row 23 (.tmp 1) rfl gA h1 23 CY (0, 0) _ ((hI.block gA HLT.out).trans HG.out) Try.underlying23 rfl HRW.out.info ⟨_, rfl, rfl, Below.refl _ _⟩
    | 1, hi =>
      obtain rfl := (Option.some.inj hi).symm
      have d0 : a.eval (.tmp 3) = (.agg CY) := hdep _ (Array.mem_of_getElem? (i := 0) rfl) rfl _ _ rfl rfl
      refine ⟨rfl, ?_⟩
      exact wp_build1 (.tmp 3) rfl y HYL.out CY HCY.out d0 fun g w' hr hb => ⟨_, rfl, ⟨g, rfl, hr⟩, hb⟩
    | 2, hi =>
      obtain rfl := (Option.some.inj hi).symm
      have d1 : ∃ g, a.eval (.tmp 4) = .slice (some ⟨g, 0, none⟩) 1 1 ∧ RowOf w g 1 [y] := hdep _ (Array.mem_of_getElem? (i := 0) rfl) rfl _ _ rfl rfl
      refine ⟨rfl, ?_⟩
      obtain ⟨g, e1, r1⟩ := d1
      exact wp_enter (f := 17) (args := #[.slice (some ⟨g, 0, none⟩) 1 1]) (by simp [go_sem, nf e1]) (HRT.out w g r1) fun w' hb => ⟨_, rfl, rfl, hb⟩
    | 3, hi =>
      obtain rfl := (Option.some.inj hi).symm
      refine ⟨rfl, ?_⟩
      exact wp_load_row 23 (.tmp 1) rfl gA h1 23 CY (0, 0) _ ((hI.block gA HLT.out).trans HG.out) Try.underlying23 rfl HRW.out.info ⟨_, rfl, rfl, Below.refl _ _⟩
    | 4, hi =>
      obtain rfl := (Option.some.inj hi).symm
      have d3 : a.eval (.tmp 6) = (.agg CY) := hdep _ (Array.mem_of_getElem? (i := 0) rfl) rfl _ _ rfl rfl
      refine ⟨rfl, ?_⟩
      exact wp_build1 (.tmp 6) rfl y HYL.out CY HCY.out d3 fun g w' hr hb => ⟨_, rfl, ⟨g, rfl, hr⟩, hb⟩
    | 5, hi =>
      obtain rfl := (Option.some.inj hi).symm
      have d4 : ∃ g, a.eval (.tmp 7) = .slice (some ⟨g, 0, none⟩) 1 1 ∧ RowOf w g 1 [y] := hdep _ (Array.mem_of_getElem? (i := 0) rfl) rfl _ _ rfl rfl
      refine ⟨rfl, ?_⟩
      obtain ⟨g, e4, r4⟩ := d4
      exact wp_enter (f := 42) (args := #[.slice (some ⟨g, 0, none⟩) 1 1]) (by simp [go_sem, nf e4]) (HRR.out w g r4) fun w' hb => ⟨_, rfl, rfl, hb⟩
    | 6, hi =>
      obtain rfl := (Option.some.inj hi).symm
      have d2 : a.eval (.tmp 5) = (.agg CR) := hdep _ (Array.mem_of_getElem? (i := 0) rfl) rfl _ _ rfl rfl
      have d5 : a.eval (.tmp 8) = (.agg CR) := hdep _ (Array.mem_of_getElem? (i := 1) rfl) rfl _ _ rfl rfl
      refine ⟨rfl, ?_⟩
      exact wp_value (by have := HE w; simp [go_sem, nf d2, nf d5, this]) ⟨_, rfl, rfl, Below.refl _ _⟩
    | 7, hi =>
      obtain rfl := (Option.some.inj hi).symm
      have d6 : a.eval (.tmp 9) = (.bool true) := hdep _ (Array.mem_of_getElem? (i := 0) rfl) rfl _ _ rfl rfl
      refine ⟨rfl, ?_⟩
      exact wp_value (BigFrame.run_move (.tmp 9) rfl w) ⟨_, rfl, d6, Below.refl _ _⟩
    | 8, hi =>
      obtain rfl := (Option.some.inj hi).symm
      have d7 : a.eval (.tmp 10) = (.bool true) := hdep _ (Array.mem_of_getElem? (i := 0) rfl) rfl _ _ rfl rfl
      refine ⟨wanted_of rfl rfl rfl d7, ?_⟩
      exact wp_load_row 23 (.tmp 1) rfl gA h1 23 CY (0, 0) _ ((hI.block gA HLT.out).trans HG.out) Try.underlying23 rfl HRW.out.info ⟨_, rfl, rfl, Below.refl _ _⟩
    | 9, hi =>
      obtain rfl := (Option.some.inj hi).symm
      have d8 : a.eval (.tmp 11) = (.agg CY) := hdep _ (Array.mem_of_getElem? (i := 0) rfl) rfl _ _ rfl rfl
      have d7 : a.eval (.tmp 10) = (.bool true) := hdep _ (Array.mem_of_getElem? (i := 1) rfl) rfl _ _ rfl rfl
      refine ⟨wanted_of rfl rfl rfl d7, ?_⟩
      exact wp_build1 (.tmp 11) rfl y HYL.out CY HCY.out d8 fun g w' hr hb => ⟨_, rfl, ⟨g, rfl, hr⟩, hb⟩
    | 10, hi =>
      obtain rfl := (Option.some.inj hi).symm
      have d9 : ∃ g, a.eval (.tmp 12) = .slice (some ⟨g, 0, none⟩) 1 1 ∧ RowOf w g 1 [y] := hdep _ (Array.mem_of_getElem? (i := 0) rfl) rfl _ _ rfl rfl
      have d7 : a.eval (.tmp 10) = (.bool true) := hdep _ (Array.mem_of_getElem? (i := 2) rfl) rfl _ _ rfl rfl
      refine ⟨wanted_of rfl rfl rfl d7, ?_⟩
      obtain ⟨g, e9, r9⟩ := d9
      exact wp_enter (f := 17) (args := #[.slice (some ⟨g, 0, none⟩) 1 1]) (by simp [go_sem, nf e9]) (HRT.out w g r9) fun w' hb => ⟨_, rfl, rfl, hb⟩
    | 11, hi =>
      obtain rfl := (Option.some.inj hi).symm
      have d7 : a.eval (.tmp 10) = (.bool true) := hdep _ (Array.mem_of_getElem? (i := 0) rfl) rfl _ _ rfl rfl
      refine ⟨wanted_of rfl rfl rfl d7, ?_⟩
      exact wp_load_row 23 (.tmp 1) rfl gA h1 23 CY (0, 0) _ ((hI.block gA HLT.out).trans HG.out) Try.underlying23 rfl HRW.out.info ⟨_, rfl, rfl, Below.refl _ _⟩
    | 12, hi =>
      obtain rfl := (Option.some.inj hi).symm
      have d10 : a.eval (.tmp 13) = (.agg CR) := hdep _ (Array.mem_of_getElem? (i := 0) rfl) rfl _ _ rfl rfl
      have d11 : a.eval (.tmp 14) = (.agg CY) := hdep _ (Array.mem_of_getElem? (i := 1) rfl) rfl _ _ rfl rfl
      have d7 : a.eval (.tmp 10) = (.bool true) := hdep _ (Array.mem_of_getElem? (i := 3) rfl) rfl _ _ rfl rfl
      refine ⟨wanted_of rfl rfl rfl d7, ?_⟩
      exact wp_enter (f := 20) (args := #[.agg CR, .int .i64 1, .int .i64 0, .agg CY, .slice none 0 0]) (by simp [go_sem, nf d10, nf d11]) (HC0.out w) fun w' hb => ⟨_, rfl, rfl, hb⟩
    | 13, hi =>
      obtain rfl := (Option.some.inj hi).symm
      have d7 : a.eval (.tmp 10) = (.bool true) := hdep _ (Array.mem_of_getElem? (i := 0) rfl) rfl _ _ rfl rfl
      have d12 : a.eval (.tmp 15) = (.bool true) := hdep _ (Array.mem_of_getElem? (i := 1) rfl) rfl _ _ rfl rfl
      refine ⟨rfl, ?_⟩
      exact wp_value (v := .bool true) (by simp [go_sem, nf d7, nf d12]) ⟨_, rfl, rfl, Below.refl _ _⟩
    | 14, hi =>
      obtain rfl := (Option.some.inj hi).symm
      have d13 : a.eval (.tmp 16) = (.bool true) := hdep _ (Array.mem_of_getElem? (i := 0) rfl) rfl _ _ rfl rfl
      refine ⟨rfl, ?_⟩
      exact wp_value (BigFrame.run_move (.tmp 16) rfl w) ⟨_, rfl, d13, Below.refl _ _⟩
    | 15, hi =>
      obtain rfl := (Option.some.inj hi).symm
      have d14 : a.eval (.tmp 17) = (.bool true) := hdep _ (Array.mem_of_getElem? (i := 0) rfl) rfl _ _ rfl rfl
      refine ⟨wanted_of rfl rfl rfl d14, ?_⟩
      exact wp_load_row 23 (.tmp 1) rfl gA h1 23 CY (0, 0) _ ((hI.block gA HLT.out).trans HG.out) Try.underlying23 rfl HRW.out.info ⟨_, rfl, rfl, Below.refl _ _⟩
    | 16, hi =>
      obtain rfl := (Option.some.inj hi).symm
      have d15 : a.eval (.tmp 18) = (.agg CY) := hdep _ (Array.mem_of_getElem? (i := 0) rfl) rfl _ _ rfl rfl
      have d14 : a.eval (.tmp 17) = (.bool true) := hdep _ (Array.mem_of_getElem? (i := 1) rfl) rfl _ _ rfl rfl
      refine ⟨wanted_of rfl rfl rfl d14, ?_⟩
      exact wp_build1 (.tmp 18) rfl y HYL.out CY HCY.out d15 fun g w' hr hb => ⟨_, rfl, ⟨g, rfl, hr⟩, hb⟩
    | 17, hi =>
      obtain rfl := (Option.some.inj hi).symm
      have d16 : ∃ g, a.eval (.tmp 19) = .slice (some ⟨g, 0, none⟩) 1 1 ∧ RowOf w g 1 [y] := hdep _ (Array.mem_of_getElem? (i := 0) rfl) rfl _ _ rfl rfl
      have d14 : a.eval (.tmp 17) = (.bool true) := hdep _ (Array.mem_of_getElem? (i := 2) rfl) rfl _ _ rfl rfl
      refine ⟨wanted_of rfl rfl rfl d14, ?_⟩
      obtain ⟨g, e16, r16⟩ := d16
      exact wp_enter (f := 17) (args := #[.slice (some ⟨g, 0, none⟩) 1 1]) (by simp [go_sem, nf e16]) (HRT.out w g r16) fun w' hb => ⟨_, rfl, rfl, hb⟩
    | 18, hi =>
      obtain rfl := (Option.some.inj hi).symm
      have d14 : a.eval (.tmp 17) = (.bool true) := hdep _ (Array.mem_of_getElem? (i := 0) rfl) rfl _ _ rfl rfl
      refine ⟨wanted_of rfl rfl rfl d14, ?_⟩
      exact wp_load_row 23 (.tmp 1) rfl gA h1 23 CY (0, 0) _ ((hI.block gA HLT.out).trans HG.out) Try.underlying23 rfl HRW.out.info ⟨_, rfl, rfl, Below.refl _ _⟩
    | 19, hi =>
      obtain rfl := (Option.some.inj hi).symm
      have d14 : a.eval (.tmp 17) = (.bool true) := hdep _ (Array.mem_of_getElem? (i := 0) rfl) rfl _ _ rfl rfl
      refine ⟨wanted_of rfl rfl rfl d14, ?_⟩
      exact wp_load_row 23 (.tmp 1) rfl gA h1 23 CY (0, 0) _ ((hI.block gA HLT.out).trans HG.out) Try.underlying23 rfl HRW.out.info ⟨_, rfl, rfl, Below.refl _ _⟩
    | 20, hi =>
      obtain rfl := (Option.some.inj hi).symm
      have d19 : a.eval (.tmp 22) = (.agg CY) := hdep _ (Array.mem_of_getElem? (i := 0) rfl) rfl _ _ rfl rfl
      have d14 : a.eval (.tmp 17) = (.bool true) := hdep _ (Array.mem_of_getElem? (i := 1) rfl) rfl _ _ rfl rfl
      refine ⟨wanted_of rfl rfl rfl d14, ?_⟩
      exact wp_build1 (.tmp 22) rfl y HYL.out CY HCY.out d19 fun g w' hr hb => ⟨_, rfl, ⟨g, rfl, hr⟩, hb⟩
    | 21, hi =>
      obtain rfl := (Option.some.inj hi).symm
      have d17 : a.eval (.tmp 20) = (.agg CR) := hdep _ (Array.mem_of_getElem? (i := 0) rfl) rfl _ _ rfl rfl
      have d18 : a.eval (.tmp 21) = (.agg CY) := hdep _ (Array.mem_of_getElem? (i := 1) rfl) rfl _ _ rfl rfl
      have d20 : ∃ g, a.eval (.tmp 23) = .slice (some ⟨g, 0, none⟩) 1 1 ∧ RowOf w g 1 [y] := hdep _ (Array.mem_of_getElem? (i := 2) rfl) rfl _ _ rfl rfl
      have d14 : a.eval (.tmp 17) = (.bool true) := hdep _ (Array.mem_of_getElem? (i := 4) rfl) rfl _ _ rfl rfl
      refine ⟨wanted_of rfl rfl rfl d14, ?_⟩
      obtain ⟨g, e20, r20⟩ := d20
      exact wp_enter (f := 20) (args := #[.agg CR, .int .i64 1, .int .i64 0, .agg CY, .slice (some ⟨g, 0, none⟩) 1 1]) (by simp [go_sem, nf d17, nf d18, nf e20]) (HC1.out w g) fun w' hb => ⟨_, rfl, rfl, hb⟩
    | 22, hi =>
      obtain rfl := (Option.some.inj hi).symm
      have d21 : a.eval (.tmp 24) = (.bool false) := hdep _ (Array.mem_of_getElem? (i := 0) rfl) rfl _ _ rfl rfl
      have d14 : a.eval (.tmp 17) = (.bool true) := hdep _ (Array.mem_of_getElem? (i := 1) rfl) rfl _ _ rfl rfl
      refine ⟨wanted_of rfl rfl rfl d14, ?_⟩
      exact wp_value (v := .bool true) (by simp [go_sem, nf d21]) ⟨_, rfl, rfl, Below.refl _ _⟩
    | 23, hi =>
      obtain rfl := (Option.some.inj hi).symm
      have d14 : a.eval (.tmp 17) = (.bool true) := hdep _ (Array.mem_of_getElem? (i := 0) rfl) rfl _ _ rfl rfl
      have d22 : a.eval (.tmp 25) = (.bool true) := hdep _ (Array.mem_of_getElem? (i := 1) rfl) rfl _ _ rfl rfl
      refine ⟨rfl, ?_⟩
      exact wp_value (v := .bool true) (by simp [go_sem, nf d14, nf d22]) ⟨_, rfl, rfl, Below.refl _ _⟩
    | 24, hi =>
      obtain rfl := (Option.some.inj hi).symm
      have d23 : a.eval (.tmp 26) = (.bool true) := hdep _ (Array.mem_of_getElem? (i := 0) rfl) rfl _ _ rfl rfl
      refine ⟨rfl, ?_⟩
      exact wp_value (BigFrame.run_assign (.tmp 26) rfl w) ⟨_, rfl, d23, Below.refl _ _⟩
    | n + 25, hi => simp at hi
  · have h24 : a.eval (.tmp 0) = .bool true := hf 24 _ _ rfl rfl
    have hde : a.defers = [] := hag.defers
    have h0 : a.tmps[0]?.getD undef = .bool true := nf h24
    go_wp2_with fail
    refine bodyPost_ret (v := .bool true) (by simp [results, Try.results16, go_sem, h0]) hde ⟨rfl, HB2.out.trans (hI.mono HB2.out.size)⟩
end Go.Proofs.Ytlalipomphgcoaa.Tree
