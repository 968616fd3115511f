/- crew: beside leavers: Fold as a contract. Made by wip/tools/crew/mkAw.py. -/
import Derived.Test.YtbckmkppmdfnnaaCrAv
import Derived.Laws.Slices
namespace Go.Proofs.Ytbckmkppmdfnnaa.Crew
open Go.Conc Go.RowKit Go.Conc.Lib Go.ConcR.Gen
section
variable {Z : Nat → Prop}
theorem ev_nil43 (f : FuncId) (cp : Array Value) (w : World) (es : Array Event) : (binOp .eql 43 (.func (.func f) #[] cp) .nilFunc).events Try.prog w es = es := by
  simp [binOp, Op.equal, go_sem]
  rw [show Op.maxDepth = (Op.maxDepth - 1) + 1 from rfl]
  obtain ⟨ps, rs, vr, h⟩ : ∃ ps rs vr, Try.prog.underlying 43 = some (.func ps rs vr) := ⟨_, _, _, rfl⟩
  unfold Op.equalIn
  simp [go_sem, run_underlying h]
theorem slice1 (Mk n : Nat) (h : 1 ≤ n) (w : World) : (Instr.sliceAt 29 (.slice (some ⟨Mk, 0, none⟩) n n) (some (.int .i64 1)) none none).run Try.prog w = .ok (.slice (some (if n = 1 then ⟨Mk, 0, none⟩ else ⟨Mk, 1, none⟩)) (n - 1) (n - 1)) w ∧ (Instr.sliceAt 29 (.slice (some ⟨Mk, 0, none⟩) n n) (some (.int .i64 1)) none none).events Try.prog w #[] = #[] := by
  have hU : Try.prog.underlying 29 = some (.slice (Try.prog.elem 29)) := by kernel_rfl
  have hi : (1 : Int) ≤ (n : Int) := by omega
  obtain ⟨ie, hie, hq⟩ := Option.map_eq_some_iff.1 info2
  simp only [Prod.mk.injEq] at hq
  have hE : Try.prog.elem 29 = 2 := by kernel_rfl
  have hS : (sizeOf (Try.prog.elem 29)).run Try.prog w = .ok 1 w := by rw [hE]; simp [sizeOf, typeInfo, hie, hq.2.1]
  refine ⟨?_, ?_⟩
  · rw [run_sliceAt_slice w 29 _ _ _ _ hU, run_slice_l w 29 _ n n hU .i64 1 (by omega) hi, hS]
    by_cases e : n = 1
    · simp [Result.andThen, sliced, e]
    · have e2 : ¬ (n = Int.toNat 1) := e
      simp [Result.andThen, sliced, e, Addr.add]
  · simp [Instr.sliceAt, Instr.slice, run_underlying hU, Instr.sliceBounds, Instr.sliceBound, asIntOf, hi, Result.evThen, sizeOf, typeInfo, hE, hie]
/-- Each over does, as a contract. -/
theorem EachD_cb {oa : Option Addr} {len cap kb kd : Nat} {wk : Int} {xs : Nat → Int} {w : World} (hZ : ∀ c, Z c → c < w.heap.size) (hM : len ≤ 1000000) (hL : Lists w Z oa len xs) (hv : FunAt w Z 35 kb (.int .u8 kd)) :
    CB 17 #[.slice oa len cap, .int .i64 wk, .func (.func 35) #[] #[.pointer (some ⟨kb, 0, none⟩)]] Z w (fun Z' v w' => Ext Z Z' w w' ∧ ∃ Mk, v = .slice (some ⟨Mk, 0, none⟩) len len ∧ Lists w' Z' (some ⟨Mk, 0, none⟩) len (fun p => doesF kd (xs p))) :=
  Each_cb (ψ := fun x => doesF kd x) hZ hM hL fun w2 Mk ho hMk => old_does (olds_cell ho hv.lt hv.cell) ⟨by have := ho.size; have := hv.lt; omega, by have := hv.lt; omega, hv.clean⟩
noncomputable def body22 : Code := Try.f22.body.getD .skip
noncomputable def L22 : Code := match body22 with | .seq _ (.seq _ (.seq _ (.seq _ (.seq (.seq _ (.block _ (.loop c))) _)))) => c | _ => .skip
noncomputable def E22 : Code := match body22 with | .seq _ (.seq _ (.seq _ (.seq _ (.seq _ c)))) => c | _ => .skip
set_option maxRecDepth 100000 in
set_option maxHeartbeats 2000000 in
theorem Fold_cb {oa : Option Addr} {n ca kb kd fb : Nat} {wk : Int} {xs : Nat → Int} {g : Int → Int → Int} {w : World} (hZ : ∀ c, Z c → c < w.heap.size) (hM : n ≤ 1000000) (hL : Lists w Z oa n xs) (hv : FunAt w Z 35 kb (.int .u8 kd))
    (hb : ∀ (Z : Nat → Prop) (a b : Int) (w : World), CB fb #[.int .i64 a, .int .i64 b] Z w (fun Z' v w' => Z = Z' ∧ w = w' ∧ v = .int .i64 (g a b))) :
    CB 22 #[.slice oa n ca, .int .i64 wk, .func (.func 35) #[] #[.pointer (some ⟨kb, 0, none⟩)], .func (.func fb) #[] #[]] Z w (fun Z' v w' => Ext Z Z' w w' ∧ v = foldV g n (fun p => doesF kd (xs p))) := by
  refine ⟨Try.f22, body22, Try.func22, by kernel_rfl, rfl, fun Stop b₀ a₀ ops i rest kk cs hnx => ?_⟩
  simp only [body22, Try.f22, Option.getD_some]
  walk_nrm
  rcases Nat.eq_zero_or_pos n with rfl | h0
  · refine BA.seq ?_
    refine BA.reg ?_
    simp only [List.size_toArray, List.length_cons, List.length_nil, Nat.reduceAdd, Nat.zero_add, List.range, List.range.loop]
    refine BA.op rfl rfl (by k_ne) fun w₁ r K hK => ?_
    go_simp
    refine hK _ (fun e he => ?_) ?_
    · have hm := mem_listed he
      simp [go_sem] at hm
    clear hK K r w₁
    refine BA.op rfl rfl (by k_ne) fun w₁ r K hK => ?_
    go_simp
    refine hK _ (fun e he => ?_) ?_
    · have hm := mem_listed he
      simp [go_sem] at hm
    clear hK K r w₁
    refine BA.regEnd ?_
    refine BA.seq ?_
    refine BA.reg ?_
    simp only [List.size_toArray, List.length_cons, List.length_nil, Nat.reduceAdd, Nat.zero_add, List.range, List.range.loop]
    refine BA.op rfl rfl (by k_ne) fun w₁ r K hK => ?_
    go_simp
    refine hK _ (fun e he => ?_) ?_
    · have hm := mem_listed he
      simp [go_sem] at hm
    clear hK K r w₁
    refine BA.op rfl rfl (by k_ne) fun w₁ r K hK => ?_
    go_simp
    refine hK _ (fun e he => ?_) ?_
    · have hm := mem_listed he
      simp [go_sem] at hm
    clear hK K r w₁
    refine BA.op rfl rfl (by k_ne) fun w₁ r K hK => ?_
    go_simp
    refine hK _ (fun e he => ?_) ?_
    · have hm := mem_listed he
      simp [go_sem] at hm
    clear hK K r w₁
    refine BA.call rfl rfl (by k_ne) rfl (by walk_nrm; exact EachD_cb hZ hM hL hv) fun Z1 v1 w1 hp => ?_
    obtain ⟨hX1, Mk, rfl, hL1⟩ := hp
    walk_nrm
    refine BA.op rfl rfl (by k_ne) fun w₁ r K hK => ?_
    go_simp
    refine hK _ (fun e he => ?_) ?_
    · have hm := mem_listed he
      simp [go_sem] at hm
    clear hK K r w₁
    refine BA.regEnd ?_
    refine BA.seq ?_
    refine BA.seq ?_
    refine BA.reg ?_
    simp only [List.size_toArray, List.length_cons, List.length_nil, Nat.reduceAdd, Nat.zero_add, List.range, List.range.loop]
    refine BA.op rfl rfl (by k_ne) fun w₁ r K hK => ?_
    go_simp
    refine hK _ (fun e he => ?_) ?_
    · have hm := mem_listed he
      simp [go_sem] at hm
    clear hK K r w₁
    refine BA.op rfl rfl (by k_ne) fun w₁ r K hK => ?_
    go_simp
    refine hK _ (fun e he => ?_) ?_
    · have hm := mem_listed he
      simp [go_sem] at hm
    clear hK K r w₁
    refine BA.op rfl rfl (by k_ne) fun w₁ r K hK => ?_
    go_simp
    refine hK _ (fun e he => ?_) ?_
    · have hm := mem_listed he
      simp [go_sem] at hm
    clear hK K r w₁
    refine BA.op rfl rfl (by k_ne) fun w₁ r K hK => ?_
    go_simp
    refine hK _ (fun e he => ?_) ?_
    · have hm := mem_listed he
      simp [go_sem] at hm
    clear hK K r w₁
    refine BA.unwanted rfl rfl ?_
    walk_nrm
    refine BA.unwanted rfl rfl ?_
    walk_nrm
    refine BA.unwanted rfl rfl ?_
    walk_nrm
    refine BA.unwanted rfl rfl ?_
    walk_nrm
    refine BA.unwanted rfl rfl ?_
    walk_nrm
    refine BA.unwanted rfl rfl ?_
    walk_nrm
    refine BA.unwanted rfl rfl ?_
    walk_nrm
    refine BA.op rfl rfl (by k_ne) fun w₁ r K hK => ?_
    go_simp
    refine hK _ (fun e he => ?_) ?_
    · have hm := mem_listed he
      simp [go_sem] at hm
    clear hK K r w₁
    refine BA.regEnd ?_
    refine BA.condT rfl ?_
    refine BA.seq ?_
    refine BA.reg ?_
    simp only [List.size_toArray, List.length_cons, List.length_nil, Nat.zero_add, List.range, List.range.loop]
    refine BA.op rfl rfl (by k_ne) fun w₁ r K hK => ?_
    go_simp
    refine hK _ (fun e he => ?_) ?_
    · have hm := mem_listed he
      simp [go_sem] at hm
    clear hK K r w₁
    refine BA.regEnd ?_
    refine BA.seq ?_
    refine BA.reg ?_
    simp only [List.size_toArray, List.length_cons, List.length_nil, Nat.reduceAdd, Nat.zero_add, List.range, List.range.loop]
    refine BA.op rfl rfl (by k_ne) fun w₁ r K hK => ?_
    go_simp
    refine hK _ (fun e he => ?_) ?_
    · have hm := mem_listed he
      simp [go_sem] at hm
    clear hK K r w₁
    refine BA.op rfl rfl (by k_ne) fun w₁ r K hK => ?_
    go_simp
    refine hK _ (fun e he => ?_) ?_
    · have hm := mem_listed he
      simp [go_sem] at hm
    clear hK K r w₁
    refine BA.op rfl rfl (by k_ne) fun w₁ r K hK => ?_
    go_simp
    refine hK _ (fun e he => ?_) ?_
    · have hm := mem_listed he
      simp [go_sem] at hm
    clear hK K r w₁
    refine BA.regEnd ?_
    refine BA.ret ?_
    refine BA.leave2 Try.func22 rfl ?_
    exact hnx _ _ _ ⟨hX1, by simp [foldV]⟩
  have hn0 : ((n : Int) == 0) = false := by simp; omega
  refine BA.seq ?_
  refine BA.reg ?_
  simp only [List.size_toArray, List.length_cons, List.length_nil, Nat.reduceAdd, Nat.zero_add, List.range, List.range.loop]
  refine BA.op rfl rfl (by k_ne) fun w₁ r K hK => ?_
  go_simp
  refine hK _ (fun e he => ?_) ?_
  · have hm := mem_listed he
    simp [go_sem] at hm
  clear hK K r w₁
  refine BA.op rfl rfl (by k_ne) fun w₁ r K hK => ?_
  go_simp
  refine hK _ (fun e he => ?_) ?_
  · have hm := mem_listed he
    simp [go_sem] at hm
  clear hK K r w₁
  refine BA.regEnd ?_
  refine BA.seq ?_
  refine BA.reg ?_
  simp only [List.size_toArray, List.length_cons, List.length_nil, Nat.reduceAdd, Nat.zero_add, List.range, List.range.loop]
  refine BA.op rfl rfl (by k_ne) fun w₁ r K hK => ?_
  go_simp
  refine hK _ (fun e he => ?_) ?_
  · have hm := mem_listed he
    simp [go_sem] at hm
  clear hK K r w₁
  refine BA.op rfl rfl (by k_ne) fun w₁ r K hK => ?_
  go_simp
  refine hK _ (fun e he => ?_) ?_
  · have hm := mem_listed he
    simp [go_sem] at hm
  clear hK K r w₁
  refine BA.op rfl rfl (by k_ne) fun w₁ r K hK => ?_
  go_simp
  refine hK _ (fun e he => ?_) ?_
  · have hm := mem_listed he
    simp [go_sem] at hm
  clear hK K r w₁
  refine BA.call rfl rfl (by k_ne) rfl (by walk_nrm; exact EachD_cb hZ hM hL hv) fun Z1 v1 w1 hp => ?_
  obtain ⟨hX1, Mk, rfl, hL1⟩ := hp
  walk_nrm
  obtain ⟨x1, x2, x3⟩ := hL1.el ⟨Mk, 0, none⟩ 0 rfl h0
  rw [show (⟨Mk, 0, none⟩ : Addr).add 0 = ⟨Mk, 0, none⟩ by simp [Addr.add]] at x1 x2 x3
  refine BA.op rfl rfl (by k_ne) fun w₁ r K hK => ?_
  go_simp
  refine hK _ (fun e he => ?_) ?_
  · have hm := mem_listed he
    simp [go_sem] at hm
  clear hK K r w₁
  refine BA.regEnd ?_
  refine BA.seq ?_
  refine BA.seq ?_
  refine BA.reg ?_
  simp only [List.size_toArray, List.length_cons, List.length_nil, Nat.reduceAdd, Nat.zero_add, List.range, List.range.loop]
  refine BA.op rfl rfl (by k_ne) fun w₁ r K hK => ?_
  go_simp
  refine hK _ (fun e he => ?_) ?_
  · have hm := mem_listed he
    simp [go_sem] at hm
  clear hK K r w₁
  refine BA.op rfl rfl (by k_ne) fun w₁ r K hK => ?_
  go_simp
  refine hK _ (fun e he => ?_) ?_
  · have hm := mem_listed he
    simp [go_sem] at hm
  clear hK K r w₁
  refine BA.op rfl rfl (by k_ne) fun w₁ r K hK => ?_
  go_simp
  refine hK _ (fun e he => ?_) ?_
  · have hm := mem_listed he
    simp [go_sem] at hm
  clear hK K r w₁
  refine BA.op rfl rfl (by k_ne) fun w₁ r K hK => ?_
  go_simp
  refine hK _ (fun e he => ?_) ?_
  · have hm := mem_listed he
    simp [go_sem] at hm
  clear hK K r w₁
  refine BA.op rfl rfl (by k_ne) fun w₁ r K hK => ?_
  go_simp
  refine hK _ (fun e he => ?_) ?_
  · have hm := mem_listed he
    simp [go_sem] at hm
  clear hK K r w₁
  refine BA.op rfl rfl (by k_ne) fun w₁ r K hK => ?_
  go_simp
  refine hK _ (fun e he => ?_) ?_
  · have hm := mem_listed he
    simp [go_sem, ev_nil43] at hm
  clear hK K r w₁
  refine BA.op rfl rfl (by k_ne) fun w₁ r K hK => ?_
  go_simp
  refine hK _ (fun e he => ?_) ?_
  · have hm := mem_listed he
    simp [go_sem] at hm
  clear hK K r w₁
  refine BA.unwanted rfl rfl ?_
  walk_nrm
  refine BA.unwanted rfl rfl ?_
  walk_nrm
  refine BA.unwanted rfl rfl ?_
  walk_nrm
  refine BA.op rfl rfl (by k_ne) fun w₁ r K hK => ?_
  go_simp
  refine hK _ (fun e he => ?_) ?_
  · have hm := mem_listed he
    simp [go_sem] at hm
  clear hK K r w₁
  refine BA.op rfl rfl (by k_ne) fun w₁ r K hK => ?_
  go_simp
  refine hK _ (fun e he => ?_) ?_
  · have hm := mem_listed he
    simp [go_sem] at hm
  clear hK K r w₁
  refine BA.regEnd ?_
  refine BA.condF rfl ?_
  refine BA.skip ?_
  refine BA.seq ?_
  refine BA.reg ?_
  simp only [List.size_toArray, List.length_cons, List.length_nil, Nat.reduceAdd, Nat.zero_add, List.range, List.range.loop]
  refine BA.op rfl rfl (by k_ne) fun w₁ r K hK => ?_
  go_simp
  refine hK _ (fun e he => ?_) ?_
  · have hm := mem_listed he
    simp [go_sem] at hm
  clear hK K r w₁
  refine BA.op rfl rfl (by k_ne) fun w₁ r K hK => ?_
  go_simp
  refine hK _ (fun e he => ?_) ?_
  · have hm := mem_listed he
    simp [go_sem, h0] at hm
  clear hK K r w₁
  refine BA.op rfl rfl (by k_ne) fun w₁ r K hK => ?_
  have hcell := cell_atR r (x1)
  go_simp
  refine hK _ (fun e he => ?_) ?_
  · have hm := mem_listed he
    simp [go_sem, hcell] at hm
    subst hm
    exact evC_cell false (x3)
  clear hcell hK K r w₁
  refine BA.op rfl rfl (by k_ne) fun w₁ r K hK => ?_
  go_simp
  refine hK _ (fun e he => ?_) ?_
  · have hm := mem_listed he
    simp [go_sem] at hm
  clear hK K r w₁
  refine BA.regEnd ?_
  refine BA.seq ?_
  refine BA.seq ?_
  refine BA.reg ?_
  simp only [List.size_toArray, List.length_cons, List.length_nil, Nat.reduceAdd, Nat.zero_add, List.range, List.range.loop]
  refine BA.op rfl rfl (by k_ne) fun w₁ r K hK => ?_
  go_simp
  refine hK _ (fun e he => ?_) ?_
  · have hm := mem_listed he
    simp [go_sem] at hm
  clear hK K r w₁
  have hn1 : (1 : Int) ≤ (n : Int) := by omega
  have key : ∀ (s1 : Value) (j0 : Nat), j0 = n - 1 → (∀ q, q < j0 → ∃ a, s1 = .slice (some a) j0 j0 ∧ w1.cell? (a.add q) = some (.int .i64 (doesF kd (xs (q + 1)))) ∧ ¬ Z1 (a.add q).block) → ∀ (j k : Nat), j + k = j0 → ∀ u4 u5 u6 u7 u10 u11 u13 u14 u15 u16 u17 u18 u19 u20 u21 u22 u23 u24 u25 u26 u27 u28 u29 u30 u31 u32 u33 u34 u35 u39 u40 u41 u42 u43 u44 u45 u46 u47 : Value, BA Stop Z1 (G ((base 22).at ⟨#[.slice oa n ca, .int .i64 wk, .func (.func 35) #[] #[.pointer (some ⟨kb, 0, none⟩)], .func (.func fb) #[] #[], u4, u5, u6, u7, .int .i64 0, .bool false, u10, u11, .int .i64 (foldN g (fun p => doesF kd (xs p)) k), u13, u14, u15, u16, u17, u18, u19, u20, u21, u22, u23, u24, u25, u26, u27, u28, u29, u30, u31, u32, u33, u34, u35, s1, .int .i64 (j0 : Nat), .int .i64 (k : Nat), u39, u40, u41, u42, u43, u44, u45, u46, u47], []⟩ [.code L22, .inLoop L22, .inBlock 0, .code E22]) (b₀.at a₀ (.inRegion ops (i :: rest) :: kk) :: cs)) w1 := by
    intro s1 j0 hj hs1 j
    have hJ := Go.Lib.hid hj
    clear hj
    induction j with
    | zero =>
      intro k hk u4 u5 u6 u7 u10 u11 u13 u14 u15 u16 u17 u18 u19 u20 u21 u22 u23 u24 u25 u26 u27 u28 u29 u30 u31 u32 u33 u34 u35 u39 u40 u41 u42 u43 u44 u45 u46 u47
      obtain rfl : k = j0 := by omega
      simp only [L22, E22, body22, Try.f22, Option.getD_some]
      refine BA.seq ?_
      refine BA.reg ?_
      simp only [List.size_toArray, List.length_cons, List.length_nil, Nat.zero_add, List.range, List.range.loop]
      refine BA.op rfl rfl (by k_ne) fun w₁ r K hK => ?_
      go_simp
      refine hK _ (fun e he => ?_) ?_
      · have hm := mem_listed he
        simp [go_sem] at hm
      clear hK K r w₁
      refine BA.regEnd ?_
      refine BA.seq ?_
      refine BA.condF rfl ?_
      refine BA.exit rfl ?_
      refine BA.seq ?_
      refine BA.reg ?_
      simp only [List.size_toArray, List.length_cons, List.length_nil, Nat.reduceAdd, Nat.zero_add, List.range, List.range.loop]
      refine BA.op rfl rfl (by k_ne) fun w₁ r K hK => ?_
      go_simp
      refine hK _ (fun e he => ?_) ?_
      · have hm := mem_listed he
        simp [go_sem] at hm
      clear hK K r w₁
      refine BA.op rfl rfl (by k_ne) fun w₁ r K hK => ?_
      go_simp
      refine hK _ (fun e he => ?_) ?_
      · have hm := mem_listed he
        simp [go_sem] at hm
      clear hK K r w₁
      refine BA.op rfl rfl (by k_ne) fun w₁ r K hK => ?_
      go_simp
      refine hK _ (fun e he => ?_) ?_
      · have hm := mem_listed he
        simp [go_sem] at hm
      clear hK K r w₁
      refine BA.regEnd ?_
      refine BA.ret ?_
      refine BA.leave2 Try.func22 rfl ?_
      exact hnx _ _ _ ⟨hX1, by simp [foldV, h0, ← hJ.out]; omega⟩
    | succ j ih =>
      intro k hk u4 u5 u6 u7 u10 u11 u13 u14 u15 u16 u17 u18 u19 u20 u21 u22 u23 u24 u25 u26 u27 u28 u29 u30 u31 u32 u33 u34 u35 u39 u40 u41 u42 u43 u44 u45 u46 u47
      have hlt : k < j0 := by omega
      have hlt' : (k : Int) < (j0 : Int) := by omega
      obtain ⟨a1, es1, x1, x3⟩ := hs1 k hlt
      have hS1 := Go.Lib.hid es1.symm
      clear es1
      have hwr : IntKind.i64.wrap ((k : Int) + 1) = ((k + 1 : Nat) : Int) := by have := hJ.out; unfold IntKind.wrap; simp [IntKind.bits, IntKind.signed]; omega
      simp only [L22, E22, body22, Try.f22, Option.getD_some]
      refine BA.seq ?_
      refine BA.reg ?_
      simp only [List.size_toArray, List.length_cons, List.length_nil, Nat.zero_add, List.range, List.range.loop]
      refine BA.op rfl rfl (by k_ne) fun w₁ r K hK => ?_
      go_simp
      refine hK _ (fun e he => ?_) ?_
      · have hm := mem_listed he
        simp [go_sem] at hm
      clear hK K r w₁
      refine BA.regEnd ?_
      refine BA.seq ?_
      refine BA.condT rfl ?_
      refine BA.skip ?_
      refine BA.seq ?_
      refine BA.block ?_
      refine BA.seq ?_
      refine BA.reg ?_
      simp only [List.size_toArray, List.length_cons, List.length_nil, Nat.reduceAdd, Nat.zero_add, List.range, List.range.loop]
      rw [← hS1.out]
      refine BA.op rfl rfl (by k_ne) fun w₁ r K hK => ?_
      go_simp
      refine hK _ (fun e he => ?_) ?_
      · have hm := mem_listed he
        simp [go_sem, hlt] at hm
      clear hK K r w₁
      rw [hS1.out]
      refine BA.op rfl rfl (by k_ne) fun w₁ r K hK => ?_
      have hcell := cell_atR r (x1)
      go_simp
      refine hK _ (fun e he => ?_) ?_
      · have hm := mem_listed he
        simp [go_sem, hcell] at hm
        subst hm
        exact evC_cell false (x3)
      clear hcell hK K r w₁
      refine BA.op rfl rfl (by k_ne) fun w₁ r K hK => ?_
      go_simp
      refine hK _ (fun e he => ?_) ?_
      · have hm := mem_listed he
        simp [go_sem] at hm
      clear hK K r w₁
      refine BA.regEnd ?_
      refine BA.reg ?_
      simp only [List.size_toArray, List.length_cons, List.length_nil, Nat.reduceAdd, Nat.zero_add, List.range, List.range.loop]
      refine BA.op rfl rfl (by k_ne) fun w₁ r K hK => ?_
      go_simp
      refine hK _ (fun e he => ?_) ?_
      · have hm := mem_listed he
        simp [go_sem] at hm
      clear hK K r w₁
      refine BA.op rfl rfl (by k_ne) fun w₁ r K hK => ?_
      go_simp
      refine hK _ (fun e he => ?_) ?_
      · have hm := mem_listed he
        simp [go_sem] at hm
      clear hK K r w₁
      refine BA.op rfl rfl (by k_ne) fun w₁ r K hK => ?_
      go_simp
      refine hK _ (fun e he => ?_) ?_
      · have hm := mem_listed he
        simp [go_sem] at hm
      clear hK K r w₁
      refine BA.callV rfl rfl (by k_ne) rfl rfl (by walk_nrm; exact hb _ _ _ _) fun Z2 v2 w2 hp => ?_
      obtain ⟨rfl, rfl, rfl⟩ := hp
      walk_nrm
      refine BA.op rfl rfl (by k_ne) fun w₁ r K hK => ?_
      go_simp
      refine hK _ (fun e he => ?_) ?_
      · have hm := mem_listed he
        simp [go_sem] at hm
      clear hK K r w₁
      refine BA.regEnd ?_
      refine BA.inBlock ?_
      refine BA.reg ?_
      simp only [List.size_toArray, List.length_cons, List.length_nil, Nat.reduceAdd, Nat.zero_add, List.range, List.range.loop]
      refine BA.op rfl rfl (by k_ne) fun w₁ r K hK => ?_
      go_simp
      refine hK _ (fun e he => ?_) ?_
      · have hm := mem_listed he
        simp [go_sem] at hm
      clear hK K r w₁
      refine BA.op rfl rfl (by k_ne) fun w₁ r K hK => ?_
      go_simp
      refine hK _ (fun e he => ?_) ?_
      · have hm := mem_listed he
        simp [go_sem] at hm
      clear hK K r w₁
      refine BA.regEnd ?_
      refine BA.inLoop ?_
      exact ih (k + 1) (by omega) _ _ _ _ _ _ _ _ _ _ _ _ _ _ _ _ _ _ _ _ _ _ _ _ _ _ _ _ _ _ _ _ _ _ _ _ _ _
  refine BA.value (v := .slice (some (if n = 1 then ⟨Mk, 0, none⟩ else ⟨Mk, 1, none⟩)) (n - 1) (n - 1)) (w' := w1) rfl rfl (by k_ne) (fun d => by unfold execOp; simp [go_sem, (slice1 Mk n h0 (w1.at d)).1]) (fun d e he => ?_) ?_
  · unfold execOp at he
    simp [go_sem, (slice1 Mk n h0 (w1.at d)).2] at he
  obtain ⟨N1, hN1⟩ : ∃ N, N = n - 1 := ⟨_, rfl⟩
  rw [← hN1]
  have HN := Go.Lib.hid hN1
  clear hN1
  walk_nrm
  refine BA.op rfl rfl (by k_ne) fun w₁ r K hK => ?_
  go_simp
  refine hK _ (fun e he => ?_) ?_
  · have hm := mem_listed he
    simp [go_sem] at hm
  clear hK K r w₁
  refine BA.op rfl rfl (by k_ne) fun w₁ r K hK => ?_
  go_simp
  refine hK _ (fun e he => ?_) ?_
  · have hm := mem_listed he
    simp [go_sem] at hm
  clear hK K r w₁
  refine BA.regEnd ?_
  refine BA.block ?_
  refine BA.loop ?_
  obtain ⟨S1, hS1⟩ : ∃ S, S = Value.slice (some (if n = 1 then ⟨Mk, 0, none⟩ else ⟨Mk, 1, none⟩)) N1 N1 := ⟨_, rfl⟩
  rw [← hS1]
  have HS := Go.Lib.hid hS1
  clear hS1
  have hel : ∀ q, q < N1 → ∃ a, S1 = .slice (some a) N1 N1 ∧ w1.cell? (a.add q) = some (.int .i64 (doesF kd (xs (q + 1)))) ∧ ¬ Z1 (a.add q).block := fun q hq => by
    have hn2 : n ≠ 1 := by have := HN.out; omega
    obtain ⟨y1, y2, y3⟩ := hL1.el ⟨Mk, 0, none⟩ (q + 1) rfl (by have := HN.out; omega)
    have hadd : (⟨Mk, 1, none⟩ : Addr).add q = (⟨Mk, 0, none⟩ : Addr).add (q + 1) := by
      rw [show (⟨Mk, 0, none⟩ : Addr).add (q + 1) = ⟨Mk, q + 1, none⟩ by simp [Addr.add]]
      by_cases hq0 : q = 0
      · subst hq0
        simp [Addr.add]
      · simp [Addr.add, hq0]
        omega
    refine ⟨⟨Mk, 1, none⟩, by rw [HS.out, if_neg hn2], ?_, ?_⟩
    · rw [hadd]; exact y1
    · rw [hadd]; exact y3
  exact key S1 N1 HN.out hel N1 0 (by omega) _ _ _ _ _ _ _ _ _ _ _ _ _ _ _ _ _ _ _ _ _ _ _ _ _ _ _ _ _ _ _ _ _ _ _ _ _ _
end
end Go.Proofs.Ytbckmkppmdfnnaa.Crew
