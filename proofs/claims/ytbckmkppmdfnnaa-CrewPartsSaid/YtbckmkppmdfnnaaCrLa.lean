/- crew: beside leavers: slices.Grow, slices.Concat. Made by wip/tools/crew/mkLa.py. -/
import Derived.Test.YtbckmkppmdfnnaaCrAx
import Derived.Laws.Slices
namespace Go.Proofs.Ytbckmkppmdfnnaa.Crew
open Go.Conc Go.RowKit Go.Conc.Lib Go.ConcR.Gen
theorem run_append_op2 {o : Oper} {a : Act} {w w' : World} {v xv v' : Value} (s x : Operand) (t u : TypeId) (ho : o.op = .call { callee := .builtin .append, args := #[s, x], argTypes := #[t, u] }) (hs : a.eval s = v) (hx : a.eval x = xv)
    (hr : (Builtin.append_ #[t, u] o.type #[v, xv]).run Try.prog w = .ok v' w') : (execOp a.eval o).run Try.prog w = .ok (.value v') w' := by
  unfold execOp
  simp only [ho, resolve, invoke, builtin, Sem.run_bind, Sem.run_pure, Result.andThen_ok, List.map_toArray, List.map_cons, List.map_nil, hs, hx, hr]
theorem events_append_op2 {o : Oper} {a : Act} {w : World} {v xv : Value} (s x : Operand) (t u : TypeId)
    (ho : o.op = .call { callee := .builtin .append, args := #[s, x], argTypes := #[t, u] }) (hs : a.eval s = v) (hx : a.eval x = xv) (es : Array Event) :
    (execOp a.eval o).events Try.prog w es = (Builtin.append_ #[t, u] o.type #[v, xv]).events Try.prog w es := by
  unfold execOp
  simp only [ho, resolve, invoke, builtin, Sem.events_bind, Sem.run_pure, Sem.events_pure, Result.evThen_ok, List.map_toArray, List.map_cons, List.map_nil, hs, hx]
  cases (Builtin.append_ #[t, u] o.type #[v, xv]).run Try.prog w <;> rfl
/-- No slice, and n noughts behind it. -/
theorem app_made {w : World} {n : Nat} (h0 : 0 < n) (hn : n ≤ 1000000) : ∃ w' cap, (Builtin.append_ #[29, 3] 29 #[.slice none 0 0, .int .i64 (n : Nat)]).run Try.prog w = .ok (.slice (some ⟨w.heap.size, 0, none⟩) n cap) w' ∧ n ≤ cap ∧ cap ≤ maxLen ∧
      (∃ cur : Array Value, w'.heap[w.heap.size]? = some (.cells cur 2) ∧ cur.size = cap) ∧ w.grownBy w' none ∧ ∀ ev ∈ (Builtin.append_ #[29, 3] 29 #[.slice none 0 0, .int .i64 (n : Nat)]).events Try.prog w #[], ∃ m, ev = ⟨.mark m, false, true⟩ ∧ Conc.Neutral m := by
  obtain ⟨ie, hie, hq⟩ := Option.map_eq_some_iff.1 info2
  simp only [Prod.mk.injEq] at hq
  obtain ⟨hz, hsz, hby⟩ := hq
  have hw : IntKind.i64.wrap (n : Int) = (n : Int) := by unfold IntKind.wrap; simp [IntKind.bits, IntKind.signed]; omega
  have h1 : ¬ ((n : Int) < 0) := by omega
  have h2 : ¬ (281474976710656 < (n : Int) * 8) := by omega
  have h3 : ¬ (n = 0) := by omega
  have h4 : ¬ (9223372036854775807 < (n : Int)) := by omega
  have h5 : ¬ (281474976710656 < Builtin.nextslicecap n 0 * 8) := by rw [nextslicecap_zero h0]; omega
  have hge := grownCap_ge w n 0 2
  have hcm := grownCap_le_maxLen w n 0 2 (by simp [maxLen]; omega)
  refine ⟨w.drew.alloc (.cells (#[] ++ Builtin.zeroCells (Value.int .i64 0).cells n ++ Builtin.zeroCells (Value.int .i64 0).cells (grownCap w n 0 2 - n)) 2), grownCap w n 0 2, ?_, hge, hcm, ⟨_, heap_alloc_new w.drew _, ?_⟩, ⟨rfl, rfl, rfl, by simp, fun k hk _ => heap_alloc_old w.drew _ k hk⟩, fun ev he => ?_⟩
  · simp [Builtin.append_, run_underlying Try.underlying29, run_underlying Try.underlying3, sizeOf, typeInfo, zeroValue, hie, hz, hsz, hby, asInt, asIntOf, hw, h1, h2, h3, h4, h5, Question.forced, run_firstCells_none, newRow, grownCap]
  · simp [size_zeroCells, Value.cells]
    omega
  · simp [Builtin.append_, run_underlying Try.underlying29, run_underlying Try.underlying3, sizeOf, typeInfo, zeroValue, hie, hz, hsz, hby, asInt, asIntOf, hw, h1, h2, h3, h4, h5, Question.forced, newRow, askRoom, roomBytes, Result.evThen, Builtin.firstCells] at he
    obtain ⟨_, rfl⟩ := he
    exact ⟨_, rfl, by simp [Conc.Neutral]⟩
/-- A list behind a row of one's own. -/
theorem app_list {w : World} {base k n c : Nat} {v : Value} {xs : List Value} {oa : Option Addr} {f : Nat → Int} (hb : k + n ≤ 1000000) (hown : w.ownsRow base 2 1 v k xs) (hone : 0 < n → ∃ a, oa = some a) (hel : ∀ a p, oa = some a → p < n → w.cell? (a.add p) = some (.int .i64 (f p))) (hbase : base ≤ w.heap.size) :
    ∃ v' w', (Builtin.append_ #[29, 29] 29 #[v, .slice oa n c]).run Try.prog w = .ok v' w' ∧ w'.ownsRow base 2 1 v' (k + n) (xs ++ (List.range n).map fun p => Value.int .i64 (f p)) ∧ w.grownBy w' v.ownBlock ∧
      ∀ ev ∈ (Builtin.append_ #[29, 29] 29 #[v, .slice oa n c]).events Try.prog w #[], (∃ ad, ev.loc = .cell ad ∧ ((∃ a, oa = some a ∧ 0 < n ∧ ad.block = a.block) ∨ some ad.block = v.ownBlock)) ∨ ∃ m, ev = ⟨.mark m, false, true⟩ ∧ Conc.Neutral m := by
  obtain ⟨ie, hie, hq⟩ := Option.map_eq_some_iff.1 info2
  simp only [Prod.mk.injEq] at hq
  obtain ⟨hz, hsz, hby⟩ := hq
  by_cases h0 : n = 0
  · subst h0
    have hrun : (Builtin.append_ #[29, 29] 29 #[v, .slice oa 0 c]).run Try.prog w = .ok v w ∧ (Builtin.append_ #[29, 29] 29 #[v, .slice oa 0 c]).events Try.prog w #[] = #[] := by
      rcases hown.2 with ⟨hv, hk⟩ | ⟨g, cap, cur, hv, _, _, hnc, _⟩
      · subst hv
        subst hk
        cases oa <;> simp [Builtin.append_, run_underlying Try.underlying29, sizeOf, typeInfo, hie, Builtin.lenOf, Builtin.firstCells, loadCells, loadCellsFrom]
      · subst hv
        cases oa <;> simp [Builtin.append_, run_underlying Try.underlying29, sizeOf, typeInfo, hie, hnc, Builtin.lenOf, Builtin.firstCells, loadCells, loadCellsFrom, storeCells]
    refine ⟨v, w, hrun.1, by simpa using hown, ⟨rfl, rfl, rfl, Nat.le_refl _, fun _ _ _ => rfl⟩, fun ev he => ?_⟩
    rw [hrun.2] at he
    simp at he
  · obtain ⟨a, rfl⟩ := hone (by omega)
    have hl : ((List.range n).map fun p => Value.int .i64 (f p)).length = n * 1 := by simp
    have hnews : ∀ j u, ((List.range n).map fun p => Value.int .i64 (f p))[j]? = some u → w.cell? (a.add j) = some u := fun j u h => by
      have hj : j < n := by
        have := (List.getElem?_eq_some_iff.1 h).1
        simpa using this
      simp [hj] at h
      rw [← h]
      exact hel a j rfl hj
    have h1 : ∀ u ∈ ((List.range n).map fun p => Value.int .i64 (f p)), u.oneCell' = true := fun u h => by
      obtain ⟨p, _, rfl⟩ := List.mem_map.1 h
      rfl
    obtain ⟨v', w', e1, e2, e3, _⟩ := run_append_own (P := Try.prog) w base 29 29 2 ie (.int .i64 0) 1 8 Try.underlying29 hie hz hsz hby rfl (by omega) v k xs hown a n c _ hl hnews h1 (by simp [maxLen]; omega) (by omega) hbase
    refine ⟨v', w', e1, e2, e3, fun ev he => ?_⟩
    rcases events_append_where (P := Try.prog) w base 29 29 2 ie (.int .i64 0) 1 8 Try.underlying29 hie hz hsz hby v k xs hown a n c _ hl hnews h1 (by simp [maxLen]; omega) (by omega) ev he with ⟨ad, a1, a2⟩ | h
    · exact .inl ⟨ad, a1, a2.elim (fun h => .inl ⟨a, rfl, by omega, h.2⟩) .inr⟩
    · exact .inr h
theorem ev_cap0 (w : World) (es : Array Event) : (Builtin.cap_ #[29] 3 #[.slice none 0 0]).events Try.prog w es = es := by
  simp [Builtin.cap_, run_underlying Try.underlying29, Result.evThen]
theorem slice0n (w : World) : (Instr.sliceAt 29 (.slice none 0 0) none (some (.int .i64 0)) none).run Try.prog w = .ok (.slice none 0 0) w ∧ (Instr.sliceAt 29 (.slice none 0 0) none (some (.int .i64 0)) none).events Try.prog w #[] = #[] := by
  have hU : Try.prog.underlying 29 = some (.slice (Try.prog.elem 29)) := by kernel_rfl
  obtain ⟨ie, hie, hq⟩ := Option.map_eq_some_iff.1 info2
  simp only [Prod.mk.injEq] at hq
  have hE : Try.prog.elem 29 = 2 := by kernel_rfl
  have hS : (sizeOf (Try.prog.elem 29)).run Try.prog w = .ok 1 w := by rw [hE]; simp [sizeOf, typeInfo, hie, hq.2.1]
  refine ⟨?_, ?_⟩
  · rw [run_sliceAt_slice w 29 _ _ _ _ hU, run_slice_h w 29 _ 0 0 hU .i64 0 (by omega) (by omega), hS]
    simp [Result.andThen, sliced]
  · simp [Instr.sliceAt, Instr.slice, run_underlying hU, Instr.sliceBounds, Instr.sliceBound, asIntOf, Result.evThen, sizeOf, typeInfo, hE, hie]
theorem slice0g (g n cap : Nat) (w : World) : (Instr.sliceAt 29 (.slice (some ⟨g, 0, none⟩) n cap) none (some (.int .i64 0)) none).run Try.prog w = .ok (.slice (some ⟨g, 0, none⟩) 0 cap) w ∧ (Instr.sliceAt 29 (.slice (some ⟨g, 0, none⟩) n cap) none (some (.int .i64 0)) none).events Try.prog w #[] = #[] := by
  have hU : Try.prog.underlying 29 = some (.slice (Try.prog.elem 29)) := by kernel_rfl
  obtain ⟨ie, hie, hq⟩ := Option.map_eq_some_iff.1 info2
  simp only [Prod.mk.injEq] at hq
  have hE : Try.prog.elem 29 = 2 := by kernel_rfl
  have hS : (sizeOf (Try.prog.elem 29)).run Try.prog w = .ok 1 w := by rw [hE]; simp [sizeOf, typeInfo, hie, hq.2.1]
  refine ⟨?_, ?_⟩
  · rw [run_sliceAt_slice w 29 _ _ _ _ hU, run_slice_h w 29 _ n cap hU .i64 0 (by omega) (by omega), hS]
    by_cases h : cap = 0 <;> simp [Result.andThen, sliced, h, Addr.add]
  · simp [Instr.sliceAt, Instr.slice, run_underlying hU, Instr.sliceBounds, Instr.sliceBound, asIntOf, Result.evThen, sizeOf, typeInfo, hE, hie]
noncomputable def body37 : Code := Try.f37.body.getD .skip
section
variable {Z : Nat → Prop}
set_option maxRecDepth 100000 in
set_option maxHeartbeats 1000000 in
theorem Grow_cb {w : World} {n : Nat} (hZ : ∀ c, Z c → c < w.heap.size) (hn : n ≤ 1000000) :
    CB 37 #[.slice none 0 0, .int .i64 (n : Nat)] Z w (fun Z' v w' => Z = Z' ∧ Ext Z Z w w' ∧ w'.ownsRow w.heap.size 2 1 v 0 []) := by
  refine ⟨Try.f37, body37, Try.func37, by kernel_rfl, rfl, fun Stop b₀ a₀ ops i rest kk cs hnx => ?_⟩
  simp only [body37, Try.f37, Option.getD_some]
  walk_nrm
  have hwr : IntKind.i64.wrap (n : Int) = (n : Int) := by unfold IntKind.wrap; simp [IntKind.bits, IntKind.signed]; omega
  have hnn : ¬ ((n : Int) < 0) := by omega
  have hw0 : IntKind.i64.wrap 0 = 0 := by decide
  have hcap : ∀ w : World, (Builtin.cap_ #[29] 3 #[.slice none 0 0]).run Try.prog w = .ok (.int .i64 0) w := fun w => run_cap_slice w 29 3 none 0 0 (by kernel_rfl)
  rcases Nat.eq_zero_or_pos n with rfl | h0
  · clear hwr hnn
    refine BA.seq ?_
    refine BA.reg ?_
    simp only [List.size_toArray, List.length_cons, List.length_nil, Nat.zero_add, List.range, List.range.loop]
    refine BA.op rfl rfl (by k_ne) fun w₁ r K hK => ?_
    go_simp
    refine hK _ (fun e he => ?_) ?_
    · have hm := mem_listed he
      simp [go_sem] at hm
    clear hK K r w₁
    refine BA.regEnd ?_
    refine BA.seq ?_
    refine BA.seq ?_
    refine BA.reg ?_
    simp only [List.size_toArray, List.length_cons, List.length_nil, Nat.reduceAdd, Nat.zero_add, List.range, List.range.loop]
    refine BA.op rfl rfl (by k_ne) fun w₁ r K hK => ?_
    go_simp
    refine hK _ (fun e he => ?_) ?_
    · have hm := mem_listed he
      simp [go_sem] at hm
    clear hK K r w₁
    refine BA.op rfl rfl (by k_ne) fun w₁ r K hK => ?_
    go_simp
    refine hK _ (fun e he => ?_) ?_
    · have hm := mem_listed he
      simp [go_sem] at hm
    clear hK K r w₁
    refine BA.regEnd ?_
    refine BA.condF rfl ?_
    refine BA.skip ?_
    refine BA.seq ?_
    refine BA.seq ?_
    refine BA.reg ?_
    simp only [List.size_toArray, List.length_cons, List.length_nil, Nat.reduceAdd, Nat.zero_add, List.range, List.range.loop]
    refine BA.op rfl rfl (by k_ne) fun w₁ r K hK => ?_
    go_simp
    refine hK _ (fun e he => ?_) ?_
    · have hm := mem_listed he
      simp [go_sem] at hm
    clear hK K r w₁
    refine BA.op rfl rfl (by k_ne) fun w₁ r K hK => ?_
    go_simp
    refine hK _ (fun e he => ?_) ?_
    · have hm := mem_listed he
      simp [go_sem] at hm
    clear hK K r w₁
    refine BA.op rfl rfl (by k_ne) fun w₁ r K hK => ?_
    go_simp
    refine hK _ (fun e he => ?_) ?_
    · have hm := mem_listed he
      simp [go_sem, ev_cap0] at hm
    clear hK K r w₁
    refine BA.op rfl rfl (by k_ne) fun w₁ r K hK => ?_
    go_simp
    refine hK _ (fun e he => ?_) ?_
    · have hm := mem_listed he
      simp [go_sem] at hm
    clear hK K r w₁
    refine BA.op rfl rfl (by k_ne) fun w₁ r K hK => ?_
    go_simp
    refine hK _ (fun e he => ?_) ?_
    · have hm := mem_listed he
      simp [go_sem] at hm
    clear hK K r w₁
    refine BA.op rfl rfl (by k_ne) fun w₁ r K hK => ?_
    go_simp
    refine hK _ (fun e he => ?_) ?_
    · have hm := mem_listed he
      simp [go_sem] at hm
    clear hK K r w₁
    refine BA.op rfl rfl (by k_ne) fun w₁ r K hK => ?_
    go_simp
    refine hK _ (fun e he => ?_) ?_
    · have hm := mem_listed he
      simp [go_sem] at hm
    clear hK K r w₁
    refine BA.op rfl rfl (by k_ne) fun w₁ r K hK => ?_
    go_simp
    refine hK _ (fun e he => ?_) ?_
    · have hm := mem_listed he
      simp [go_sem] at hm
    clear hK K r w₁
    refine BA.regEnd ?_
    refine BA.seq ?_
    refine BA.reg ?_
    simp only [List.size_toArray, List.length_cons, List.length_nil, Nat.reduceAdd, Nat.zero_add, List.range, List.range.loop]
    refine BA.op rfl rfl (by k_ne) fun w₁ r K hK => ?_
    go_simp
    refine hK _ (fun e he => ?_) ?_
    · have hm := mem_listed he
      simp [go_sem] at hm
    clear hK K r w₁
    refine BA.op rfl rfl (by k_ne) fun w₁ r K hK => ?_
    go_simp
    refine hK _ (fun e he => ?_) ?_
    · have hm := mem_listed he
      simp [go_sem] at hm
    clear hK K r w₁
    refine BA.regEnd ?_
    refine BA.condF rfl ?_
    refine BA.skip ?_
    refine BA.seq ?_
    refine BA.reg ?_
    simp only [List.size_toArray, List.length_cons, List.length_nil, Nat.reduceAdd, Nat.zero_add, List.range, List.range.loop]
    refine BA.op rfl rfl (by k_ne) fun w₁ r K hK => ?_
    go_simp
    refine hK _ (fun e he => ?_) ?_
    · have hm := mem_listed he
      simp [go_sem] at hm
    clear hK K r w₁
    refine BA.op rfl rfl (by k_ne) fun w₁ r K hK => ?_
    go_simp
    refine hK _ (fun e he => ?_) ?_
    · have hm := mem_listed he
      simp [go_sem] at hm
    clear hK K r w₁
    refine BA.regEnd ?_
    refine BA.ret ?_
    refine BA.leave1 Try.func37 rfl ?_
    exact hnx _ _ _ ⟨rfl, Ext.refl hZ, by simp, .inl ⟨rfl, rfl⟩⟩
  have h0i : (0 : Int) < (n : Int) := by omega
  refine BA.seq ?_
  refine BA.reg ?_
  simp only [List.size_toArray, List.length_cons, List.length_nil, Nat.zero_add, List.range, List.range.loop]
  refine BA.op rfl rfl (by k_ne) fun w₁ r K hK => ?_
  go_simp
  refine hK _ (fun e he => ?_) ?_
  · have hm := mem_listed he
    simp [go_sem] at hm
  clear hK K r w₁
  refine BA.regEnd ?_
  refine BA.seq ?_
  refine BA.seq ?_
  refine BA.reg ?_
  simp only [List.size_toArray, List.length_cons, List.length_nil, Nat.reduceAdd, Nat.zero_add, List.range, List.range.loop]
  refine BA.op rfl rfl (by k_ne) fun w₁ r K hK => ?_
  go_simp
  refine hK _ (fun e he => ?_) ?_
  · have hm := mem_listed he
    simp [go_sem] at hm
  clear hK K r w₁
  refine BA.op rfl rfl (by k_ne) fun w₁ r K hK => ?_
  go_simp
  refine hK _ (fun e he => ?_) ?_
  · have hm := mem_listed he
    simp [go_sem] at hm
  clear hK K r w₁
  refine BA.regEnd ?_
  refine BA.condF rfl ?_
  refine BA.skip ?_
  refine BA.seq ?_
  refine BA.seq ?_
  refine BA.reg ?_
  simp only [List.size_toArray, List.length_cons, List.length_nil, Nat.reduceAdd, Nat.zero_add, List.range, List.range.loop]
  refine BA.op rfl rfl (by k_ne) fun w₁ r K hK => ?_
  go_simp
  refine hK _ (fun e he => ?_) ?_
  · have hm := mem_listed he
    simp [go_sem] at hm
  clear hK K r w₁
  refine BA.op rfl rfl (by k_ne) fun w₁ r K hK => ?_
  go_simp
  refine hK _ (fun e he => ?_) ?_
  · have hm := mem_listed he
    simp [go_sem] at hm
  clear hK K r w₁
  refine BA.op rfl rfl (by k_ne) fun w₁ r K hK => ?_
  go_simp
  refine hK _ (fun e he => ?_) ?_
  · have hm := mem_listed he
    simp [go_sem, ev_cap0] at hm
  clear hK K r w₁
  refine BA.op rfl rfl (by k_ne) fun w₁ r K hK => ?_
  go_simp
  refine hK _ (fun e he => ?_) ?_
  · have hm := mem_listed he
    simp [go_sem] at hm
  clear hK K r w₁
  refine BA.op rfl rfl (by k_ne) fun w₁ r K hK => ?_
  go_simp
  refine hK _ (fun e he => ?_) ?_
  · have hm := mem_listed he
    simp [go_sem] at hm
  clear hK K r w₁
  refine BA.op rfl rfl (by k_ne) fun w₁ r K hK => ?_
  go_simp
  refine hK _ (fun e he => ?_) ?_
  · have hm := mem_listed he
    simp [go_sem] at hm
  clear hK K r w₁
  refine BA.op rfl rfl (by k_ne) fun w₁ r K hK => ?_
  go_simp
  refine hK _ (fun e he => ?_) ?_
  · have hm := mem_listed he
    simp [go_sem] at hm
  clear hK K r w₁
  refine BA.op rfl rfl (by k_ne) fun w₁ r K hK => ?_
  go_simp
  refine hK _ (fun e he => ?_) ?_
  · have hm := mem_listed he
    simp [go_sem] at hm
  clear hK K r w₁
  refine BA.regEnd ?_
  refine BA.seq ?_
  refine BA.reg ?_
  simp only [List.size_toArray, List.length_cons, List.length_nil, Nat.reduceAdd, Nat.zero_add, List.range, List.range.loop]
  refine BA.op rfl rfl (by k_ne) fun w₁ r K hK => ?_
  go_simp
  refine hK _ (fun e he => ?_) ?_
  · have hm := mem_listed he
    simp [go_sem] at hm
  clear hK K r w₁
  refine BA.op rfl rfl (by k_ne) fun w₁ r K hK => ?_
  go_simp
  refine hK _ (fun e he => ?_) ?_
  · have hm := mem_listed he
    simp [go_sem] at hm
  clear hK K r w₁
  refine BA.regEnd ?_
  refine BA.condT rfl ?_
  refine BA.reg ?_
  simp only [List.size_toArray, List.length_cons, List.length_nil, Nat.reduceAdd, Nat.zero_add, List.range, List.range.loop]
  refine BA.op rfl rfl (by k_ne) fun w₁ r K hK => ?_
  go_simp
  refine hK _ (fun e he => ?_) ?_
  · have hm := mem_listed he
    simp [go_sem] at hm
  clear hK K r w₁
  refine BA.op rfl rfl (by k_ne) fun w₁ r K hK => ?_
  go_simp
  refine hK _ (fun e he => ?_) ?_
  · have hm := mem_listed he
    simp [go_sem] at hm
  clear hK K r w₁
  refine BA.op rfl rfl (by k_ne) fun w₁ r K hK => ?_
  go_simp
  refine hK _ (fun e he => ?_) ?_
  · have hm := mem_listed he
    simp [go_sem, ev_cap0] at hm
  clear hK K r w₁
  refine BA.value (v := .slice none 0 0) (w' := w) rfl rfl (by k_ne) (fun d => by unfold execOp; simp [go_sem, (slice0n (w.at d)).1]) (fun d e he => ?_) ?_
  · unfold execOp at he
    simp [go_sem, (slice0n (w.at d)).2] at he
  walk_nrm
  refine BA.op rfl rfl (by k_ne) fun w₁ r K hK => ?_
  go_simp
  refine hK _ (fun e he => ?_) ?_
  · have hm := mem_listed he
    simp [go_sem] at hm
  clear hK K r w₁
  refine BA.any rfl rfl (by k_ne) fun w1 r1 => ?_
  obtain ⟨w2, cap, h1, h2, h3, ⟨cur, h4, h5⟩, h6, h7⟩ := app_made (w := w1) h0 hn
  have hs1 : w1.heap.size = w.heap.size := by obtain ⟨d, rfl⟩ := r1; rfl
  have hX2 : Ext Z Z w w2 := ((Ext.refl hZ).at r1).grown h6 (fun b hb => by cases hb)
  refine ⟨_, w2, run_append_op2 (v := .slice none 0 0) (xv := .int .i64 (n : Nat)) (.tmp 20) (.tmp 21) 29 3 rfl (by simp [Act.eval]) (by simp [Act.eval]) h1, fun ev he => ?_, ?_⟩
  · rw [events_append_op2 (v := .slice none 0 0) (xv := .int .i64 (n : Nat)) (.tmp 20) (.tmp 21) 29 3 rfl (by simp [Act.eval]) (by simp [Act.eval])] at he
    obtain ⟨m, rfl, hm⟩ := h7 ev he
    exact evC_neutral hm
  obtain ⟨g, hg⟩ : ∃ g, w1.heap.size = g := ⟨_, rfl⟩
  rw [hg] at h4 hs1 ⊢
  have HS1 := Go.Lib.hid hs1
  clear hg hs1
  walk_nrm
  refine BA.op rfl rfl (by k_ne) fun w₁ r K hK => ?_
  go_simp
  refine hK _ (fun e he => ?_) ?_
  · have hm := mem_listed he
    simp [go_sem] at hm
  clear hK K r w₁
  refine BA.op rfl rfl (by k_ne) fun w₁ r K hK => ?_
  go_simp
  refine hK _ (fun e he => ?_) ?_
  · have hm := mem_listed he
    simp [go_sem] at hm
  clear hK K r w₁
  refine BA.value (v := .slice (some ⟨g, 0, none⟩) 0 cap) (w' := w2) rfl rfl (by k_ne) (fun d => by unfold execOp; simp [go_sem, (slice0g g n cap (w2.at d)).1]) (fun d e he => ?_) ?_
  · unfold execOp at he
    simp [go_sem, (slice0g g n cap (w2.at d)).2] at he
  walk_nrm
  refine BA.op rfl rfl (by k_ne) fun w₁ r K hK => ?_
  go_simp
  refine hK _ (fun e he => ?_) ?_
  · have hm := mem_listed he
    simp [go_sem] at hm
  clear hK K r w₁
  refine BA.regEnd ?_
  refine BA.seq ?_
  refine BA.reg ?_
  simp only [List.size_toArray, List.length_cons, List.length_nil, Nat.reduceAdd, Nat.zero_add, List.range, List.range.loop]
  refine BA.op rfl rfl (by k_ne) fun w₁ r K hK => ?_
  go_simp
  refine hK _ (fun e he => ?_) ?_
  · have hm := mem_listed he
    simp [go_sem] at hm
  clear hK K r w₁
  refine BA.op rfl rfl (by k_ne) fun w₁ r K hK => ?_
  go_simp
  refine hK _ (fun e he => ?_) ?_
  · have hm := mem_listed he
    simp [go_sem] at hm
  clear hK K r w₁
  refine BA.regEnd ?_
  refine BA.ret ?_
  refine BA.leave1 Try.func37 rfl ?_
  exact hnx _ _ _ ⟨rfl, hX2, by simp, .inr ⟨g, cap, cur, rfl, by have := HS1.out; omega, h4, Nat.zero_le _, h3, by omega, by simp⟩⟩
end
end Go.Proofs.Ytbckmkppmdfnnaa.Crew
