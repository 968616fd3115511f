/- crew: beside leavers: rows that are built; the document's Each, which appends. Made by wip/tools/crew/mkAx.py. -/
import Derived.Test.YtbckmkppmdfnnaaCrAw
import Derived.Great.BuildSlice
import Derived.Conc.AppendEvents3
namespace Go.Proofs.Ytbckmkppmdfnnaa.Crew
open Go.Conc Go.RowKit Go.Conc.Lib Go.ConcR.Gen
theorem events_build {P : Program} (w : World) (t e : TypeId) (len : Nat) (parts : Array (Nat × Value)) (cells : Array Value) (ie : TypeInfo) (z : Value) (hu : P.underlying t = some (.slice e)) (hie : P.info? e = some ie) (hz : ie.zero = some z) (hsmall : ¬ len * ie.size > 2 ^ 24) (hpos : ¬ len * ie.size = 0)
    (hf : Instr.fill (fun i => some (i * ie.size, ie.size)) ((Array.range (len * ie.size)).map (z.cells[· % z.cells.size]!)) parts.toList = some cells) (es : Array Event) : (Instr.buildSlice t len parts).events P w es = es := by
  have hs' : ¬ (2 ^ 24 < len * ie.size) := hsmall
  simp [Instr.buildSlice, run_underlying hu, typeInfo, hie, sizeOf, zeroValue, hz, hs', hpos, hf, newRow, Result.evThen]
theorem range1 : Array.range 1 = #[0] := Array.ext' (by rw [Array.toList_range]; rfl)
theorem range2 : Array.range 2 = #[0, 1] := Array.ext' (by rw [Array.toList_range]; rfl)
theorem range3 : Array.range 3 = #[0, 1, 2] := Array.ext' (by rw [Array.toList_range]; rfl)
theorem range5 : Array.range 5 = #[0, 1, 2, 3, 4] := Array.ext' (by rw [Array.toList_range]; rfl)
abbrev zrow (n : Nat) : Array Value := (Array.range (n * 1)).map ((Value.int .i64 0).cells[· % (Value.int .i64 0).cells.size]!)
theorem fill1 (x : Int) : Instr.fill (fun i => some (i * 1, 1)) (zrow 1) [(0, .int .i64 x)] = some #[.int .i64 x] := by
  simp [zrow, Instr.fill, Value.cells, range1]
theorem fill2 (x y : Int) : Instr.fill (fun i => some (i * 1, 1)) (zrow 2) [(0, .int .i64 x), (1, .int .i64 y)] = some #[.int .i64 x, .int .i64 y] := by
  simp [zrow, Instr.fill, Value.cells, range2]
theorem fill3 (x y z : Int) : Instr.fill (fun i => some (i * 1, 1)) (zrow 3) [(0, .int .i64 x), (1, .int .i64 y), (2, .int .i64 z)] = some #[.int .i64 x, .int .i64 y, .int .i64 z] := by
  simp [zrow, Instr.fill, Value.cells, range3]
theorem fill5 (x y z u v : Int) : Instr.fill (fun i => some (i * 1, 1)) (zrow 5) [(0, .int .i64 x), (1, .int .i64 y), (2, .int .i64 z), (3, .int .i64 u), (4, .int .i64 v)] = some #[.int .i64 x, .int .i64 y, .int .i64 z, .int .i64 u, .int .i64 v] := by
  simp [zrow, Instr.fill, Value.cells, range5]
theorem info3 : (Try.prog.info? 3).map (fun i => (i.zero, i.size, i.bytes)) = some (some (.int .i64 0), 1, 8) := by kernel_rfl
section
variable {Stop : (Nat → Prop) → Goroutine → World → Prop} {Z : Nat → Prop} {w : World} {b : Frame} {a : Act} {k : List Item} {cs : List Frame}
theorem BA.build {ops : Array Oper} {i : Nat} {rest : List Nat} {o : Oper} (ho : ops[i]? = some o) (hw : Region.wanted o (yielded ops a.tmps) = true) (hk : b.kind ≠ .early) (t e : TypeId) (len : Nat) (parts : Array (Nat × Operand)) (hop : o.op = .buildSlice t len parts) (cells : Array Value)
    (hu : Try.prog.underlying t = some (.slice e)) (hi : (Try.prog.info? e).map (fun i => (i.zero, i.size, i.bytes)) = some (some (.int .i64 0), 1, 8)) (hl : 0 < len ∧ len ≤ 100) (hf : Instr.fill (fun i => some (i * 1, 1)) (zrow len) (parts.map fun (i, x) => (i, a.eval x)).toList = some cells)
    (h : BA Stop Z (G (b.at (a.put o.dst (.slice (some ⟨w.heap.size, 0, none⟩) len len)) (.inRegion ops rest :: k)) cs) (w.alloc (.cells cells e))) : BA Stop Z (G (b.at a (.inRegion ops (i :: rest) :: k)) cs) w := by
  obtain ⟨ie, hie, hq⟩ := Option.map_eq_some_iff.1 hi
  simp only [Prod.mk.injEq] at hq
  obtain ⟨hz, hsz, hby⟩ := hq
  rw [show (fun i : Nat => some (i * 1, 1)) = (fun i => some (i * ie.size, ie.size)) by rw [hsz]] at hf
  have hf' : Instr.fill (fun i => some (i * ie.size, ie.size)) ((Array.range (len * ie.size)).map ((Value.int .i64 0).cells[· % (Value.int .i64 0).cells.size]!)) (parts.map fun (i, x) => (i, a.eval x)).toList = some cells := by rw [show len * ie.size = len * 1 by rw [hsz]]; exact hf
  have h1 : ¬ len * ie.size > 2 ^ 24 := by rw [hsz]; omega
  have h2 : ¬ len * ie.size = 0 := by rw [hsz]; omega
  refine BA.value ho hw hk (fun d => ?_) (fun d ev he => ?_) h
  · unfold execOp
    simp only [hop, Sem.run_bind, run_buildSlice (w.at d) t e len _ cells ie (.int .i64 0) hu hie hz h1 h2 hf', Result.andThen_ok]
    rfl
  · unfold execOp at he
    simp only [hop, Sem.events_bind, Sem.events_pure, run_buildSlice (w.at d) t e len _ cells ie (.int .i64 0) hu hie hz h1 h2 hf', events_build (w.at d) t e len _ cells ie (.int .i64 0) hu hie hz h1 h2 hf', Result.evThen_ok] at he
    simp at he
theorem evC_loc {e : Event} {ad : Addr} (h : e.loc = .cell ad) (hz : ¬ Z ad.block) : EvC Z e := by
  obtain ⟨l, wr, sy⟩ := e
  dsimp only at h
  subst h
  refine ⟨fun x hx hs => ?_, by simp, by simp, fun b => by cases sy <;> cases wr <;> simp [MemAct.ofEvent]⟩
  obtain ⟨y, hy, hzy⟩ := hs
  cases sy <;> cases wr <;> simp [MemAct.ofEvent, MemAct.touch?] at hx <;> subst hx <;> cases hy <;> exact absurd hzy hz
theorem evC_neutral {m : Mark} (h : Conc.Neutral m) : EvC Z ⟨.mark m, false, true⟩ := by
  refine ⟨fun x hx => ?_, ?_, ?_, fun b => ?_⟩ <;> cases m <;> simp_all [MemAct.ofEvent, MemAct.touch?, Conc.Neutral]
end
noncomputable def body19 : Code := Try.f19.body.getD .skip
noncomputable def L19 : Code := match body19 with | .seq _ (.seq _ (.seq (.seq _ (.block _ (.loop c))) _)) => c | _ => .skip
noncomputable def E19 : Code := match body19 with | .seq _ (.seq _ (.seq _ c)) => c | _ => .skip
theorem own_alloc {w : World} {base n : Nat} {v : Value} {xs : List Value} (h : w.ownsRow base 2 1 v n xs) (o : Obj) : (w.alloc o).ownsRow base 2 1 v n xs := by
  refine ⟨h.1, h.2.imp id fun ⟨g, cap, cur, h1, h2, h3, h4⟩ => ⟨g, cap, cur, h1, h2, keep_alloc h3, h4⟩⟩
theorem own_block {w : World} {base n : Nat} {v : Value} {xs : List Value} (h : w.ownsRow base 2 1 v n xs) {g : Nat} (hg : some g = v.ownBlock) : base ≤ g := by
  rcases h.2 with ⟨rfl, _⟩ | ⟨g', cap, cur, rfl, h2, _⟩
  · simp [Value.ownBlock] at hg
  · simp [Value.ownBlock] at hg
    omega
theorem run_append_op {o : Oper} {a : Act} {w w' : World} {v xv v' : Value} (s x : Operand) (t : TypeId) (ho : o.op = .call { callee := .builtin .append, args := #[s, x], argTypes := #[t, t] }) (hs : a.eval s = v) (hx : a.eval x = xv)
    (hr : (Builtin.append_ #[t, t] o.type #[v, xv]).run Try.prog w = .ok v' w') : (execOp a.eval o).run Try.prog w = .ok (.value v') w' := by
  unfold execOp
  simp only [ho, resolve, invoke, builtin, Sem.run_bind, Sem.run_pure, Result.andThen_ok, List.map_toArray, List.map_cons, List.map_nil, hs, hx, hr]
/-- A value is appended to a row of one's own. -/
theorem app29 {w : World} {base n bq : Nat} {v : Value} {xs : List Value} {x : Int} (hn : n < 1000000) (hown : w.ownsRow base 2 1 v n xs) (hc : w.cell? ⟨bq, 0, none⟩ = some (.int .i64 x)) (hbase : base ≤ w.heap.size) :
    ∃ v' w', (Builtin.append_ #[29, 29] 29 #[v, .slice (some ⟨bq, 0, none⟩) 1 1]).run Try.prog w = .ok v' w' ∧ w'.ownsRow base 2 1 v' (n + 1) (xs ++ [.int .i64 x]) ∧ w.grownBy w' v.ownBlock ∧
      ∀ ev ∈ (Builtin.append_ #[29, 29] 29 #[v, .slice (some ⟨bq, 0, none⟩) 1 1]).events Try.prog w #[], (∃ ad, ev.loc = .cell ad ∧ (ad.block = bq ∨ some ad.block = v.ownBlock)) ∨ ∃ m, ev = ⟨.mark m, false, true⟩ ∧ Conc.Neutral m := by
  obtain ⟨ie, hie, hq⟩ := Option.map_eq_some_iff.1 info2
  simp only [Prod.mk.injEq] at hq
  obtain ⟨hz, hsz, hby⟩ := hq
  have hnews : ∀ j u, [Value.int .i64 x][j]? = some u → w.cell? ((⟨bq, 0, none⟩ : Addr).add j) = some u := fun j u h => by
    have hj : j = 0 := by
      have := (List.getElem?_eq_some_iff.1 h).1
      simpa using this
    subst hj
    simp at h
    subst h
    rw [show (⟨bq, 0, none⟩ : Addr).add 0 = ⟨bq, 0, none⟩ by simp [Addr.add]]
    exact hc
  have h1 : ∀ u ∈ [Value.int .i64 x], u.oneCell' = true := fun u h => by simp at h; subst h; rfl
  obtain ⟨v', w', e1, e2, e3, _⟩ := run_append_own (P := Try.prog) w base 29 29 2 ie (.int .i64 0) 1 8 Try.underlying29 hie hz hsz hby rfl (by omega) v n xs hown ⟨bq, 0, none⟩ 1 1 [.int .i64 x] rfl hnews h1 (by simp [maxLen]; omega) (by omega) hbase
  refine ⟨v', w', e1, e2, e3, fun ev he => ?_⟩
  rcases events_append_where (P := Try.prog) w base 29 29 2 ie (.int .i64 0) 1 8 Try.underlying29 hie hz hsz hby v n xs hown ⟨bq, 0, none⟩ 1 1 [.int .i64 x] rfl hnews h1 (by simp [maxLen]; omega) (by omega) ev he with ⟨ad, a1, a2⟩ | h
  · exact .inl ⟨ad, a1, a2.elim (fun h => .inl h.2) .inr⟩
  · exact .inr h
section
variable {Z : Nat → Prop}
theorem own_clean {w w1 : World} {n : Nat} {v : Value} {xs : List Value} (hZ : ∀ c, Z c → c < w.heap.size) (h : w1.ownsRow w.heap.size 2 1 v n xs) {g : Nat} (hg : some g = v.ownBlock) : ¬ Z g := fun hz => by
  have := hZ g hz
  have := own_block h hg
  omega
theorem Ext.grown {Z' : Nat → Prop} {w w1 w2 : World} {row : Option Nat} (h : Ext Z Z' w w1) (g : w1.grownBy w2 row) (hr : ∀ b, some b = row → w.heap.size ≤ b) : Ext Z Z' w w2 :=
  ⟨⟨Nat.le_trans h.olds.size g.size, fun c hc => (g.block c (Nat.lt_of_lt_of_le hc h.olds.size) (fun e => by have := hr c e; omega)).trans (h.olds.block c hc), g.tape.trans h.olds.tape, g.os.trans h.olds.os, g.output.trans h.olds.output⟩,
   fun c hc => Nat.lt_of_lt_of_le (h.zlt c hc) g.size, h.znew⟩
theorem Lists.own {w w1 : World} {v : Value} {n : Nat} {f : Nat → Int} (hZ : ∀ c, Z c → c < w.heap.size) (h : w1.ownsRow w.heap.size 2 1 v n ((List.range n).map fun p => Value.int .i64 (f p))) : ∃ ob cap', v = .slice ob n cap' ∧ Lists w1 Z ob n f := by
  rcases h.2 with ⟨rfl, rfl⟩ | ⟨g, cap, cur, rfl, h2, h3, h4, h5, h6, h7⟩
  · exact ⟨none, 0, rfl, fun h => absurd h (by omega), fun _ p _ hp => absurd hp (by omega)⟩
  · refine ⟨_, cap, rfl, fun _ => ⟨_, rfl⟩, fun a0 p e hp => ?_⟩
    cases e
    rw [show (⟨g, 0, none⟩ : Addr).add p = ⟨g, p, none⟩ by simp [Addr.add]; exact fun h => h.symm]
    refine ⟨?_, (Array.getElem?_eq_some_iff.1 h3).1, fun hz => by have := hZ g hz; omega⟩
    have h8 := congrArg (fun l => l[p]?) h7
    simp only [List.getElem?_take, Nat.mul_one, hp, if_true, List.getElem?_map, List.getElem?_range hp, Option.map_some, Array.getElem?_toList] at h8
    simp [World.cell?, h3, h8]
set_option maxRecDepth 100000 in
set_option maxHeartbeats 1000000 in
theorem rEach_cb {w : World} {oa : Option Addr} {n ca kd : Nat} {xs : Nat → Int} (hZ : ∀ c, Z c → c < w.heap.size) (hn : n ≤ 1000000) (hL : Lists w Z oa n xs) :
    CB 19 #[.slice oa n ca, .int .u8 kd] Z w (fun Z' v w' => Ext Z Z' w w' ∧ ∃ ob cap', v = .slice ob n cap' ∧ Lists w' Z' ob n (fun p => doesF kd (xs p))) := by
  refine ⟨Try.f19, body19, Try.func19, by kernel_rfl, rfl, fun Stop b₀ a₀ ops i rest kk cs hnx => ?_⟩
  simp only [body19, Try.f19, Option.getD_some]
  walk_nrm
  have key : ∀ (j k : Nat), j + k = n → ∀ (w1 : World) (v5 : Value), Ext Z Z w w1 → w1.ownsRow w.heap.size 2 1 v5 k ((List.range k).map fun p => Value.int .i64 (doesF kd (xs p))) → ∀ u7 u8 u9 u10 u11 u12 u13 u14 u15 u16 u17 u18 u19 u20 u21 u22 : Value, BA Stop Z (G ((base 19).at ⟨#[.slice oa n ca, .int .u8 kd, undef, undef, .slice none 0 0, v5, .int .i64 (k : Nat), u7, u8, u9, u10, u11, u12, u13, u14, u15, u16, u17, u18, u19, u20, u21, u22], []⟩ [.code L19, .inLoop L19, .inBlock 0, .code E19]) (b₀.at a₀ (.inRegion ops (i :: rest) :: kk) :: cs)) w1 := by
    intro j
    induction j with
    | zero =>
      intro k hk w1 v5 hX hown u7 u8 u9 u10 u11 u12 u13 u14 u15 u16 u17 u18 u19 u20 u21 u22
      obtain rfl : k = n := by omega
      simp only [L19, E19, body19, Try.f19, Option.getD_some]
      refine BA.seq ?_
      refine BA.seq ?_
      refine BA.reg ?_
      simp only [List.size_toArray, List.length_cons, List.length_nil, Nat.reduceAdd, Nat.zero_add, List.range, List.range.loop]
      refine BA.op rfl rfl (by k_ne) fun w₁ r K hK => ?_
      go_simp
      refine hK _ (fun e he => ?_) ?_
      · have hm := mem_listed he
        simp [go_sem] at hm
      clear hK K r w₁
      refine BA.op rfl rfl (by k_ne) fun w₁ r K hK => ?_
      go_simp
      refine hK _ (fun e he => ?_) ?_
      · have hm := mem_listed he
        simp [go_sem] at hm
      clear hK K r w₁
      refine BA.op rfl rfl (by k_ne) fun w₁ r K hK => ?_
      go_simp
      refine hK _ (fun e he => ?_) ?_
      · have hm := mem_listed he
        simp [go_sem] at hm
      clear hK K r w₁
      refine BA.op rfl rfl (by k_ne) fun w₁ r K hK => ?_
      go_simp
      refine hK _ (fun e he => ?_) ?_
      · have hm := mem_listed he
        simp [go_sem] at hm
      clear hK K r w₁
      refine BA.regEnd ?_
      refine BA.condF rfl ?_
      refine BA.exit rfl ?_
      refine BA.seq ?_
      refine BA.reg ?_
      simp only [List.size_toArray, List.length_cons, List.length_nil, Nat.reduceAdd, Nat.zero_add, List.range, List.range.loop]
      refine BA.op rfl rfl (by k_ne) fun w₁ r K hK => ?_
      go_simp
      refine hK _ (fun e he => ?_) ?_
      · have hm := mem_listed he
        simp [go_sem] at hm
      clear hK K r w₁
      refine BA.op rfl rfl (by k_ne) fun w₁ r K hK => ?_
      go_simp
      refine hK _ (fun e he => ?_) ?_
      · have hm := mem_listed he
        simp [go_sem] at hm
      clear hK K r w₁
      refine BA.regEnd ?_
      refine BA.ret ?_
      refine BA.leave1 Try.func19 rfl ?_
      exact hnx _ _ _ ⟨hX, Lists.own hZ hown⟩
    | succ j ih =>
      intro k hk w1 v5 hX hown u7 u8 u9 u10 u11 u12 u13 u14 u15 u16 u17 u18 u19 u20 u21 u22
      have hlt : k < n := by omega
      have hlt' : (k : Int) < (n : Int) := by omega
      obtain ⟨a1, ea⟩ := hL.one (by omega)
      obtain ⟨x1, x2, x3⟩ := hL.el a1 k ea hlt
      have hEA := Go.Lib.hid ea
      clear ea
      have hwr : IntKind.i64.wrap ((k : Int) + 1) = ((k + 1 : Nat) : Int) := by unfold IntKind.wrap; simp [IntKind.bits, IntKind.signed]; omega
      have y1 := olds_cell hX.olds x2 x1
      simp only [L19, E19, body19, Try.f19, Option.getD_some]
      refine BA.seq ?_
      refine BA.seq ?_
      refine BA.reg ?_
      simp only [List.size_toArray, List.length_cons, List.length_nil, Nat.reduceAdd, Nat.zero_add, List.range, List.range.loop]
      refine BA.op rfl rfl (by k_ne) fun w₁ r K hK => ?_
      go_simp
      refine hK _ (fun e he => ?_) ?_
      · have hm := mem_listed he
        simp [go_sem] at hm
      clear hK K r w₁
      refine BA.op rfl rfl (by k_ne) fun w₁ r K hK => ?_
      go_simp
      refine hK _ (fun e he => ?_) ?_
      · have hm := mem_listed he
        simp [go_sem] at hm
      clear hK K r w₁
      refine BA.op rfl rfl (by k_ne) fun w₁ r K hK => ?_
      go_simp
      refine hK _ (fun e he => ?_) ?_
      · have hm := mem_listed he
        simp [go_sem] at hm
      clear hK K r w₁
      refine BA.op rfl rfl (by k_ne) fun w₁ r K hK => ?_
      go_simp
      refine hK _ (fun e he => ?_) ?_
      · have hm := mem_listed he
        simp [go_sem] at hm
      clear hK K r w₁
      refine BA.regEnd ?_
      refine BA.condT rfl ?_
      refine BA.skip ?_
      refine BA.seq ?_
      refine BA.block ?_
      refine BA.reg ?_
      simp only [List.size_toArray, List.length_cons, List.length_nil, Nat.reduceAdd, Nat.zero_add, List.range, List.range.loop]
      refine BA.op rfl rfl (by k_ne) fun w₁ r K hK => ?_
      go_simp
      refine hK _ (fun e he => ?_) ?_
      · have hm := mem_listed he
        simp [go_sem] at hm
      clear hK K r w₁
      refine BA.op rfl rfl (by k_ne) fun w₁ r K hK => ?_
      go_simp
      refine hK _ (fun e he => ?_) ?_
      · have hm := mem_listed he
        simp [go_sem] at hm
      clear hK K r w₁
      refine BA.op rfl rfl (by k_ne) fun w₁ r K hK => ?_
      go_simp
      refine hK _ (fun e he => ?_) ?_
      · have hm := mem_listed he
        simp [go_sem] at hm
      clear hK K r w₁
      refine BA.op rfl rfl (by k_ne) fun w₁ r K hK => ?_
      go_simp
      refine hK _ (fun e he => ?_) ?_
      · have hm := mem_listed he
        simp [go_sem] at hm
      clear hK K r w₁
      rw [hEA.out]
      refine BA.op rfl rfl (by k_ne) fun w₁ r K hK => ?_
      go_simp
      refine hK _ (fun e he => ?_) ?_
      · have hm := mem_listed he
        simp [go_sem, hlt] at hm
      clear hK K r w₁
      rw [← hEA.out]
      refine BA.op rfl rfl (by k_ne) fun w₁ r K hK => ?_
      have hcell := cell_atR r (y1)
      go_simp
      refine hK _ (fun e he => ?_) ?_
      · have hm := mem_listed he
        simp [go_sem, hcell] at hm
        subst hm
        exact evC_cell false (x3)
      clear hcell hK K r w₁
      refine BA.call rfl rfl (by k_ne) rfl (by walk_nrm; exact does_cb kd (xs k) w1) fun Z1 v1 w1' hp => ?_
      obtain ⟨e1, rfl, hr⟩ := hp
      rw [e1]
      refine BA.at ?_ hr
      clear hr e1 Z1 w1'
      walk_nrm
      refine BA.build rfl rfl (by k_ne) 29 2 1 _ rfl #[.int .i64 (doesF kd (xs k))] Try.underlying29 info2 (by omega) (by walk_nrm; exact fill1 _) ?_
      have hXa := hX.alloc (.cells #[.int .i64 (doesF kd (xs k))] 2)
      have hob := own_alloc hown (.cells #[.int .i64 (doesF kd (xs k))] 2)
      have hcb : (w1.alloc (.cells #[.int .i64 (doesF kd (xs k))] 2)).cell? ⟨w1.heap.size, 0, none⟩ = some (.int .i64 (doesF kd (xs k))) := by unfold World.cell?; rw [new_alloc]; rfl
      have hzb : ¬ Z w1.heap.size := fun h => by have := hX.zlt _ h; omega
      have hsb : w.heap.size ≤ w1.heap.size := hX.olds.size
      clear hX hown
      generalize w1.alloc (.cells #[.int .i64 (doesF kd (xs k))] 2) = w2 at hXa hob hcb ⊢
      obtain ⟨bq, hbq⟩ : ∃ N, w1.heap.size = N := ⟨_, rfl⟩
      rw [hbq] at hcb hzb hsb ⊢
      clear hbq
      walk_nrm
      refine BA.any rfl rfl (by k_ne) fun w3 r3 => ?_
      have hown3 : w3.ownsRow w.heap.size 2 1 v5 k ((List.range k).map fun p => Value.int .i64 (doesF kd (xs p))) := by obtain ⟨d, rfl⟩ := r3; exact hob
      have hcb3 := cell_atR r3 hcb
      have hX3 := hXa.at r3
      obtain ⟨v6, w4, h1, h2, h3, h4⟩ := app29 (by omega) hown3 hcb3 hX3.olds.size
      refine ⟨v6, w4, ?_, ?_, ?_⟩
      · exact run_append_op (v := v5) (xv := .slice (some ⟨bq, 0, none⟩) 1 1) (.tmp 13) (.tmp 20) 29 rfl (by simp [Act.eval]) (by simp [Act.eval]) h1
      · intro ev he
        have he2 := he
        rw [events_append_op (v := v5) (xv := .slice (some ⟨bq, 0, none⟩) 1 1) (.tmp 13) (.tmp 20) 29 rfl (by simp [Act.eval]) (by simp [Act.eval])] at he2
        rcases h4 ev he2 with ⟨ad, e1, e2⟩ | ⟨m, rfl, hm⟩
        · refine evC_loc e1 ?_
          rcases e2 with e2 | e2
          · rw [e2]; exact hzb
          · exact own_clean hZ hown3 e2
        · exact evC_neutral hm
      walk_nrm
      refine BA.op rfl rfl (by k_ne) fun w₁ r K hK => ?_
      go_simp
      refine hK _ (fun e he => ?_) ?_
      · have hm := mem_listed he
        simp [go_sem] at hm
      clear hK K r w₁
      refine BA.regEnd ?_
      refine BA.inBlock ?_
      refine BA.reg ?_
      simp only [List.size_toArray, List.length_cons, List.length_nil, Nat.reduceAdd, Nat.zero_add, List.range, List.range.loop]
      refine BA.op rfl rfl (by k_ne) fun w₁ r K hK => ?_
      go_simp
      refine hK _ (fun e he => ?_) ?_
      · have hm := mem_listed he
        simp [go_sem] at hm
      clear hK K r w₁
      refine BA.op rfl rfl (by k_ne) fun w₁ r K hK => ?_
      go_simp
      refine hK _ (fun e he => ?_) ?_
      · have hm := mem_listed he
        simp [go_sem] at hm
      clear hK K r w₁
      refine BA.op rfl rfl (by k_ne) fun w₁ r K hK => ?_
      go_simp
      refine hK _ (fun e he => ?_) ?_
      · have hm := mem_listed he
        simp [go_sem] at hm
      clear hK K r w₁
      refine BA.regEnd ?_
      refine BA.inLoop ?_
      refine ih (k + 1) (by omega) w4 v6 (hX3.grown h3 fun b hb => own_block hown3 hb) ?_ _ _ _ _ _ _ _ _ _ _ _ _ _ _ _ _
      rw [List.range_succ, List.map_append, List.map_cons, List.map_nil]
      exact h2
  refine BA.seq ?_
  refine BA.reg ?_
  simp only [List.size_toArray, List.length_cons, List.length_nil, Nat.zero_add, List.range, List.range.loop]
  refine BA.op rfl rfl (by k_ne) fun w₁ r K hK => ?_
  go_simp
  refine hK _ (fun e he => ?_) ?_
  · have hm := mem_listed he
    simp [go_sem] at hm
  clear hK K r w₁
  refine BA.regEnd ?_
  refine BA.seq ?_
  refine BA.reg ?_
  simp only [List.size_toArray, List.length_cons, List.length_nil, Nat.zero_add, List.range, List.range.loop]
  refine BA.op rfl rfl (by k_ne) fun w₁ r K hK => ?_
  go_simp
  refine hK _ (fun e he => ?_) ?_
  · have hm := mem_listed he
    simp [go_sem] at hm
  clear hK K r w₁
  refine BA.regEnd ?_
  refine BA.seq ?_
  refine BA.seq ?_
  refine BA.reg ?_
  simp only [List.size_toArray, List.length_cons, List.length_nil, Nat.zero_add, List.range, List.range.loop]
  refine BA.op rfl rfl (by k_ne) fun w₁ r K hK => ?_
  go_simp
  refine hK _ (fun e he => ?_) ?_
  · have hm := mem_listed he
    simp [go_sem] at hm
  clear hK K r w₁
  refine BA.regEnd ?_
  refine BA.block ?_
  refine BA.loop ?_
  exact key n 0 (by omega) w _ (Ext.refl hZ) ⟨by simp, .inl ⟨rfl, rfl⟩⟩ _ _ _ _ _ _ _ _ _ _ _ _ _ _ _ _
end
end Go.Proofs.Ytbckmkppmdfnnaa.Crew
