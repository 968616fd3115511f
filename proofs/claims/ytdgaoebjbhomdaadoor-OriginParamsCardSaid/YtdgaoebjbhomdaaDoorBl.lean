/- struct literals: parts put one behind the other. -/
import Derived.WalkKit
import Derived.Lib.QuietBelow
namespace Go.Proofs.YtdgaoebjbhomdaaDoor.Bl
open Go.RowKit

theorem fold_seg (off : Nat) : ∀ (vs : List Value) (k : Nat) (pre mid rest : List Value), pre.length = off + k → mid.length = vs.length →
    (vs.zipIdx k).foldl (fun (cs : Array Value) (x : Value × Nat) => cs.setIfInBounds (off + x.2) x.1) (pre ++ (mid ++ rest)).toArray = (pre ++ (vs ++ rest)).toArray
  | [], _, pre, mid, rest, _, hm => by
    obtain rfl := List.eq_nil_of_length_eq_zero hm
    rfl
  | v :: vs, k, pre, m :: mid, rest, hp, hm => by
    rw [List.zipIdx_cons, List.foldl_cons]
    have h1 : (pre ++ (m :: mid ++ rest)).toArray.setIfInBounds (off + k) v = ((pre ++ [v]) ++ (mid ++ rest)).toArray := by
      rw [← hp]
      apply Array.ext'
      simp
    show List.foldl _ ((pre ++ (m :: mid ++ rest)).toArray.setIfInBounds (off + k) v) _ = _
    rw [h1, fold_seg off vs (k + 1) (pre ++ [v]) mid rest (by rw [List.length_append, hp]; simp; omega) (by simpa using hm)]
    simp
theorem fold_arr (off : Nat) (vs pre mid rest : List Value) (hp : pre.length = off) (hm : mid.length = vs.length) :
    vs.toArray.zipIdx.foldl (fun (cs : Array Value) (x : Value × Nat) => cs.setIfInBounds (off + x.2) x.1) (pre ++ (mid ++ rest)).toArray = (pre ++ (vs ++ rest)).toArray := by
  rw [← Array.foldl_toList, Array.toList_zipIdx]
  exact fold_seg off vs 0 pre mid rest hp hm
theorem fill_seq (place : Nat → Option (Nat × Nat)) : ∀ (vs : List Value) (k : Nat) (pre rest : List Value), (∀ i v, vs[i]? = some v → place (k + i) = some (pre.length + ((vs.take i).map (·.cells.size)).sum, v.cells.size)) →
    rest.length = (vs.map (·.cells.size)).sum → Instr.fill place (pre ++ rest).toArray ((vs.zipIdx k).map fun x => (x.2, x.1)) = some (pre ++ vs.flatMap (·.cells.toList)).toArray
  | [], _, pre, rest, _, hr => by
    obtain rfl := List.eq_nil_of_length_eq_zero hr
    simp [Instr.fill]
  | v :: vs, k, pre, rest, hp, hr => by
    have h0 := hp 0 v rfl
    simp only [Nat.add_zero, List.take_zero, List.map_nil, List.sum_nil] at h0
    simp only [List.map_cons, List.sum_cons] at hr
    rw [List.zipIdx_cons, List.map_cons, Instr.fill, h0]
    dsimp only
    rw [if_neg (by simp; omega)]
    obtain ⟨cs, hcs⟩ : ∃ cs : List Value, v.cells = cs.toArray := ⟨v.cells.toList, by simp⟩
    have hsz : v.cells.size = cs.length := by rw [hcs]; simp
    have h1 : v.cells.zipIdx.foldl (fun (cs : Array Value) (x : Value × Nat) => match x with | (c, j) => cs.setIfInBounds (pre.length + j) c) (pre ++ rest).toArray = ((pre ++ cs) ++ rest.drop cs.length).toArray := by
      rw [hcs]
      have := fold_arr pre.length cs pre (rest.take cs.length) (rest.drop cs.length) rfl (by rw [List.length_take]; omega)
      rw [List.take_append_drop] at this
      rw [List.append_assoc]
      exact this
    rw [h1, fill_seq place vs (k + 1) (pre ++ cs) (rest.drop cs.length) (fun i u hu => by
      have := hp (i + 1) u (by simpa using hu)
      rw [show k + 1 + i = k + (i + 1) by omega, this, List.take_succ_cons, List.map_cons, List.sum_cons, List.length_append, hsz]
      congr 2
      omega) (by rw [List.length_drop]; omega), List.flatMap_cons, hcs]
    simp
/-- A struct of which all fields are given. -/
theorem built_seq {P : Program} {T : TypeId} {z : Array Value} {places : Array (Nat × Nat)} (h : ∀ parts, P.built T parts = Instr.fill (places[·]?) z parts) (vs : List Value)
    (hp : ∀ i v, vs[i]? = some v → places[i]? = some (((vs.take i).map (·.cells.size)).sum, v.cells.size)) (hz : z.size = (vs.map (·.cells.size)).sum) :
    P.built T ((vs.zipIdx 0).map fun x => (x.2, x.1)) = some (vs.flatMap (·.cells.toList)).toArray := by
  rw [h]
  have := fill_seq (places[·]?) vs 0 [] z.toList (fun i v hv => by rw [Nat.zero_add, hp i v hv]; simp) (by simpa using hz)
  simpa using this
theorem quiet_build {P : Program} {op : Oper} {a : Act} {W : World} {K : Act → Prop} (t : TypeId) (parts : Array (Nat × Operand)) (ho : op.op = .build t parts) (C : Array Value) (hf : P.built t (parts.map fun (i, x) => (i, a.eval x)).toList = some C)
    (h : K (a.put op.dst (.agg C))) : op.quiet P a (fun w' => ∃ p : Regrown, w' = Sort.grow (redrawn W p.d) p.os) K := by
  refine ⟨.agg C, ?_, h⟩
  rintro w' ⟨p, rfl⟩
  unfold Oper.quietAt execOp
  simp only [ho, Sem.run_bind, Sem.run_pure, Result.andThen_ok, run_build _ t _ C hf]
  exact ⟨rfl, rfl⟩
theorem wpList_build_as {P : Program} {ops : Array Oper} {rest : List Oper} {o : Oper} {a : Act} {w : World} {Q : Exit → Act → World → Prop} (hg : o.guard = none) (t : TypeId) (parts : Array (Nat × Operand)) (ho : o.op = .build t parts)
    (C : Array Value) (hf : P.built t (parts.map fun (i, x) => (i, a.eval x)).toList = some C) (h : wpList P ops Q rest (a.put o.dst (.agg C)) w) : wpList P ops Q (o :: rest) a w := by
  refine wpList_build hg t parts ho (by rw [hf]; rfl) ?_
  rw [hf, Option.getD_some]
  exact h
theorem wp_build_as {P : Program} {o : Oper} {a : Act} {w : World} {R : Act → World → Prop} {Q : Exit → Act → World → Prop} (t : TypeId) (parts : Array (Nat × Operand)) (ho : o.op = .build t parts)
    (C : Array Value) (hf : P.built t (parts.map fun (i, x) => (i, a.eval x)).toList = some C) (h : R (a.put o.dst (.agg C)) w) : o.wp P a w R Q := by
  refine wp_build t parts ho (by rw [hf]; rfl) ?_
  rw [hf, Option.getD_some]
  exact h
theorem wp_enter_any {P : Program} {o : Oper} {a : Act} {w : World} {K : Act → World → Prop} {Q : Exit → Act → World → Prop} {f : FuncId} {args : Array Value} {R : Value → World → Prop} (h : (execOp a.eval o).run P w = .ok (.enter f args) w) (hc : Calls P f args w fun e w' => ∃ v, e = .returned v ∧ R v w') (hk : ∀ v w', R v w' → K (a.put o.dst v) w') : o.wp P a w K Q := by
  unfold Oper.wp
  rw [h]
  exact hc.mono fun e w' ⟨v, he, hr⟩ => by subst he; exact hk v w' hr
theorem wpList_build_two {P : Program} {ops : Array Oper} {rest : List Oper} {o : Oper} {a : Act} {w : World} {Q : Exit → Act → World → Prop} (hg : o.guard = none) (t : TypeId) (x y : Operand) (ho : o.op = .build t #[(0, x), (1, y)])
    (u v : Value) (hx : a.eval x = u) (hy : a.eval y = v) (C : Array Value) (hf : P.built t [(0, u), (1, v)] = some C) (h : wpList P ops Q rest (a.put o.dst (.agg C)) w) : wpList P ops Q (o :: rest) a w :=
  wpList_build_as hg t _ ho C (by simpa [hx, hy] using hf) h
end Go.Proofs.YtdgaoebjbhomdaaDoor.Bl
