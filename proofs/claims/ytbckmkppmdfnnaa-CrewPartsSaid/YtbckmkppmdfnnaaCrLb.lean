/- crew: beside leavers: slices.Concat of two lists. Made by wip/tools/crew/mkLb.py. -/
import Derived.Test.YtbckmkppmdfnnaaCrLa
namespace Go.Proofs.Ytbckmkppmdfnnaa.Crew
open Go.Conc Go.RowKit Go.Conc.Lib Go.ConcR.Gen
def catF (n : Nat) (xs ys : Nat → Int) (p : Nat) : Int := if p < n then xs p else ys (p - n)
theorem cat_list (n m : Nat) (xs ys : Nat → Int) : ((List.range n).map fun p => Value.int .i64 (xs p)) ++ ((List.range m).map fun p => Value.int .i64 (ys p)) = (List.range (n + m)).map fun p => Value.int .i64 (catF n xs ys p) := by
  rw [List.range_add, List.map_append, List.map_map]
  congr 1
  · refine List.map_congr_left fun p hp => ?_
    rw [List.mem_range] at hp
    simp [catF, hp]
  · refine List.map_congr_left fun p hp => ?_
    simp [catF]
    intro h
    omega
theorem add_block (a : Addr) (p : Nat) : (a.add p).block = a.block := by unfold Addr.add; split <;> rfl
noncomputable def body27 : Code := Try.f27.body.getD .skip
section
variable {Z : Nat → Prop}
theorem own_at {w w₁ : World} {base n : Nat} {v : Value} {xs : List Value} (h : w.ownsRow base 2 1 v n xs) (r : AtRel w w₁) : w₁.ownsRow base 2 1 v n xs := by obtain ⟨d, rfl⟩ := r; exact h
set_option maxRecDepth 100000 in
set_option maxHeartbeats 2000000 in
theorem Concat_cb {w : World} {sb n m ca cb : Nat} {oa ob : Option Addr} {xs ys : Nat → Int} (hZ : ∀ c, Z c → c < w.heap.size) (hnm : n + m ≤ 1000000) (hL : Lists w Z oa n xs) (hR : Lists w Z ob m ys)
    (c0 : w.cell? ⟨sb, 0, none⟩ = some (.slice oa n ca)) (c1 : w.cell? ⟨sb, 1, none⟩ = some (.slice ob m cb)) (hsb : ¬ Z sb) :
    CB 27 #[.slice (some ⟨sb, 0, none⟩) 2 2] Z w (fun Z' v w' => Ext Z Z' w w' ∧ ∃ oc cc, v = .slice oc (n + m) cc ∧ Lists w' Z' oc (n + m) (catF n xs ys)) := by
  refine ⟨Try.f27, body27, Try.func27, by kernel_rfl, rfl, fun Stop b₀ a₀ ops i rest kk cs hnx => ?_⟩
  simp only [body27, Try.f27, Option.getD_some]
  walk_nrm
  obtain ⟨s, hs⟩ : ∃ s, n + m = s := ⟨_, rfl⟩
  have hw1 : IntKind.i64.wrap (n : Int) = (n : Int) := by unfold IntKind.wrap; simp [IntKind.bits, IntKind.signed]; omega
  have hw2 : IntKind.i64.wrap ((n : Int) + (m : Int)) = (s : Int) := by unfold IntKind.wrap; simp [IntKind.bits, IntKind.signed]; omega
  have hwa : IntKind.i64.wrap 1 = 1 := by decide
  have hwb : IntKind.i64.wrap 2 = 2 := by decide
  have hn0 : ¬ ((n : Int) < 0) := by omega
  have hs0 : ¬ ((s : Int) < 0) := by omega
  have HS := Go.Lib.hid hs
  clear hs
  refine BA.seq ?_
  refine BA.reg ?_
  simp only [List.size_toArray, List.length_cons, List.length_nil, Nat.zero_add, List.range, List.range.loop]
  refine BA.op rfl rfl (by k_ne) fun w₁ r K hK => ?_
  go_simp
  refine hK _ (fun e he => ?_) ?_
  · have hm := mem_listed he
    simp [go_sem] at hm
  clear hK K r w₁
  refine BA.regEnd ?_
  refine BA.seq ?_
  refine BA.reg ?_
  simp only [List.size_toArray, List.length_cons, List.length_nil, Nat.zero_add, List.range, List.range.loop]
  refine BA.op rfl rfl (by k_ne) fun w₁ r K hK => ?_
  go_simp
  refine hK _ (fun e he => ?_) ?_
  · have hm := mem_listed he
    simp [go_sem] at hm
  clear hK K r w₁
  refine BA.regEnd ?_
  refine BA.seq ?_
  refine BA.seq ?_
  refine BA.reg ?_
  simp only [List.size_toArray, List.length_cons, List.length_nil, Nat.reduceAdd, Nat.zero_add, List.range, List.range.loop]
  refine BA.op rfl rfl (by k_ne) fun w₁ r K hK => ?_
  go_simp
  refine hK _ (fun e he => ?_) ?_
  · have hm := mem_listed he
    simp [go_sem] at hm
  clear hK K r w₁
  refine BA.op rfl rfl (by k_ne) fun w₁ r K hK => ?_
  go_simp
  refine hK _ (fun e he => ?_) ?_
  · have hm := mem_listed he
    simp [go_sem] at hm
  clear hK K r w₁
  refine BA.op rfl rfl (by k_ne) fun w₁ r K hK => ?_
  go_simp
  refine hK _ (fun e he => ?_) ?_
  · have hm := mem_listed he
    simp [go_sem] at hm
  clear hK K r w₁
  refine BA.regEnd ?_
  refine BA.block ?_
  refine BA.loop ?_
  refine BA.seq ?_
  refine BA.reg ?_
  simp only [List.size_toArray, List.length_cons, List.length_nil, Nat.zero_add, List.range, List.range.loop]
  refine BA.op rfl rfl (by k_ne) fun w₁ r K hK => ?_
  go_simp
  refine hK _ (fun e he => ?_) ?_
  · have hm := mem_listed he
    simp [go_sem] at hm
  clear hK K r w₁
  refine BA.regEnd ?_
  refine BA.seq ?_
  refine BA.condT rfl ?_
  refine BA.skip ?_
  refine BA.seq ?_
  refine BA.block ?_
  refine BA.seq ?_
  refine BA.reg ?_
  simp only [List.size_toArray, List.length_cons, List.length_nil, Nat.reduceAdd, Nat.zero_add, List.range, List.range.loop]
  refine BA.op rfl rfl (by k_ne) fun w₁ r K hK => ?_
  go_simp
  refine hK _ (fun e he => ?_) ?_
  · have hm := mem_listed he
    simp [go_sem] at hm
  clear hK K r w₁
  refine BA.op rfl rfl (by k_ne) fun w₁ r K hK => ?_
  have hcell := cell_atR r (c0)
  go_simp
  refine hK _ (fun e he => ?_) ?_
  · have hm := mem_listed he
    simp [go_sem, hcell] at hm
    subst hm
    exact evC_cell false (hsb)
  clear hcell hK K r w₁
  refine BA.op rfl rfl (by k_ne) fun w₁ r K hK => ?_
  go_simp
  refine hK _ (fun e he => ?_) ?_
  · have hm := mem_listed he
    simp [go_sem] at hm
  clear hK K r w₁
  refine BA.regEnd ?_
  refine BA.seq ?_
  refine BA.reg ?_
  simp only [List.size_toArray, List.length_cons, List.length_nil, Nat.reduceAdd, Nat.zero_add, List.range, List.range.loop]
  refine BA.op rfl rfl (by k_ne) fun w₁ r K hK => ?_
  go_simp
  refine hK _ (fun e he => ?_) ?_
  · have hm := mem_listed he
    simp [go_sem] at hm
  clear hK K r w₁
  refine BA.op rfl rfl (by k_ne) fun w₁ r K hK => ?_
  go_simp
  refine hK _ (fun e he => ?_) ?_
  · have hm := mem_listed he
    simp [go_sem] at hm
  clear hK K r w₁
  refine BA.op rfl rfl (by k_ne) fun w₁ r K hK => ?_
  go_simp
  refine hK _ (fun e he => ?_) ?_
  · have hm := mem_listed he
    simp [go_sem] at hm
  clear hK K r w₁
  refine BA.op rfl rfl (by k_ne) fun w₁ r K hK => ?_
  go_simp
  refine hK _ (fun e he => ?_) ?_
  · have hm := mem_listed he
    simp [go_sem] at hm
  clear hK K r w₁
  refine BA.op rfl rfl (by k_ne) fun w₁ r K hK => ?_
  go_simp
  refine hK _ (fun e he => ?_) ?_
  · have hm := mem_listed he
    simp [go_sem] at hm
  clear hK K r w₁
  refine BA.regEnd ?_
  refine BA.seq ?_
  refine BA.reg ?_
  simp only [List.size_toArray, List.length_cons, List.length_nil, Nat.reduceAdd, Nat.zero_add, List.range, List.range.loop]
  refine BA.op rfl rfl (by k_ne) fun w₁ r K hK => ?_
  go_simp
  refine hK _ (fun e he => ?_) ?_
  · have hm := mem_listed he
    simp [go_sem] at hm
  clear hK K r w₁
  refine BA.op rfl rfl (by k_ne) fun w₁ r K hK => ?_
  go_simp
  refine hK _ (fun e he => ?_) ?_
  · have hm := mem_listed he
    simp [go_sem] at hm
  clear hK K r w₁
  refine BA.regEnd ?_
  refine BA.condF rfl ?_
  refine BA.skip ?_
  refine BA.inBlock ?_
  refine BA.reg ?_
  simp only [List.size_toArray, List.length_cons, List.length_nil, Nat.reduceAdd, Nat.zero_add, List.range, List.range.loop]
  refine BA.op rfl rfl (by k_ne) fun w₁ r K hK => ?_
  go_simp
  refine hK _ (fun e he => ?_) ?_
  · have hm := mem_listed he
    simp [go_sem] at hm
  clear hK K r w₁
  refine BA.op rfl rfl (by k_ne) fun w₁ r K hK => ?_
  go_simp
  refine hK _ (fun e he => ?_) ?_
  · have hm := mem_listed he
    simp [go_sem] at hm
  clear hK K r w₁
  refine BA.regEnd ?_
  refine BA.inLoop ?_
  refine BA.seq ?_
  refine BA.reg ?_
  simp only [List.size_toArray, List.length_cons, List.length_nil, Nat.zero_add, List.range, List.range.loop]
  refine BA.op rfl rfl (by k_ne) fun w₁ r K hK => ?_
  go_simp
  refine hK _ (fun e he => ?_) ?_
  · have hm := mem_listed he
    simp [go_sem] at hm
  clear hK K r w₁
  refine BA.regEnd ?_
  refine BA.seq ?_
  refine BA.condT rfl ?_
  refine BA.skip ?_
  refine BA.seq ?_
  refine BA.block ?_
  refine BA.seq ?_
  refine BA.reg ?_
  simp only [List.size_toArray, List.length_cons, List.length_nil, Nat.reduceAdd, Nat.zero_add, List.range, List.range.loop]
  refine BA.op rfl rfl (by k_ne) fun w₁ r K hK => ?_
  go_simp
  refine hK _ (fun e he => ?_) ?_
  · have hm := mem_listed he
    simp [go_sem] at hm
  clear hK K r w₁
  refine BA.op rfl rfl (by k_ne) fun w₁ r K hK => ?_
  have hcell := cell_atR r (c1)
  go_simp
  refine hK _ (fun e he => ?_) ?_
  · have hm := mem_listed he
    simp [go_sem, hcell] at hm
    subst hm
    exact evC_cell false (hsb)
  clear hcell hK K r w₁
  refine BA.op rfl rfl (by k_ne) fun w₁ r K hK => ?_
  go_simp
  refine hK _ (fun e he => ?_) ?_
  · have hm := mem_listed he
    simp [go_sem] at hm
  clear hK K r w₁
  refine BA.regEnd ?_
  refine BA.seq ?_
  refine BA.reg ?_
  simp only [List.size_toArray, List.length_cons, List.length_nil, Nat.reduceAdd, Nat.zero_add, List.range, List.range.loop]
  refine BA.op rfl rfl (by k_ne) fun w₁ r K hK => ?_
  go_simp
  refine hK _ (fun e he => ?_) ?_
  · have hm := mem_listed he
    simp [go_sem] at hm
  clear hK K r w₁
  refine BA.op rfl rfl (by k_ne) fun w₁ r K hK => ?_
  go_simp
  refine hK _ (fun e he => ?_) ?_
  · have hm := mem_listed he
    simp [go_sem] at hm
  clear hK K r w₁
  refine BA.op rfl rfl (by k_ne) fun w₁ r K hK => ?_
  go_simp
  refine hK _ (fun e he => ?_) ?_
  · have hm := mem_listed he
    simp [go_sem] at hm
  clear hK K r w₁
  refine BA.op rfl rfl (by k_ne) fun w₁ r K hK => ?_
  go_simp
  refine hK _ (fun e he => ?_) ?_
  · have hm := mem_listed he
    simp [go_sem] at hm
  clear hK K r w₁
  refine BA.op rfl rfl (by k_ne) fun w₁ r K hK => ?_
  go_simp
  refine hK _ (fun e he => ?_) ?_
  · have hm := mem_listed he
    simp [go_sem] at hm
  clear hK K r w₁
  refine BA.regEnd ?_
  refine BA.seq ?_
  refine BA.reg ?_
  simp only [List.size_toArray, List.length_cons, List.length_nil, Nat.reduceAdd, Nat.zero_add, List.range, List.range.loop]
  refine BA.op rfl rfl (by k_ne) fun w₁ r K hK => ?_
  go_simp
  refine hK _ (fun e he => ?_) ?_
  · have hm := mem_listed he
    simp [go_sem] at hm
  clear hK K r w₁
  refine BA.op rfl rfl (by k_ne) fun w₁ r K hK => ?_
  go_simp
  refine hK _ (fun e he => ?_) ?_
  · have hm := mem_listed he
    simp [go_sem] at hm
  clear hK K r w₁
  refine BA.regEnd ?_
  refine BA.condF rfl ?_
  refine BA.skip ?_
  refine BA.inBlock ?_
  refine BA.reg ?_
  simp only [List.size_toArray, List.length_cons, List.length_nil, Nat.reduceAdd, Nat.zero_add, List.range, List.range.loop]
  refine BA.op rfl rfl (by k_ne) fun w₁ r K hK => ?_
  go_simp
  refine hK _ (fun e he => ?_) ?_
  · have hm := mem_listed he
    simp [go_sem] at hm
  clear hK K r w₁
  refine BA.op rfl rfl (by k_ne) fun w₁ r K hK => ?_
  go_simp
  refine hK _ (fun e he => ?_) ?_
  · have hm := mem_listed he
    simp [go_sem] at hm
  clear hK K r w₁
  refine BA.regEnd ?_
  refine BA.inLoop ?_
  refine BA.seq ?_
  refine BA.reg ?_
  simp only [List.size_toArray, List.length_cons, List.length_nil, Nat.zero_add, List.range, List.range.loop]
  refine BA.op rfl rfl (by k_ne) fun w₁ r K hK => ?_
  go_simp
  refine hK _ (fun e he => ?_) ?_
  · have hm := mem_listed he
    simp [go_sem] at hm
  clear hK K r w₁
  refine BA.regEnd ?_
  refine BA.seq ?_
  refine BA.condF rfl ?_
  refine BA.exit rfl ?_
  refine BA.seq ?_
  refine BA.reg ?_
  simp only [List.size_toArray, List.length_cons, List.length_nil, Nat.reduceAdd, Nat.zero_add, List.range, List.range.loop]
  refine BA.op rfl rfl (by k_ne) fun w₁ r K hK => ?_
  go_simp
  refine hK _ (fun e he => ?_) ?_
  · have hm := mem_listed he
    simp [go_sem] at hm
  clear hK K r w₁
  refine BA.call rfl rfl (by k_ne) rfl (by walk_nrm; exact Grow_cb (n := s) hZ (by have := HS.out; omega)) fun ZG vG wG hp => ?_
  obtain ⟨rfl, hX, hown⟩ := hp
  walk_nrm
  refine BA.op rfl rfl (by k_ne) fun w₁ r K hK => ?_
  go_simp
  refine hK _ (fun e he => ?_) ?_
  · have hm := mem_listed he
    simp [go_sem] at hm
  clear hK K r w₁
  refine BA.regEnd ?_
  refine BA.seq ?_
  refine BA.seq ?_
  refine BA.reg ?_
  simp only [List.size_toArray, List.length_cons, List.length_nil, Nat.reduceAdd, Nat.zero_add, List.range, List.range.loop]
  refine BA.op rfl rfl (by k_ne) fun w₁ r K hK => ?_
  go_simp
  refine hK _ (fun e he => ?_) ?_
  · have hm := mem_listed he
    simp [go_sem] at hm
  clear hK K r w₁
  refine BA.op rfl rfl (by k_ne) fun w₁ r K hK => ?_
  go_simp
  refine hK _ (fun e he => ?_) ?_
  · have hm := mem_listed he
    simp [go_sem] at hm
  clear hK K r w₁
  refine BA.op rfl rfl (by k_ne) fun w₁ r K hK => ?_
  go_simp
  refine hK _ (fun e he => ?_) ?_
  · have hm := mem_listed he
    simp [go_sem] at hm
  clear hK K r w₁
  refine BA.regEnd ?_
  refine BA.block ?_
  refine BA.loop ?_
  refine BA.seq ?_
  refine BA.reg ?_
  simp only [List.size_toArray, List.length_cons, List.length_nil, Nat.zero_add, List.range, List.range.loop]
  refine BA.op rfl rfl (by k_ne) fun w₁ r K hK => ?_
  go_simp
  refine hK _ (fun e he => ?_) ?_
  · have hm := mem_listed he
    simp [go_sem] at hm
  clear hK K r w₁
  refine BA.regEnd ?_
  refine BA.seq ?_
  refine BA.condT rfl ?_
  refine BA.skip ?_
  refine BA.seq ?_
  refine BA.block ?_
  refine BA.seq ?_
  refine BA.reg ?_
  simp only [List.size_toArray, List.length_cons, List.length_nil, Nat.reduceAdd, Nat.zero_add, List.range, List.range.loop]
  refine BA.op rfl rfl (by k_ne) fun w₁ r K hK => ?_
  go_simp
  refine hK _ (fun e he => ?_) ?_
  · have hm := mem_listed he
    simp [go_sem] at hm
  clear hK K r w₁
  refine BA.op rfl rfl (by k_ne) fun w₁ r K hK => ?_
  have hcell := cell_atR r (olds_cell hX.olds (World.block_lt_of_cell? _ _ c0) c0)
  go_simp
  refine hK _ (fun e he => ?_) ?_
  · have hm := mem_listed he
    simp [go_sem, hcell] at hm
    subst hm
    exact evC_cell false (hsb)
  clear hcell hK K r w₁
  refine BA.op rfl rfl (by k_ne) fun w₁ r K hK => ?_
  go_simp
  refine hK _ (fun e he => ?_) ?_
  · have hm := mem_listed he
    simp [go_sem] at hm
  clear hK K r w₁
  refine BA.regEnd ?_
  refine BA.reg ?_
  simp only [List.size_toArray, List.length_cons, List.length_nil, Nat.reduceAdd, Nat.zero_add, List.range, List.range.loop]
  refine BA.op rfl rfl (by k_ne) fun w₁ r K hK => ?_
  go_simp
  refine hK _ (fun e he => ?_) ?_
  · have hm := mem_listed he
    simp [go_sem] at hm
  clear hK K r w₁
  refine BA.op rfl rfl (by k_ne) fun w₁ r K hK => ?_
  go_simp
  refine hK _ (fun e he => ?_) ?_
  · have hm := mem_listed he
    simp [go_sem] at hm
  clear hK K r w₁
  refine BA.any rfl rfl (by k_ne) fun wA r => ?_
  have hownA := own_at hown r
  have hXA := hX.at r
  obtain ⟨v1, w1, h1, h2, h3, h4⟩ := app_list (oa := oa) (n := n) (f := xs) (c := ca) (by omega) hownA hL.one (fun a p e hp => olds_cell hXA.olds (hL.el a p e hp).2.1 (hL.el a p e hp).1) hXA.olds.size
  refine ⟨v1, w1, run_append_op2 (v := vG) (xv := .slice oa n ca) (.tmp 31) (.tmp 32) 29 29 rfl (by simp [Act.eval]) (by simp [Act.eval]) h1, fun ev he => ?_, ?_⟩
  · rw [events_append_op2 (v := vG) (xv := .slice oa n ca) (.tmp 31) (.tmp 32) 29 29 rfl (by simp [Act.eval]) (by simp [Act.eval])] at he
    rcases h4 ev he with ⟨ad, e1, e2⟩ | ⟨mk, rfl, hm⟩
    · refine evC_loc e1 ?_
      rcases e2 with ⟨a, ea, hp, e2⟩ | e2
      · have h := (hL.el a 0 ea hp).2.2
        rw [add_block] at h
        rw [e2]
        exact h
      · exact own_clean hZ hownA e2
    · exact evC_neutral hm
  replace hX := hXA.grown h3 fun b hb => own_block hownA hb
  replace hown := h2
  clear h1 h2 h3 h4 hownA hXA
  walk_nrm
  refine BA.op rfl rfl (by k_ne) fun w₁ r K hK => ?_
  go_simp
  refine hK _ (fun e he => ?_) ?_
  · have hm := mem_listed he
    simp [go_sem] at hm
  clear hK K r w₁
  refine BA.regEnd ?_
  refine BA.inBlock ?_
  refine BA.reg ?_
  simp only [List.size_toArray, List.length_cons, List.length_nil, Nat.reduceAdd, Nat.zero_add, List.range, List.range.loop]
  refine BA.op rfl rfl (by k_ne) fun w₁ r K hK => ?_
  go_simp
  refine hK _ (fun e he => ?_) ?_
  · have hm := mem_listed he
    simp [go_sem] at hm
  clear hK K r w₁
  refine BA.op rfl rfl (by k_ne) fun w₁ r K hK => ?_
  go_simp
  refine hK _ (fun e he => ?_) ?_
  · have hm := mem_listed he
    simp [go_sem] at hm
  clear hK K r w₁
  refine BA.regEnd ?_
  refine BA.inLoop ?_
  refine BA.seq ?_
  refine BA.reg ?_
  simp only [List.size_toArray, List.length_cons, List.length_nil, Nat.zero_add, List.range, List.range.loop]
  refine BA.op rfl rfl (by k_ne) fun w₁ r K hK => ?_
  go_simp
  refine hK _ (fun e he => ?_) ?_
  · have hm := mem_listed he
    simp [go_sem] at hm
  clear hK K r w₁
  refine BA.regEnd ?_
  refine BA.seq ?_
  refine BA.condT rfl ?_
  refine BA.skip ?_
  refine BA.seq ?_
  refine BA.block ?_
  refine BA.seq ?_
  refine BA.reg ?_
  simp only [List.size_toArray, List.length_cons, List.length_nil, Nat.reduceAdd, Nat.zero_add, List.range, List.range.loop]
  refine BA.op rfl rfl (by k_ne) fun w₁ r K hK => ?_
  go_simp
  refine hK _ (fun e he => ?_) ?_
  · have hm := mem_listed he
    simp [go_sem] at hm
  clear hK K r w₁
  refine BA.op rfl rfl (by k_ne) fun w₁ r K hK => ?_
  have hcell := cell_atR r (olds_cell hX.olds (World.block_lt_of_cell? _ _ c1) c1)
  go_simp
  refine hK _ (fun e he => ?_) ?_
  · have hm := mem_listed he
    simp [go_sem, hcell] at hm
    subst hm
    exact evC_cell false (hsb)
  clear hcell hK K r w₁
  refine BA.op rfl rfl (by k_ne) fun w₁ r K hK => ?_
  go_simp
  refine hK _ (fun e he => ?_) ?_
  · have hm := mem_listed he
    simp [go_sem] at hm
  clear hK K r w₁
  refine BA.regEnd ?_
  refine BA.reg ?_
  simp only [List.size_toArray, List.length_cons, List.length_nil, Nat.reduceAdd, Nat.zero_add, List.range, List.range.loop]
  refine BA.op rfl rfl (by k_ne) fun w₁ r K hK => ?_
  go_simp
  refine hK _ (fun e he => ?_) ?_
  · have hm := mem_listed he
    simp [go_sem] at hm
  clear hK K r w₁
  refine BA.op rfl rfl (by k_ne) fun w₁ r K hK => ?_
  go_simp
  refine hK _ (fun e he => ?_) ?_
  · have hm := mem_listed he
    simp [go_sem] at hm
  clear hK K r w₁
  refine BA.any rfl rfl (by k_ne) fun wA r => ?_
  have hownA := own_at hown r
  have hXA := hX.at r
  obtain ⟨v2, w2, h1, h2, h3, h4⟩ := app_list (oa := ob) (n := m) (f := ys) (c := cb) (by omega) hownA hR.one (fun a p e hp => olds_cell hXA.olds (hR.el a p e hp).2.1 (hR.el a p e hp).1) hXA.olds.size
  refine ⟨v2, w2, run_append_op2 (v := v1) (xv := .slice ob m cb) (.tmp 31) (.tmp 32) 29 29 rfl (by simp [Act.eval]) (by simp [Act.eval]) h1, fun ev he => ?_, ?_⟩
  · rw [events_append_op2 (v := v1) (xv := .slice ob m cb) (.tmp 31) (.tmp 32) 29 29 rfl (by simp [Act.eval]) (by simp [Act.eval])] at he
    rcases h4 ev he with ⟨ad, e1, e2⟩ | ⟨mk, rfl, hm⟩
    · refine evC_loc e1 ?_
      rcases e2 with ⟨a, ea, hp, e2⟩ | e2
      · have h := (hR.el a 0 ea hp).2.2
        rw [add_block] at h
        rw [e2]
        exact h
      · exact own_clean hZ hownA e2
    · exact evC_neutral hm
  replace hX := hXA.grown h3 fun b hb => own_block hownA hb
  replace hown := h2
  clear h1 h2 h3 h4 hownA hXA
  walk_nrm
  refine BA.op rfl rfl (by k_ne) fun w₁ r K hK => ?_
  go_simp
  refine hK _ (fun e he => ?_) ?_
  · have hm := mem_listed he
    simp [go_sem] at hm
  clear hK K r w₁
  refine BA.regEnd ?_
  refine BA.inBlock ?_
  refine BA.reg ?_
  simp only [List.size_toArray, List.length_cons, List.length_nil, Nat.reduceAdd, Nat.zero_add, List.range, List.range.loop]
  refine BA.op rfl rfl (by k_ne) fun w₁ r K hK => ?_
  go_simp
  refine hK _ (fun e he => ?_) ?_
  · have hm := mem_listed he
    simp [go_sem] at hm
  clear hK K r w₁
  refine BA.op rfl rfl (by k_ne) fun w₁ r K hK => ?_
  go_simp
  refine hK _ (fun e he => ?_) ?_
  · have hm := mem_listed he
    simp [go_sem] at hm
  clear hK K r w₁
  refine BA.regEnd ?_
  refine BA.inLoop ?_
  refine BA.seq ?_
  refine BA.reg ?_
  simp only [List.size_toArray, List.length_cons, List.length_nil, Nat.zero_add, List.range, List.range.loop]
  refine BA.op rfl rfl (by k_ne) fun w₁ r K hK => ?_
  go_simp
  refine hK _ (fun e he => ?_) ?_
  · have hm := mem_listed he
    simp [go_sem] at hm
  clear hK K r w₁
  refine BA.regEnd ?_
  refine BA.seq ?_
  refine BA.condF rfl ?_
  refine BA.exit rfl ?_
  refine BA.seq ?_
  refine BA.reg ?_
  simp only [List.size_toArray, List.length_cons, List.length_nil, Nat.reduceAdd, Nat.zero_add, List.range, List.range.loop]
  refine BA.op rfl rfl (by k_ne) fun w₁ r K hK => ?_
  go_simp
  refine hK _ (fun e he => ?_) ?_
  · have hm := mem_listed he
    simp [go_sem] at hm
  clear hK K r w₁
  refine BA.op rfl rfl (by k_ne) fun w₁ r K hK => ?_
  go_simp
  refine hK _ (fun e he => ?_) ?_
  · have hm := mem_listed he
    simp [go_sem] at hm
  clear hK K r w₁
  refine BA.regEnd ?_
  refine BA.ret ?_
  refine BA.leave1 Try.func27 rfl ?_
  rw [List.nil_append, cat_list, Nat.zero_add] at hown
  exact hnx _ _ _ ⟨hX, Lists.own hZ hown⟩
end
end Go.Proofs.Ytbckmkppmdfnnaa.Crew
