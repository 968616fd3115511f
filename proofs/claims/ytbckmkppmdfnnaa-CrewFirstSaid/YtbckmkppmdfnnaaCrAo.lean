/- crew: First over first. Made by wip/tools/crew/mkAo.py. -/
import Derived.Test.YtbckmkppmdfnnaaCrAn
namespace Go.Proofs.Ytbckmkppmdfnnaa.Crew
open Go.Conc Go.RowKit Go.Conc.Lib Go.ConcR.Gen
theorem Built.cell {w₀ w : World} {l : List (Nat × Obj)} (h : Built w₀ l w) {c : Nat} {u : Value} {ty : TypeId} (hm : (c, Obj.cells #[u] ty) ∈ l) : w.cell? ⟨c, 0, none⟩ = some u := by
  have := h.has _ hm
  simp [World.cell?, this]
theorem ev_nil (f : FuncId) (cp : Array Value) (w : World) (es : Array Event) : (binOp .eql 30 (.func (.func f) #[] cp) .nilFunc).events Try.prog w es = es := by
  simp [binOp, Op.equal, go_sem]
  rw [show Op.maxDepth = (Op.maxDepth - 1) + 1 from rfl]
  obtain ⟨ps, rs, vr, h⟩ : ∃ ps rs vr, Try.prog.underlying 30 = some (.func ps rs vr) := ⟨_, _, _, rfl⟩
  unfold Op.equalIn
  simp [go_sem, run_underlying h]
noncomputable def body13 : Code := Try.f13.body.getD .skip
noncomputable def ops13 : Array Oper := match body13 with | .seq _ (.seq _ (.seq (.region _ ops _) _)) => ops | _ => #[]
section
variable {Z : Nat → Prop} {cs : List Frame} {Stop : Goroutine → World → Prop}
set_option maxRecDepth 100000 in
set_option maxHeartbeats 1000000 in
/-- First, up to its call of first. -/
theorem first13_a {oa : Option Addr} {len cap f : Nat} {wk : Int} {cp : Array Value} {w0 : World} (hZ : ∀ c, Z c → c < w0.heap.size)
    (hS : ∀ (w : World) (tb ib : Nat) (u0 u1 u2 u4 u7 u8 u9 u10 u11 u12 u13 : Value), w0.heap.size ≤ tb → tb < ib → Built w0 [(ib, .cells #[.func (.func f) #[] cp] 30), (tb, .cells #[.slice oa len cap] 29)] w →
      Stop (G ((base 29).at ⟨#[.int .i64 (len : Nat), .int .i64 wk, .func (.func 30) #[] #[.pointer (some ⟨ib, 0, none⟩), .pointer (some ⟨tb, 0, none⟩)], undef, undef, undef, undef, undef, undef, undef, undef, undef, undef, undef, undef, undef, undef, undef, undef, undef, undef, undef, undef, undef, undef, undef, undef, undef, undef, undef, undef, undef, undef, undef, undef, undef, undef, undef, undef, undef, undef, undef, undef, undef, undef], []⟩ [.code body29]) ((base 13).at ⟨#[u0, u1, u2, .pointer (some ⟨tb, 0, none⟩), u4, .pointer (some ⟨ib, 0, none⟩), .int .i64 0, u7, u8, u9, u10, u11, u12, u13], []⟩ [.inRegion ops13 [4, 5], .code .ret] :: cs)) w) :
    Goes Try.prog true AtRel (DZ Z) Stop 60 (G ((base 13).at ⟨#[.slice oa len cap, .int .i64 wk, .func (.func f) #[] cp, undef, undef, undef, undef, undef, undef, undef, undef, undef, undef, undef], []⟩ [.code body13]) cs) w0 := by
  have T := termsZ Z
  obtain ⟨w, hw⟩ : ∃ w, w = w0 := ⟨w0, rfl⟩
  have hF : Built w0 [] w := ⟨by rw [hw]; exact Olds.refl _, by simp⟩
  rw [show Goes Try.prog true AtRel (DZ Z) Stop 60 _ w0 = Goes Try.prog true AtRel (DZ Z) Stop 60 _ w by rw [hw]]
  clear hw
  simp only [body13, ops13, Try.f13, Option.getD_some] at hS ⊢
  refine Goes.step rfl (fun _ h₁ => ?_)
  replace hF := Built.at hF h₁
  clear h₁
  rw [stepG_seq]
  simp only [goes_go]
  refine ⟨T.idle _, ?_⟩
  refine Goes.step rfl (fun _ h₁ => ?_)
  replace hF := Built.at hF h₁
  clear h₁
  rw [stepG_region]
  simp only [goes_go, List.size_toArray, List.length_cons, List.length_nil, Nat.reduceAdd, Nat.zero_add, List.range, List.range.loop]
  refine ⟨T.idle _, ?_⟩
  refine Goes.step rfl (fun x h₁ => ?_)
  replace hF := Built.at hF h₁
  clear h₁
  rw [stepG_value (v := .pointer (some ⟨x.heap.size, 0, none⟩)) (w' := x.alloc (.cells #[.slice oa len cap] 29)) rfl rfl (by k_ne) (by unfold execOp; simp [go_sem])]
  simp only [goes_go]
  refine ⟨fun e he => (?_ : EvC Z e), ?_⟩
  · have hm := mem_listed he
    unfold execOp at hm
    simp [go_sem] at hm
  have ltb := hF.lt
  have ztb := hF.olds.size
  replace hF := hF.alloc (o := .cells #[.slice oa len cap] 29)
  obtain ⟨tb, htb⟩ : ∃ N, x.heap.size = N := ⟨_, rfl⟩
  rw [htb] at hF ltb ztb ⊢
  walk_nrm
  refine Goes.step rfl (fun y h₁ => ?_)
  replace hF := Built.at hF h₁
  clear h₁
  rw [stepG_value (v := .pointer (some ⟨y.heap.size, 0, none⟩)) (w' := y.alloc (.cells #[.func (.func f) #[] cp] 30)) rfl rfl (by k_ne) (by unfold execOp; simp [go_sem])]
  simp only [goes_go]
  refine ⟨fun e he => (?_ : EvC Z e), ?_⟩
  · have hm := mem_listed he
    unfold execOp at hm
    simp [go_sem] at hm
  have lib := hF.lt
  have zib := hF.olds.size
  replace hF := hF.alloc (o := .cells #[.func (.func f) #[] cp] 30)
  obtain ⟨ib, hib⟩ : ∃ N, y.heap.size = N := ⟨_, rfl⟩
  rw [hib] at hF lib zib ⊢
  walk_nrm
  have z1 : tb < ib := lib (tb, .cells #[.slice oa len cap] 29) (by simp)
  refine Goes.step rfl (fun _ h₁ => ?_)
  replace hF := Built.at hF h₁
  clear h₁
  refine goes_oper_k rfl rfl (by k_ne) (fun κ hκ => ?_)
  go_simp
  refine hκ _ _ ⟨idle_of T (fun e he => ?_), ?_⟩
  · have hm := mem_listed he
    simp [go_sem] at hm
  clear hκ κ
  refine Goes.step rfl (fun _ h₁ => ?_)
  replace hF := Built.at hF h₁
  clear h₁
  rw [stepG_region_end]
  simp only [goes_go]
  refine ⟨T.idle _, ?_⟩
  refine Goes.step rfl (fun _ h₁ => ?_)
  replace hF := Built.at hF h₁
  clear h₁
  rw [stepG_seq]
  simp only [goes_go]
  refine ⟨T.idle _, ?_⟩
  refine Goes.step rfl (fun _ h₁ => ?_)
  replace hF := Built.at hF h₁
  clear h₁
  rw [stepG_seq]
  simp only [goes_go]
  refine ⟨T.idle _, ?_⟩
  refine Goes.step rfl (fun _ h₁ => ?_)
  replace hF := Built.at hF h₁
  clear h₁
  rw [stepG_region]
  simp only [goes_go, List.size_toArray, List.length_cons, List.length_nil, Nat.reduceAdd, Nat.zero_add, List.range, List.range.loop]
  refine ⟨T.idle _, ?_⟩
  refine Goes.step rfl (fun _ h₁ => ?_)
  replace hF := Built.at hF h₁
  clear h₁
  have hcell := hF.cell (c := ib) (u := .func (.func f) #[] cp) (ty := 30) (by simp)
  refine goes_oper_k rfl rfl (by k_ne) (fun κ hκ => ?_)
  go_simp
  refine hκ _ _ ⟨fun e he => (?_ : EvC Z e), ?_⟩
  · have hm := mem_listed he
    simp [go_sem, hcell] at hm
    subst hm
    exact evC_cell false (fun h => by have := hZ _ h; dsimp only at this; omega)
  clear hκ κ hcell
  refine Goes.step rfl (fun _ h₁ => ?_)
  replace hF := Built.at hF h₁
  clear h₁
  refine goes_oper_k rfl rfl (by k_ne) (fun κ hκ => ?_)
  go_simp
  refine hκ _ _ ⟨idle_of T (fun e he => ?_), ?_⟩
  · have hm := mem_listed he
    simp [go_sem, ev_nil] at hm
  clear hκ κ
  refine Goes.step rfl (fun _ h₁ => ?_)
  replace hF := Built.at hF h₁
  clear h₁
  rw [stepG_region_end]
  simp only [goes_go]
  refine ⟨T.idle _, ?_⟩
  refine Goes.step rfl (fun _ h₁ => ?_)
  replace hF := Built.at hF h₁
  clear h₁
  rw [stepG_cond (t := false) rfl]
  simp only [goes_go, Bool.false_eq_true, ↓reduceIte]
  refine ⟨T.idle _, ?_⟩
  refine Goes.step rfl (fun _ h₁ => ?_)
  replace hF := Built.at hF h₁
  clear h₁
  rw [stepG_skip]
  simp only [goes_go]
  refine ⟨T.idle _, ?_⟩
  refine Goes.step rfl (fun _ h₁ => ?_)
  replace hF := Built.at hF h₁
  clear h₁
  rw [stepG_seq]
  simp only [goes_go]
  refine ⟨T.idle _, ?_⟩
  refine Goes.step rfl (fun _ h₁ => ?_)
  replace hF := Built.at hF h₁
  clear h₁
  rw [stepG_region]
  simp only [goes_go, List.size_toArray, List.length_cons, List.length_nil, Nat.reduceAdd, Nat.zero_add, List.range, List.range.loop]
  refine ⟨T.idle _, ?_⟩
  refine Goes.step rfl (fun _ h₁ => ?_)
  replace hF := Built.at hF h₁
  clear h₁
  have hcell := hF.cell (c := tb) (u := .slice oa len cap) (ty := 29) (by simp)
  refine goes_oper_k rfl rfl (by k_ne) (fun κ hκ => ?_)
  go_simp
  refine hκ _ _ ⟨fun e he => (?_ : EvC Z e), ?_⟩
  · have hm := mem_listed he
    simp [go_sem, hcell] at hm
    subst hm
    exact evC_cell false (fun h => by have := hZ _ h; dsimp only at this; omega)
  clear hκ κ hcell
  refine Goes.step rfl (fun _ h₁ => ?_)
  replace hF := Built.at hF h₁
  clear h₁
  refine goes_oper_k rfl rfl (by k_ne) (fun κ hκ => ?_)
  go_simp
  refine hκ _ _ ⟨idle_of T (fun e he => ?_), ?_⟩
  · have hm := mem_listed he
    simp [go_sem] at hm
  clear hκ κ
  refine Goes.step rfl (fun _ h₁ => ?_)
  replace hF := Built.at hF h₁
  clear h₁
  refine goes_oper_k rfl rfl (by k_ne) (fun κ hκ => ?_)
  go_simp
  refine hκ _ _ ⟨idle_of T (fun e he => ?_), ?_⟩
  · have hm := mem_listed he
    simp [go_sem] at hm
  clear hκ κ
  refine Goes.step rfl (fun _ h₁ => ?_)
  replace hF := Built.at hF h₁
  clear h₁
  refine goes_oper_k rfl rfl (by k_ne) (fun κ hκ => ?_)
  go_simp
  refine hκ _ _ ⟨idle_of T (fun e he => ?_), ?_⟩
  · have hm := mem_listed he
    simp [go_sem, Instr.makeFunc] at hm
  clear hκ κ
  refine Goes.step rfl (fun _ h₁ => ?_)
  replace hF := Built.at hF h₁
  clear h₁
  refine goes_call (c := body29) rfl rfl (by k_ne) rfl Try.func29 (by kernel_rfl) rfl ⟨T.idle _, ?_⟩
  simp only [show Try.f29.ntmps = 45 from rfl]
  walk_nrm
  refine Goes.stop fun w₁ h₁ => ?_

  exact hS w₁ _ _ _ _ _ _ _ _ _ _ _ _ _ (by omega) z1 (hF.at h₁)
end
end Go.Proofs.Ytbckmkppmdfnnaa.Crew
