/- crew: All over First. Made by wip/tools/crew/mkAr.py. -/
import Derived.Test.YtbckmkppmdfnnaaCrAq
namespace Go.Proofs.Ytbckmkppmdfnnaa.Crew
open Go.Conc Go.RowKit Go.Conc.Lib Go.ConcR.Gen
noncomputable def body15 : Code := Try.f15.body.getD .skip
noncomputable def ops15 : Array Oper := match body15 with | .seq _ (.seq _ (.seq (.region _ ops _) _)) => ops | _ => #[]
section
variable {Z : Nat → Prop} {cs : List Frame} {Stop : (Nat → Prop) → Goroutine → World → Prop}
set_option maxRecDepth 100000 in
set_option maxHeartbeats 1000000 in
theorem All_br {oa : Option Addr} {len cap f : Nat} {wk : Int} {cp : Array Value} {xs : Nat → Int} {φ : Int → Bool} {w0 : World} (hZ : ∀ c, Z c → c < w0.heap.size) (hM : len ≤ 9223372036854775807) (hL : Lists w0 Z oa len xs)
    (hv : ∀ w Mk, Olds w0 w → w.heap.size ≤ Mk → OldFun w Z Mk (.func (.func f) #[] cp) (fun x => .bool (φ x)))
    (hS : ∀ (Wg r : Nat) (w' : World), Least (fun p => !φ (xs p)) len r → w0.heap.size ≤ Wg → Wg < w'.heap.size → Olds w0 w' → ∀ (W : Array Value) (todo : List Item), W.getD 6 undef = .bool (decide (r = len)) → BR Try.prog Stop (fun x => Z x ∨ x = Wg) (G { (base 15).at ⟨W, []⟩ todo with mode := .returning } cs) w') :
    BR Try.prog Stop Z (G ((base 15).at ⟨#[.slice oa len cap, .int .i64 wk, .func (.func f) #[] cp, undef, undef, undef, undef, undef, undef, undef, undef, undef, undef, undef, undef, undef, undef], []⟩ [.code body15]) cs) w0 := by
  have T := termsZ Z
  obtain ⟨w, hw⟩ : ∃ w, w = w0 := ⟨w0, rfl⟩
  have hF : Built w0 [] w := ⟨by rw [hw]; exact Olds.refl _, by simp⟩
  rw [show BR Try.prog Stop Z _ w0 = BR Try.prog Stop Z _ w by rw [hw]]
  clear hw
  refine BR.of_goes (n := 60) ?_
  simp only [body15, Try.f15, Option.getD_some]
  refine Goes.step rfl (fun _ h₁ => ?_)
  replace hF := Built.at hF h₁
  clear h₁
  rw [stepG_seq]
  simp only [goes_go]
  refine ⟨T.idle _, ?_⟩
  refine Goes.step rfl (fun _ h₁ => ?_)
  replace hF := Built.at hF h₁
  clear h₁
  rw [stepG_region]
  simp only [goes_go, List.size_toArray, List.length_cons, List.length_nil, Nat.reduceAdd, Nat.zero_add, List.range, List.range.loop]
  refine ⟨T.idle _, ?_⟩
  refine Goes.step rfl (fun y h₁ => ?_)
  replace hF := Built.at hF h₁
  clear h₁
  rw [stepG_value (v := .pointer (some ⟨y.heap.size, 0, none⟩)) (w' := y.alloc (.cells #[.func (.func f) #[] cp] 30)) rfl rfl (by k_ne) (by unfold execOp; simp [go_sem])]
  simp only [goes_go]
  refine ⟨fun e he => (?_ : EvC Z e), ?_⟩
  · have hm := mem_listed he
    unfold execOp at hm
    simp [go_sem] at hm
  have lib := hF.lt
  have zib := hF.olds.size
  replace hF := hF.alloc (o := .cells #[.func (.func f) #[] cp] 30)
  obtain ⟨ib, hib⟩ : ∃ N, y.heap.size = N := ⟨_, rfl⟩
  rw [hib] at hF lib zib ⊢
  walk_nrm
  refine Goes.step rfl (fun _ h₁ => ?_)
  replace hF := Built.at hF h₁
  clear h₁
  refine goes_oper_k rfl rfl (by k_ne) (fun κ hκ => ?_)
  go_simp
  refine hκ _ _ ⟨idle_of T (fun e he => ?_), ?_⟩
  · have hm := mem_listed he
    simp [go_sem] at hm
  clear hκ κ
  refine Goes.step rfl (fun _ h₁ => ?_)
  replace hF := Built.at hF h₁
  clear h₁
  rw [stepG_region_end]
  simp only [goes_go]
  refine ⟨T.idle _, ?_⟩
  refine Goes.step rfl (fun _ h₁ => ?_)
  replace hF := Built.at hF h₁
  clear h₁
  rw [stepG_seq]
  simp only [goes_go]
  refine ⟨T.idle _, ?_⟩
  refine Goes.step rfl (fun _ h₁ => ?_)
  replace hF := Built.at hF h₁
  clear h₁
  rw [stepG_seq]
  simp only [goes_go]
  refine ⟨T.idle _, ?_⟩
  refine Goes.step rfl (fun _ h₁ => ?_)
  replace hF := Built.at hF h₁
  clear h₁
  rw [stepG_region]
  simp only [goes_go, List.size_toArray, List.length_cons, List.length_nil, Nat.reduceAdd, Nat.zero_add, List.range, List.range.loop]
  refine ⟨T.idle _, ?_⟩
  refine Goes.step rfl (fun _ h₁ => ?_)
  replace hF := Built.at hF h₁
  clear h₁
  have hcell := hF.cell (c := ib) (u := .func (.func f) #[] cp) (ty := 30) (by simp)
  refine goes_oper_k rfl rfl (by k_ne) (fun κ hκ => ?_)
  go_simp
  refine hκ _ _ ⟨fun e he => (?_ : EvC Z e), ?_⟩
  · have hm := mem_listed he
    simp [go_sem, hcell] at hm
    subst hm
    exact evC_cell false (fun h => by have := hZ _ h; dsimp only at this; omega)
  clear hκ κ hcell
  refine Goes.step rfl (fun _ h₁ => ?_)
  replace hF := Built.at hF h₁
  clear h₁
  refine goes_oper_k rfl rfl (by k_ne) (fun κ hκ => ?_)
  go_simp
  refine hκ _ _ ⟨idle_of T (fun e he => ?_), ?_⟩
  · have hm := mem_listed he
    simp [go_sem, ev_nil] at hm
  clear hκ κ
  refine Goes.step rfl (fun _ h₁ => ?_)
  replace hF := Built.at hF h₁
  clear h₁
  rw [stepG_region_end]
  simp only [goes_go]
  refine ⟨T.idle _, ?_⟩
  refine Goes.step rfl (fun _ h₁ => ?_)
  replace hF := Built.at hF h₁
  clear h₁
  rw [stepG_cond (t := false) rfl]
  simp only [goes_go, Bool.false_eq_true, ↓reduceIte]
  refine ⟨T.idle _, ?_⟩
  refine Goes.step rfl (fun _ h₁ => ?_)
  replace hF := Built.at hF h₁
  clear h₁
  rw [stepG_skip]
  simp only [goes_go]
  refine ⟨T.idle _, ?_⟩
  refine Goes.step rfl (fun _ h₁ => ?_)
  replace hF := Built.at hF h₁
  clear h₁
  rw [stepG_seq]
  simp only [goes_go]
  refine ⟨T.idle _, ?_⟩
  refine Goes.step rfl (fun _ h₁ => ?_)
  replace hF := Built.at hF h₁
  clear h₁
  rw [stepG_region]
  simp only [goes_go, List.size_toArray, List.length_cons, List.length_nil, Nat.reduceAdd, Nat.zero_add, List.range, List.range.loop]
  refine ⟨T.idle _, ?_⟩
  refine Goes.step rfl (fun _ h₁ => ?_)
  replace hF := Built.at hF h₁
  clear h₁
  refine goes_oper_k rfl rfl (by k_ne) (fun κ hκ => ?_)
  go_simp
  refine hκ _ _ ⟨idle_of T (fun e he => ?_), ?_⟩
  · have hm := mem_listed he
    simp [go_sem] at hm
  clear hκ κ
  refine Goes.step rfl (fun _ h₁ => ?_)
  replace hF := Built.at hF h₁
  clear h₁
  refine goes_oper_k rfl rfl (by k_ne) (fun κ hκ => ?_)
  go_simp
  refine hκ _ _ ⟨idle_of T (fun e he => ?_), ?_⟩
  · have hm := mem_listed he
    simp [go_sem] at hm
  clear hκ κ
  refine Goes.step rfl (fun _ h₁ => ?_)
  replace hF := Built.at hF h₁
  clear h₁
  refine goes_oper_k rfl rfl (by k_ne) (fun κ hκ => ?_)
  go_simp
  refine hκ _ _ ⟨idle_of T (fun e he => ?_), ?_⟩
  · have hm := mem_listed he
    simp [go_sem, Instr.makeFunc] at hm
  clear hκ κ
  refine Goes.step rfl (fun _ h₁ => ?_)
  replace hF := Built.at hF h₁
  clear h₁
  refine goes_call (c := body13) rfl rfl (by k_ne) rfl Try.func13 (by kernel_rfl) rfl ⟨T.idle _, ?_⟩
  simp only [show Try.f13.ntmps = 14 from rfl]
  walk_nrm
  refine Goes.stop fun w₁ h₁ => ?_
  replace hF := hF.at h₁
  have hol := hF.olds
  have lib := hF.lt (ib, .cells #[.func (.func f) #[] cp] 30) (by simp)
  dsimp only at lib
  have hc := hF.cell (c := ib) (u := .func (.func f) #[] cp) (ty := 30) (by simp)
  refine First_br (φ := fun x => !φ x) (fun c h => Nat.lt_of_lt_of_le (hZ c h) hol.size) hM (hL.olds hol) (fun w2 Mk ho hMk => old_all (olds_cell ho lib hc) ⟨Nat.lt_of_lt_of_le lib ho.size, by have := ho.size; omega, fun h => by have := hZ _ h; omega⟩ (hv w2 Mk (hol.trans ho) hMk)) fun Wg r w' hle g1 g2 ho W todo hW => ?_
  have hsz := hol.size
  clear T
  have T := termsZ (fun x => Z x ∨ x = Wg)
  replace hF : Olds w0 w' ∧ Wg < w'.heap.size := ⟨hol.trans ho, g2⟩
  have st : ∀ {x y : World}, Olds w0 x ∧ Wg < x.heap.size → AtRel x y → Olds w0 y ∧ Wg < y.heap.size := fun h k => ⟨h.1.at k, by obtain ⟨d, rfl⟩ := k; exact h.2⟩
  refine BR.of_goes (n := 9) ?_
  by_cases hr : r = len
  · have hW1 : W.getD 6 undef = .int .i64 (-1) := by rw [hW]; simp [res, hr]
    refine Goes.step rfl (fun _ h₁ => ?_)
    replace hF := st hF h₁
    clear h₁
    refine goes_leave1 rfl rfl Try.func13 rfl ⟨T.idle _, ?_⟩
    rw [hW1]
    walk_nrm
    refine Goes.step rfl (fun _ h₁ => ?_)
    replace hF := st hF h₁
    clear h₁
    refine goes_oper_k rfl rfl (by k_ne) (fun κ hκ => ?_)
    go_simp
    refine hκ _ _ ⟨idle_of T (fun e he => ?_), ?_⟩
    · have hm := mem_listed he
      simp [go_sem] at hm
    clear hκ κ
    refine Goes.step rfl (fun _ h₁ => ?_)
    replace hF := st hF h₁
    clear h₁
    refine goes_oper_k rfl rfl (by k_ne) (fun κ hκ => ?_)
    go_simp
    refine hκ _ _ ⟨idle_of T (fun e he => ?_), ?_⟩
    · have hm := mem_listed he
      simp [go_sem] at hm
    clear hκ κ
    refine Goes.step rfl (fun _ h₁ => ?_)
    replace hF := st hF h₁
    clear h₁
    rw [stepG_region_end]
    simp only [goes_go]
    refine ⟨T.idle _, ?_⟩
    refine Goes.step rfl (fun _ h₁ => ?_)
    replace hF := st hF h₁
    clear h₁
    rw [stepG_ret']
    simp only [goes_go]
    refine ⟨T.idle _, ?_⟩
    exact Goes.stop fun w₁ h₁ => hS Wg r w₁ hle (by omega) (st hF h₁).2 (st hF h₁).1 _ _ (by simp [hr])
  · have hW1 : W.getD 6 undef = .int .i64 (r : Nat) := by rw [hW]; simp [res, hr]
    have hnl : ¬ ((r : Int) < 0) := by omega
    refine Goes.step rfl (fun _ h₁ => ?_)
    replace hF := st hF h₁
    clear h₁
    refine goes_leave1 rfl rfl Try.func13 rfl ⟨T.idle _, ?_⟩
    rw [hW1]
    walk_nrm
    refine Goes.step rfl (fun _ h₁ => ?_)
    replace hF := st hF h₁
    clear h₁
    refine goes_oper_k rfl rfl (by k_ne) (fun κ hκ => ?_)
    go_simp
    refine hκ _ _ ⟨idle_of T (fun e he => ?_), ?_⟩
    · have hm := mem_listed he
      simp [go_sem] at hm
    clear hκ κ
    refine Goes.step rfl (fun _ h₁ => ?_)
    replace hF := st hF h₁
    clear h₁
    refine goes_oper_k rfl rfl (by k_ne) (fun κ hκ => ?_)
    go_simp
    refine hκ _ _ ⟨idle_of T (fun e he => ?_), ?_⟩
    · have hm := mem_listed he
      simp [go_sem] at hm
    clear hκ κ
    refine Goes.step rfl (fun _ h₁ => ?_)
    replace hF := st hF h₁
    clear h₁
    rw [stepG_region_end]
    simp only [goes_go]
    refine ⟨T.idle _, ?_⟩
    refine Goes.step rfl (fun _ h₁ => ?_)
    replace hF := st hF h₁
    clear h₁
    rw [stepG_ret']
    simp only [goes_go]
    refine ⟨T.idle _, ?_⟩
    exact Goes.stop fun w₁ h₁ => hS Wg r w₁ hle (by omega) (st hF h₁).2 (st hF h₁).1 _ _ (by simp [hr])
end
end Go.Proofs.Ytbckmkppmdfnnaa.Crew
