/- crew: All's closure in company. Made by wip/tools/crew/mkAa.py. -/
import Derived.Test.YtbckmkppmdfnnaaCrP
namespace Go.Proofs.Ytbckmkppmdfnnaa.Crew
open Go.Conc Go.RowKit Go.Conc.Lib Go.ConcR.Gen
section
variable {main : Bool} {R : World → World → Prop} {D : World → World → Array Event → Prop} {Rd : Addr → Prop}
set_option maxRecDepth 100000 in
theorem all1_c (E : Env R D Rd) {J : World → Prop} (hJ : ∀ w w₁, R w w₁ → J w → J w₁) {ib : Nat} (hi : Fast R Rd ⟨ib, 0, none⟩) {iv : Value} {φ : Int → Bool} {n : Nat} (hiv : FunC main R D J iv (fun x => .bool (φ x)) n) :
    FunC main R D (fun w => J w ∧ w.cell? ⟨ib, 0, none⟩ = some iv) (.func (.func 33) #[] #[.pointer (some ⟨ib, 0, none⟩)]) (fun x => .bool (!φ x)) (n + 40) := by
  intro x w hA
  refine ⟨33, _, rfl, callsC_of_wpC Try.func33 (by kernel_rfl) rfl ?_⟩
  intro b kk cs Stop m hb hke hc
  have T := E.T
  obtain ⟨w0, hw0⟩ : ∃ w0, w0 = w := ⟨w, rfl⟩
  have hF : (J w ∧ w.cell? ⟨ib, 0, none⟩ = some iv) ∧ R w0 w := ⟨hA, by rw [hw0]; exact E.refl w⟩
  rw [← hw0] at hc
  clear hw0 hA
  have rl : ∀ {w w₁ : World}, (J w ∧ w.cell? ⟨ib, 0, none⟩ = some iv) ∧ R w0 w → R w w₁ → (J w₁ ∧ w₁.cell? ⟨ib, 0, none⟩ = some iv) ∧ R w0 w₁ := fun h r => ⟨⟨hJ _ _ r h.1.1, hi.keep _ _ _ r h.1.2⟩, T.trans _ _ _ h.2 r⟩
  refine Goes.mono (n := (m + 8 + n + 3) + 20) ?_ (by omega)
  simp only [Try.f33]
  walk_nrm
  refine Goes.step rfl (fun _ h₁ => ?_)
  replace hF := rl hF h₁
  clear h₁
  rw [stepG_seq]
  simp only [goes_go]
  refine ⟨T.idle _, ?_⟩
  refine Goes.step rfl (fun _ h₁ => ?_)
  replace hF := rl hF h₁
  clear h₁
  rw [stepG_region]
  simp only [goes_go, List.size_toArray, List.length_cons, List.length_nil, Nat.zero_add, List.range, List.range.loop]
  refine ⟨T.idle _, ?_⟩
  refine Goes.step rfl (fun _ h₁ => ?_)
  replace hF := rl hF h₁
  clear h₁
  refine goes_oper_k rfl rfl (by k_ne) (fun κ hκ => ?_)
  go_simp
  refine hκ _ _ ⟨idle_of T (fun e he => ?_), ?_⟩
  · have hm := mem_listed he
    simp [go_sem, *] at hm
  clear hκ κ
  refine Goes.step rfl (fun _ h₁ => ?_)
  replace hF := rl hF h₁
  clear h₁
  rw [stepG_region_end]
  simp only [goes_go]
  refine ⟨T.idle _, ?_⟩
  refine Goes.step rfl (fun _ h₁ => ?_)
  replace hF := rl hF h₁
  clear h₁
  rw [stepG_seq]
  simp only [goes_go]
  refine ⟨T.idle _, ?_⟩
  refine Goes.step rfl (fun _ h₁ => ?_)
  replace hF := rl hF h₁
  clear h₁
  rw [stepG_region]
  simp only [goes_go, List.size_toArray, List.length_cons, List.length_nil, Nat.reduceAdd, Nat.zero_add, List.range, List.range.loop]
  refine ⟨T.idle _, ?_⟩
  refine Goes.step rfl (fun _ h₁ => ?_)
  replace hF := rl hF h₁
  clear h₁
  have hcell := hF.1.2
  refine goes_oper_k rfl rfl (by k_ne) (fun κ hκ => ?_)
  go_simp
  refine hκ _ _ ⟨E.read _ _ (fun e he => ?_), ?_⟩
  · have hm := mem_listed he
    simp [go_sem, *] at hm
    subst hm
    exact ⟨_, hi.rd, rfl⟩
  clear hκ κ hcell
  refine Goes.step rfl (fun _ h₁ => ?_)
  replace hF := rl hF h₁
  clear h₁
  refine goes_oper_k rfl rfl (by k_ne) (fun κ hκ => ?_)
  go_simp
  refine hκ _ _ ⟨idle_of T (fun e he => ?_), ?_⟩
  · have hm := mem_listed he
    simp [go_sem, *] at hm
  clear hκ κ
  refine Goes.mono (n := m + 8 + n + 3) (Goes.callV T rfl rfl hke rfl (by walk_nrm; exact hiv x _ hF.1.1) fun v w' hq => ?_) (by omega)
  obtain ⟨rfl, hq⟩ := hq
  replace hF := rl hF hq
  walk_nrm
  refine Goes.step rfl (fun _ h₁ => ?_)
  replace hF := rl hF h₁
  clear h₁
  refine goes_oper_k rfl rfl (by k_ne) (fun κ hκ => ?_)
  go_simp
  refine hκ _ _ ⟨idle_of T (fun e he => ?_), ?_⟩
  · have hm := mem_listed he
    simp [go_sem, Op.unary] at hm
  clear hκ κ
  refine Goes.step rfl (fun _ h₁ => ?_)
  replace hF := rl hF h₁
  clear h₁
  refine goes_oper_k rfl rfl (by k_ne) (fun κ hκ => ?_)
  go_simp
  refine hκ _ _ ⟨idle_of T (fun e he => ?_), ?_⟩
  · have hm := mem_listed he
    simp [go_sem, *] at hm
  clear hκ κ
  refine Goes.step rfl (fun _ h₁ => ?_)
  replace hF := rl hF h₁
  clear h₁
  rw [stepG_region_end]
  simp only [goes_go]
  refine ⟨T.idle _, ?_⟩
  refine Goes.step rfl (fun _ h₁ => ?_)
  replace hF := rl hF h₁
  clear h₁
  rw [stepG_ret']
  simp only [goes_go]
  refine ⟨T.idle _, ?_⟩
  exact Goes.mono (n := m) (hc .ret _ _ ⟨rfl, _, resultsC_tmp rfl _, by simp, hF.2⟩ _) (by omega)
end
end Go.Proofs.Ytbckmkppmdfnnaa.Crew
