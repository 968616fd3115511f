/- crew: first behind Wait, whole: close(found), the range, the result. Made by wip/tools/crew/mkU.py. -/
import Derived.Test.YtbckmkppmdfnnaaCrR
namespace Go.Proofs.Ytbckmkppmdfnnaa.Crew
open Go.Conc Go.RowKit Go.Conc.Lib Go.ConcR.Gen
open Go.ConcN (WgLive)
open Go.ConcR (KK wgBlock WgAt stA smA rd wr mk Payload DC0)
theorem cell_at {w₀ w : World} {a : Addr} {v : Value} (h : AtRel w₀ w) (hc : w₀.cell? a = some v) : w.cell? a = some v := by
  obtain ⟨d, rfl⟩ := h
  exact hc
section
variable {X : Base} {vP vS vF vI : Nat} {isV : Value} {J : World → Prop} {cs : List Frame} {Stop : (Nat → Prop) → Goroutine → World → Prop} {Z : Nat → Prop}
set_option maxRecDepth 100000 in
set_option maxHeartbeats 1000000 in
theorem fin_tail {l : Nat} {fb : List Nat} {g : Goroutine} {w : World} (hvf : vF ≠ X.Cf) (hz : ¬ Z vF) (h : FinW X vP vS vF vI isV J cs l g w) (hc : ∃ s r, w.heap[X.Cf]? = some (.chan X.n (fb.map ival).toArray false s r false))
    (hS : ∀ (W : Array Value) (w' : World), ButCf X w w' [] → W.getD 6 undef = res X.M (fb.foldl min l) → ∀ todo, BR Try.prog Stop Z (G { (base 29).at ⟨W, []⟩ todo with mode := .returning } cs) w') : BR Try.prog Stop Z g w := by
  obtain ⟨u1, u2, u3, u4, u5, u6, u7, u12, u13, u14, u15, u16, u17, u18, u19, u20, u21, u22, u23, u24, u25, u26, u27, u28, u29, u30, u32, u33, u34, u35, u36, u37, u38, u39, u40, u41, u42, u43, u44, rfl, hs⟩ := h
  obtain ⟨w₀, hw₀⟩ : ∃ w₀, w₀ = w := ⟨w, rfl⟩
  have hF : AtRel w₀ w := hw₀ ▸ atRel_refl w
  rw [← hw₀] at hs hc hS
  clear hw₀
  have T := termsZ Z
  refine BR.of_goes (n := 30) ?_
  simp only [ops12, R13, R12, R11, R10, body29, Try.f29, Option.getD_some]
  refine Goes.step rfl (fun _ h₁ => ?_)
  replace hF := atRel_trans _ _ _ hF h₁
  clear h₁
  rw [stepG_region_end]
  simp only [goes_go]
  refine ⟨T.idle _, ?_⟩
  refine Goes.step rfl (fun _ h₁ => ?_)
  replace hF := atRel_trans _ _ _ hF h₁
  clear h₁
  rw [stepG_seq]
  simp only [goes_go]
  refine ⟨T.idle _, ?_⟩
  refine Goes.step rfl (fun _ h₁ => ?_)
  replace hF := atRel_trans _ _ _ hF h₁
  clear h₁
  rw [stepG_region]
  simp only [goes_go, List.size_toArray, List.length_cons, List.length_nil, Nat.reduceAdd, Nat.zero_add, List.range, List.range.loop]
  refine ⟨T.idle _, ?_⟩
  refine Goes.step rfl (fun _ h₁ => ?_)
  replace hF := atRel_trans _ _ _ hF h₁
  clear h₁
  have hcell := cell_at hF hs.f
  refine goes_oper_k rfl rfl (by k_ne) (fun κ hκ => ?_)
  go_simp
  refine hκ _ _ ⟨fun e he => ?_, ?_⟩
  · have hm := mem_listed he
    simp [go_sem, *] at hm
    subst hm
    exact evC_cell false hz
  clear hκ κ hcell
  refine Goes.step rfl (fun _ h₁ => ?_)
  replace hF := atRel_trans _ _ _ hF h₁
  clear h₁
  obtain ⟨s, r, hcf⟩ := hc
  obtain ⟨d, hd⟩ := hF
  have hcf' : ∀ w₁ : World, w₁ = w₀.at d → w₁.heap[X.Cf]? = some (.chan X.n (fb.map ival).toArray false s r false) := fun w₁ h => by rw [h]; exact hcf
  rw [stepG_close rfl rfl (by k_ne) rfl rfl (hcf' _ hd) (by kernel_rfl)]
  simp only [goes_go]
  refine ⟨fun e he => ?_, ?_⟩
  · simp only [closeEvents, List.mem_toArray, List.mem_cons, List.not_mem_nil, or_false] at he
    rcases he with rfl | rfl
    · exact evC_obj _ _ _
    · exact evC_obj _ _ _
  have hlt : X.Cf < w₀.heap.size := (Array.getElem?_eq_some_iff.1 hcf).1
  have hF : ButCf X w₀ ((w₀.at d).setChan X.Cf X.n (fb.map ival).toArray true s r false) fb := by
    refine ⟨rfl, rfl, rfl, by simp [World.setChan]; rfl, fun b hb => ?_, s, r, ?_⟩
    · simp [World.setChan, Array.getElem?_setIfInBounds_ne (Ne.symm hb)]
      rfl
    · have hlt' : X.Cf < (w₀.at d).heap.size := hlt
      simp [World.setChan, hlt']
  rw [← hd] at hF
  clear hcf' hcf hd hlt
  walk_nrm
  refine Goes.step rfl (fun _ h₁ => ?_)
  replace hF := at_rely hF h₁
  clear h₁
  rw [stepG_region_end]
  simp only [goes_go]
  refine ⟨T.idle _, ?_⟩
  refine Goes.step rfl (fun _ h₁ => ?_)
  replace hF := at_rely hF h₁
  clear h₁
  rw [stepG_seq]
  simp only [goes_go]
  refine ⟨T.idle _, ?_⟩
  refine Goes.step rfl (fun _ h₁ => ?_)
  replace hF := at_rely hF h₁
  clear h₁
  rw [stepG_seq]
  simp only [goes_go]
  refine ⟨T.idle _, ?_⟩
  refine Goes.step rfl (fun _ h₁ => ?_)
  replace hF := at_rely hF h₁
  clear h₁
  rw [stepG_region]
  simp only [goes_go, List.size_toArray, List.length_cons, List.length_nil, Nat.zero_add, List.range, List.range.loop]
  refine ⟨T.idle _, ?_⟩
  refine Goes.step rfl (fun _ h₁ => ?_)
  replace hF := at_rely hF h₁
  clear h₁
  have hcell := (World.cell?_of_block (hF.block vF hvf)).trans hs.f
  refine goes_oper_k rfl rfl (by k_ne) (fun κ hκ => ?_)
  go_simp
  refine hκ _ _ ⟨fun e he => ?_, ?_⟩
  · have hm := mem_listed he
    simp [go_sem, *] at hm
    subst hm
    exact evC_cell false hz
  clear hκ κ hcell
  refine Goes.step rfl (fun _ h₁ => ?_)
  replace hF := at_rely hF h₁
  clear h₁
  rw [stepG_region_end]
  simp only [goes_go]
  refine ⟨T.idle _, ?_⟩
  refine Goes.step rfl (fun _ h₁ => ?_)
  replace hF := at_rely hF h₁
  clear h₁
  rw [stepG_block]
  simp only [goes_go]
  refine ⟨T.idle _, ?_⟩
  refine Goes.step rfl (fun _ h₁ => ?_)
  replace hF := at_rely hF h₁
  clear h₁
  rw [stepG_loop]
  simp only [goes_go]
  refine ⟨T.idle _, ?_⟩
  exact Goes.stop fun w₁ h₁ => range_found fb l w₁ (at_rely hF h₁) _ _ _ _ _ _ _ _ _ _ _ _ _ _ _ _ _ _ _ _ _ _ _ _ _ _ _ _ _ _ _ _ _ _ _ _ _ _ _ _ _ _ hS
end
end Go.Proofs.Ytbckmkppmdfnnaa.Crew
