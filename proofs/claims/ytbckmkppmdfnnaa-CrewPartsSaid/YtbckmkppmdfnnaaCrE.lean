/- crew: a worker's birth: into its literal, the four loads, into work, to the select. Made by wip/tools/crew/mkE.py. -/
import Derived.Test.YtbckmkppmdfnnaaCrD
namespace Go.Proofs.Ytbckmkppmdfnnaa.Crew
open Go.Conc Go.RowKit Go.Conc.Lib Go.ConcR.Gen
open Go.ConcN (WgLive)
open Go.ConcR (KK wgBlock WgAt stA smA rd wr mk Payload DC0)
section
variable {X : Base} {vP vS vF vI : Nat} {isV : Value} {J : World → Prop}
def call40 (X : Base) (vP vS vF vI : Nat) : Deferred := { target := .fn (.func 40) #[.pointer (some ⟨X.Wg, 0, none⟩), .pointer (some ⟨vP, 0, none⟩), .pointer (some ⟨vS, 0, none⟩), .pointer (some ⟨vF, 0, none⟩), .pointer (some ⟨vI, 0, none⟩)], args := #[] }
theorem born40_step (X : Base) (vP vS vF vI : Nat) (w : World) : stepG Try.prog false (born Try.prog (call40 X vP vS vF vI)) w =
    .go (G ((baseD 40).at ⟨#[.pointer (some ⟨X.Wg, 0, none⟩), .pointer (some ⟨vP, 0, none⟩), .pointer (some ⟨vS, 0, none⟩), .pointer (some ⟨vF, 0, none⟩), .pointer (some ⟨vI, 0, none⟩), undef, undef, undef, undef, undef], []⟩ [.code body40]) [bot]) w #[] := by
  simp [born, call40, stepG, unwind, callDeferred, invoke, callFunc, Try.func40, Try.f40, seen, GStep.after, G, Frame.enter, Frame.at, baseD, bot, body40]

set_option maxRecDepth 100000 in
set_option maxHeartbeats 1000000 in
theorem born_sel (S : Seat X vP vS vF vI isV J) {w : World} (hF : Seen X vP vS vF vI isV J w) :
    Goes Try.prog false (K X) (DW0 X) (SelW X vP vS vF vI isV J) (11 + 13) (born Try.prog (call40 X vP vS vF vI)) w := by
  have T := terms0 X
  refine Goes.step rfl fun w₁ h₁ => ?_
  rw [born40_step]
  simp only [goes_go]
  refine ⟨T.idle _, ?_⟩
  replace hF := S.rely hF h₁
  clear h₁
  simp only [body40, Try.f40, Option.getD_some]
  refine Goes.step rfl (fun _ h₁ => ?_)
  replace hF := S.rely hF h₁
  clear h₁
  rw [stepG_seq]
  simp only [goes_go]
  refine ⟨T.idle _, ?_⟩
  refine Goes.step rfl (fun _ h₁ => ?_)
  replace hF := S.rely hF h₁
  clear h₁
  rw [stepG_region]
  simp only [goes_go, List.size_toArray, List.length_cons, List.length_nil, Nat.zero_add, List.range, List.range.loop]
  refine ⟨T.idle _, ?_⟩
  refine Goes.step rfl (fun _ h₁ => ?_)
  replace hF := S.rely hF h₁
  clear h₁
  rw [stepG_defer rfl rfl (by k_ne) rfl]
  simp only [goes_go]
  refine ⟨T.idle _, ?_⟩
  walk_nrm
  refine Goes.step rfl (fun _ h₁ => ?_)
  replace hF := S.rely hF h₁
  clear h₁
  rw [stepG_region_end]
  simp only [goes_go]
  refine ⟨T.idle _, ?_⟩
  refine Goes.step rfl (fun _ h₁ => ?_)
  replace hF := S.rely hF h₁
  clear h₁
  rw [stepG_region]
  simp only [goes_go, List.size_toArray, List.length_cons, List.length_nil, Nat.reduceAdd, Nat.zero_add, List.range, List.range.loop]
  refine ⟨T.idle _, ?_⟩
  refine Goes.step rfl (fun _ h₁ => ?_)
  replace hF := S.rely hF h₁
  clear h₁
  have hcell := hF.p
  refine goes_oper_k rfl rfl (by k_ne) (fun κ hκ => ?_)
  go_simp
  refine hκ _ _ ⟨⟨rfl, fun e he => ?_⟩, ?_⟩
  · have hm := mem_listed he
    simp [go_sem, *] at hm
    subst hm
    exact ev_read S.rP
  clear hκ κ hcell
  refine Goes.step rfl (fun _ h₁ => ?_)
  replace hF := S.rely hF h₁
  clear h₁
  have hcell := hF.s
  refine goes_oper_k rfl rfl (by k_ne) (fun κ hκ => ?_)
  go_simp
  refine hκ _ _ ⟨⟨rfl, fun e he => ?_⟩, ?_⟩
  · have hm := mem_listed he
    simp [go_sem, *] at hm
    subst hm
    exact ev_read S.rS
  clear hκ κ hcell
  refine Goes.step rfl (fun _ h₁ => ?_)
  replace hF := S.rely hF h₁
  clear h₁
  have hcell := hF.f
  refine goes_oper_k rfl rfl (by k_ne) (fun κ hκ => ?_)
  go_simp
  refine hκ _ _ ⟨⟨rfl, fun e he => ?_⟩, ?_⟩
  · have hm := mem_listed he
    simp [go_sem, *] at hm
    subst hm
    exact ev_read S.rF
  clear hκ κ hcell
  refine Goes.step rfl (fun _ h₁ => ?_)
  replace hF := S.rely hF h₁
  clear h₁
  have hcell := hF.i
  refine goes_oper_k rfl rfl (by k_ne) (fun κ hκ => ?_)
  go_simp
  refine hκ _ _ ⟨⟨rfl, fun e he => ?_⟩, ?_⟩
  · have hm := mem_listed he
    simp [go_sem, *] at hm
    subst hm
    exact ev_read S.rI
  clear hκ κ hcell
  refine Goes.step rfl (fun _ h₁ => ?_)
  replace hF := S.rely hF h₁
  clear h₁
  refine goes_call rfl rfl (by k_ne) rfl Try.func42 (by kernel_rfl) rfl ⟨T.idle _, ?_⟩
  walk_nrmf Try.f42
  refine Goes.step rfl (fun _ h₁ => ?_)
  replace hF := S.rely hF h₁
  clear h₁
  rw [stepG_block]
  simp only [goes_go]
  refine ⟨T.idle _, ?_⟩
  refine Goes.step rfl (fun _ h₁ => ?_)
  replace hF := S.rely hF h₁
  clear h₁
  rw [stepG_loop]
  simp only [goes_go]
  refine ⟨T.idle _, ?_⟩
  exact Goes.mono (n := 11) (to_sel S T _ _ _ _ _ _ _ _ _ _ _ _ _ _ _ _ _ hF fun g w₁ _ hs => hs) (by omega)
end
end Go.Proofs.Ytbckmkppmdfnnaa.Crew
