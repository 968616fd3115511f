/- crew: a worker's walk, on: to the select; told to stop; handed a place; born. Made by wip/tools/crew/mkD.py. -/
import Derived.Test.YtbckmkppmdfnnaaCrB
namespace Go.Proofs.Ytbckmkppmdfnnaa.Crew
open Go.Conc Go.RowKit Go.Conc.Lib Go.ConcR.Gen
open Go.ConcN (WgLive)
open Go.ConcR (KK wgBlock WgAt stA smA rd wr mk Payload DC0)

theorem idle_of {R : World → World → Prop} {D : World → World → Array Event → Prop} (T : Terms R D) {w : World} {es : Array Event} (h : ∀ e ∈ es, False) : D w w es := by
  have : es = #[] := Array.eq_empty_iff_forall_not_mem.2 h
  subst this
  exact T.idle w

section
variable {X : Base} {vP vS vF vI : Nat} {isV : Value} {J : World → Prop}
theorem fin_stop (X : Base) : commResult (pc X) .select ((1 : Nat) : Int) X.zs false = .tuple #[.int .i64 1, .bool false, .int .i64 0, X.zs] := by simp [commResult, pc, rcase, goInt]
theorem fin_take (X : Base) (p : Nat) : commResult (pc X) .select ((0 : Nat) : Int) (.int .i64 p) true = .tuple #[.int .i64 0, .bool true, .int .i64 p, X.zs] := by simp [commResult, pc, rcase, goInt]
theorem fin_G {P : Program} {b : Frame} {cs : List Frame} {cases : Array CommCase} {sh : CommShape} {k : Int} {v : Value} {ok : Bool} : (G b cs).finishComm P cases sh k v ok = G (b.finish (commResult cases sh k v ok)) cs := rfl

set_option maxRecDepth 100000 in
theorem to_sel (S : Seat X vP vS vF vI isV J) {D : World → World → Array Event → Prop} (T : Terms (K X) D) {Stop : Goroutine → World → Prop} (v4 v5 v6 v7 v8 v9 v10 v11 v12 v13 v14 v15 v16 v17 v18 v19 v20 : Value) {w : World} (hF : Seen X vP vS vF vI isV J w)
    (hS : ∀ g w', K X w w' → SelW X vP vS vF vI isV J g w' → Stop g w') :
    Goes Try.prog false (K X) D Stop 11 (G ((base 42).at ⟨#[.chan (some X.Cp), .chan (some X.Cs), .chan (some X.Cf), isV, v4, v5, v6, v7, v8, v9, v10, v11, v12, v13, v14, v15, v16, v17, v18, v19, v20], []⟩ [.code L42, .inLoop L42, .inBlock 0]) [fr40 X vP vS vF vI isV, bot]) w := by
  have hw : K X w w := .refl w
  obtain ⟨w0, hw0⟩ : ∃ w0, w0 = w := ⟨w, rfl⟩
  rw [← hw0] at hS
  replace hF : Seen X vP vS vF vI isV J w ∧ K X w0 w := ⟨hF, hw0 ▸ hw⟩
  clear hw hw0
  have rl : ∀ {w w₁ : World}, Seen X vP vS vF vI isV J w ∧ K X w0 w → K X w w₁ → Seen X vP vS vF vI isV J w₁ ∧ K X w0 w₁ := fun h k => ⟨S.rely h.1 k, h.2.trans k⟩
  simp only [L42, body42, Try.f42, Option.getD_some]
  refine Goes.step rfl (fun _ h₁ => ?_)
  replace hF := rl hF h₁
  clear h₁
  rw [stepG_block]
  simp only [goes_go]
  refine ⟨T.idle _, ?_⟩
  refine Goes.step rfl (fun _ h₁ => ?_)
  replace hF := rl hF h₁
  clear h₁
  rw [stepG_seq]
  simp only [goes_go]
  refine ⟨T.idle _, ?_⟩
  refine Goes.step rfl (fun _ h₁ => ?_)
  replace hF := rl hF h₁
  clear h₁
  rw [stepG_seq]
  simp only [goes_go]
  refine ⟨T.idle _, ?_⟩
  refine Goes.step rfl (fun _ h₁ => ?_)
  replace hF := rl hF h₁
  clear h₁
  rw [stepG_region]
  simp only [goes_go, List.size_toArray, List.length_cons, List.length_nil, Nat.zero_add, List.range, List.range.loop]
  refine ⟨T.idle _, ?_⟩
  refine Goes.step rfl (fun _ h₁ => ?_)
  replace hF := rl hF h₁
  clear h₁
  refine goes_oper_k rfl rfl (by k_ne) (fun κ hκ => ?_)
  go_simp
  refine hκ _ _ ⟨idle_of T (fun e he => ?_), ?_⟩
  · have hm := mem_listed he
    simp [go_sem, *] at hm
  clear hκ κ
  refine Goes.step rfl (fun _ h₁ => ?_)
  replace hF := rl hF h₁
  clear h₁
  rw [stepG_region_end]
  simp only [goes_go]
  refine ⟨T.idle _, ?_⟩
  refine Goes.step rfl (fun _ h₁ => ?_)
  replace hF := rl hF h₁
  clear h₁
  rw [stepG_region]
  simp only [goes_go, List.size_toArray, List.length_cons, List.length_nil, Nat.zero_add, List.range, List.range.loop]
  refine ⟨T.idle _, ?_⟩
  refine Goes.step rfl (fun _ h₁ => ?_)
  replace hF := rl hF h₁
  clear h₁
  refine goes_oper_k rfl rfl (by k_ne) (fun κ hκ => ?_)
  go_simp
  refine hκ _ _ ⟨idle_of T (fun e he => ?_), ?_⟩
  · have hm := mem_listed he
    simp [go_sem, *] at hm
  clear hκ κ
  refine Goes.step rfl (fun _ h₁ => ?_)
  replace hF := rl hF h₁
  clear h₁
  rw [stepG_region_end]
  simp only [goes_go]
  refine ⟨T.idle _, ?_⟩
  refine Goes.step rfl (fun _ h₁ => ?_)
  replace hF := rl hF h₁
  clear h₁
  rw [stepG_seq]
  simp only [goes_go]
  refine ⟨T.idle _, ?_⟩
  refine Goes.step rfl (fun _ h₁ => ?_)
  replace hF := rl hF h₁
  clear h₁
  rw [stepG_region]
  simp only [goes_go, List.size_toArray, List.length_cons, List.length_nil, Nat.reduceAdd, Nat.zero_add, List.range, List.range.loop]
  refine ⟨T.idle _, ?_⟩
  refine Goes.stop fun w₁ h₁ => ?_
  replace hF := rl hF h₁
  refine hS _ _ hF.2 ⟨v4, v5, v6, v7, v8, v11, v12, v13, v14, v15, v16, v17, v18, v19, v20, ?_, hF.1⟩
  simp only [ops42, B42, L42, body42, Try.f42, Option.getD_some]

set_option maxRecDepth 100000 in
theorem SelW.stop (S : Seat X vP vS vF vI isV J) {g : Goroutine} {w : World} (h : SelW X vP vS vF vI isV J g w) :
    Goes Try.prog false (K X) (DW0 X) (DRel Try.prog X.ty X.Wg) (27 + 8) (g.finishComm Try.prog (pc X) .select ((1 : Nat) : Int) X.zs false) w := by
  obtain ⟨v4, v5, v6, v7, v8, v11, v12, v13, v14, v15, v16, v17, v18, v19, v20, rfl, hF⟩ := h
  have T := terms0 X
  rw [fin_G, fin_stop, Frame.finish_at]
  simp only [ops42, B42, L42, body42, Try.f42, Option.getD_some]
  walk_nrm
  refine Goes.step rfl (fun _ h₁ => ?_)
  replace hF := S.rely hF h₁
  clear h₁
  refine goes_oper_k rfl rfl (by k_ne) (fun κ hκ => ?_)
  go_simp
  refine hκ _ _ ⟨idle_of T (fun e he => ?_), ?_⟩
  · have hm := mem_listed he
    simp [go_sem, *] at hm
  clear hκ κ
  refine Goes.step rfl (fun _ h₁ => ?_)
  replace hF := S.rely hF h₁
  clear h₁
  refine goes_oper_k rfl rfl (by k_ne) (fun κ hκ => ?_)
  go_simp
  refine hκ _ _ ⟨idle_of T (fun e he => ?_), ?_⟩
  · have hm := mem_listed he
    simp [go_sem, *] at hm
  clear hκ κ
  refine Goes.step rfl (fun _ h₁ => ?_)
  replace hF := S.rely hF h₁
  clear h₁
  refine goes_oper_k rfl rfl (by k_ne) (fun κ hκ => ?_)
  go_simp
  refine hκ _ _ ⟨idle_of T (fun e he => ?_), ?_⟩
  · have hm := mem_listed he
    simp [go_sem, *] at hm
  clear hκ κ
  refine Goes.step rfl (fun _ h₁ => ?_)
  replace hF := S.rely hF h₁
  clear h₁
  rw [stepG_region_end]
  simp only [goes_go]
  refine ⟨T.idle _, ?_⟩
  refine Goes.step rfl (fun _ h₁ => ?_)
  replace hF := S.rely hF h₁
  clear h₁
  rw [stepG_block]
  simp only [goes_go]
  refine ⟨T.idle _, ?_⟩
  refine Goes.step rfl (fun _ h₁ => ?_)
  replace hF := S.rely hF h₁
  clear h₁
  rw [stepG_cond (t := false) rfl]
  simp only [goes_go, Bool.false_eq_true, ↓reduceIte]
  refine ⟨T.idle _, ?_⟩
  refine Goes.step rfl (fun _ h₁ => ?_)
  replace hF := S.rely hF h₁
  clear h₁
  rw [stepG_cond (t := true) rfl]
  simp only [goes_go, ↓reduceIte]
  refine ⟨T.idle _, ?_⟩
  refine Goes.step rfl (fun _ h₁ => ?_)
  replace hF := S.rely hF h₁
  clear h₁
  rw [stepG_ret']
  simp only [goes_go]
  refine ⟨T.idle _, ?_⟩
  exact leaves_work S _ _ hF

noncomputable def ops5 : Array Oper := match B42 with | .block _ (.cond _ (.seq _ (.seq _ (.cond _ (.seq (.region _ ops _) _) _))) _) => ops | _ => #[]
/-- A worker that has found p, at the send. -/
def SndW (X : Base) (vP vS vF vI : Nat) (isV : Value) (J : World → Prop) (p : Nat) (g : Goroutine) (w : World) : Prop :=
  ∃ v4 v5 v6 v7 v8 v9 v10 v11 v12 v13 v14 v15 v16 v17 v18 : Value, g = G ((base 42).at ⟨#[.chan (some X.Cp), .chan (some X.Cs), .chan (some X.Cf), isV, v4, v5, v6, v7, v8, v9, v10, v11, v12, v13, v14, v15, v16, v17, v18, .chan (some X.Cf), .int .i64 p], []⟩ [.inRegion ops5 [2], .code .ret, .inBlock 2, .inBlock 1, .inLoop L42, .inBlock 0]) [fr40 X vP vS vF vI isV, bot] ∧ Seen X vP vS vF vI isV J w
theorem SndW.step {p : Nat} {g : Goroutine} {w : World} (h : SndW X vP vS vF vI isV J p g w) : g.status = .running ∧ stepG Try.prog false g w = .comm g (sc X p) true .send w #[] := by
  obtain ⟨v4, v5, v6, v7, v8, v9, v10, v11, v12, v13, v14, v15, v16, v17, v18, rfl, hF⟩ := h
  refine ⟨rfl, ?_⟩
  simp only [ops5, B42, L42, body42, Try.f42, Option.getD_some]
  rw [stepG_comm (cases := sc X p) (blocking := true) (shape := .send) (w' := w) rfl rfl (by k_ne) ?_]
  · congr 1
  · refine eq_of_k fun κ hκ => ?_
    go_simp
    simpa [sc, scase] using hκ
set_option maxRecDepth 100000 in
theorem SndW.sent (S : Seat X vP vS vF vI isV J) {p : Nat} {g : Goroutine} {w : World} (h : SndW X vP vS vF vI isV J p g w) :
    Goes Try.prog false (K X) (DW0 X) (DRel Try.prog X.ty X.Wg) (27 + 2) (g.finishComm Try.prog (sc X p) .send 0 undef false) w := by
  obtain ⟨v4, v5, v6, v7, v8, v9, v10, v11, v12, v13, v14, v15, v16, v17, v18, rfl, hF⟩ := h
  have T := terms0 X
  rw [fin_G, Frame.finish_at]
  simp only [ops5, B42, L42, body42, Try.f42, Option.getD_some]
  walk_nrm
  refine Goes.step rfl (fun _ h₁ => ?_)
  replace hF := S.rely hF h₁
  clear h₁
  rw [stepG_region_end]
  simp only [goes_go]
  refine ⟨T.idle _, ?_⟩
  refine Goes.step rfl (fun _ h₁ => ?_)
  replace hF := S.rely hF h₁
  clear h₁
  rw [stepG_ret']
  simp only [goes_go]
  refine ⟨T.idle _, ?_⟩
  exact leaves_work S _ _ hF
theorem SndW.rely (S : Seat X vP vS vF vI isV J) {p : Nat} {g : Goroutine} {w w₁ : World} (h : SndW X vP vS vF vI isV J p g w) (k : K X w w₁) : SndW X vP vS vF vI isV J p g w₁ := by
  obtain ⟨v4, v5, v6, v7, v8, v9, v10, v11, v12, v13, v14, v15, v16, v17, v18, rfl, hF⟩ := h
  exact ⟨v4, v5, v6, v7, v8, v9, v10, v11, v12, v13, v14, v15, v16, v17, v18, rfl, S.rely hF k⟩
theorem SndW.at (S : Seat X vP vS vF vI isV J) {p : Nat} {g : Goroutine} {w : World} (h : SndW X vP vS vF vI isV J p g w) : AtSnd X p g w := by
  refine ⟨h.step.1, g, by rw [S.P]; exact h.step.2, fun w₁ k => ⟨27 + 2, ?_⟩⟩
  rw [S.P]
  exact (h.rely S k).sent S

set_option maxRecDepth 100000 in
set_option maxHeartbeats 1000000 in
/-- Handed place p: it looks at it. -/
theorem SelW.take (S : Seat X vP vS vF vI isV J) {g : Goroutine} {w : World} (h : SelW X vP vS vF vI isV J g w) {p : Nat} (hp : p < X.M) {Stop : Goroutine → World → Prop}
    (hno : X.b p = false → ∀ g w', X.Done p w' → SelW X vP vS vF vI isV J g w' → Stop g w')
    (hyes : X.b p = true → ∀ g w', X.Done p w' → SndW X vP vS vF vI isV J p g w' → Stop g w') :
    ∃ m, Goes Try.prog false (K X) (DWp X p) Stop m (g.finishComm Try.prog (pc X) .select ((0 : Nat) : Int) (.int .i64 p) true) w := by
  obtain ⟨v4, v5, v6, v7, v8, v11, v12, v13, v14, v15, v16, v17, v18, v19, v20, rfl, hF⟩ := h
  obtain ⟨nj, hj⟩ := S.job p hp
  have T := termsP X p
  refine ⟨(22 + nj + 3) + 15, ?_⟩
  rw [fin_G, fin_take, Frame.finish_at]
  simp only [ops42, B42, L42, body42, Try.f42, Option.getD_some]
  walk_nrm
  refine Goes.step rfl (fun _ h₁ => ?_)
  replace hF := S.rely hF h₁
  clear h₁
  refine goes_oper_k rfl rfl (by k_ne) (fun κ hκ => ?_)
  go_simp
  refine hκ _ _ ⟨idle_of T (fun e he => ?_), ?_⟩
  · have hm := mem_listed he
    simp [go_sem, *] at hm
  clear hκ κ
  refine Goes.step rfl (fun _ h₁ => ?_)
  replace hF := S.rely hF h₁
  clear h₁
  refine goes_oper_k rfl rfl (by k_ne) (fun κ hκ => ?_)
  go_simp
  refine hκ _ _ ⟨idle_of T (fun e he => ?_), ?_⟩
  · have hm := mem_listed he
    simp [go_sem, *] at hm
  clear hκ κ
  refine Goes.step rfl (fun _ h₁ => ?_)
  replace hF := S.rely hF h₁
  clear h₁
  refine goes_oper_k rfl rfl (by k_ne) (fun κ hκ => ?_)
  go_simp
  refine hκ _ _ ⟨idle_of T (fun e he => ?_), ?_⟩
  · have hm := mem_listed he
    simp [go_sem, *] at hm
  clear hκ κ
  refine Goes.step rfl (fun _ h₁ => ?_)
  replace hF := S.rely hF h₁
  clear h₁
  rw [stepG_region_end]
  simp only [goes_go]
  refine ⟨T.idle _, ?_⟩
  refine Goes.step rfl (fun _ h₁ => ?_)
  replace hF := S.rely hF h₁
  clear h₁
  rw [stepG_block]
  simp only [goes_go]
  refine ⟨T.idle _, ?_⟩
  refine Goes.step rfl (fun _ h₁ => ?_)
  replace hF := S.rely hF h₁
  clear h₁
  rw [stepG_cond (t := true) rfl]
  simp only [goes_go, ↓reduceIte]
  refine ⟨T.idle _, ?_⟩
  refine Goes.step rfl (fun _ h₁ => ?_)
  replace hF := S.rely hF h₁
  clear h₁
  rw [stepG_seq]
  simp only [goes_go]
  refine ⟨T.idle _, ?_⟩
  refine Goes.step rfl (fun _ h₁ => ?_)
  replace hF := S.rely hF h₁
  clear h₁
  rw [stepG_region]
  simp only [goes_go, List.size_toArray, List.length_cons, List.length_nil, Nat.reduceAdd, Nat.zero_add, List.range, List.range.loop]
  refine ⟨T.idle _, ?_⟩
  refine Goes.step rfl (fun _ h₁ => ?_)
  replace hF := S.rely hF h₁
  clear h₁
  refine goes_oper_k rfl rfl (by k_ne) (fun κ hκ => ?_)
  go_simp
  refine hκ _ _ ⟨idle_of T (fun e he => ?_), ?_⟩
  · have hm := mem_listed he
    simp [go_sem, *] at hm
  clear hκ κ
  refine Goes.step rfl (fun _ h₁ => ?_)
  replace hF := S.rely hF h₁
  clear h₁
  refine goes_oper_k rfl rfl (by k_ne) (fun κ hκ => ?_)
  go_simp
  refine hκ _ _ ⟨idle_of T (fun e he => ?_), ?_⟩
  · have hm := mem_listed he
    simp [go_sem, *] at hm
  clear hκ κ
  refine Goes.step rfl (fun _ h₁ => ?_)
  replace hF := S.rely hF h₁
  clear h₁
  rw [stepG_region_end]
  simp only [goes_go]
  refine ⟨T.idle _, ?_⟩
  refine Goes.step rfl (fun _ h₁ => ?_)
  replace hF := S.rely hF h₁
  clear h₁
  rw [stepG_seq]
  simp only [goes_go]
  refine ⟨T.idle _, ?_⟩
  refine Goes.step rfl (fun _ h₁ => ?_)
  replace hF := S.rely hF h₁
  clear h₁
  rw [stepG_region]
  simp only [goes_go, List.size_toArray, List.length_cons, List.length_nil, Nat.reduceAdd, Nat.zero_add, List.range, List.range.loop]
  refine ⟨T.idle _, ?_⟩
  refine Goes.step rfl (fun _ h₁ => ?_)
  replace hF := S.rely hF h₁
  clear h₁
  refine goes_oper_k rfl rfl (by k_ne) (fun κ hκ => ?_)
  go_simp
  refine hκ _ _ ⟨idle_of T (fun e he => ?_), ?_⟩
  · have hm := mem_listed he
    simp [go_sem, *] at hm
  clear hκ κ
  refine Goes.step rfl (fun _ h₁ => ?_)
  replace hF := S.rely hF h₁
  clear h₁
  refine goes_oper_k rfl rfl (by k_ne) (fun κ hκ => ?_)
  go_simp
  refine hκ _ _ ⟨idle_of T (fun e he => ?_), ?_⟩
  · have hm := mem_listed he
    simp [go_sem, *] at hm
  clear hκ κ
  refine Goes.mono (n := 22 + nj + 3) (Goes.callV T rfl rfl (by k_ne) rfl (by walk_nrm; exact hj _ hF.j) fun v w' hq => ?_) (by omega)
  obtain ⟨rfl, hk, hd⟩ := hq
  replace hF : Seen X vP vS vF vI isV J w' ∧ X.Done p w' := ⟨S.rely hF hk, hd⟩
  clear hk hd
  have rl : ∀ {w w₁ : World}, Seen X vP vS vF vI isV J w ∧ X.Done p w → K X w w₁ → Seen X vP vS vF vI isV J w₁ ∧ X.Done p w₁ := fun h k => ⟨S.rely h.1 k, k.done p h.2⟩
  walk_nrm
  cases hb : X.b p
  · refine Goes.step rfl (fun _ h₁ => ?_)
    replace hF := rl hF h₁
    clear h₁
    rw [stepG_region_end]
    simp only [goes_go]
    refine ⟨T.idle _, ?_⟩
    refine Goes.step rfl (fun _ h₁ => ?_)
    replace hF := rl hF h₁
    clear h₁
    rw [stepG_cond (t := false) rfl]
    simp only [goes_go, Bool.false_eq_true, ↓reduceIte]
    refine ⟨T.idle _, ?_⟩
    refine Goes.step rfl (fun _ h₁ => ?_)
    replace hF := rl hF h₁
    clear h₁
    rw [stepG_skip]
    simp only [goes_go]
    refine ⟨T.idle _, ?_⟩
    refine Goes.step rfl (fun _ h₁ => ?_)
    replace hF := rl hF h₁
    clear h₁
    rw [stepG_inBlock]
    simp only [goes_go]
    refine ⟨T.idle _, ?_⟩
    refine Goes.step rfl (fun _ h₁ => ?_)
    replace hF := rl hF h₁
    clear h₁
    rw [stepG_inBlock]
    simp only [goes_go]
    refine ⟨T.idle _, ?_⟩
    refine Goes.step rfl (fun _ h₁ => ?_)
    replace hF := rl hF h₁
    clear h₁
    rw [stepG_inLoop]
    simp only [goes_go]
    refine ⟨T.idle _, ?_⟩
    refine Goes.mono (n := 11) (to_sel S T _ _ _ _ _ _ _ _ _ _ _ _ _ _ _ _ _ hF.1 fun g w₁ k hs => hno hb g w₁ (k.done p hF.2) hs) (by omega)
  · refine Goes.step rfl (fun _ h₁ => ?_)
    replace hF := rl hF h₁
    clear h₁
    rw [stepG_region_end]
    simp only [goes_go]
    refine ⟨T.idle _, ?_⟩
    refine Goes.step rfl (fun _ h₁ => ?_)
    replace hF := rl hF h₁
    clear h₁
    rw [stepG_cond (t := true) rfl]
    simp only [goes_go, ↓reduceIte]
    refine ⟨T.idle _, ?_⟩
    refine Goes.step rfl (fun _ h₁ => ?_)
    replace hF := rl hF h₁
    clear h₁
    rw [stepG_seq]
    simp only [goes_go]
    refine ⟨T.idle _, ?_⟩
    refine Goes.step rfl (fun _ h₁ => ?_)
    replace hF := rl hF h₁
    clear h₁
    rw [stepG_region]
    simp only [goes_go, List.size_toArray, List.length_cons, List.length_nil, Nat.reduceAdd, Nat.zero_add, List.range, List.range.loop]
    refine ⟨T.idle _, ?_⟩
    refine Goes.step rfl (fun _ h₁ => ?_)
    replace hF := rl hF h₁
    clear h₁
    refine goes_oper_k rfl rfl (by k_ne) (fun κ hκ => ?_)
    go_simp
    refine hκ _ _ ⟨idle_of T (fun e he => ?_), ?_⟩
    · have hm := mem_listed he
      simp [go_sem, *] at hm
    clear hκ κ
    refine Goes.step rfl (fun _ h₁ => ?_)
    replace hF := rl hF h₁
    clear h₁
    refine goes_oper_k rfl rfl (by k_ne) (fun κ hκ => ?_)
    go_simp
    refine hκ _ _ ⟨idle_of T (fun e he => ?_), ?_⟩
    · have hm := mem_listed he
      simp [go_sem, *] at hm
    clear hκ κ
    refine Goes.stop fun w₁ h₁ => ?_
    replace hF := rl hF h₁
    refine hyes hb _ _ hF.2 ?_
    simp only [SndW, ops5, B42, L42, body42, Try.f42, Option.getD_some]
    exact ⟨_, _, _, _, _, _, _, _, _, _, _, _, _, _, _, rfl, hF.1⟩
end
end Go.Proofs.Ytbckmkppmdfnnaa.Crew
