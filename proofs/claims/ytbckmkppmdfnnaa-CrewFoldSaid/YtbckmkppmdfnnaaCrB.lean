/- crew: a worker's walk: from its birth to the select; told to stop; handed a place; its way out into Done. Made by wip/tools/crew/mkB.py. -/
import Derived.Test.YtbckmkppmdfnnaaCrA
namespace Go.Proofs.Ytbckmkppmdfnnaa.Crew
open Go.Conc Go.RowKit Go.Conc.Lib Go.ConcR.Gen
open Go.ConcN (WgLive)
open Go.ConcR (KK wgBlock WgAt stA smA rd wr mk Payload DC0)

theorem goes_weak {P : Program} {main : Bool} {R R' : World → World → Prop} {D D' : World → World → Array Event → Prop} {Stop : Goroutine → World → Prop} (hR : ∀ a b, R' a b → R a b) (hD : ∀ a b es, D a b es → D' a b es) :
    ∀ {n : Nat} {g : Goroutine} {w : World}, Goes P main R D Stop n g w → Goes P main R' D' Stop n g w := by
  intro n
  induction n with
  | zero => intro g w h; exact fun w₁ r => h w₁ (hR _ _ r)
  | succ n ih =>
    intro g w h
    rcases h with h | ⟨hs, h⟩
    · exact .inl fun w₁ r => h w₁ (hR _ _ r)
    · refine .inr ⟨hs, fun w₁ r => ?_⟩
      have := h w₁ (hR _ _ r)
      revert this
      cases stepG P main g w₁ with
      | go g' w' es => exact fun ⟨d, x⟩ => ⟨hD _ _ _ d, ih x⟩
      | _ => exact id

/-- What a worker sees. -/
structure Seen (X : Base) (vP vS vF vI : Nat) (isV : Value) (J : World → Prop) (w : World) : Prop where
  p : w.cell? ⟨vP, 0, none⟩ = some (.chan (some X.Cp))
  s : w.cell? ⟨vS, 0, none⟩ = some (.chan (some X.Cs))
  f : w.cell? ⟨vF, 0, none⟩ = some (.chan (some X.Cf))
  i : w.cell? ⟨vI, 0, none⟩ = some isV
  live : WgLive X.ty X.Wg w
  j : J w
/-- The same but the group. -/
structure SeenM (X : Base) (vP vS vF vI : Nat) (isV : Value) (J : World → Prop) (w : World) : Prop where
  p : w.cell? ⟨vP, 0, none⟩ = some (.chan (some X.Cp))
  s : w.cell? ⟨vS, 0, none⟩ = some (.chan (some X.Cs))
  f : w.cell? ⟨vF, 0, none⟩ = some (.chan (some X.Cf))
  i : w.cell? ⟨vI, 0, none⟩ = some isV
  j : J w
theorem SeenM.full {X : Base} {vP vS vF vI : Nat} {isV : Value} {J : World → Prop} {w : World} (h : SeenM X vP vS vF vI isV J w) (l : WgLive X.ty X.Wg w) : Seen X vP vS vF vI isV J w := ⟨h.p, h.s, h.f, h.i, l, h.j⟩
theorem Seen.m {X : Base} {vP vS vF vI : Nat} {isV : Value} {J : World → Prop} {w : World} (h : Seen X vP vS vF vI isV J w) : SeenM X vP vS vF vI isV J w := ⟨h.p, h.s, h.f, h.i, h.j⟩
/-- What is laid for the workers. -/
structure Seat (X : Base) (vP vS vF vI : Nat) (isV : Value) (J : World → Prop) : Prop where
  P : X.P = Try.prog
  ty : X.ty = link.tWg
  zs : X.zs = .agg #[]
  cP : X.Calm vP
  cS : X.Calm vS
  cF : X.Calm vF
  cI : X.Calm vI
  rP : X.L.Rd (.cell ⟨vP, 0, none⟩)
  rS : X.L.Rd (.cell ⟨vS, 0, none⟩)
  rF : X.L.Rd (.cell ⟨vF, 0, none⟩)
  rI : X.L.Rd (.cell ⟨vI, 0, none⟩)
  jK : ∀ w w₁, K X w w₁ → J w → J w₁
  jT : ∀ w w' : World, w'.heap.size = w.heap.size → (∀ c, c ≠ X.Wg → c ≠ X.Cs → w'.heap[c]? = w.heap[c]?) → J w → J w'
  job : ∀ p, p < X.M → ∃ n, ∀ w, J w → CallsV Try.prog false (K X) (DWp X p) isV #[.int .i64 p] n w (fun v w' => v = .bool (X.b p) ∧ K X w w' ∧ X.Done p w')

section
variable {X : Base} {vP vS vF vI : Nat} {isV : Value} {J : World → Prop}
theorem Seat.rely (S : Seat X vP vS vF vI isV J) {w w₁ : World} (h : Seen X vP vS vF vI isV J w) (k : K X w w₁) : Seen X vP vS vF vI isV J w₁ :=
  ⟨k.cell S.cP h.p, k.cell S.cS h.s, k.cell S.cF h.f, k.cell S.cI h.i, k.live h.live, S.jK _ _ k h.j⟩
theorem Seat.turn (S : Seat X vP vS vF vI isV J) {w w₁ : World} (h : SeenM X vP vS vF vI isV J w) (hs : w₁.heap.size = w.heap.size) (hb : ∀ c, c ≠ X.Wg → c ≠ X.Cs → w₁.heap[c]? = w.heap[c]?) : SeenM X vP vS vF vI isV J w₁ :=
  ⟨(World.cell?_of_block (hb _ S.cP.1 S.cP.2.2.1)).trans h.p, (World.cell?_of_block (hb _ S.cS.1 S.cS.2.2.1)).trans h.s, (World.cell?_of_block (hb _ S.cF.1 S.cF.2.2.1)).trans h.f, (World.cell?_of_block (hb _ S.cI.1 S.cI.2.2.1)).trans h.i, S.jT _ _ hs hb h.j⟩
theorem ev_read {o : Option Nat} {a : Addr} (h : X.L.Rd (.cell a)) : EvW X o ⟨.cell a, false, false⟩ := ⟨a, false, rfl, .inr ⟨h, rfl⟩⟩
noncomputable def bot : Frame := { (default : Frame) with fn := Try.prog.funcs.size, defers := [], mode := .panicking [goexitEntry] }
noncomputable def body40 : Code := Try.f40.body.getD .skip
noncomputable def body42 : Code := Try.f42.body.getD .skip
noncomputable def ops40 : Array Oper := match body40 with | .seq _ (.region _ ops _) => ops | _ => #[]
noncomputable def L42 : Code := match body42 with | .block _ (.loop c) => c | _ => .skip
noncomputable def B42 : Code := match L42 with | .block _ (.seq _ (.seq _ c)) => c | _ => .skip
noncomputable def ops42 : Array Oper := match L42 with | .block _ (.seq _ (.seq (.region _ ops _) _)) => ops | _ => #[]
noncomputable def T40 (X : Base) (vP vS vF vI : Nat) (isV : Value) : Array Value := #[.pointer (some ⟨X.Wg, 0, none⟩), .pointer (some ⟨vP, 0, none⟩), .pointer (some ⟨vS, 0, none⟩), .pointer (some ⟨vF, 0, none⟩), .pointer (some ⟨vI, 0, none⟩), .chan (some X.Cp), .chan (some X.Cs), .chan (some X.Cf), isV, undef]
/-- The frame of the worker's own literal, in the call of work. -/
noncomputable def fr40 (X : Base) (vP vS vF vI : Nat) (isV : Value) : Frame := (baseD 40).at ⟨T40 X vP vS vF vI isV, [dcall 41 #[.pointer (some ⟨X.Wg, 0, none⟩)]]⟩ [.inRegion ops40 [4]]
theorem quits40 (T : Array Value) : QuitsD Try.prog 2 0 (G { (baseD 40).at ⟨T, []⟩ [] with mode := .returning } [bot]) := by
  refine QuitsD.ctl (g' := G bot []) rfl (fun w => ?_) ?_
  · simp [G, stepG, unwind, doReturn, results, Frame.at, baseD, bot, Try.func40, Try.f40, seen, GStep.after, goexitEntry]
  refine QuitsD.ctl (g' := { G bot [] with status := .finished }) rfl (fun w => ?_) ⟨rfl, rfl⟩
  simp [G, stepG, unwind, bot, goexitEntry, Frame.catches]
  rfl

set_option maxRecDepth 100000 in
/-- work has returned: the literal ends, Done is entered. -/
theorem leaves_work (S : Seat X vP vS vF vI isV J) (W : Array Value) (todo : List Item) {w : World} (hF : Seen X vP vS vF vI isV J w) :
    Goes Try.prog false (K X) (DW0 X) (DRel Try.prog X.ty X.Wg) (23 + 4) (G { (base 42).at ⟨W, []⟩ todo with mode := .returning } [fr40 X vP vS vF vI isV, bot]) w := by
  have T := terms0 X
  simp only [fr40, ops40, body40, T40, Try.f40, Option.getD_some]
  refine Goes.step rfl (fun _ h₁ => ?_)
  replace hF := S.rely hF h₁
  clear h₁
  refine goes_leave0 rfl rfl Try.func42 rfl ⟨T.idle _, ?_⟩
  walk_nrm
  refine Goes.step rfl (fun _ h₁ => ?_)
  replace hF := S.rely hF h₁
  clear h₁
  rw [stepG_region_end]
  simp only [goes_go]
  refine ⟨T.idle _, ?_⟩
  refine Goes.step rfl (fun _ h₁ => ?_)
  replace hF := S.rely hF h₁
  clear h₁
  rw [stepG_end]
  simp only [goes_go]
  refine ⟨T.idle _, ?_⟩
  refine Goes.step rfl (fun _ h₁ => ?_)
  replace hF := S.rely hF h₁
  clear h₁
  rw [stepG_unwind_enter rfl Try.func41 (nm_done link) rfl]
  simp only [goes_go]
  refine ⟨T.idle _, ?_⟩
  walk_nrmf Try.f41
  have hA := @doneR link Try.prog wgLib X.Wg
  simp only [body_done, doneFn, Option.getD_some] at hA
  have hlv := hF.live
  have hrl : ∀ a b, K X a b → RL link.tWg X.Wg a b := fun a b k => S.ty ▸ rl_of_k k
  rw [S.ty] at hlv ⊢
  exact goes_weak hrl (fun _ _ es (d : DC0 _ _ es) => ⟨d.1, by rw [d.2]; simp⟩) (hA rfl (quits40 _) _ hlv)

def SelW (X : Base) (vP vS vF vI : Nat) (isV : Value) (J : World → Prop) (g : Goroutine) (w : World) : Prop :=
  ∃ v4 v5 v6 v7 v8 v11 v12 v13 v14 v15 v16 v17 v18 v19 v20 : Value, g = G ((base 42).at ⟨#[.chan (some X.Cp), .chan (some X.Cs), .chan (some X.Cf), isV, v4, v5, v6, v7, v8, .chan (some X.Cp), .chan (some X.Cs), v11, v12, v13, v14, v15, v16, v17, v18, v19, v20], []⟩ [.inRegion ops42 [0, 1, 2, 3], .code B42, .inBlock 1, .inLoop L42, .inBlock 0]) [fr40 X vP vS vF vI isV, bot] ∧ Seen X vP vS vF vI isV J w
theorem SelW.rely (S : Seat X vP vS vF vI isV J) {g : Goroutine} {w w₁ : World} (h : SelW X vP vS vF vI isV J g w) (k : K X w w₁) : SelW X vP vS vF vI isV J g w₁ := by
  obtain ⟨v4, v5, v6, v7, v8, v11, v12, v13, v14, v15, v16, v17, v18, v19, v20, rfl, hF⟩ := h
  exact ⟨v4, v5, v6, v7, v8, v11, v12, v13, v14, v15, v16, v17, v18, v19, v20, rfl, S.rely hF k⟩
theorem SelW.step (S : Seat X vP vS vF vI isV J) {g : Goroutine} {w : World} (h : SelW X vP vS vF vI isV J g w) : g.status = .running ∧ g.offers = none ∧ stepG Try.prog false g w = .comm g (pc X) true .select w #[] := by
  obtain ⟨v4, v5, v6, v7, v8, v11, v12, v13, v14, v15, v16, v17, v18, v19, v20, rfl, hF⟩ := h
  refine ⟨rfl, rfl, ?_⟩
  simp only [ops42, L42, body42, Try.f42, Option.getD_some]
  rw [stepG_comm (cases := pc X) (blocking := true) (shape := .select) (w' := w) rfl rfl (by k_ne) ?_]
  · congr 1
    unfold listed
    refine Eq.trans (congrArg _ ?_) (seen_none _ _)
    unfold execOp
    simp [go_sem]
  · refine eq_of_k fun κ hκ => ?_
    go_simp
    simpa [pc, rcase, S.zs] using hκ
end
end Go.Proofs.Ytbckmkppmdfnnaa.Crew
