/- crew: the starter in handOut: at the select, behind a place handed out, behind one that is found; at close(stop). Made by wip/tools/crew/mkF.py. -/
import Derived.Test.YtbckmkppmdfnnaaCrE
import Derived.Conc.TokenWalk
namespace Go.Proofs.Ytbckmkppmdfnnaa.Crew
open Go.Conc Go.RowKit Go.Conc.Lib Go.ConcR.Gen
open Go.ConcN (WgLive)
open Go.ConcR (KK wgBlock WgAt stA smA rd wr mk Payload DC0)
section
variable {X : Base} {vP vS vF vI : Nat} {isV : Value} {J : World → Prop}
noncomputable def body43 : Code := Try.f43.body.getD .skip
noncomputable def body29 : Code := Try.f29.body.getD .skip
noncomputable def L43 : Code := match body43 with | .seq _ (.seq (.seq _ (.block _ (.loop c))) _) => c | _ => .skip
noncomputable def E43 : Code := match body43 with | .seq _ (.seq _ c) => c | _ => .skip
noncomputable def ops43 : Array Oper := match L43 with | .seq _ (.seq _ (.seq (.block _ (.seq _ (.seq _ (.seq (.region _ ops _) _)))) _)) => ops | _ => #[]
noncomputable def B43 : Code := match L43 with | .seq _ (.seq _ (.seq (.block _ (.seq _ (.seq _ (.seq _ c)))) _)) => c | _ => .skip
noncomputable def I43 : Code := match L43 with | .seq _ (.seq _ (.seq _ c)) => c | _ => .skip
noncomputable def R10 : Code := match body29 with | .seq _ (.seq _ (.seq _ (.seq _ (.seq _ (.seq _ c))))) => c | _ => .skip
noncomputable def ops10 : Array Oper := match R10 with | .seq (.region _ ops _) _ => ops | _ => #[]
noncomputable def R11 : Code := match R10 with | .seq _ c => c | _ => .skip
noncomputable def ops11 : Array Oper := match R11 with | .seq (.region _ ops _) _ => ops | _ => #[]
noncomputable def R12 : Code := match R11 with | .seq _ c => c | _ => .skip
/-- The frame of first, in the call of handOut. -/
def MainFr (X : Base) (vS vF : Nat) (c : Frame) : Prop := ∃ u1 u2 u3 u4 u5 u6 u7 u11 u12 u13 u14 u15 u16 u17 u18 u19 u20 u21 u22 u23 u24 u25 u26 u27 u28 u29 u30 u31 u32 u33 u34 u35 u36 u37 u38 u39 u40 u41 u42 u43 u44 : Value, c = (base 29).at ⟨#[.int .i64 (X.M : Nat), u1, u2, u3, u4, u5, u6, u7, .pointer (some ⟨vS, 0, none⟩), .pointer (some ⟨vF, 0, none⟩), .pointer (some ⟨X.Wg, 0, none⟩), u11, u12, u13, u14, u15, u16, u17, u18, u19, u20, u21, u22, u23, u24, u25, u26, u27, u28, u29, u30, u31, u32, u33, u34, u35, u36, u37, u38, u39, u40, u41, u42, u43, u44], []⟩ [.inRegion ops10 [3, 4], .code R11]
def HandW (X : Base) (vP vS vF vI : Nat) (isV : Value) (J : World → Prop) (cs : List Frame) (i : Nat) (g : Goroutine) (w : World) : Prop :=
  ∃ c, MainFr X vS vF c ∧ ∃ v3 v4 v5 v6 v8 v11 v12 v16 v17 v18 v19 v20 v21 v22 v23 : Value, g = G ((base 43).at ⟨#[.int .i64 (X.M : Nat), .chan (some X.Cp), .chan (some X.Cf), v3, v4, v5, v6, .int .i64 (i : Nat), v8, .int .i64 (X.M : Nat), .int .i64 (i : Nat), v11, v12, .chan (some X.Cp), .int .i64 (i : Nat), .chan (some X.Cf), v16, v17, v18, v19, v20, v21, v22, v23], []⟩ [.inRegion ops43 [0, 1, 2, 3], .code B43, .inBlock 1, .code I43, .inLoop L43, .inBlock 0, .code E43]) (c :: cs) ∧ Seen X vP vS vF vI isV J w
def ShutW (X : Base) (vP vS vF vI : Nat) (isV : Value) (J : World → Prop) (cs : List Frame) (l : Nat) (g : Goroutine) (w : World) : Prop :=
  ∃ u1 u2 u3 u4 u5 u6 u7 u12 u13 u14 u15 u16 u17 u18 u19 u20 u21 u22 u23 u24 u25 u26 u27 u28 u29 u30 u32 u33 u34 u35 u36 u37 u38 u39 u40 u41 u42 u43 u44 : Value, g = G ((base 29).at ⟨#[.int .i64 (X.M : Nat), u1, u2, u3, u4, u5, u6, u7, .pointer (some ⟨vS, 0, none⟩), .pointer (some ⟨vF, 0, none⟩), .pointer (some ⟨X.Wg, 0, none⟩), .int .i64 (l : Nat), u12, u13, u14, u15, u16, u17, u18, u19, u20, u21, u22, u23, u24, u25, u26, u27, u28, u29, u30, .chan (some X.Cs), u32, u33, u34, u35, u36, u37, u38, u39, u40, u41, u42, u43, u44], []⟩ [.inRegion ops11 [1], .code R12]) cs ∧ Seen X vP vS vF vI isV J w
theorem ev_readM (A : X.L.Apart) {a : Addr} (h : X.L.Rd (.cell a)) : EvM X ⟨.cell a, false, false⟩ := ⟨a, rfl, A.rdSh _ h, A.rdShun _ h, fun p ho => A.ownRd p _ ho h⟩
theorem fin_sent (X : Base) (i : Nat) : commResult (hc X i) .select ((0 : Nat) : Int) undef false = .tuple #[.int .i64 0, .bool false, .int .i64 0] := by simp [commResult, hc, rcase, scase, goInt]
theorem fin_got (X : Base) (i p : Nat) : commResult (hc X i) .select ((1 : Nat) : Int) (.int .i64 p) true = .tuple #[.int .i64 1, .bool true, .int .i64 p] := by simp [commResult, hc, rcase, scase, goInt]

set_option maxRecDepth 100000 in
/-- handOut has returned. -/
theorem handed_back (S : Seat X vP vS vF vI isV J) (A : X.L.Apart) {cs : List Frame} {c : Frame} (hc : MainFr X vS vF c) (W : Array Value) (todo : List Item) {l : Nat} (hW : W.getD 6 undef = .int .i64 l) {Stop : Goroutine → World → Prop} {w : World} (hF : Seen X vP vS vF vI isV J w)
    (hS : ∀ g w', ShutW X vP vS vF vI isV J cs l g w' → Stop g w') :
    Goes Try.prog true (K X) (DM X) Stop 6 (G { (base 43).at ⟨W, []⟩ todo with mode := .returning } (c :: cs)) w := by
  obtain ⟨u1, u2, u3, u4, u5, u6, u7, u11, u12, u13, u14, u15, u16, u17, u18, u19, u20, u21, u22, u23, u24, u25, u26, u27, u28, u29, u30, u31, u32, u33, u34, u35, u36, u37, u38, u39, u40, u41, u42, u43, u44, rfl⟩ := hc
  have T := termsM X
  simp only [ops10, R11, R10, body29, Try.f29, Option.getD_some]
  refine Goes.step rfl (fun _ h₁ => ?_)
  replace hF := S.rely hF h₁
  clear h₁
  refine goes_leave1 rfl rfl Try.func43 rfl ⟨T.idle _, ?_⟩
  rw [hW]
  walk_nrm
  refine Goes.step rfl (fun _ h₁ => ?_)
  replace hF := S.rely hF h₁
  clear h₁
  refine goes_oper_k rfl rfl (by k_ne) (fun κ hκ => ?_)
  go_simp
  refine hκ _ _ ⟨idle_of T (fun e he => ?_), ?_⟩
  · have hm := mem_listed he
    simp [go_sem, *] at hm
  clear hκ κ
  refine Goes.step rfl (fun _ h₁ => ?_)
  replace hF := S.rely hF h₁
  clear h₁
  rw [stepG_region_end]
  simp only [goes_go]
  refine ⟨T.idle _, ?_⟩
  refine Goes.step rfl (fun _ h₁ => ?_)
  replace hF := S.rely hF h₁
  clear h₁
  rw [stepG_seq]
  simp only [goes_go]
  refine ⟨T.idle _, ?_⟩
  refine Goes.step rfl (fun _ h₁ => ?_)
  replace hF := S.rely hF h₁
  clear h₁
  rw [stepG_region]
  simp only [goes_go, List.size_toArray, List.length_cons, List.length_nil, Nat.reduceAdd, Nat.zero_add, List.range, List.range.loop]
  refine ⟨T.idle _, ?_⟩
  refine Goes.step rfl (fun _ h₁ => ?_)
  replace hF := S.rely hF h₁
  clear h₁
  have hcell := hF.s
  refine goes_oper_k rfl rfl (by k_ne) (fun κ hκ => ?_)
  go_simp
  refine hκ _ _ ⟨⟨rfl, fun e he => ?_⟩, ?_⟩
  · have hm := mem_listed he
    simp [go_sem, *] at hm
    subst hm
    exact ev_readM A S.rS
  clear hκ κ hcell
  refine Goes.stop fun w₁ h₁ => ?_
  replace hF := S.rely hF h₁
  refine hS _ _ ?_
  simp only [ShutW, ops11, R12, R11, R10, body29, Try.f29, Option.getD_some]
  exact ⟨_, _, _, _, _, _, _, _, _, _, _, _, _, _, _, _, _, _, _, _, _, _, _, _, _, _, _, _, _, _, _, _, _, _, _, _, _, _, _, rfl, hF⟩

set_option maxRecDepth 100000 in
set_option maxHeartbeats 1000000 in
/-- At the head of handOut's loop. -/
theorem to_hand (S : Seat X vP vS vF vI isV J) (A : X.L.Apart) {cs : List Frame} {c : Frame} (hc : MainFr X vS vF c) {i : Nat} (hi : i ≤ X.M) {Stop : Goroutine → World → Prop} {w : World} (hF : Seen X vP vS vF vI isV J w)
    (hH : i < X.M → ∀ g w', HandW X vP vS vF vI isV J cs i g w' → Stop g w') (hS : X.M ≤ i → ∀ g w', ShutW X vP vS vF vI isV J cs X.M g w' → Stop g w') (v3 v4 v5 v6 v7 v8 v11 v12 v13 v14 v15 v16 v17 v18 v19 v20 v21 v22 v23 : Value) :
    Goes Try.prog true (K X) (DM X) Stop 30 (G ((base 43).at ⟨#[.int .i64 (X.M : Nat), .chan (some X.Cp), .chan (some X.Cf), v3, v4, v5, v6, v7, v8, .int .i64 (X.M : Nat), .int .i64 (i : Nat), v11, v12, v13, v14, v15, v16, v17, v18, v19, v20, v21, v22, v23], []⟩ [.code L43, .inLoop L43, .inBlock 0, .code E43]) (c :: cs)) w := by
  have T := termsM X
  simp only [L43, E43, body43, Try.f43, Option.getD_some]
  rcases Nat.lt_or_ge i X.M with hlt | hge
  · have hlt' : (i : Int) < (X.M : Int) := by omega
    refine Goes.step rfl (fun _ h₁ => ?_)
    replace hF := S.rely hF h₁
    clear h₁
    rw [stepG_seq]
    simp only [goes_go]
    refine ⟨T.idle _, ?_⟩
    refine Goes.step rfl (fun _ h₁ => ?_)
    replace hF := S.rely hF h₁
    clear h₁
    rw [stepG_region]
    simp only [goes_go, List.size_toArray, List.length_cons, List.length_nil, Nat.zero_add, List.range, List.range.loop]
    refine ⟨T.idle _, ?_⟩
    refine Goes.step rfl (fun _ h₁ => ?_)
    replace hF := S.rely hF h₁
    clear h₁
    refine goes_oper_k rfl rfl (by k_ne) (fun κ hκ => ?_)
    go_simp
    refine hκ _ _ ⟨idle_of T (fun e he => ?_), ?_⟩
    · have hm := mem_listed he
      simp [go_sem, *] at hm
    clear hκ κ
    refine Goes.step rfl (fun _ h₁ => ?_)
    replace hF := S.rely hF h₁
    clear h₁
    rw [stepG_region_end]
    simp only [goes_go]
    refine ⟨T.idle _, ?_⟩
    refine Goes.step rfl (fun _ h₁ => ?_)
    replace hF := S.rely hF h₁
    clear h₁
    rw [stepG_seq]
    simp only [goes_go]
    refine ⟨T.idle _, ?_⟩
    refine Goes.step rfl (fun _ h₁ => ?_)
    replace hF := S.rely hF h₁
    clear h₁
    rw [stepG_cond (t := true) rfl]
    simp only [goes_go, ↓reduceIte]
    refine ⟨T.idle _, ?_⟩
    refine Goes.step rfl (fun _ h₁ => ?_)
    replace hF := S.rely hF h₁
    clear h₁
    rw [stepG_skip]
    simp only [goes_go]
    refine ⟨T.idle _, ?_⟩
    refine Goes.step rfl (fun _ h₁ => ?_)
    replace hF := S.rely hF h₁
    clear h₁
    rw [stepG_seq]
    simp only [goes_go]
    refine ⟨T.idle _, ?_⟩
    refine Goes.step rfl (fun _ h₁ => ?_)
    replace hF := S.rely hF h₁
    clear h₁
    rw [stepG_block]
    simp only [goes_go]
    refine ⟨T.idle _, ?_⟩
    refine Goes.step rfl (fun _ h₁ => ?_)
    replace hF := S.rely hF h₁
    clear h₁
    rw [stepG_seq]
    simp only [goes_go]
    refine ⟨T.idle _, ?_⟩
    refine Goes.step rfl (fun _ h₁ => ?_)
    replace hF := S.rely hF h₁
    clear h₁
    rw [stepG_region]
    simp only [goes_go, List.size_toArray, List.length_cons, List.length_nil, Nat.reduceAdd, Nat.zero_add, List.range, List.range.loop]
    refine ⟨T.idle _, ?_⟩
    refine Goes.step rfl (fun _ h₁ => ?_)
    replace hF := S.rely hF h₁
    clear h₁
    refine goes_oper_k rfl rfl (by k_ne) (fun κ hκ => ?_)
    go_simp
    refine hκ _ _ ⟨idle_of T (fun e he => ?_), ?_⟩
    · have hm := mem_listed he
      simp [go_sem, *] at hm
    clear hκ κ
    refine Goes.step rfl (fun _ h₁ => ?_)
    replace hF := S.rely hF h₁
    clear h₁
    refine goes_oper_k rfl rfl (by k_ne) (fun κ hκ => ?_)
    go_simp
    refine hκ _ _ ⟨idle_of T (fun e he => ?_), ?_⟩
    · have hm := mem_listed he
      simp [go_sem, *] at hm
    clear hκ κ
    refine Goes.step rfl (fun _ h₁ => ?_)
    replace hF := S.rely hF h₁
    clear h₁
    rw [stepG_region_end]
    simp only [goes_go]
    refine ⟨T.idle _, ?_⟩
    refine Goes.step rfl (fun _ h₁ => ?_)
    replace hF := S.rely hF h₁
    clear h₁
    rw [stepG_seq]
    simp only [goes_go]
    refine ⟨T.idle _, ?_⟩
    refine Goes.step rfl (fun _ h₁ => ?_)
    replace hF := S.rely hF h₁
    clear h₁
    rw [stepG_seq]
    simp only [goes_go]
    refine ⟨T.idle _, ?_⟩
    refine Goes.step rfl (fun _ h₁ => ?_)
    replace hF := S.rely hF h₁
    clear h₁
    rw [stepG_seq]
    simp only [goes_go]
    refine ⟨T.idle _, ?_⟩
    refine Goes.step rfl (fun _ h₁ => ?_)
    replace hF := S.rely hF h₁
    clear h₁
    rw [stepG_region]
    simp only [goes_go, List.size_toArray, List.length_cons, List.length_nil, Nat.zero_add, List.range, List.range.loop]
    refine ⟨T.idle _, ?_⟩
    refine Goes.step rfl (fun _ h₁ => ?_)
    replace hF := S.rely hF h₁
    clear h₁
    refine goes_oper_k rfl rfl (by k_ne) (fun κ hκ => ?_)
    go_simp
    refine hκ _ _ ⟨idle_of T (fun e he => ?_), ?_⟩
    · have hm := mem_listed he
      simp [go_sem, *] at hm
    clear hκ κ
    refine Goes.step rfl (fun _ h₁ => ?_)
    replace hF := S.rely hF h₁
    clear h₁
    rw [stepG_region_end]
    simp only [goes_go]
    refine ⟨T.idle _, ?_⟩
    refine Goes.step rfl (fun _ h₁ => ?_)
    replace hF := S.rely hF h₁
    clear h₁
    rw [stepG_region]
    simp only [goes_go, List.size_toArray, List.length_cons, List.length_nil, Nat.zero_add, List.range, List.range.loop]
    refine ⟨T.idle _, ?_⟩
    refine Goes.step rfl (fun _ h₁ => ?_)
    replace hF := S.rely hF h₁
    clear h₁
    refine goes_oper_k rfl rfl (by k_ne) (fun κ hκ => ?_)
    go_simp
    refine hκ _ _ ⟨idle_of T (fun e he => ?_), ?_⟩
    · have hm := mem_listed he
      simp [go_sem, *] at hm
    clear hκ κ
    refine Goes.step rfl (fun _ h₁ => ?_)
    replace hF := S.rely hF h₁
    clear h₁
    rw [stepG_region_end]
    simp only [goes_go]
    refine ⟨T.idle _, ?_⟩
    refine Goes.step rfl (fun _ h₁ => ?_)
    replace hF := S.rely hF h₁
    clear h₁
    rw [stepG_region]
    simp only [goes_go, List.size_toArray, List.length_cons, List.length_nil, Nat.zero_add, List.range, List.range.loop]
    refine ⟨T.idle _, ?_⟩
    refine Goes.step rfl (fun _ h₁ => ?_)
    replace hF := S.rely hF h₁
    clear h₁
    refine goes_oper_k rfl rfl (by k_ne) (fun κ hκ => ?_)
    go_simp
    refine hκ _ _ ⟨idle_of T (fun e he => ?_), ?_⟩
    · have hm := mem_listed he
      simp [go_sem, *] at hm
    clear hκ κ
    refine Goes.step rfl (fun _ h₁ => ?_)
    replace hF := S.rely hF h₁
    clear h₁
    rw [stepG_region_end]
    simp only [goes_go]
    refine ⟨T.idle _, ?_⟩
    refine Goes.step rfl (fun _ h₁ => ?_)
    replace hF := S.rely hF h₁
    clear h₁
    rw [stepG_seq]
    simp only [goes_go]
    refine ⟨T.idle _, ?_⟩
    refine Goes.step rfl (fun _ h₁ => ?_)
    replace hF := S.rely hF h₁
    clear h₁
    rw [stepG_region]
    simp only [goes_go, List.size_toArray, List.length_cons, List.length_nil, Nat.reduceAdd, Nat.zero_add, List.range, List.range.loop]
    refine ⟨T.idle _, ?_⟩
    refine Goes.stop fun w₁ h₁ => ?_
    replace hF := S.rely hF h₁
    refine hH hlt _ _ ?_
    simp only [HandW, ops43, B43, I43, L43, E43, body43, Try.f43, Option.getD_some]
    exact ⟨_, hc, _, _, _, _, _, _, _, _, _, _, _, _, _, _, _, rfl, hF⟩
  · obtain rfl : i = X.M := by omega
    have hnl : ¬ ((X.M : Int) < (X.M : Int)) := by omega
    refine Goes.step rfl (fun _ h₁ => ?_)
    replace hF := S.rely hF h₁
    clear h₁
    rw [stepG_seq]
    simp only [goes_go]
    refine ⟨T.idle _, ?_⟩
    refine Goes.step rfl (fun _ h₁ => ?_)
    replace hF := S.rely hF h₁
    clear h₁
    rw [stepG_region]
    simp only [goes_go, List.size_toArray, List.length_cons, List.length_nil, Nat.zero_add, List.range, List.range.loop]
    refine ⟨T.idle _, ?_⟩
    refine Goes.step rfl (fun _ h₁ => ?_)
    replace hF := S.rely hF h₁
    clear h₁
    refine goes_oper_k rfl rfl (by k_ne) (fun κ hκ => ?_)
    go_simp
    refine hκ _ _ ⟨idle_of T (fun e he => ?_), ?_⟩
    · have hm := mem_listed he
      simp [go_sem, *] at hm
    clear hκ κ
    refine Goes.step rfl (fun _ h₁ => ?_)
    replace hF := S.rely hF h₁
    clear h₁
    rw [stepG_region_end]
    simp only [goes_go]
    refine ⟨T.idle _, ?_⟩
    refine Goes.step rfl (fun _ h₁ => ?_)
    replace hF := S.rely hF h₁
    clear h₁
    rw [stepG_seq]
    simp only [goes_go]
    refine ⟨T.idle _, ?_⟩
    refine Goes.step rfl (fun _ h₁ => ?_)
    replace hF := S.rely hF h₁
    clear h₁
    rw [stepG_cond (t := false) rfl]
    simp only [goes_go, Bool.false_eq_true, ↓reduceIte]
    refine ⟨T.idle _, ?_⟩
    refine Goes.step rfl (fun _ h₁ => ?_)
    replace hF := S.rely hF h₁
    clear h₁
    refine goes_exit rfl ?_
    refine ⟨T.idle _, ?_⟩
    refine Goes.step rfl (fun _ h₁ => ?_)
    replace hF := S.rely hF h₁
    clear h₁
    rw [stepG_seq]
    simp only [goes_go]
    refine ⟨T.idle _, ?_⟩
    refine Goes.step rfl (fun _ h₁ => ?_)
    replace hF := S.rely hF h₁
    clear h₁
    rw [stepG_region]
    simp only [goes_go, List.size_toArray, List.length_cons, List.length_nil, Nat.reduceAdd, Nat.zero_add, List.range, List.range.loop]
    refine ⟨T.idle _, ?_⟩
    refine Goes.step rfl (fun _ h₁ => ?_)
    replace hF := S.rely hF h₁
    clear h₁
    refine goes_oper_k rfl rfl (by k_ne) (fun κ hκ => ?_)
    go_simp
    refine hκ _ _ ⟨idle_of T (fun e he => ?_), ?_⟩
    · have hm := mem_listed he
      simp [go_sem, *] at hm
    clear hκ κ
    refine Goes.step rfl (fun _ h₁ => ?_)
    replace hF := S.rely hF h₁
    clear h₁
    refine goes_oper_k rfl rfl (by k_ne) (fun κ hκ => ?_)
    go_simp
    refine hκ _ _ ⟨idle_of T (fun e he => ?_), ?_⟩
    · have hm := mem_listed he
      simp [go_sem, *] at hm
    clear hκ κ
    refine Goes.step rfl (fun _ h₁ => ?_)
    replace hF := S.rely hF h₁
    clear h₁
    rw [stepG_region_end]
    simp only [goes_go]
    refine ⟨T.idle _, ?_⟩
    refine Goes.step rfl (fun _ h₁ => ?_)
    replace hF := S.rely hF h₁
    clear h₁
    rw [stepG_ret']
    simp only [goes_go]
    refine ⟨T.idle _, ?_⟩
    exact Goes.mono (n := 6) (handed_back S A hc _ _ (by simp) hF (hS hge)) (by omega)
theorem HandW.rely (S : Seat X vP vS vF vI isV J) {cs : List Frame} {i : Nat} {g : Goroutine} {w w₁ : World} (h : HandW X vP vS vF vI isV J cs i g w) (k : K X w w₁) : HandW X vP vS vF vI isV J cs i g w₁ := by
  obtain ⟨c, hc, v3, v4, v5, v6, v8, v11, v12, v16, v17, v18, v19, v20, v21, v22, v23, rfl, hF⟩ := h
  exact ⟨c, hc, v3, v4, v5, v6, v8, v11, v12, v16, v17, v18, v19, v20, v21, v22, v23, rfl, S.rely hF k⟩
theorem HandW.step {cs : List Frame} {i : Nat} {g : Goroutine} {w : World} (h : HandW X vP vS vF vI isV J cs i g w) : g.status = .running ∧ g.offers = none ∧ stepG Try.prog true g w = .comm g (hc X i) true .select w #[] := by
  obtain ⟨c, hc', v3, v4, v5, v6, v8, v11, v12, v16, v17, v18, v19, v20, v21, v22, v23, rfl, hF⟩ := h
  refine ⟨rfl, rfl, ?_⟩
  simp only [ops43, B43, I43, L43, E43, body43, Try.f43, Option.getD_some]
  rw [stepG_comm (cases := hc X i) (blocking := true) (shape := .select) (w' := w) rfl rfl (by k_ne) ?_]
  · congr 1
    unfold listed
    refine Eq.trans (congrArg _ ?_) (seen_none _ _)
    unfold execOp
    simp [go_sem]
  · refine eq_of_k fun κ hκ => ?_
    go_simp
    simpa [hc, rcase, scase] using hκ
set_option maxRecDepth 100000 in
theorem HandW.sent (S : Seat X vP vS vF vI isV J) (A : X.L.Apart) (hM : X.M ≤ 9223372036854775807) {cs : List Frame} {i : Nat} {g : Goroutine} {w : World} (h : HandW X vP vS vF vI isV J cs i g w) (hi : i < X.M) {Stop : Goroutine → World → Prop}
    (hH : i + 1 < X.M → ∀ g w', HandW X vP vS vF vI isV J cs (i + 1) g w' → Stop g w') (hS : X.M ≤ i + 1 → ∀ g w', ShutW X vP vS vF vI isV J cs X.M g w' → Stop g w') :
    Goes Try.prog true (K X) (DM X) Stop (30 + 14) (g.finishComm Try.prog (hc X i) .select ((0 : Nat) : Int) undef false) w := by
  obtain ⟨c, hc', v3, v4, v5, v6, v8, v11, v12, v16, v17, v18, v19, v20, v21, v22, v23, rfl, hF⟩ := h
  have T := termsM X
  have hi64 : IntKind.i64.wrap ((i : Int) + 1) = ((i + 1 : Nat) : Int) := by rw [IntKind.wrap_i64]; omega
  rw [fin_G, fin_sent, Frame.finish_at]
  simp only [ops43, B43, I43, L43, E43, body43, Try.f43, Option.getD_some]
  walk_nrm
  refine Goes.step rfl (fun _ h₁ => ?_)
  replace hF := S.rely hF h₁
  clear h₁
  refine goes_oper_k rfl rfl (by k_ne) (fun κ hκ => ?_)
  go_simp
  refine hκ _ _ ⟨idle_of T (fun e he => ?_), ?_⟩
  · have hm := mem_listed he
    simp [go_sem, *] at hm
  clear hκ κ
  refine Goes.step rfl (fun _ h₁ => ?_)
  replace hF := S.rely hF h₁
  clear h₁
  refine goes_oper_k rfl rfl (by k_ne) (fun κ hκ => ?_)
  go_simp
  refine hκ _ _ ⟨idle_of T (fun e he => ?_), ?_⟩
  · have hm := mem_listed he
    simp [go_sem, *] at hm
  clear hκ κ
  refine Goes.step rfl (fun _ h₁ => ?_)
  replace hF := S.rely hF h₁
  clear h₁
  refine goes_oper_k rfl rfl (by k_ne) (fun κ hκ => ?_)
  go_simp
  refine hκ _ _ ⟨idle_of T (fun e he => ?_), ?_⟩
  · have hm := mem_listed he
    simp [go_sem, *] at hm
  clear hκ κ
  refine Goes.step rfl (fun _ h₁ => ?_)
  replace hF := S.rely hF h₁
  clear h₁
  rw [stepG_region_end]
  simp only [goes_go]
  refine ⟨T.idle _, ?_⟩
  refine Goes.step rfl (fun _ h₁ => ?_)
  replace hF := S.rely hF h₁
  clear h₁
  rw [stepG_block]
  simp only [goes_go]
  refine ⟨T.idle _, ?_⟩
  refine Goes.step rfl (fun _ h₁ => ?_)
  replace hF := S.rely hF h₁
  clear h₁
  rw [stepG_cond (t := true) rfl]
  simp only [goes_go, ↓reduceIte]
  refine ⟨T.idle _, ?_⟩
  refine Goes.step rfl (fun _ h₁ => ?_)
  replace hF := S.rely hF h₁
  clear h₁
  rw [stepG_skip]
  simp only [goes_go]
  refine ⟨T.idle _, ?_⟩
  refine Goes.step rfl (fun _ h₁ => ?_)
  replace hF := S.rely hF h₁
  clear h₁
  rw [stepG_inBlock]
  simp only [goes_go]
  refine ⟨T.idle _, ?_⟩
  refine Goes.step rfl (fun _ h₁ => ?_)
  replace hF := S.rely hF h₁
  clear h₁
  rw [stepG_inBlock]
  simp only [goes_go]
  refine ⟨T.idle _, ?_⟩
  refine Goes.step rfl (fun _ h₁ => ?_)
  replace hF := S.rely hF h₁
  clear h₁
  rw [stepG_region]
  simp only [goes_go, List.size_toArray, List.length_cons, List.length_nil, Nat.reduceAdd, Nat.zero_add, List.range, List.range.loop]
  refine ⟨T.idle _, ?_⟩
  refine Goes.step rfl (fun _ h₁ => ?_)
  replace hF := S.rely hF h₁
  clear h₁
  refine goes_oper_k rfl rfl (by k_ne) (fun κ hκ => ?_)
  go_simp
  refine hκ _ _ ⟨idle_of T (fun e he => ?_), ?_⟩
  · have hm := mem_listed he
    simp [go_sem, *] at hm
  clear hκ κ
  refine Goes.step rfl (fun _ h₁ => ?_)
  replace hF := S.rely hF h₁
  clear h₁
  refine goes_oper_k rfl rfl (by k_ne) (fun κ hκ => ?_)
  go_simp
  refine hκ _ _ ⟨idle_of T (fun e he => ?_), ?_⟩
  · have hm := mem_listed he
    simp [go_sem, *] at hm
  clear hκ κ
  refine Goes.step rfl (fun _ h₁ => ?_)
  replace hF := S.rely hF h₁
  clear h₁
  rw [stepG_region_end]
  simp only [goes_go]
  refine ⟨T.idle _, ?_⟩
  refine Goes.step rfl (fun _ h₁ => ?_)
  replace hF := S.rely hF h₁
  clear h₁
  rw [stepG_inLoop]
  simp only [goes_go]
  refine ⟨T.idle _, ?_⟩
  exact Goes.mono (n := 30) (to_hand S A hc' (i := i + 1) (by omega) hF hH hS _ _ _ _ _ _ _ _ _ _ _ _ _ _ _ _ _ _ _) (by omega)
set_option maxRecDepth 100000 in
theorem HandW.got (S : Seat X vP vS vF vI isV J) (A : X.L.Apart) {cs : List Frame} {i p : Nat} {g : Goroutine} {w : World} (h : HandW X vP vS vF vI isV J cs i g w) {Stop : Goroutine → World → Prop} (hS : ∀ g w', ShutW X vP vS vF vI isV J cs p g w' → Stop g w') :
    Goes Try.prog true (K X) (DM X) Stop 24 (g.finishComm Try.prog (hc X i) .select ((1 : Nat) : Int) (.int .i64 p) true) w := by
  obtain ⟨c, hc', v3, v4, v5, v6, v8, v11, v12, v16, v17, v18, v19, v20, v21, v22, v23, rfl, hF⟩ := h
  have T := termsM X
  rw [fin_G, fin_got, Frame.finish_at]
  simp only [ops43, B43, I43, L43, E43, body43, Try.f43, Option.getD_some]
  walk_nrm
  refine Goes.step rfl (fun _ h₁ => ?_)
  replace hF := S.rely hF h₁
  clear h₁
  refine goes_oper_k rfl rfl (by k_ne) (fun κ hκ => ?_)
  go_simp
  refine hκ _ _ ⟨idle_of T (fun e he => ?_), ?_⟩
  · have hm := mem_listed he
    simp [go_sem, *] at hm
  clear hκ κ
  refine Goes.step rfl (fun _ h₁ => ?_)
  replace hF := S.rely hF h₁
  clear h₁
  refine goes_oper_k rfl rfl (by k_ne) (fun κ hκ => ?_)
  go_simp
  refine hκ _ _ ⟨idle_of T (fun e he => ?_), ?_⟩
  · have hm := mem_listed he
    simp [go_sem, *] at hm
  clear hκ κ
  refine Goes.step rfl (fun _ h₁ => ?_)
  replace hF := S.rely hF h₁
  clear h₁
  refine goes_oper_k rfl rfl (by k_ne) (fun κ hκ => ?_)
  go_simp
  refine hκ _ _ ⟨idle_of T (fun e he => ?_), ?_⟩
  · have hm := mem_listed he
    simp [go_sem, *] at hm
  clear hκ κ
  refine Goes.step rfl (fun _ h₁ => ?_)
  replace hF := S.rely hF h₁
  clear h₁
  rw [stepG_region_end]
  simp only [goes_go]
  refine ⟨T.idle _, ?_⟩
  refine Goes.step rfl (fun _ h₁ => ?_)
  replace hF := S.rely hF h₁
  clear h₁
  rw [stepG_block]
  simp only [goes_go]
  refine ⟨T.idle _, ?_⟩
  refine Goes.step rfl (fun _ h₁ => ?_)
  replace hF := S.rely hF h₁
  clear h₁
  rw [stepG_cond (t := false) rfl]
  simp only [goes_go, Bool.false_eq_true, ↓reduceIte]
  refine ⟨T.idle _, ?_⟩
  refine Goes.step rfl (fun _ h₁ => ?_)
  replace hF := S.rely hF h₁
  clear h₁
  rw [stepG_cond (t := true) rfl]
  simp only [goes_go, ↓reduceIte]
  refine ⟨T.idle _, ?_⟩
  refine Goes.step rfl (fun _ h₁ => ?_)
  replace hF := S.rely hF h₁
  clear h₁
  rw [stepG_seq]
  simp only [goes_go]
  refine ⟨T.idle _, ?_⟩
  refine Goes.step rfl (fun _ h₁ => ?_)
  replace hF := S.rely hF h₁
  clear h₁
  rw [stepG_region]
  simp only [goes_go, List.size_toArray, List.length_cons, List.length_nil, Nat.reduceAdd, Nat.zero_add, List.range, List.range.loop]
  refine ⟨T.idle _, ?_⟩
  refine Goes.step rfl (fun _ h₁ => ?_)
  replace hF := S.rely hF h₁
  clear h₁
  refine goes_oper_k rfl rfl (by k_ne) (fun κ hκ => ?_)
  go_simp
  refine hκ _ _ ⟨idle_of T (fun e he => ?_), ?_⟩
  · have hm := mem_listed he
    simp [go_sem, *] at hm
  clear hκ κ
  refine Goes.step rfl (fun _ h₁ => ?_)
  replace hF := S.rely hF h₁
  clear h₁
  refine goes_oper_k rfl rfl (by k_ne) (fun κ hκ => ?_)
  go_simp
  refine hκ _ _ ⟨idle_of T (fun e he => ?_), ?_⟩
  · have hm := mem_listed he
    simp [go_sem, *] at hm
  clear hκ κ
  refine Goes.step rfl (fun _ h₁ => ?_)
  replace hF := S.rely hF h₁
  clear h₁
  rw [stepG_region_end]
  simp only [goes_go]
  refine ⟨T.idle _, ?_⟩
  refine Goes.step rfl (fun _ h₁ => ?_)
  replace hF := S.rely hF h₁
  clear h₁
  rw [stepG_seq]
  simp only [goes_go]
  refine ⟨T.idle _, ?_⟩
  refine Goes.step rfl (fun _ h₁ => ?_)
  replace hF := S.rely hF h₁
  clear h₁
  rw [stepG_region]
  simp only [goes_go, List.size_toArray, List.length_cons, List.length_nil, Nat.reduceAdd, Nat.zero_add, List.range, List.range.loop]
  refine ⟨T.idle _, ?_⟩
  refine Goes.step rfl (fun _ h₁ => ?_)
  replace hF := S.rely hF h₁
  clear h₁
  refine goes_oper_k rfl rfl (by k_ne) (fun κ hκ => ?_)
  go_simp
  refine hκ _ _ ⟨idle_of T (fun e he => ?_), ?_⟩
  · have hm := mem_listed he
    simp [go_sem, *] at hm
  clear hκ κ
  refine Goes.step rfl (fun _ h₁ => ?_)
  replace hF := S.rely hF h₁
  clear h₁
  refine goes_oper_k rfl rfl (by k_ne) (fun κ hκ => ?_)
  go_simp
  refine hκ _ _ ⟨idle_of T (fun e he => ?_), ?_⟩
  · have hm := mem_listed he
    simp [go_sem, *] at hm
  clear hκ κ
  refine Goes.step rfl (fun _ h₁ => ?_)
  replace hF := S.rely hF h₁
  clear h₁
  rw [stepG_region_end]
  simp only [goes_go]
  refine ⟨T.idle _, ?_⟩
  refine Goes.step rfl (fun _ h₁ => ?_)
  replace hF := S.rely hF h₁
  clear h₁
  rw [stepG_ret']
  simp only [goes_go]
  refine ⟨T.idle _, ?_⟩
  exact Goes.mono (n := 6) (handed_back S A hc' _ _ (by simp) hF hS) (by omega)
end
end Go.Proofs.Ytbckmkppmdfnnaa.Crew
