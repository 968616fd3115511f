/- crew: the starter: close(stop) and Wait; the loop that starts the workers. Made by wip/tools/crew/mkG.py. -/
import Derived.Test.YtbckmkppmdfnnaaCrF
import Derived.Conc.CrowdMono
namespace Go.Proofs.Ytbckmkppmdfnnaa.Crew
open Go.Conc Go.RowKit Go.Conc.Lib Go.ConcR.Gen
open Go.ConcN (WgLive)
open Go.ConcR (KK wgBlock WgAt stA smA rd wr mk Payload DC0)
section
variable {P : Program} {ty : TypeId} {Wg : Nat} {R : World → World → Prop} {Fin A A' : Goroutine → World → Prop}
theorem wdis_mono (h : ∀ g w, A g w → A' g w) {g : Goroutine} {w : World} : WDis P R A g w → WDis P R A' g w
  | ⟨h1, g', h2, n, h3⟩ => ⟨h1, g', h2, n, Go.ConcN.goes_mono h h3⟩
theorem wcas_mono (h : ∀ g w, A g w → A' g w) {v : Nat} {g : Goroutine} {w : World} : WCas P ty Wg R Fin A v g w → WCas P ty Wg R Fin A' v g w
  | ⟨h1, h2⟩ => ⟨h1, fun v' hv' hw => ⟨(h2 v' hv' hw).1, fun hne => let ⟨g', x, m, y⟩ := (h2 v' hv' hw).2 hne; ⟨g', x, m, Go.ConcN.goes_mono h y⟩⟩⟩
theorem wloa_mono (h : ∀ g w, A g w → A' g w) {g : Goroutine} {w : World} : WLoa P ty Wg R Fin A g w → WLoa P ty Wg R Fin A' g w
  | ⟨h1, h2⟩ => ⟨h1, fun v hv hw => let ⟨g', x, y, z⟩ := h2 v hv hw; ⟨g', x, y, fun hne => let ⟨m, u⟩ := z hne; ⟨m, Go.ConcN.goes_mono (fun _ _ => wcas_mono h) u⟩⟩⟩
end
section
variable {X : Base} {vP vS vF vI : Nat} {isV : Value} {J : World → Prop}
noncomputable def ops12 : Array Oper := match R12 with | .seq (.region _ ops _) _ => ops | _ => #[]
noncomputable def R13 : Code := match R12 with | .seq _ c => c | _ => .skip
def AnchL (X : Base) (vP vS vF vI : Nat) (isV : Value) (J : World → Prop) (cs : List Frame) (l : Nat) (g : Goroutine) (w : World) : Prop :=
  ∃ u1 u2 u3 u4 u5 u6 u7 u12 u13 u14 u15 u16 u17 u18 u19 u20 u21 u22 u23 u24 u25 u26 u27 u28 u29 u30 u32 u33 u34 u35 u36 u37 u38 u39 u40 u41 u42 u43 u44 : Value, AnchW link (SeenM X vP vS vF vI isV J) X.Wg ((base 29).at ⟨#[.int .i64 (X.M : Nat), u1, u2, u3, u4, u5, u6, u7, .pointer (some ⟨vS, 0, none⟩), .pointer (some ⟨vF, 0, none⟩), .pointer (some ⟨X.Wg, 0, none⟩), .int .i64 (l : Nat), u12, u13, u14, u15, u16, u17, u18, u19, u20, u21, u22, u23, u24, u25, u26, u27, u28, u29, u30, .chan (some X.Cs), u32, u33, u34, u35, u36, u37, u38, u39, u40, u41, u42, u43, u44], []⟩ [.inRegion ops12 [0], .code R13]) cs g w
/-- Wait has returned. -/
def FinW (X : Base) (vP vS vF vI : Nat) (isV : Value) (J : World → Prop) (cs : List Frame) (l : Nat) (g : Goroutine) (w : World) : Prop :=
  ∃ u1 u2 u3 u4 u5 u6 u7 u12 u13 u14 u15 u16 u17 u18 u19 u20 u21 u22 u23 u24 u25 u26 u27 u28 u29 u30 u32 u33 u34 u35 u36 u37 u38 u39 u40 u41 u42 u43 u44 : Value, g = G ((base 29).at ⟨#[.int .i64 (X.M : Nat), u1, u2, u3, u4, u5, u6, u7, .pointer (some ⟨vS, 0, none⟩), .pointer (some ⟨vF, 0, none⟩), .pointer (some ⟨X.Wg, 0, none⟩), .int .i64 (l : Nat), u12, u13, u14, u15, u16, u17, u18, u19, u20, u21, u22, u23, u24, u25, u26, u27, u28, u29, u30, .chan (some X.Cs), u32, u33, u34, u35, u36, u37, u38, u39, u40, u41, u42, u43, u44], []⟩ [.inRegion ops12 [], .code R13]) cs ∧ Seen X vP vS vF vI isV J w
theorem Seat.keeps (S : Seat X vP vS vF vI isV J) : Keeps link.tWg X.Wg (K X) (SeenM X vP vS vF vI isV J) :=
  ⟨fun w w₁ k h => by have := k.live; rw [S.ty] at this; exact this h, fun w w₁ k h => ⟨k.cell S.cP h.p, k.cell S.cS h.s, k.cell S.cF h.f, k.cell S.cI h.i, S.jK _ _ k h.j⟩,
   fun w a v ha h => S.turn h (by simp) fun c h1 _ => (aside_setCell w a v).block c (by rw [ha]; exact h1)⟩
theorem termsC (X : Base) : Terms (K X) DC0 := ⟨K.tr, fun _ => ⟨rfl, rfl⟩⟩

set_option maxRecDepth 100000 in
set_option maxHeartbeats 1000000 in
theorem ShutW.step (S : Seat X vP vS vF vI isV J) (h1 : X.Cs ≠ X.Wg) {cs : List Frame} {l : Nat} {g : Goroutine} {w : World} (h : ShutW X vP vS vF vI isV J cs l g w) {s r : Nat} (hcs : w.heap[X.Cs]? = some (.chan 0 #[] false s r false)) :
    g.status = .running ∧ mayWake Try.prog g = true ∧ ∃ g', g'.status = .running ∧ stepG Try.prog true g w = .go g' (w.setChan X.Cs 0 #[] true s r false) #[⟨.obj X.Cs, false, true⟩, ⟨.obj X.Cs, true, true⟩] ∧
      ∃ m, Goes Try.prog true (K X) (DM X) (WDis Try.prog (K X) (AnchL X vP vS vF vI isV J cs l)) m g' (w.setChan X.Cs 0 #[] true s r false) := by
  obtain ⟨u1, u2, u3, u4, u5, u6, u7, u12, u13, u14, u15, u16, u17, u18, u19, u20, u21, u22, u23, u24, u25, u26, u27, u28, u29, u30, u32, u33, u34, u35, u36, u37, u38, u39, u40, u41, u42, u43, u44, rfl, hF⟩ := h
  have hn : ∀ c, c ≠ X.Cs → (w.setChan X.Cs 0 #[] true s r false).heap[c]? = w.heap[c]? := fun c hc => by simp [World.setChan, Array.getElem?_setIfInBounds_ne (Ne.symm hc)]
  have hF' : Seen X vP vS vF vI isV J (w.setChan X.Cs 0 #[] true s r false) := (S.turn hF.m (by simp [World.setChan]) fun c _ hc => hn c hc).full (let ⟨st, sm, x⟩ := hF.live; ⟨st, sm, x.of_block (hn _ (Ne.symm h1))⟩)
  simp only [ops11, R12, R11, R10, body29, Try.f29, Option.getD_some]
  refine ⟨rfl, rfl, _, ?_, stepG_close rfl rfl (by k_ne) rfl rfl hcs (by kernel_rfl), 30, ?_⟩
  · rfl
  have T := termsM X
  replace hF := hF'
  clear hF' hn hcs
  walk_nrm
  refine Goes.step rfl (fun _ h₁ => ?_)
  replace hF := S.rely hF h₁
  clear h₁
  rw [stepG_region_end]
  simp only [goes_go]
  refine ⟨T.idle _, ?_⟩
  refine Goes.step rfl (fun _ h₁ => ?_)
  replace hF := S.rely hF h₁
  clear h₁
  rw [stepG_seq]
  simp only [goes_go]
  refine ⟨T.idle _, ?_⟩
  refine Goes.step rfl (fun _ h₁ => ?_)
  replace hF := S.rely hF h₁
  clear h₁
  rw [stepG_region]
  simp only [goes_go, List.size_toArray, List.length_cons, List.length_nil, Nat.zero_add, List.range, List.range.loop]
  refine ⟨T.idle _, ?_⟩
  refine Goes.step rfl (fun _ h₁ => ?_)
  replace hF := S.rely hF h₁
  clear h₁
  refine goes_call rfl rfl (by k_ne) rfl wgLib.f_wait (nm_wait link) rfl ⟨T.idle _, ?_⟩
  walk_nrmf waitFn
  refine goes_weak (fun _ _ k => k) (fun _ _ es (d : DC0 _ _ es) => ⟨d.1, by rw [d.2]; simp⟩) ?_
  refine Go.ConcN.goes_mono (fun _ _ => wdis_mono fun g w h => ?_) (Goes.mono (n := 4) (waitStartR wgLib S.keeps _ ⟨hF.m, S.ty ▸ hF.live⟩) (by omega))
  · simp only [AnchL, ops12, R13, R12, R11, R10, body29, Try.f29, Option.getD_some]
    exact ⟨_, _, _, _, _, _, _, _, _, _, _, _, _, _, _, _, _, _, _, _, _, _, _, _, _, _, _, _, _, _, _, _, _, _, _, _, _, _, _, h⟩
theorem AnchL.go (S : Seat X vP vS vF vI isV J) {cs : List Frame} {l : Nat} {g : Goroutine} {w : World} (h : AnchL X vP vS vF vI isV J cs l g w) :
    g.status = .running ∧ ∃ m, Goes Try.prog true (K X) DC0 (WLoa Try.prog link.tWg X.Wg (K X) (FinW X vP vS vF vI isV J cs l) (AnchL X vP vS vF vI isV J cs l)) m g w := by
  obtain ⟨u1, u2, u3, u4, u5, u6, u7, u12, u13, u14, u15, u16, u17, u18, u19, u20, u21, u22, u23, u24, u25, u26, u27, u28, u29, u30, u32, u33, u34, u35, u36, u37, u38, u39, u40, u41, u42, u43, u44, h⟩ := h
  have h0 : g.status = .running := by
    obtain ⟨T, rfl, _⟩ := h
    rfl
  have hT : ∀ w, SeenM X vP vS vF vI isV J w → WgLive link.tWg X.Wg w → Goes Try.prog true (K X) DC0 (FinW X vP vS vF vI isV J cs l) 0 (G ((base 29).at (Act.put ⟨#[.int .i64 (X.M : Nat), u1, u2, u3, u4, u5, u6, u7, .pointer (some ⟨vS, 0, none⟩), .pointer (some ⟨vF, 0, none⟩), .pointer (some ⟨X.Wg, 0, none⟩), .int .i64 (l : Nat), u12, u13, u14, u15, u16, u17, u18, u19, u20, u21, u22, u23, u24, u25, u26, u27, u28, u29, u30, .chan (some X.Cs), u32, u33, u34, u35, u36, u37, u38, u39, u40, u41, u42, u43, u44], []⟩ ((ops12[0]?).bind (·.dst)) (.tuple #[])) [.inRegion ops12 [], .code R13]) cs) w := by
    intro w hF hl
    refine Goes.stop fun w₁ k => ?_
    have hF' : Seen X vP vS vF vI isV J w := hF.full (S.ty ▸ hl)
    simp only [FinW, ops12, R13, R12, R11, R10, body29, Try.f29, Option.getD_some]
    walk_nrm
    exact ⟨_, _, _, _, _, _, _, _, _, _, _, _, _, _, _, _, _, _, _, _, _, _, _, _, _, _, _, _, _, _, _, _, _, _, _, _, _, _, _, rfl, S.rely hF' k⟩
  obtain ⟨m, hm⟩ := waitRoundR wgLib S.keeps hT g w h
  exact ⟨h0, m, Go.ConcN.goes_mono (fun _ _ => wloa_mono fun g w h => ⟨u1, u2, u3, u4, u5, u6, u7, u12, u13, u14, u15, u16, u17, u18, u19, u20, u21, u22, u23, u24, u25, u26, u27, u28, u29, u30, u32, u33, u34, u35, u36, u37, u38, u39, u40, u41, u42, u43, u44, h⟩) hm⟩
end

/-! ### the loop that starts them -/
def SpStop (X : Cfg) : Nat → Goroutine → World → Prop
  | 0 => HandOr X 0
  | r + 1 => PDis X.P X.ty X.Wg (K X) (AtGo X r)
theorem spawns_iff {X : Cfg} {r : Nat} {g : Goroutine} {w : World} : Spawns X r g w ↔ ∃ m, Goes X.P true (K X) (DM X) (SpStop X r) m g w := by
  cases r <;> rfl
noncomputable def L29 : Code := match body29 with | .seq _ (.seq _ (.seq _ (.seq _ (.seq _ (.seq (.seq _ (.block _ (.loop c))) _))))) => c | _ => .skip

theorem atGo_mk {X : Cfg} {r m m' : Nat} {g g' child : Goroutine} {w : World} (hP : X.P = Try.prog) (hr : g.status = .running) (h : stepG Try.prog true g w = .spawn g' child w #[]) (hc : child.status = .running)
    (h1 : Goes Try.prog false (K X) (DW0 X) X.Sel m' child w) (h2 : Goes Try.prog true (K X) (DM X) (SpStop X r) m g' w) : AtGo X r g w :=
  ⟨hr, g', child, hP ▸ h, hc, ⟨m', hP ▸ h1⟩, spawns_iff.2 ⟨m, hP ▸ h2⟩⟩
section
variable {X : Cfg} {vP vS vF vI : Nat} {isV : Value} {J : World → Prop} {cs : List Frame}
set_option maxRecDepth 100000 in
set_option maxHeartbeats 4000000 in
theorem spawns_go (S : Seat X.toBase vP vS vF vI isV J) (A : X.L.Apart) (hn : X.n ≤ 2147483647) (hSel : ∀ g w, SelW X.toBase vP vS vF vI isV J g w → X.Sel g w)
    (hH : ∀ i g w, i < X.M → HandW X.toBase vP vS vF vI isV J cs i g w → X.Hand i g w) (hS : ∀ l g w, ShutW X.toBase vP vS vF vI isV J cs l g w → X.Shut l g w) :
    ∀ r i : Nat, i + r = X.n → ∃ m, ∀ (u2 u3 u4 u6 u11 u12 u13 u14 u15 u16 u17 u18 u19 u20 u23 u24 u25 u26 u27 u28 u29 u30 u31 u32 u33 u34 u35 u36 u37 u38 u39 u40 u41 u42 u43 u44 : Value) (w : World), Seen X.toBase vP vS vF vI isV J w →
      Goes Try.prog true (K X) (DM X) (SpStop X r) m (G ((base 29).at ⟨#[.int .i64 (X.M : Nat), .int .i64 (X.n : Nat), u2, u3, u4, .pointer (some ⟨vI, 0, none⟩), u6, .pointer (some ⟨vP, 0, none⟩), .pointer (some ⟨vS, 0, none⟩), .pointer (some ⟨vF, 0, none⟩), .pointer (some ⟨X.Wg, 0, none⟩), u11, u12, u13, u14, u15, u16, u17, u18, u19, u20, .int .i64 (X.n : Nat), .int .i64 (i : Nat), u23, u24, u25, u26, u27, u28, u29, u30, u31, u32, u33, u34, u35, u36, u37, u38, u39, u40, u41, u42, u43, u44], []⟩ [.code L29, .inLoop L29, .inBlock 0, .code R10]) cs) w := by
  intro r
  induction r with
  | zero =>
    intro i hi
    obtain rfl : i = X.n := by omega
    refine ⟨30 + 27, fun u2 u3 u4 u6 u11 u12 u13 u14 u15 u16 u17 u18 u19 u20 u23 u24 u25 u26 u27 u28 u29 u30 u31 u32 u33 u34 u35 u36 u37 u38 u39 u40 u41 u42 u43 u44 w hF => ?_⟩
    have T := termsM X.toBase
    have hnl : ¬ ((X.n : Int) < (X.n : Int)) := by omega
    simp only [L29, R10, body29, Try.f29, Option.getD_some]
    refine Goes.step rfl (fun _ h₁ => ?_)
    replace hF := S.rely hF h₁
    clear h₁
    rw [stepG_seq]
    simp only [goes_go]
    refine ⟨T.idle _, ?_⟩
    refine Goes.step rfl (fun _ h₁ => ?_)
    replace hF := S.rely hF h₁
    clear h₁
    rw [stepG_region]
    simp only [goes_go, List.size_toArray, List.length_cons, List.length_nil, Nat.zero_add, List.range, List.range.loop]
    refine ⟨T.idle _, ?_⟩
    refine Goes.step rfl (fun _ h₁ => ?_)
    replace hF := S.rely hF h₁
    clear h₁
    refine goes_oper_k rfl rfl (by k_ne) (fun κ hκ => ?_)
    go_simp
    refine hκ _ _ ⟨idle_of T (fun e he => ?_), ?_⟩
    · have hm := mem_listed he
      simp [go_sem, *] at hm
    clear hκ κ
    refine Goes.step rfl (fun _ h₁ => ?_)
    replace hF := S.rely hF h₁
    clear h₁
    rw [stepG_region_end]
    simp only [goes_go]
    refine ⟨T.idle _, ?_⟩
    refine Goes.step rfl (fun _ h₁ => ?_)
    replace hF := S.rely hF h₁
    clear h₁
    rw [stepG_seq]
    simp only [goes_go]
    refine ⟨T.idle _, ?_⟩
    refine Goes.step rfl (fun _ h₁ => ?_)
    replace hF := S.rely hF h₁
    clear h₁
    rw [stepG_cond (t := false) rfl]
    simp only [goes_go, Bool.false_eq_true, ↓reduceIte]
    refine ⟨T.idle _, ?_⟩
    refine Goes.step rfl (fun _ h₁ => ?_)
    replace hF := S.rely hF h₁
    clear h₁
    refine goes_exit rfl ?_
    refine ⟨T.idle _, ?_⟩
    refine Goes.step rfl (fun _ h₁ => ?_)
    replace hF := S.rely hF h₁
    clear h₁
    rw [stepG_seq]
    simp only [goes_go]
    refine ⟨T.idle _, ?_⟩
    refine Goes.step rfl (fun _ h₁ => ?_)
    replace hF := S.rely hF h₁
    clear h₁
    rw [stepG_region]
    simp only [goes_go, List.size_toArray, List.length_cons, List.length_nil, Nat.reduceAdd, Nat.zero_add, List.range, List.range.loop]
    refine ⟨T.idle _, ?_⟩
    refine Goes.step rfl (fun _ h₁ => ?_)
    replace hF := S.rely hF h₁
    clear h₁
    refine goes_oper_k rfl rfl (by k_ne) (fun κ hκ => ?_)
    go_simp
    refine hκ _ _ ⟨idle_of T (fun e he => ?_), ?_⟩
    · have hm := mem_listed he
      simp [go_sem, *] at hm
    clear hκ κ
    refine Goes.step rfl (fun _ h₁ => ?_)
    replace hF := S.rely hF h₁
    clear h₁
    have hcell := hF.p
    refine goes_oper_k rfl rfl (by k_ne) (fun κ hκ => ?_)
    go_simp
    refine hκ _ _ ⟨⟨rfl, fun e he => ?_⟩, ?_⟩
    · have hm := mem_listed he
      simp [go_sem, *] at hm
      subst hm
      exact ev_readM A S.rP
    clear hκ κ hcell
    refine Goes.step rfl (fun _ h₁ => ?_)
    replace hF := S.rely hF h₁
    clear h₁
    have hcell := hF.f
    refine goes_oper_k rfl rfl (by k_ne) (fun κ hκ => ?_)
    go_simp
    refine hκ _ _ ⟨⟨rfl, fun e he => ?_⟩, ?_⟩
    · have hm := mem_listed he
      simp [go_sem, *] at hm
      subst hm
      exact ev_readM A S.rF
    clear hκ κ hcell
    refine Goes.step rfl (fun _ h₁ => ?_)
    replace hF := S.rely hF h₁
    clear h₁
    refine goes_call rfl rfl (by k_ne) rfl Try.func43 (by kernel_rfl) rfl ⟨T.idle _, ?_⟩
    walk_nrmf Try.f43
    refine Goes.step rfl (fun _ h₁ => ?_)
    replace hF := S.rely hF h₁
    clear h₁
    rw [stepG_seq]
    simp only [goes_go]
    refine ⟨T.idle _, ?_⟩
    refine Goes.step rfl (fun _ h₁ => ?_)
    replace hF := S.rely hF h₁
    clear h₁
    rw [stepG_region]
    simp only [goes_go, List.size_toArray, List.length_cons, List.length_nil, Nat.zero_add, List.range, List.range.loop]
    refine ⟨T.idle _, ?_⟩
    refine Goes.step rfl (fun _ h₁ => ?_)
    replace hF := S.rely hF h₁
    clear h₁
    refine goes_oper_k rfl rfl (by k_ne) (fun κ hκ => ?_)
    go_simp
    refine hκ _ _ ⟨idle_of T (fun e he => ?_), ?_⟩
    · have hm := mem_listed he
      simp [go_sem, *] at hm
    clear hκ κ
    refine Goes.step rfl (fun _ h₁ => ?_)
    replace hF := S.rely hF h₁
    clear h₁
    rw [stepG_region_end]
    simp only [goes_go]
    refine ⟨T.idle _, ?_⟩
    refine Goes.step rfl (fun _ h₁ => ?_)
    replace hF := S.rely hF h₁
    clear h₁
    rw [stepG_seq]
    simp only [goes_go]
    refine ⟨T.idle _, ?_⟩
    refine Goes.step rfl (fun _ h₁ => ?_)
    replace hF := S.rely hF h₁
    clear h₁
    rw [stepG_seq]
    simp only [goes_go]
    refine ⟨T.idle _, ?_⟩
    refine Goes.step rfl (fun _ h₁ => ?_)
    replace hF := S.rely hF h₁
    clear h₁
    rw [stepG_region]
    simp only [goes_go, List.size_toArray, List.length_cons, List.length_nil, Nat.reduceAdd, Nat.zero_add, List.range, List.range.loop]
    refine ⟨T.idle _, ?_⟩
    refine Goes.step rfl (fun _ h₁ => ?_)
    replace hF := S.rely hF h₁
    clear h₁
    refine goes_oper_k rfl rfl (by k_ne) (fun κ hκ => ?_)
    go_simp
    refine hκ _ _ ⟨idle_of T (fun e he => ?_), ?_⟩
    · have hm := mem_listed he
      simp [go_sem, *] at hm
    clear hκ κ
    refine Goes.step rfl (fun _ h₁ => ?_)
    replace hF := S.rely hF h₁
    clear h₁
    refine goes_oper_k rfl rfl (by k_ne) (fun κ hκ => ?_)
    go_simp
    refine hκ _ _ ⟨idle_of T (fun e he => ?_), ?_⟩
    · have hm := mem_listed he
      simp [go_sem, *] at hm
    clear hκ κ
    refine Goes.step rfl (fun _ h₁ => ?_)
    replace hF := S.rely hF h₁
    clear h₁
    rw [stepG_region_end]
    simp only [goes_go]
    refine ⟨T.idle _, ?_⟩
    refine Goes.step rfl (fun _ h₁ => ?_)
    replace hF := S.rely hF h₁
    clear h₁
    rw [stepG_block]
    simp only [goes_go]
    refine ⟨T.idle _, ?_⟩
    refine Goes.step rfl (fun _ h₁ => ?_)
    replace hF := S.rely hF h₁
    clear h₁
    rw [stepG_loop]
    simp only [goes_go]
    refine ⟨T.idle _, ?_⟩
    refine Goes.mono (n := 30) (to_hand (i := 0) S A ?_ (by omega) hF (fun h g w x => .inl ⟨h, hH _ _ _ h x⟩) (fun h g w x => .inr ⟨h, hS _ _ _ x⟩) _ _ _ _ _ _ _ _ _ _ _ _ _ _ _ _ _ _ _) (by omega)
    simp only [MainFr, ops10, R11, R10, body29, Try.f29, Option.getD_some]
    exact ⟨_, _, _, _, _, _, _, _, _, _, _, _, _, _, _, _, _, _, _, _, _, _, _, _, _, _, _, _, _, _, _, _, _, _, _, _, _, _, _, _, _, rfl⟩
  | succ r ih =>
    intro i hi
    obtain ⟨m, hm⟩ := ih (i + 1) (by omega)
    refine ⟨12 + 13, fun u2 u3 u4 u6 u11 u12 u13 u14 u15 u16 u17 u18 u19 u20 u23 u24 u25 u26 u27 u28 u29 u30 u31 u32 u33 u34 u35 u36 u37 u38 u39 u40 u41 u42 u43 u44 w hF => ?_⟩
    have T := termsM X.toBase
    have hlt : (i : Int) < (X.n : Int) := by omega
    have hi64 : IntKind.i64.wrap ((i : Int) + 1) = ((i + 1 : Nat) : Int) := by rw [IntKind.wrap_i64]; omega
    simp only [L29, R10, body29, Try.f29, Option.getD_some]
    refine Goes.step rfl (fun _ h₁ => ?_)
    replace hF := S.rely hF h₁
    clear h₁
    rw [stepG_seq]
    simp only [goes_go]
    refine ⟨T.idle _, ?_⟩
    refine Goes.step rfl (fun _ h₁ => ?_)
    replace hF := S.rely hF h₁
    clear h₁
    rw [stepG_region]
    simp only [goes_go, List.size_toArray, List.length_cons, List.length_nil, Nat.zero_add, List.range, List.range.loop]
    refine ⟨T.idle _, ?_⟩
    refine Goes.step rfl (fun _ h₁ => ?_)
    replace hF := S.rely hF h₁
    clear h₁
    refine goes_oper_k rfl rfl (by k_ne) (fun κ hκ => ?_)
    go_simp
    refine hκ _ _ ⟨idle_of T (fun e he => ?_), ?_⟩
    · have hm := mem_listed he
      simp [go_sem, *] at hm
    clear hκ κ
    refine Goes.step rfl (fun _ h₁ => ?_)
    replace hF := S.rely hF h₁
    clear h₁
    rw [stepG_region_end]
    simp only [goes_go]
    refine ⟨T.idle _, ?_⟩
    refine Goes.step rfl (fun _ h₁ => ?_)
    replace hF := S.rely hF h₁
    clear h₁
    rw [stepG_seq]
    simp only [goes_go]
    refine ⟨T.idle _, ?_⟩
    refine Goes.step rfl (fun _ h₁ => ?_)
    replace hF := S.rely hF h₁
    clear h₁
    rw [stepG_cond (t := true) rfl]
    simp only [goes_go, ↓reduceIte]
    refine ⟨T.idle _, ?_⟩
    refine Goes.step rfl (fun _ h₁ => ?_)
    replace hF := S.rely hF h₁
    clear h₁
    rw [stepG_skip]
    simp only [goes_go]
    refine ⟨T.idle _, ?_⟩
    refine Goes.step rfl (fun _ h₁ => ?_)
    replace hF := S.rely hF h₁
    clear h₁
    rw [stepG_seq]
    simp only [goes_go]
    refine ⟨T.idle _, ?_⟩
    refine Goes.step rfl (fun _ h₁ => ?_)
    replace hF := S.rely hF h₁
    clear h₁
    rw [stepG_block]
    simp only [goes_go]
    refine ⟨T.idle _, ?_⟩
    refine Goes.step rfl (fun _ h₁ => ?_)
    replace hF := S.rely hF h₁
    clear h₁
    rw [stepG_seq]
    simp only [goes_go]
    refine ⟨T.idle _, ?_⟩
    refine Goes.step rfl (fun _ h₁ => ?_)
    replace hF := S.rely hF h₁
    clear h₁
    rw [stepG_region]
    simp only [goes_go, List.size_toArray, List.length_cons, List.length_nil, Nat.zero_add, List.range, List.range.loop]
    refine ⟨T.idle _, ?_⟩
    refine Goes.step rfl (fun _ h₁ => ?_)
    replace hF := S.rely hF h₁
    clear h₁
    refine goes_call rfl rfl (by k_ne) rfl wgLib.f_add (nm_add link) rfl ⟨T.idle _, ?_⟩
    walk_nrmf addFn
    refine goes_weak (fun _ _ k => k) (fun _ _ es (d : DC0 _ _ es) => ⟨d.1, by rw [d.2]; simp⟩) ?_
    simp only [SpStop]
    rw [S.P, S.ty]
    refine Goes.mono (n := 12) (addPosR (mT := 3) (Fin := AtGo X r) wgLib S.keeps (fun w hM hl => ?_) _ ⟨hF.m, S.ty ▸ hF.live⟩) (by omega)
    clear hF
    have hF : Seen X.toBase vP vS vF vI isV J w := hM.full (S.ty ▸ hl)
    clear hM hl
    have T := termsC X.toBase
    walk_nrm
    refine Goes.step rfl (fun _ h₁ => ?_)
    replace hF := S.rely hF h₁
    clear h₁
    rw [stepG_region_end]
    simp only [goes_go]
    refine ⟨T.idle _, ?_⟩
    refine Goes.step rfl (fun _ h₁ => ?_)
    replace hF := S.rely hF h₁
    clear h₁
    rw [stepG_region]
    simp only [goes_go, List.size_toArray, List.length_cons, List.length_nil, Nat.reduceAdd, Nat.zero_add, List.range, List.range.loop]
    refine ⟨T.idle _, ?_⟩
    refine Goes.step rfl (fun _ h₁ => ?_)
    replace hF := S.rely hF h₁
    clear h₁
    refine goes_oper_k rfl rfl (by k_ne) (fun κ hκ => ?_)
    go_simp
    refine hκ _ _ ⟨idle_of T (fun e he => ?_), ?_⟩
    · have hm := mem_listed he
      simp [go_sem, Instr.makeFunc] at hm
    clear hκ κ
    refine Goes.stop fun w₁ h₁ => ?_
    replace hF := S.rely hF h₁
    clear h₁
    refine atGo_mk (m := m + 7) S.P rfl (Eq.trans (stepG_spawn (d := call40 X.toBase vP vS vF vI) (w' := w₁) rfl rfl (by k_ne) ?_ rfl) (congrArg (fun es => GStep.spawn _ _ _ es) ?_)) rfl (Go.ConcN.goes_mono hSel (born_sel S hF)) ?_
    · refine eq_of_k fun κ hκ => ?_
      go_simp
      simpa [resolve, Deferred.ofValue, call40] using hκ
    · unfold listed
      refine Eq.trans (congrArg _ ?_) (seen_none _ _)
      unfold execOp
      simp [go_sem, resolve, Deferred.ofValue]
    · have T := termsM X.toBase
      walk_nrm
      refine Goes.step rfl (fun _ h₁ => ?_)
      replace hF := S.rely hF h₁
      clear h₁
      rw [stepG_region_end]
      simp only [goes_go]
      refine ⟨T.idle _, ?_⟩
      refine Goes.step rfl (fun _ h₁ => ?_)
      replace hF := S.rely hF h₁
      clear h₁
      rw [stepG_inBlock]
      simp only [goes_go]
      refine ⟨T.idle _, ?_⟩
      refine Goes.step rfl (fun _ h₁ => ?_)
      replace hF := S.rely hF h₁
      clear h₁
      rw [stepG_region]
      simp only [goes_go, List.size_toArray, List.length_cons, List.length_nil, Nat.reduceAdd, Nat.zero_add, List.range, List.range.loop]
      refine ⟨T.idle _, ?_⟩
      refine Goes.step rfl (fun _ h₁ => ?_)
      replace hF := S.rely hF h₁
      clear h₁
      refine goes_oper_k rfl rfl (by k_ne) (fun κ hκ => ?_)
      go_simp
      refine hκ _ _ ⟨idle_of T (fun e he => ?_), ?_⟩
      · have hm := mem_listed he
        simp [go_sem, *] at hm
      clear hκ κ
      refine Goes.step rfl (fun _ h₁ => ?_)
      replace hF := S.rely hF h₁
      clear h₁
      refine goes_oper_k rfl rfl (by k_ne) (fun κ hκ => ?_)
      go_simp
      refine hκ _ _ ⟨idle_of T (fun e he => ?_), ?_⟩
      · have hm := mem_listed he
        simp [go_sem, *] at hm
      clear hκ κ
      refine Goes.step rfl (fun _ h₁ => ?_)
      replace hF := S.rely hF h₁
      clear h₁
      rw [stepG_region_end]
      simp only [goes_go]
      refine ⟨T.idle _, ?_⟩
      refine Goes.step rfl (fun _ h₁ => ?_)
      replace hF := S.rely hF h₁
      clear h₁
      rw [stepG_inLoop]
      simp only [goes_go]
      refine ⟨T.idle _, ?_⟩
      exact Goes.mono (hm _ _ _ _ _ _ _ _ _ _ _ _ _ _ _ _ _ _ _ _ _ _ _ _ _ _ _ _ _ _ _ _ _ _ _ _ _ hF) (by omega)
end
end Go.Proofs.Ytbckmkppmdfnnaa.Crew
