/- crew: a crew beside goroutines that only leave: from the loop that starts the workers to Wait's return, as what goroutine 0 reaches. -/
import Derived.Test.YtbckmkppmdfnnaaCrH
import Derived.Test.YtbckmkppmdfnnaaCrJ
namespace Go.Proofs.Ytbckmkppmdfnnaa.Crew
open Go.Conc Go.RowKit Go.Conc.Lib Go.ConcR.Gen
open Go.ConcN (WgLive)
open Go.ConcR (KK wgBlock WgAt stA smA rd wr mk Payload DC0)

/-- All that goroutine 0 lists is let by. -/
def DZ (Z : Nat → Prop) (_ _ : World) (es : Array Event) : Prop := ∀ e ∈ es, EvC Z e
theorem termsZ (Z : Nat → Prop) : Terms AtRel (DZ Z) := ⟨atRel_trans, fun _ => by simp [DZ]⟩
section
variable {P : Program} {Stop : (Nat → Prop) → Goroutine → World → Prop} {Z : Nat → Prop}
theorem BR.rely {a : Goroutine} {w w₁ : World} (h : ∀ w₁, AtRel w w₁ → BR P Stop Z a w₁) (k : AtRel w w₁) : ∀ w₂, AtRel w₁ w₂ → BR P Stop Z a w₂ := fun w₂ k' => h w₂ (atRel_trans _ _ _ k k')
/-- A walk in company of nobody who turns anything. -/
theorem BR.of_goes : ∀ {n : Nat} {a : Goroutine} {w : World}, Goes P true AtRel (DZ Z) (fun g w => BR P Stop Z g w) n a w → BR P Stop Z a w := by
  intro n
  induction n with
  | zero => intro a w h; exact h w (atRel_refl w)
  | succ n ih =>
    intro a w h
    rcases h with h | ⟨hs, h⟩
    · exact h w (atRel_refl w)
    · refine BR.step hs fun w₁ k => ?_
      have := h w₁ k
      revert this
      cases stepG P true a w₁ with
      | go g' w' es => exact fun ⟨d, x⟩ => ⟨d, ih x⟩
      | _ => exact id
theorem goes_at {main : Bool} {D : World → World → Array Event → Prop} {S : Goroutine → World → Prop} (hD : ∀ w w' es, D w w' es → w' = w) :
    ∀ {n : Nat} {a : Goroutine} {w : World}, Goes P main AtRel D S n a w → Goes P main AtRel D (fun g w₂ => S g w₂ ∧ AtRel w w₂) n a w := by
  have key : ∀ (w₀ : World) {n : Nat} {a : Goroutine} {w : World}, AtRel w₀ w → Goes P main AtRel D S n a w → Goes P main AtRel D (fun g w₂ => S g w₂ ∧ AtRel w₀ w₂) n a w := by
    intro w₀ n
    induction n with
    | zero => intro a w hw h; exact fun w₁ k => ⟨h w₁ k, atRel_trans _ _ _ hw k⟩
    | succ n ih =>
      intro a w hw h
      rcases h with h | ⟨hs, h⟩
      · exact .inl fun w₁ k => ⟨h w₁ k, atRel_trans _ _ _ hw k⟩
      · refine .inr ⟨hs, fun w₁ k => ?_⟩
        have := h w₁ k
        revert this
        cases stepG P main a w₁ with
        | go g' w' es => exact fun ⟨d, x⟩ => ⟨d, ih (by rw [hD _ _ _ d]; exact atRel_trans _ _ _ hw k) x⟩
        | _ => exact id
  exact fun {_ _ _} h => key _ (atRel_refl _) h
end

/-- What stands when Wait has returned. -/
structure Had (B : Base) (w : World) (l next : Nat) (fb : List Nat) : Prop where
  wg : WgAt B.ty B.Wg w 0 0
  cf : ∃ s r, w.heap[B.Cf]? = some (.chan B.n (fb.map ival).toArray false s r false)
  q : B.Q w
  base : K B B.w0 w
  nextM : next ≤ B.M
  least : (l = B.M ∧ next = B.M) ∨ (l < next ∧ B.b l = true)
  fin : ∀ p, p < next → B.Done p w ∧ (B.b p = true → p ∈ fb ∨ p = l)
  fbok : ∀ p ∈ fb, p < next ∧ B.b p = true

section
variable {B : Base} {vP vS vF vI : Nat} {isV : Value} {J : World → Prop} {cs : List Frame} {Z : Nat → Prop}
theorem crew_br (F : Field B) (S : Seat B vP vS vF vI isV J) (hZ : B.L.Shun = shunZ Z) (hwg : WgAt B.ty B.Wg B.w0 0 0) (hcp : ∃ s r, B.w0.heap[B.Cp]? = some (.chan 0 #[] false s r false)) (hcs : ∃ s r, B.w0.heap[B.Cs]? = some (.chan 0 #[] false s r false))
    (hcf : ∃ s r, B.w0.heap[B.Cf]? = some (.chan B.n #[] false s r false)) (hq : B.Q B.w0) (hF : Seen B vP vS vF vI isV J B.w0) (u2 u3 u4 u6 u11 u12 u13 u14 u15 u16 u17 u18 u19 u20 u23 u24 u25 u26 u27 u28 u29 u30 u31 u32 u33 u34 u35 u36 u37 u38 u39 u40 u41 u42 u43 u44 : Value)
    {Stop : (Nat → Prop) → Goroutine → World → Prop}
    (hS : ∀ l next fb g w, FinW B vP vS vF vI isV J cs l g w → Had B w l next fb → BR Try.prog Stop (fun b => Z b ∨ b = B.Wg) g w) :
    BR Try.prog Stop Z (G ((base 29).at ⟨#[.int .i64 (B.M : Nat), .int .i64 (B.n : Nat), u2, u3, u4, .pointer (some ⟨vI, 0, none⟩), u6, .pointer (some ⟨vP, 0, none⟩), .pointer (some ⟨vS, 0, none⟩), .pointer (some ⟨vF, 0, none⟩), .pointer (some ⟨B.Wg, 0, none⟩), u11, u12, u13, u14, u15, u16, u17, u18, u19, u20, .int .i64 (B.n : Nat), .int .i64 ((0 : Nat) : Int), u23, u24, u25, u26, u27, u28, u29, u30, u31, u32, u33, u34, u35, u36, u37, u38, u39, u40, u41, u42, u43, u44], []⟩ [.code L29, .inLoop L29, .inBlock 0, .code R10]) cs) B.w0 := by
  intro gs sl t Fr
  obtain ⟨q, hL⟩ := Fr.lv
  obtain ⟨m, hm⟩ := cfg_spawns (cs := cs) F S B.n 0 (by omega)
  have hx := cfg_laws (cs := cs) F S
  have hsp : Spawns (cfg B vP vS vF vI isV J cs) B.n _ B.w0 := spawns_iff.2 ⟨m, by
    have := hm u2 u3 u4 u6 u11 u12 u13 u14 u15 u16 u17 u18 u19 u20 u23 u24 u25 u26 u27 u28 u29 u30 u31 u32 u33 u34 u35 u36 u37 u38 u39 u40 u41 u42 u43 u44 B.w0 hF
    rw [← S.P] at this
    exact this⟩
  have hL' : Leavers B.P t gs q := by rw [S.P]; exact hL
  obtain ⟨N, gs', w, sl', t', l, next, fb, hrun, got⟩ := crew_phase (X := cfg B vP vS vF vI isV J cs) hx Fr.main hL' (by show Calm B.L.Shun t; rw [hZ]; exact Fr.calm) Fr.gsb hwg hcp hcs hcf hq hsp (sl := sl)
  obtain ⟨a', k, ha', hk⟩ := got.main
  have hrun' : runNT Try.prog N (crowd gs B.w0 sl) t = (.next (crowd gs' w sl'), t') := by rw [← S.P]; exact hrun
  have hk1 : Goes Try.prog true (K B) DC0 (FinW B vP vS vF vI isV J cs l) k a' w := by rw [← S.P]; exact hk
  have hk2 : Goes Try.prog true AtRel DC0 (FinW B vP vS vF vI isV J cs l) k a' w := goes_weak (fun a b h => by obtain ⟨d, rfl⟩ := h; exact K.at a d hx) (fun _ _ _ d => d) hk1
  have hsh : (fun l => B.L.Shun l ∨ B.L.Sh l) = shunZ (fun b => Z b ∨ b = B.Wg) := by
    funext x
    rw [hZ]
    refine propext ⟨fun h => ?_, fun h => ?_⟩
    · rcases h with ⟨y, rfl, hy⟩ | h
      · exact ⟨y, rfl, .inl hy⟩
      · obtain ⟨y, rfl, hy⟩ := (F.shWg x).1 h
        exact ⟨y, rfl, .inr hy⟩
    · obtain ⟨y, rfl, hy | hy⟩ := h
      · exact .inl ⟨y, rfl, hy⟩
      · exact .inr ((F.shWg _).2 ⟨y, rfl, hy⟩)
  have hbr : BR Try.prog Stop (fun b => Z b ∨ b = B.Wg) a' w := by
    refine BR.of_goes (n := k) (goes_weak (fun _ _ h => h) (fun _ _ es (d : DC0 _ _ es) => by rw [d.2]; simp [DZ]) (Go.ConcN.goes_mono (fun g w₂ h => ?_) (goes_at (D := DC0) (fun _ _ _ d => d.1) hk2)))
    obtain ⟨h1, d, rfl⟩ := h
    exact hS l next fb g _ h1 ⟨got.wg, got.cf, F.qOf w _ rfl got.q, got.base.trans (K.at w d hx), got.nextM, got.least, fun p hp => ⟨F.doneOf p w _ rfl (got.fin p hp).1, (got.fin p hp).2⟩, got.fbok⟩
  obtain ⟨N2, gs2, a2, w2, sl2, t2, Z2, r2, F2, s2⟩ := hbr gs' sl' t' ⟨ha', got.lv.imp fun q h => by rw [← S.P]; exact h, by rw [← hsh]; exact got.calm, fun i op hi => by rw [got.size]; exact got.gsb i op hi⟩
  exact ⟨N + N2, gs2, a2, w2, sl2, t2, Z2, runNT_go hrun' r2, F2, s2⟩
end
end Go.Proofs.Ytbckmkppmdfnnaa.Crew
