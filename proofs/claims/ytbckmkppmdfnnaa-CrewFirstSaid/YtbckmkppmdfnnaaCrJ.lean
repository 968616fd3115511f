/- The starter beside goroutines that only leave: what it reaches, on whatever tape; a step of it; rows of steps. -/
import Derived.Test.YtbckmkppmdfnnaaCrT
namespace Go.Proofs.Ytbckmkppmdfnnaa.Crew
open Go.Conc Go.RowKit
open Go.ConcN (sumTo upd sumTo_upd upd_ne upd_same)

/-- The cells of blocks that nobody may touch plainly any more. -/
def shunZ (Z : Nat → Prop) : Loc → Prop := fun l => ∃ a, l = .cell a ∧ Z a.block
structure Frm (P : Program) (Z : Nat → Prop) (gs : Array Goroutine) (a : Goroutine) (t : Trace) : Prop where
  main : gs[0]? = some a
  lv : ∃ q, Leavers P t gs q
  calm : Calm (shunZ Z) t
  gsb : ∀ (i : Nat) (op : MemOp), t[i]? = some op → op.g < gs.size
/-- From whatever such company goroutine 0 comes to Stop, whatever the tape. -/
def BR (P : Program) (Stop : (Nat → Prop) → Goroutine → World → Prop) (Z : Nat → Prop) (a : Goroutine) (w : World) : Prop :=
  ∀ (gs : Array Goroutine) (sl : Option (Nat × Nat)) (t : Trace), Frm P Z gs a t →
    ∃ (N : Nat) (gs' : Array Goroutine) (a' : Goroutine) (w' : World) (sl' : Option (Nat × Nat)) (t' : Trace) (Z' : Nat → Prop),
      runNT P N (crowd gs w sl) t = (.next (crowd gs' w' sl'), t') ∧ Frm P Z' gs' a' t' ∧ Stop Z' a' w'
/-- What goroutine 0 may list. -/
def EvC (Z : Nat → Prop) (e : Event) : Prop :=
  (∀ x, (MemAct.ofEvent e).touch? = some x → shunZ Z x.loc → x.kind ≠ .plain) ∧ e.loc ≠ .mark .disable ∧ e.loc ≠ .mark .enable ∧ ∀ b, MemAct.ofEvent e ≠ .mark (.release b)

section
variable {S : Loc → Prop} {t : Trace} {fn : FuncId} {pos : String} {es : Array Event}
theorem calm_of_past {B : Nat} (h : Past S B t) (hn : ∀ i a, t.act? i ≠ some (.mark (.release a))) : Calm S t := ⟨h.clean, h.known, h.over, h.hears, hn⟩
theorem ofEvents_mem {g : Nat} {e : Event} (he : e ∈ es) : ({ g, fn, pos, act := .ofEvent e } : MemOp) ∈ MemOp.ofEvents g fn pos es := Go.mem_ofEvents he
theorem Calm.own {Z : Nat → Prop} (h : Calm (shunZ Z) t) (hes : ∀ e ∈ es, EvC Z e) : Calm (shunZ Z) (t ++ MemOp.ofEvents 0 fn pos es) := by
  obtain ⟨B, hB⟩ := low_some (t ++ MemOp.ofEvents 0 fn pos es)
  have hp : Past (shunZ Z) B t := ⟨h.clean, h.known, h.over, h.hears, fun op hop => hB op (Array.mem_append.2 (.inl hop))⟩
  refine calm_of_past (hp.own fun e he => ⟨(hes e he).1, (hes e he).2.1, (hes e he).2.2.1, hB _ (Array.mem_append.2 (.inr (ofEvents_mem he)))⟩) (norel_app h.norel fun op hop b => ?_)
  obtain ⟨e, he, rfl⟩ := Go.Conc.mem_ofEvents hop
  exact (hes e he).2.2.2 b
theorem Calm.mute {g : Nat} (h : Calm S t) (hg : g ≠ 0) (hm : ∀ e ∈ es, e.mute = true) : Calm S (t ++ MemOp.ofEvents g fn pos es) := by
  obtain ⟨B, hB⟩ := low_some t
  have hp : Past S B t := ⟨h.clean, h.known, h.over, h.hears, hB⟩
  refine calm_of_past (hp.mute hg hm) (norel_app h.norel fun op hop b hb => ?_)
  obtain ⟨e, he, rfl⟩ := Go.Conc.mem_ofEvents hop
  have := hm e he
  rcases e with ⟨l, wr, sy⟩
  cases l with
  | mark m => cases m <;> simp_all [Event.mute, MemAct.ofEvent]
  | _ => simp_all [Event.mute]
theorem gsb_ofEvents {n g : Nat} (h : ∀ (i : Nat) (op : MemOp), t[i]? = some op → op.g < n) (hg : g < n) : ∀ (i : Nat) (op : MemOp), (t ++ MemOp.ofEvents g fn pos es)[i]? = some op → op.g < n := by
  intro i op hi
  rcases getElem?_append_cases hi with ⟨_, hi'⟩ | ⟨_, hu⟩
  · exact h i op hi'
  · obtain ⟨e, _, rfl⟩ := Go.Conc.mem_ofEvents hu
    exact hg
end

theorem runNT_go {P : Program} : ∀ {N K : Nat} {m m' m'' : Machine} {t t' t'' : Trace}, runNT P N m t = (.next m', t') → runNT P K m' t' = (.next m'', t'') → runNT P (N + K) m t = (.next m'', t'') := by
  intro N
  induction N with
  | zero => intro K m m' m'' t t' t'' h hk; obtain ⟨rfl, rfl⟩ : m = m' ∧ t = t' := by simpa [runNT] using h
            simpa using hk
  | succ N ih =>
    intro K m m' m'' t t' t'' h hk
    rw [show N + 1 + K = (N + K) + 1 by omega]
    unfold runNT at h ⊢
    cases hs : stepT P m with
    | mk x ops =>
      rw [hs] at h
      cases x with
      | next m₁ => exact ih h hk
      | ended o w => simp at h

section
variable {P : Program} {Stop Stop' : (Nat → Prop) → Goroutine → World → Prop} {Z : Nat → Prop} {a : Goroutine} {w : World}
theorem BR.stop (h : Stop Z a w) : BR P Stop Z a w := fun gs sl t F => ⟨0, gs, a, w, sl, t, Z, rfl, F, h⟩
theorem BR.trans (h : BR P Stop Z a w) (h' : ∀ Z' a' w', Stop Z' a' w' → BR P Stop' Z' a' w') : BR P Stop' Z a w := by
  intro gs sl t F
  obtain ⟨N, gs1, a1, w1, sl1, t1, Z1, r1, F1, s1⟩ := h gs sl t F
  obtain ⟨N2, gs2, a2, w2, sl2, t2, Z2, r2, F2, s2⟩ := h' Z1 a1 w1 s1 gs1 sl1 t1 F1
  exact ⟨N + N2, gs2, a2, w2, sl2, t2, Z2, runNT_go r1 r2, F2, s2⟩
theorem BR.mono (h : BR P Stop Z a w) (h' : ∀ Z' a' w', Stop Z' a' w' → Stop' Z' a' w') : BR P Stop' Z a w := h.trans fun Z' a' w' s => .stop (h' Z' a' w' s)

/-- Whatever step goroutine 0 takes, the others leaving meanwhile. -/
theorem BR.adv (hrun : a.status = .running) (h : ∀ w₁, AtRel w w₁ → ∀ gs sl t, Frm P Z gs a t → ∃ ops gs' a' w' sl' Z', runT P (crowd gs w₁ sl) 0 = (.next (crowd gs' w' sl'), ops) ∧ Frm P Z' gs' a' (t ++ ops) ∧ BR P Stop Z' a' w') :
    BR P Stop Z a w := by
  have key : ∀ (M : Nat) (gs : Array Goroutine) (w₁ : World) (sl : Option (Nat × Nat)) (t : Trace) (q : Nat → Nat), AtRel w w₁ → sumTo gs.size q ≤ M → gs[0]? = some a → Leavers P t gs q → Calm (shunZ Z) t → (∀ (i : Nat) (op : MemOp), t[i]? = some op → op.g < gs.size) →
      ∃ (N : Nat) (gs' : Array Goroutine) (a' : Goroutine) (w' : World) (sl' : Option (Nat × Nat)) (t' : Trace) (Z' : Nat → Prop),
        runNT P N (crowd gs w₁ sl) t = (.next (crowd gs' w' sl'), t') ∧ Frm P Z' gs' a' t' ∧ Stop Z' a' w' := by
    intro M
    induction M with
    | zero => ?_
    | succ M ih => ?_
    all_goals
      intro gs w₁ sl t q hw hM h0 hL hP hb
      have haw : ∀ g ∈ gs, awake g := by
        intro g hg
        obtain ⟨i, hi, rfl⟩ := Array.mem_iff_getElem.1 hg
        rcases Nat.eq_zero_or_pos i with rfl | hpos
        · have : gs[0] = a := by simpa [Array.getElem?_eq_getElem hi] using h0
          rw [this]; exact awake_of (.inl hrun)
        · exact awake_of ((hL.old i _ hpos (Array.getElem?_eq_getElem hi)).status.elim .inl fun x => .inr (.inr x))
      obtain ⟨i, g, d, sl', hi, hg, hst⟩ := crowd_pick (P := P) (w := w₁) (sl := sl) haw ⟨0, a, h0, hrun⟩
      rcases Nat.eq_zero_or_pos i with rfl | hpos
      · obtain rfl : g = a := by rw [h0] at hi; exact (Option.some.inj hi).symm
        obtain ⟨ops, gs1, a1, w1, sl1, Z1, r1, F1, b1⟩ := h (w₁.at d) (atRel_trans _ _ _ hw ⟨d, rfl⟩) gs sl' t ⟨h0, ⟨q, hL⟩, hP, hb⟩
        obtain ⟨N, gs2, a2, w2, sl2, t2, Z2, r2, F2, s2⟩ := b1 gs1 sl1 _ F1
        exact ⟨N + 1, gs2, a2, w2, sl2, t2, Z2, by simp only [runNT, hst, r1]; exact r2, F2, s2⟩
      · have hq := hL.old i g hpos hi
        have hi0 : (i == 0) = false := by simp; omega
        have hlt : i < gs.size := (Array.getElem?_eq_some_iff.1 hi).1
        cases hqi : q i with
        | zero => rw [hqi] at hq; rw [hq.1] at hg; cases hg
        | succ k =>
          rw [hqi] at hq
          rcases hq with ⟨hf, _⟩ | ⟨_, g', es, hm, hstp, hq'⟩
          · rw [hf] at hg; cases hg
          have hrunT := runT_crowd_go (P := P) (sl := sl') (i := i) hi (by rw [hi0]; exact hstp (w₁.at d))
          have hsz : ((gs.map (woken P g g' (w₁.at d))).setIfInBounds i g').size = gs.size := by simp
          have hsum : sumTo gs.size (upd q i k) + (k + 1) = sumTo gs.size q + k := by
            have := sumTo_upd q k id hlt
            simpa [hqi] using this
          have hL' : Leavers P (t ++ MemOp.ofEvents i g.frame.fn g.frame.place es) ((gs.map (woken P g g' (w₁.at d))).setIfInBounds i g') (upd q i k) :=
            ⟨fun j x hj hx => by
              by_cases hji : i = j
              · subst hji
                rw [Array.getElem?_setIfInBounds_self_of_lt (by simpa using hlt)] at hx
                obtain rfl := Option.some.inj hx
                rw [upd_same, Deaf_own]
                exact hq'
              · rw [Array.getElem?_setIfInBounds_ne hji, Array.getElem?_map] at hx
                obtain ⟨y, hy, rfl⟩ := Option.map_eq_some_iff.1 hx
                have hqj := hL.old j y hj hy
                rw [woken_quitsD hqj, upd_ne q k (Ne.symm hji), Deaf_other t hji _ (fun op hop => by obtain ⟨e, _, rfl⟩ := Go.Conc.mem_ofEvents hop; rfl)]
                exact hqj, fun j hj => by
              rw [Deaf_other t (g' := i) (by simp at hj; omega) _ (fun op hop => by obtain ⟨e, _, rfl⟩ := Go.Conc.mem_ofEvents hop; rfl)]
              exact hL.above j (by simpa using hj)⟩
          have h0' : ((gs.map (woken P g g' (w₁.at d))).setIfInBounds i g')[0]? = some a := by
            have hne : i ≠ 0 := by omega
            rw [Array.getElem?_setIfInBounds_ne hne, Array.getElem?_map, h0]
            simp [woken_run hrun]
          first
            | exact absurd hM (by omega)
            | obtain ⟨N, gs2, a2, w2, sl2, t2, Z2, r2, F2, s2⟩ := ih _ (w₁.at d) sl' _ (upd q i k) (atRel_trans _ _ _ hw ⟨d, rfl⟩) (by rw [hsz]; omega) h0' hL' (hP.mute (by omega) hm) (by rw [hsz]; exact gsb_ofEvents hb hlt)
              exact ⟨N + 1, gs2, a2, w2, sl2, t2, Z2, by simp only [runNT, hst, hrunT]; exact r2, F2, s2⟩
  intro gs sl t F
  obtain ⟨q, hL⟩ := F.lv
  exact key _ gs w sl t q (atRel_refl w) (Nat.le_refl _) F.main hL F.calm F.gsb

/-- A step of goroutine 0's own. -/
theorem BR.step (hrun : a.status = .running) (h : ∀ w₁, AtRel w w₁ → (stepG P true a w₁).goes fun a' w' es => (∀ e ∈ es, EvC Z e) ∧ BR P Stop Z a' w') : BR P Stop Z a w := by
  refine BR.adv hrun fun w₁ hw gs sl t F => ?_
  have hs := h w₁ hw
  cases hgo : stepG P true a w₁ with
  | go a' w' es =>
    rw [hgo, goes_go] at hs
    obtain ⟨hd, hG⟩ := hs
    obtain ⟨q, hL⟩ := F.lv
    have hrunT := runT_crowd_go (P := P) (sl := sl) (i := 0) F.main (show stepG P (0 == 0) a w₁ = _ from hgo)
    have hlt : 0 < gs.size := (Array.getElem?_eq_some_iff.1 F.main).1
    refine ⟨_, _, a', w', _, Z, hrunT, ⟨by simp [hlt], ⟨q, fun j x hj hx => ?_, fun j hj => ?_⟩, F.calm.own hd, by
      simp only [Array.size_setIfInBounds, Array.size_map]; exact gsb_ofEvents F.gsb hlt⟩, hG⟩
    · have hne : 0 ≠ j := by omega
      rw [Array.getElem?_setIfInBounds_ne hne, Array.getElem?_map] at hx
      obtain ⟨y, hy, rfl⟩ := Option.map_eq_some_iff.1 hx
      have hq := hL.old j y hj hy
      rw [woken_quitsD hq, Deaf_other t (by omega) _ (fun op hop => by obtain ⟨e, _, rfl⟩ := Go.Conc.mem_ofEvents hop; rfl)]
      exact hq
    · rw [Deaf_other t (g' := 0) (by simp at hj; omega) _ (fun op hop => by obtain ⟨e, _, rfl⟩ := Go.Conc.mem_ofEvents hop; rfl)]
      exact hL.above j (by simpa using hj)
  | _ => rw [hgo] at hs; exact hs.elim
end
end Go.Proofs.Ytbckmkppmdfnnaa.Crew
