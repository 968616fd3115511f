/- crew: a crew at work: every step of a worker. -/
import Derived.Test.YtbckmkppmdfnnaaCrMb
namespace Go.Proofs.Ytbckmkppmdfnnaa.Crew
open Go.Conc Go.RowKit Go.Conc.Lib
open Go.ConcN (WgLive WD CTag sumTo upd upd_ne upd_same Vc cnt RelBy RelBy.appOther OpenSt isW3 pend others_uncounted Vc_upd bk_cell RelBy.new RelBy.book)
open Go.ConcR (KK wgBlock WgAt stA smA rd wr mk Payload DC0 Bk bk_of_mute ofEvent_loc_mark ofEvent_cell ofEvent_mk loc_of_ofEvent)

section
variable {X : Cfg} {e j : Nat} {D : Nat → WDat} {q : Nat → Nat} {tag : MTag} {f0 d0 next : Nat} {fb : List Nat} {asg : Nat → Option Nat} {st sm : Int} {gs : Array Goroutine} {w w' : World} {t : Trace} {sl : Option (Nat × Nat)}

theorem okW_bk (hx : Laws X) {g : Nat} {fn : FuncId} {pos : String} {es : Array Event} (h : ∀ ev ∈ es, Bk X.Wg ev) : ∀ op ∈ MemOp.ofEvents g fn pos es, OkW X.L asg g op := by
  intro op hop
  rw [ofEvents_eq] at hop
  obtain ⟨ev, hev, rfl⟩ := Array.mem_map.1 hop
  rcases h ev hev with h1 | h1 | ⟨a, wr, rfl, ha⟩
  · exact ⟨rfl, fun x hxx => (by simp only [ofEvent_loc_mark h1] at hxx; cases hxx), fun a hm => (by simp only [ofEvent_loc_mark h1] at hm; cases hm)⟩
  · exact ⟨rfl, fun x hxx => (by simp only [ofEvent_loc_mark h1] at hxx; cases hxx), fun a hm => (by simp only [ofEvent_loc_mark h1] at hm; cases hm)⟩
  · refine ⟨rfl, fun x hxx => ?_, fun b hm => by simp only [ofEvent_cell] at hm; cases hm⟩
    simp only [ofEvent_cell, MemAct.touch?, Option.some.injEq] at hxx
    subst hxx
    exact .inl ⟨(hx.shWg _).2 ⟨a, rfl, ha⟩, by simp, by simp⟩
theorem okW_mk {g : Nat} {fn : FuncId} {pos : String} {m : Mark} (h1 : (MemAct.mark m).touch? = none) (h2 : ∀ a, m ≠ .release a) : ∀ op ∈ MemOp.ofEvents g fn pos #[mk m], OkW X.L asg g op := by
  intro op hop
  rw [ofEvents_eq] at hop
  obtain ⟨ev, hev, rfl⟩ := Array.mem_map.1 hop
  simp only [List.mem_toArray, List.mem_singleton] at hev
  subst hev
  exact ⟨rfl, fun x hxx => (by simp only [ofEvent_mk, h1] at hxx; cases hxx), fun a hm => (by simp only [ofEvent_mk] at hm; cases hm; exact h2 a rfl)⟩
theorem okW_ev {g : Nat} {fn : FuncId} {pos : String} {es : Array Event} {o : Option Nat} (ho : ∀ p, o = some p → asg p = some g) (h : ∀ ev ∈ es, EvW X o ev) : ∀ op ∈ MemOp.ofEvents g fn pos es, OkW X.L asg g op := by
  intro op hop
  rw [ofEvents_eq] at hop
  obtain ⟨ev, hev, rfl⟩ := Array.mem_map.1 hop
  obtain ⟨a, wr, rfl, hcase⟩ := h ev hev
  refine ⟨rfl, fun x hxx => ?_, fun b hm => by simp only [ofEvent_cell] at hm; cases hm⟩
  simp only [ofEvent_cell, MemAct.touch?, Option.some.injEq] at hxx
  subst hxx
  refine .inr ⟨?_, by simp⟩
  rcases hcase with ⟨p, hp, hown⟩ | ⟨hr, hw⟩
  · exact .inl ⟨p, ho p hp, hown⟩
  · exact .inr ⟨hr, hw⟩
theorem deaf_ev {es : Array Event} {o : Option Nat} (h : ∀ ev ∈ es, EvW X o ev) (d : Nat) : deafBehind d es = d :=
  deafBehind_still (fun ev hev => by obtain ⟨a, wr, rfl, _⟩ := h ev hev; simp) d
theorem mode_same {i : Nat} {x : WDat} {c : CTag} (hm : Go.ConcN.Mode j (wdD D) c st sm) (hs : x.tag.stage = (D i).tag.stage) : Go.ConcN.Mode j (wdD (upd D i x)) c st sm :=
  hm.congr fun a _ => by
    by_cases e1 : a = i
    · subst e1; simp only [wdD, upd_same, WDat.wd, hs]
    · simp only [wdD, upd_ne D x e1]
theorem mode_re {tag' : MTag} {D' : Nat → WD} (hm : Go.ConcN.Mode j D' tag.c st sm) (ht : tag' = tag ∨ ∃ l, tag = .blk l ∧ tag' = .w3 l) : Go.ConcN.Mode j D' tag'.c st sm :=
  Go.ConcN.Mode.retag hm (by
    rcases ht with rfl | ⟨l, rfl, rfl⟩
    · exact .inl rfl
    · exact .inr ⟨rfl, rfl⟩)
theorem k_aside (hx : Laws X) (h : Aside X.Wg w w') {st' sm' : Int} (hw : WgAt X.ty X.Wg w' st' sm') : K X w w' := .turn hx h.tape h.os h.output h.size (.inl rfl) h.block fun _ => ⟨_, _, hw⟩

set_option maxHeartbeats 3200000 in
theorem St.stepWorker (hx : Laws X) (h : St X e j D q tag f0 d0 next fb asg st sm gs w t) {i : Nat} (hi : i < j) {g : Goroutine} (hg : gs[e + i]? = some g) (hrun : g.status = .running) : Steps1 X e (mu X e j D q tag f0 next) gs w sl t (e + i) := by
  obtain ⟨g₁, hg₁, hs⟩ := h.wk i hi
  obtain rfl : g = g₁ := by rw [hg] at hg₁; exact Option.some.inj hg₁
  have hmode := h.mode
  have hpos := h.pos
  have hnj : j + tag.left = X.n := h.jn
  have hfew := hx.few
  have hdk := h.deafW i hi
  generalize hst : (D i).tag = tg at hs
  generalize hfu : (D i).fuel = m at hs
  generalize hde : (D i).deaf = dd at hs
  rw [hde] at hdk
  have hpend : pend tag.c ≤ tag.left := by cases tag <;> simp [MTag.c, MTag.left, pend]
  have hVj : Vc j (wdD D) ≤ j := Go.ConcN.Vc_le j (wdD D)
  -- a step of the library's bookkeeping: at most the group's block turns
  have bookG : ∀ {s s' m' dd' : Nat} {g' : Goroutine} {w' : World} {es : Array Event} {st' sm' : Int}, tg = .lib s → stepG X.P false g w = .go g' w' es → Aside X.Wg w w' → WgAt X.ty X.Wg w' st' sm' → (∀ ev ∈ es, Bk X.Wg ev) →
      (∀ jx ev, es[jx]? = some ev → (MemAct.ofEvent ev).touch? = none ∨ 0 < deafBehind dd (es.extract 0 jx)) → WS X (.lib s') m' dd' g' w' → deafBehind dd es = dd' → s ≤ 6 →
      (∀ tag', (tag' = tag ∨ ∃ l, tag = .blk l ∧ tag' = .w3 l) → (mayWake X.P g = true → g'.status = .running → ∀ l, tag' ≠ .blk l) → Go.ConcN.Mode j (wdD (upd D i ⟨.lib s', m', dd'⟩)) tag'.c st' sm') → ((s' < s ∧ cnt ⟨s', m', dd'⟩ ≤ cnt (D i).wd) ∨ (s' = s ∧ m' < m)) →
      Steps1 X e (mu X e j D q tag f0 next) gs w sl t (e + i) := by
    intro s s' m' dd' g' w' es st' sm' htg hgo hAs hwg' hbk hd hs' hdd h6 hmode' hlt
    subst htg
    have h6' : (D i).tag.stage ≤ 6 := by rw [hst]; exact h6
    refine h.workGo hx hi (x := ⟨.lib s', m', dd'⟩) hg hgo (k_aside hx hAs hwg') hs' (okW_bk hx hbk) (by rw [hde]; exact hdd) (fun _ => ?_) hwg' hmode' (hAs.block _ hx.d1) (hAs.block _ hx.d2) (hAs.block _ hx.d3) (.inr ⟨s, s', hst, rfl⟩) (by rw [hst]; simp) (fun p _ hp => hx.doneOf p _ _ (hAs.block _ hx.m1) hp) ?_
    · obtain ⟨r, hr⟩ := h.rel i hi h6'
      exact ⟨r, hr.book hdk _ _ hbk hd⟩
    · rcases hlt with ⟨h1, h2⟩ | ⟨h1, h2⟩
      · exact .inl ⟨by rw [hst]; exact h1, h2⟩
      · exact .inr ⟨by rw [hst]; exact h1, by rw [hst]; exact h1, by rw [hfu]; exact h2⟩
  have book : ∀ {s s' m' dd' : Nat} {g' : Goroutine} {w' : World} {es : Array Event} {st' sm' : Int}, tg = .lib s → stepG X.P false g w = .go g' w' es → Aside X.Wg w w' → WgAt X.ty X.Wg w' st' sm' → (∀ ev ∈ es, Bk X.Wg ev) →
      (∀ jx ev, es[jx]? = some ev → (MemAct.ofEvent ev).touch? = none ∨ 0 < deafBehind dd (es.extract 0 jx)) → WS X (.lib s') m' dd' g' w' → deafBehind dd es = dd' → s ≤ 6 →
      Go.ConcN.Mode j (wdD (upd D i ⟨.lib s', m', dd'⟩)) tag.c st' sm' → ((s' < s ∧ cnt ⟨s', m', dd'⟩ ≤ cnt (D i).wd) ∨ (s' = s ∧ m' < m)) →
      Steps1 X e (mu X e j D q tag f0 next) gs w sl t (e + i) :=
    fun htg hgo hAs hwg' hbk hd hs' hdd h6 hm' hlt => bookG htg hgo hAs hwg' hbk hd hs' hdd h6 (fun _ ht _ => mode_re hm' ht) hlt
  have idle : ∀ {s m' : Nat} {g' : Goroutine}, tg = .lib s → stepG X.P false g w = .go g' w #[] → WS X (.lib s) m' dd g' w → m' < m → s ≤ 6 → Steps1 X e (mu X e j D q tag f0 next) gs w sl t (e + i) :=
    fun htg hgo hs' hm h6 => book htg hgo (.refl _ w) h.wg (by simp) (by simp) hs' rfl h6 (mode_same hmode (by rw [hst, htg])) (.inr ⟨rfl, hm⟩)
  have stageD : ∀ {s : Nat}, tg = .lib s → (wdD D i).stage = s := fun htg => by simp only [wdD, WDat.wd, hst, htg, WTag.stage]
  have modeU : ∀ {s' m' dd' : Nat} {c : CTag} {a b : Int}, Go.ConcN.Mode j (upd (wdD D) i ⟨s', m', dd'⟩) c a b → Go.ConcN.Mode j (wdD (upd D i ⟨.lib s', m', dd'⟩)) c a b := fun hm => by rw [wdD_upd]; exact hm
  have selTo : ∀ {g₀ : Goroutine}, X.Sel g₀ w → stepG X.P false g w = .comm g₀ (pc X) true .select w #[] → ((tg = .sel ∧ 1 ≤ m) ∨ ∃ p, tg = .at p ∧ X.b p = false ∧ X.Done p w) → dd = 0 → Steps1 X e (mu X e j D q tag f0 next) gs w sl t (e + i) :=
    fun h1 h2 h3 h4 => h.selStep hx hi hg h1 h2 (by rw [hst, hfu]; exact h3) (by rw [hde]; exact h4)
  cases hs with
  | sel hgo =>
    rcases Goes.cases hgo with hstop | ⟨m', rfl, hstep⟩
    · have hsel := hstop w (.refl w)
      exact selTo hsel (hx.selStep _ _ hsel).2.2 (.inl ⟨rfl, by omega⟩) rfl
    · obtain ⟨g', w', es, hgo, ⟨rfl, hev⟩, hg'⟩ := hstep w (.refl w)
      exact h.workGo hx hi (x := ⟨.sel, m' + 1, 0⟩) hg hgo (.refl _) (.sel hg') (okW_ev (o := none) (fun _ e1 => by cases e1) hev) (by rw [hde]; exact deaf_ev hev 0) (fun hh => by simp [WTag.stage] at hh) h.wg (fun _ ht _ => mode_re (mode_same hmode (by rw [hst])) ht) rfl rfl rfl (.inl hst.symm) (by rw [hst]; simp) (fun _ _ hp => hp)
        (.inr ⟨by rw [hst], by rw [hst], by rw [hfu]; dsimp only; omega⟩)
  | woke hsel =>
    rename_i g₀
    obtain ⟨h1, h2, h3⟩ := hx.selStep _ _ hsel
    refine selTo hsel ?_ (.inl ⟨rfl, Nat.le_refl _⟩) rfl
    rw [stepG_tries]
    have : ({ g₀ with status := .running } : Goroutine) = g₀ := by
      obtain ⟨a1, a2, a3, a4, a5⟩ := g₀
      simp only at h1
      rw [h1]
    rw [this]
    exact h3
  | prk _ => simp [parked] at hrun
  | «at» hgo =>
    rename_i p
    rcases Goes.cases hgo with hstop | ⟨m', rfl, hstep⟩
    · obtain ⟨hdp, ⟨hb, hsel⟩ | ⟨hb, hsnd⟩⟩ := hstop w (.refl w)
      · exact selTo hsel (hx.selStep _ _ hsel).2.2 (.inr ⟨p, rfl, hb, hdp⟩) rfl
      · exact h.sndStep hx hi hg hst hb hdp hsnd hde
    · obtain ⟨g', w', es, hgo, ⟨hput, hev⟩, hg'⟩ := hstep w (.refl w)
      exact h.workGo hx hi (x := ⟨.at p, m', 0⟩) hg hgo (hput.k hx) (.at hg') (okW_ev (o := some p) (fun p' e1 => by cases e1; exact (h.pl.tagAt i hi p hst).1) hev) (by rw [hde]; exact deaf_ev hev 0) (fun hh => by simp [WTag.stage] at hh) (h.wg.of_block (hput.block _ (Ne.symm hx.m1)))
        (fun _ ht _ => mode_re (mode_same hmode (by rw [hst])) ht) (hput.block _ (Ne.symm hx.m2)) (hput.block _ (Ne.symm hx.m3)) (hput.block _ (Ne.symm hx.m4)) (.inl hst.symm) (by rw [hst]; simp)
        (fun p' _ hdn => hput.done p' hdn) (.inr ⟨by rw [hst], by rw [hst], by rw [hfu]; dsimp only; omega⟩)
  | r0 hgo =>
    rcases Goes.cases hgo with hstop | ⟨m', rfl, hstep⟩
    · obtain ⟨_, g', hgo, m₂, hk⟩ := hstop w (.refl w)
      refine h.workGo hx hi (x := ⟨.lib 6, m₂, 0⟩) hg hgo (.refl _) (.k1 hk) (okW_mk rfl (by simp)) (by rw [hde]; rfl) (fun _ => ⟨t.size, RelBy.new hdk _ _⟩) h.wg (fun _ ht _ => mode_re (modeU (hmode.counted hi (by rw [stageD rfl]; omega) (.inl rfl) m₂ 0)) ht) rfl rfl rfl (.inr ⟨7, 6, hst, rfl⟩) (by rw [hst]; simp) (fun _ _ hp => hp)
        (.inl ⟨by rw [hst]; show 6 < 7; omega, by simp [cnt, WDat.wd, hst, WTag.stage]⟩)
    · obtain ⟨g', w', es, hgo, ⟨rfl, hev⟩, hg'⟩ := hstep w (.refl w)
      exact h.workGo hx hi (x := ⟨.lib 7, m', 0⟩) hg hgo (.refl _) (.r0 hg') (okW_ev (o := none) (fun _ e1 => by cases e1) hev) (by rw [hde]; exact deaf_ev hev 0) (fun hh => by simp [WTag.stage] at hh) h.wg (fun _ ht _ => mode_re (mode_same hmode (by rw [hst])) ht) rfl rfl rfl (.inl hst.symm) (by rw [hst]; simp) (fun _ _ hp => hp)
        (.inr ⟨by rw [hst], by rw [hst], by rw [hfu]; dsimp only; omega⟩)
  | k1 hgo =>
    rcases Goes.cases hgo with hstop | ⟨m', rfl, hstep⟩
    · obtain ⟨_, g', hgo, m₂, hk⟩ := hstop w id
      exact book rfl hgo (.refl _ w) h.wg (by intro ev he; simp at he; subst he; exact .inl rfl) (by intro jx ev he; exact .inl (by have := Array.mem_of_getElem? he; simp at this; subst this; rfl)) (.d1 hk) rfl (by omega)
        (modeU (hmode.counted hi (by rw [stageD rfl]; omega) (.inr rfl) m₂ 1)) (.inl ⟨by omega, by simp [cnt, WDat.wd, hst, WTag.stage]⟩)
    · obtain ⟨g', w', es, hgo, ⟨rfl, rfl⟩, hg'⟩ := hstep w id
      exact idle rfl hgo (.k1 hg') (by omega) (by omega)
  | d1 hgo =>
    rcases Goes.cases hgo with hstop | ⟨m', rfl, hstep⟩
    · obtain ⟨_, hall⟩ := hstop w id
      have hwg := h.wg
      have hc1 : cnt (wdD D i) = 1 := by simp [cnt, wdD, WDat.wd, hst, WTag.stage]
      have hV1 : 1 ≤ Vc j (wdD D) := by have := Go.ConcN.le_sumTo (f := fun x => cnt (wdD D x)) hi; simp only [Vc]; omega
      have bk2 : ∀ ev ∈ #[rd (stA X.Wg), wr (stA X.Wg)], Bk X.Wg ev := by intro ev he; simp at he; rcases he with rfl | rfl <;> exact bk_cell _ _ rfl
      have df2 : ∀ jx ev, (#[rd (stA X.Wg), wr (stA X.Wg)] : Array Event)[jx]? = some ev → (MemAct.ofEvent ev).touch? = none ∨ 0 < deafBehind 1 ((#[rd (stA X.Wg), wr (stA X.Wg)] : Array Event).extract 0 jx) := by
        intro jx ev he
        match jx, he with
        | 0, _ => exact .inr (by simp [deafBehind])
        | 1, _ => exact .inr (by simp [deafBehind, rd])
        | jx + 2, he => simp at he
      have hq0 : ∀ b, cnt (⟨1, b, 1⟩ : WD) = 0 := fun _ => rfl
      have opq : ∀ b, OpenSt j (wdD D) → OpenSt j (upd (wdD D) i ⟨1, b, 1⟩) := fun b ho a ha => by
        by_cases e1 : a = i
        · subst e1; rw [upd_same]; simp
        · rw [upd_ne _ _ e1]; exact ho a ha
      have hsD : (wdD D i).stage = 5 := stageD rfl
      have hlt1 : ∀ s' m' dd', s' < 5 → ((s' < 5 ∧ cnt ⟨s', m', dd'⟩ ≤ cnt (D i).wd) ∨ (s' = 5 ∧ m' < m)) := fun s' m' dd' h5 => .inl ⟨h5, by show (if 5 ≤ s' then 1 else 0) ≤ _; rw [if_neg (by omega)]; omega⟩
      have hasd : ∀ v : Int, Aside X.Wg w (w.setCell (stA X.Wg) (.int .u64 v)) := fun v => aside_setCell w (stA X.Wg) _
      generalize hcc : tag.c = c at hmode hpend
      cases hmode with
      | opn h1 h2 h3 =>
        obtain ⟨v, hv⟩ : ∃ v, Vc j (wdD D) + pend c = v + 1 := ⟨Vc j (wdD D) + pend c - 1, by omega⟩
        rw [hv] at hwg
        have hw1 : WgAt X.ty X.Wg w (((v : Nat) + 1) * KK + ((0 : Nat) : Int)) 0 := by simpa using hwg
        obtain ⟨g', hgo, _, hq⟩ := hall v 0 (by omega) (by omega) hw1
        obtain ⟨b, hq⟩ := hq (by omega)
        have hv' : Vc j (upd (wdD D) i ⟨1, b, 1⟩) + pend c = v := by have := Vc_upd (wdD D) (⟨1, b, 1⟩ : WD) hi; have := hq0 b; omega
        refine book rfl hgo (hasd _) (hwg.setSt _) bk2 df2 (.quit hq) rfl (by omega) ?_ (hlt1 _ _ _ (by omega))
        have e1 : ((v : Nat) : Int) * KK + ((0 : Nat) : Int) = ((Vc j (upd (wdD D) i ⟨1, b, 1⟩) + pend c : Nat) : Int) * KK := by rw [hv']; simp
        rw [e1, hcc]
        exact modeU (.opn h1 (opq b h2) (fun vs ev => by have := h3 vs ev; omega))
      | reg h1 h2 h3 =>
        obtain ⟨v, hv⟩ : ∃ v, Vc j (wdD D) = v + 1 := ⟨Vc j (wdD D) - 1, by omega⟩
        rw [hv] at hwg
        have hw1 : WgAt X.ty X.Wg w (((v : Nat) + 1) * KK + ((1 : Nat) : Int)) 0 := by simpa using hwg
        obtain ⟨g', hgo, hl, hq⟩ := hall v 1 (by omega) (by omega) hw1
        by_cases hv0 : v = 0
        · subst hv0
          obtain ⟨m₂, hk⟩ := hl ⟨rfl, rfl⟩
          refine book rfl hgo (hasd _) (hwg.setSt _) bk2 df2 (.d2 hk) rfl (by omega) ?_ (hlt1 _ _ _ (by omega))
          have hoth : ∀ a, a < j → a ≠ i → (wdD D a).stage = 1 := fun a ha e1 => by
            have c0 := others_uncounted hi hv hc1 a ha e1
            have := h2 a ha
            simp only [cnt] at c0
            split at c0 <;> omega
          have := Go.ConcN.Mode.last (j := j) (D := upd (wdD D) i ⟨4, m₂, 1⟩) (tag := c) i h1 hi (by rw [upd_same]; simp) (fun a ha e1 => by rw [upd_ne _ _ e1]; exact hoth a ha e1)
          rw [upd_same] at this
          rw [hcc]
          exact modeU (by simpa using this)
        · obtain ⟨b, hq⟩ := hq (by omega)
          have hv' : Vc j (upd (wdD D) i ⟨1, b, 1⟩) = v := by have := Vc_upd (wdD D) (⟨1, b, 1⟩ : WD) hi; have := hq0 b; omega
          refine book rfl hgo (hasd _) (hwg.setSt _) bk2 df2 (.quit hq) rfl (by omega) ?_ (hlt1 _ _ _ (by omega))
          have e1 : ((v : Nat) : Int) * KK + ((1 : Nat) : Int) = ((Vc j (upd (wdD D) i ⟨1, b, 1⟩) : Nat) : Int) * KK + 1 := by rw [hv']; simp
          rw [e1, hcc]
          exact modeU (.reg h1 (opq b h2) (by omega))
      | last L _ h2 h3 h4 =>
        by_cases e1 : i = L
        · subst e1; omega
        · have := h4 i hi e1; omega
      | sema h2 => have := h2 i hi; omega
      | fin _ h2 => have := h2 i hi; omega
    · obtain ⟨g', w', es, hgo, ⟨rfl, rfl⟩, hg'⟩ := hstep w id
      exact idle rfl hgo (.d1 hg') (by omega) (by omega)
  | d2 hgo =>
    rcases Goes.cases hgo with hstop | ⟨m', rfl, hstep⟩
    · obtain ⟨_, hxx⟩ := hstop w id
      have hsD : (wdD D i).stage = 4 := stageD rfl
      obtain ⟨hW3, hoth, h8, h9⟩ := hmode.isLast hi (by omega)
      have hwg := h.wg
      rw [h8, h9, if_neg (by omega)] at hwg
      obtain ⟨g', hgo, m₂, hk⟩ := hxx hwg
      refine book rfl hgo (.refl _ w) hwg (by intro ev he; simp at he; subst he; exact bk_cell _ _ rfl) (by intro jx ev he; match jx, he with | 0, _ => exact .inr (by simp [deafBehind]) | jx + 1, he => simp at he) (.d3 hk) rfl (by omega) ?_ (.inl ⟨by omega, by simp [cnt]⟩)
      have := Go.ConcN.Mode.last (j := j) (D := upd (wdD D) i ⟨3, m₂, 1⟩) (tag := tag.c) i hW3 hi (by rw [upd_same]; simp) (fun a ha e1 => by rw [upd_ne _ _ e1]; exact hoth a ha e1)
      rw [upd_same] at this
      exact modeU (by simpa using this)
    · obtain ⟨g', w', es, hgo, ⟨rfl, rfl⟩, hg'⟩ := hstep w id
      exact idle rfl hgo (.d2 hg') (by omega) (by omega)
  | d3 hgo =>
    rcases Goes.cases hgo with hstop | ⟨m', rfl, hstep⟩
    · obtain ⟨_, hxx⟩ := hstop w id
      have hsD : (wdD D i).stage = 3 := stageD rfl
      obtain ⟨hW3, hoth, h8, h9⟩ := hmode.isLast hi (by omega)
      have hwg := h.wg
      rw [h8, h9, if_neg (by omega)] at hwg
      obtain ⟨g', hgo, m₂, hk⟩ := hxx hwg
      refine book rfl hgo (aside_setCell w (stA X.Wg) _) (hwg.setSt 0) (by intro ev he; simp at he; subst he; exact bk_cell _ _ rfl) (by intro jx ev he; match jx, he with | 0, _ => exact .inr (by simp [deafBehind]) | jx + 1, he => simp at he) (.d4 hk) rfl (by omega) ?_ (.inl ⟨by omega, by simp [cnt]⟩)
      have := Go.ConcN.Mode.last (j := j) (D := upd (wdD D) i ⟨2, m₂, 1⟩) (tag := tag.c) i hW3 hi (by rw [upd_same]; simp) (fun a ha e1 => by rw [upd_ne _ _ e1]; exact hoth a ha e1)
      rw [upd_same] at this
      exact modeU (by simpa using this)
    · obtain ⟨g', w', es, hgo, ⟨rfl, rfl⟩, hg'⟩ := hstep w id
      exact idle rfl hgo (.d3 hg') (by omega) (by omega)
  | d4 hgo =>
    rcases Goes.cases hgo with hstop | ⟨m', rfl, hstep⟩
    · obtain ⟨_, hmw, hxx⟩ := hstop w id
      have hsD : (wdD D i).stage = 2 := stageD rfl
      obtain ⟨hW3, hoth, h8, h9⟩ := hmode.isLast hi (by omega)
      have hwg := h.wg
      rw [h8, h9, if_pos (by omega)] at hwg
      obtain ⟨g', hgo, b, hq⟩ := hxx hwg
      have hrun' : g'.status = .running := by
        cases b with
        | zero => exact absurd hq.2 (by decide)
        | succ b => exact hq.elim (fun y => absurd y.2 (by decide)) (fun y => y.1)
      refine bookG rfl hgo (aside_setCell w (smA X.Wg) _) (hwg.setSm 1) (es := semEvents (smA X.Wg)) ?_ ?_ (.quit hq) (by simp [deafBehind, semEvents]) (by omega) ?_ (.inl ⟨by omega, by simp [cnt]⟩)
      · intro ev he
        simp [semEvents] at he
        rcases he with rfl | rfl | rfl | rfl
        · exact .inl rfl
        · exact bk_cell _ _ rfl
        · exact bk_cell _ _ rfl
        · exact .inr (.inl rfl)
      · intro jx ev he
        match jx, he with
        | 0, he => simp [semEvents] at he; subst he; exact .inl rfl
        | 1, _ => exact .inr (by simp [deafBehind, semEvents])
        | 2, _ => exact .inr (by simp [deafBehind, semEvents])
        | 3, he => simp [semEvents] at he; subst he; exact .inl rfl
        | jx + 4, he => simp [semEvents] at he
      · intro tag' ht hw
        have hnb := hw hmw hrun'
        have e3 : tag'.c = .w3 := by
          rcases ht with rfl | ⟨_, _, rfl⟩
          · cases tag' <;> first | rfl | exact hW3.elim | exact absurd rfl (hnb _)
          · rfl
        rw [e3]
        exact modeU (.sema fun a ha => by
          by_cases e1 : a = i
          · subst e1; rw [upd_same]
          · rw [upd_ne _ _ e1]; exact hoth a ha e1)
    · obtain ⟨g', w', es, hgo, ⟨rfl, rfl⟩, hg'⟩ := hstep w id
      exact idle rfl hgo (.d4 hg') (by omega) (by omega)
  | quit hq =>
    cases m with
    | zero => rw [hq.1] at hrun; cases hrun
    | succ b =>
      rcases hq with ⟨hf, _⟩ | ⟨_, g', es, hmute, hstep, hq⟩
      · rw [hf] at hrun; cases hrun
      · have hbk : ∀ ev ∈ es, Bk X.Wg ev := fun ev he => bk_of_mute (hmute ev he)
        have hno : ∀ jx ev, es[jx]? = some ev → (MemAct.ofEvent ev).touch? = none ∨ 0 < deafBehind dd (es.extract 0 jx) := fun jx ev he => .inl (touch_mute (hmute ev (Array.mem_of_getElem? he)))
        exact book rfl (hstep w) (.refl _ w) h.wg hbk hno (.quit hq) rfl (by omega) (mode_same hmode (by rw [hst])) (.inr ⟨rfl, by omega⟩)
end
end Go.Proofs.Ytbckmkppmdfnnaa.Crew
