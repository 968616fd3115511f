/- crew: who starts a crew comes, on whatever tape, to where all its workers have ended or only leave, and has heard of all that they did. -/
import Derived.Test.YtbckmkppmdfnnaaCrMd
namespace Go.Proofs.Ytbckmkppmdfnnaa.Crew
open Go.Conc Go.RowKit Go.Conc.Lib
open Go.ConcN (WgLive WD CTag sumTo upd upd_ne upd_same sumTo_congr sumTo_upd_out Vc cnt RelBy RelBy.appOther RelBy.appNot OpenSt AllQuit isW3 pend isOpen isFin bk_cell Deaf_absent Deaf_still le_sumTo bk_rd bk_rw bk_sem)
open Go.ConcR (KK wgBlock WgAt stA smA rd wr mk Payload DC0 Bk ofEvent_loc_mark ofEvent_cell ofEvent_mk g_of_ofEvents)

section
variable {X : Cfg} {e j : Nat} {D : Nat → WDat} {q : Nat → Nat} {tag : MTag} {f0 d0 next : Nat} {fb : List Nat} {asg : Nat → Option Nat} {st sm : Int} {gs : Array Goroutine} {w w' : World} {t : Trace} {sl : Option (Nat × Nat)}

/-- The go statement. -/
theorem St.spawnStep (hx : Laws X) {r : Nat} (h : St X e j D q (.sg r) f0 d0 next fb asg st sm gs w t) {a : Goroutine} (ha : gs[0]? = some a) (hgo : AtGo X r a w) (hd0 : d0 = 0) : Steps1 X e (mu X e j D q (.sg r) f0 next) gs w sl t 0 := by
  subst hd0
  have hpos := h.pos
  obtain ⟨_, a', child, hsp, _, ⟨m₂, hch⟩, hnext⟩ := hgo
  have hrun := runT_crowd_spawn (P := X.P) (sl := sl) (i := 0) ha (by simpa using hsp)
  have hn0 := h.pl.tagok.1 (by simp [MTag.left])
  subst hn0
  have hfb : fb = [] := by
    cases fb with
    | nil => rfl
    | cons p fb' => have := (h.pl.fbok p (by simp)).1; omega
  subst hfb
  have hlib := h.pl.room' rfl
  obtain ⟨ho, hst, hsm, _⟩ := h.mode.open_inv trivial
  subst hsm
  have hj := h.jn
  simp only [MTag.left] at hj
  rw [h.size] at hrun
  generalize hxo : ({ g := 0, fn := a.frame.fn, pos := a.frame.place, act := .go (e + j) } : MemOp) = xo at hrun
  generalize hyo : ({ g := e + j, fn := child.frame.fn, pos := a.frame.place, act := .start } : MemOp) = yo at hrun
  have hxo' : xo.g = 0 ∧ xo.act = .go (e + j) := by rw [← hxo]; exact ⟨rfl, rfl⟩
  have hyo' : yo.g = e + j ∧ yo.act = .start := by rw [← hyo]; exact ⟨rfl, rfl⟩
  have hu : ((MemOp.ofEvents 0 a.frame.fn a.frame.place #[]).push xo).push yo = #[xo, yo] := rfl
  rw [hu] at hrun
  have hm : ∀ op ∈ (#[xo, yo] : Trace), op = xo ∨ op = yo := by intro op hop; simpa using hop
  have hstl : ∀ op ∈ (#[xo, yo] : Trace), op.act ≠ .mark .disable ∧ op.act ≠ .mark .enable := by
    intro op hop
    rcases hm op hop with rfl | rfl
    · rw [hxo'.2]; exact ⟨by simp, by simp⟩
    · rw [hyo'.2]; exact ⟨by simp, by simp⟩
  have hD : ∀ g, Deaf (t ++ #[xo, yo]) g = Deaf t g := fun g => Deaf_still t g _ hstl
  have old : ∀ k, k ≠ 0 → k < e + j → ∀ y, gs[k]? = some y → ((gs.setIfInBounds 0 a').push child)[k]? = some y := fun k hk hlt y hy => by
    rw [Array.getElem?_push_lt (by simp [h.size]; omega), ← Array.getElem?_eq_getElem, Array.getElem?_setIfInBounds_ne (Ne.symm hk)]
    exact hy
  have ha' : ((gs.setIfInBounds 0 a').push child)[0]? = some a' := by
    rw [Array.getElem?_push_lt (by simp [h.size]; omega), ← Array.getElem?_eq_getElem]
    rw [Array.getElem?_setIfInBounds_self_of_lt (by rw [h.size]; omega)]
  have hc' : ((gs.setIfInBounds 0 a').push child)[e + j]? = some child := by
    rw [show e + j = (gs.setIfInBounds 0 a').size by simp [h.size], Array.getElem?_push_size]
  have eV : Vc (j + 1) (wdD (upd D j ⟨.sel, m₂ + 1, 0⟩)) = Vc j (wdD D) + 1 := by
    have e1 : (sumTo j fun i => cnt (wdD (upd D j ⟨.sel, m₂ + 1, 0⟩) i)) = sumTo j fun i => cnt (wdD D i) := sumTo_congr fun i hi => by simp only [wdD, upd_ne D _ (show i ≠ j by omega)]
    simp only [Vc, sumTo]
    rw [e1]
    have : cnt (wdD (upd D j ⟨.sel, m₂ + 1, 0⟩) j) = 1 := by simp [wdD, upd_same, WDat.wd, cnt, WTag.stage]
    omega
  have eR : ranks (j + 1) (upd D j ⟨.sel, m₂ + 1, 0⟩) = ranks j D + 8 := by
    have e1 : (sumTo j fun i => (upd D j ⟨.sel, m₂ + 1, 0⟩ i).tag.rank) = sumTo j fun i => (D i).tag.rank := sumTo_congr fun i hi => by simp only [upd_ne D _ (show i ≠ j by omega)]
    simp only [ranks, sumTo]
    rw [e1]
    simp [upd_same, WTag.rank]
  have eL : libs (j + 1) (upd D j ⟨.sel, m₂ + 1, 0⟩) = libs j D := by
    have e1 : (sumTo j fun i => (upd D j ⟨.sel, m₂ + 1, 0⟩ i).tag.isLib) = sumTo j fun i => (D i).tag.isLib := sumTo_congr fun i hi => by simp only [upd_ne D _ (show i ≠ j by omega)]
    simp only [libs, sumTo]
    rw [e1]
    simp [upd_same, WTag.isLib]
  have ho' : OpenSt (j + 1) (wdD (upd D j ⟨.sel, m₂ + 1, 0⟩)) := fun i hi => by
    by_cases e1 : i = j
    · subst e1; exact .inl (by simp [wdD, upd_same, WDat.wd, WTag.stage])
    · simp only [wdD, upd_ne D _ e1]; exact ho i (by omega)
  have mk' : ∀ (tag' : MTag) (f' : Nat), MS X tag' f' 0 a' w → tag'.left = r → tag'.least = none → tag'.closed = false → pend tag'.c = 0 → isOpen tag'.c → (∀ vs, tag'.c ≠ .w2 vs) → TagOk X tag' 0 [] → (∀ z, tag' ≠ .hblk z) →
      (∀ v, tag'.phi X.n (v + 1) + 8 < (MTag.sg r).phi X.n v) → Steps1 X e (mu X e j D q (.sg r) f0 0) gs w sl t 0 := by
    intro tag' f' hms t2 t1 t3 hp0 hop hw2 htok hnb hlt
    refine ⟨_, _, mu X e (j + 1) (upd D j ⟨.sel, m₂ + 1, 0⟩) q tag' f' 0, hrun, ?_, j + 1, upd D j ⟨.sel, m₂ + 1, 0⟩, q, tag', f', 0, 0, [], asg, st, 0, _, w, sl, rfl,
      ⟨h.pos, by simp [h.size]; omega, ⟨a', ha', hms⟩, fun k k0 ke => ?_, fun k hk => ?_, by omega, h.ct.fork hx.apart hxo' hyo' h.deaf0, by rw [hD]; exact h.deaf0, fun k hk => ?_, fun k hk hs => ?_, h.wg, ?_, h.cp, by rw [t3]; exact h.cs, h.cf, h.q,
        ⟨h.pl.nextM, h.pl.asgN, fun k hk p hp => ?_, fun p hp => (by omega), h.pl.fbok, (by simp), fun _ => (by rw [eL]; exact hlib), htok, fun e1 => (by rw [t3] at e1; cases e1), fun z e1 => absurd e1 (hnb z)⟩, h.base⟩, rfl⟩
    · unfold mu
      rw [eV, eR]
      have := hlt (Vc j (wdD D))
      exact Prod.Lex.left _ _ (by omega)
    · obtain ⟨y, hy, hqy⟩ := h.old k k0 ke
      exact ⟨y, old k (by omega) (by omega) y hy, by rw [hD]; exact hqy⟩
    · by_cases e1 : k = j
      · subst e1; exact ⟨child, hc', by rw [upd_same]; exact .sel hch⟩
      · obtain ⟨y, hy, hwy⟩ := h.wk k (by omega)
        exact ⟨y, old (e + k) (by omega) (by omega) y hy, by rw [upd_ne D _ e1]; exact hwy⟩
    · rw [hD]
      by_cases e1 : k = j
      · subst e1; rw [upd_same]; exact Deaf_absent fun b op hb eq => by have := h.ct.gs b op hb; omega
      · rw [upd_ne D _ e1]; exact h.deafW k (by omega)
    · by_cases e1 : k = j
      · subst e1; rw [upd_same] at hs; simp [WTag.stage] at hs
      · rw [upd_ne D _ e1] at hs
        obtain ⟨b, hb⟩ := h.rel k (by omega) hs
        refine ⟨b, hb.appNot fun op hop => ?_⟩
        rcases hm op hop with rfl | rfl
        · rw [hxo'.1]; omega
        · rw [hyo'.1]; omega
    · have e1 : st = ((Vc (j + 1) (wdD (upd D j ⟨.sel, m₂ + 1, 0⟩)) + pend tag'.c : Nat) : Int) * KK := by rw [hst, eV, hp0]; simp [MTag.c, pend]
      rw [e1]
      exact .opn hop ho' fun vs e2 => absurd e2 (hw2 vs)
    · by_cases e1 : k = j
      · subst e1; rw [upd_same] at hp; cases hp
      · rw [upd_ne D _ e1] at hp; exact h.pl.tagAt k (by omega) p hp
  cases r with
  | zero =>
    obtain ⟨m₃, hk⟩ := hnext
    exact mk' (.hand 0) (m₃ + 1) (.hand hk) rfl rfl rfl rfl trivial (by simp [MTag.c]) ⟨fun y => (by simp [MTag.left] at y), fun _ e1 => (by cases e1; rfl), fun _ e1 => (by cases e1), fun _ e1 => (by cases e1)⟩ (by simp) (fun v => by simp only [MTag.phi]; omega)
  | succ r' =>
    rw [spawns_succ] at hnext
    obtain ⟨m₃, hk⟩ := hnext
    exact mk' (.sd r') m₃ (.sd hk) rfl rfl rfl rfl trivial (by simp [MTag.c]) ⟨fun _ => rfl, fun _ e1 => (by cases e1), fun _ e1 => (by cases e1), fun _ e1 => (by cases e1)⟩ (by simp) (fun v => by simp only [MTag.phi]; omega)

set_option maxHeartbeats 3200000 in
/-- Every step of the starter's. -/
theorem St.stepMain (hx : Laws X) (h : St X e j D q tag f0 d0 next fb asg st sm gs w t) {a : Goroutine} (ha : gs[0]? = some a) (hrun : a.status = .running) :
    Steps1 X e (mu X e j D q tag f0 next) gs w sl t 0 ∨ ∃ gs' w' ops l next fb, runT X.P (crowd gs w sl) 0 = (.next (crowd gs' w' sl), ops) ∧ Got X e gs' w' (t ++ ops) l next fb := by
  obtain ⟨a₁, ha₁, hs⟩ := h.main
  obtain rfl : a = a₁ := by rw [ha] at ha₁; exact Option.some.inj ha₁
  have hmode := h.mode
  have hpos := h.pos
  have hjn := h.jn
  have hfew := hx.few
  have hwg := h.wg
  have hVj : Vc j (wdD D) ≤ j := Go.ConcN.Vc_le j (wdD D)
  -- one of the library's marks and atomic steps
  have bookM : ∀ {tag' : MTag} {f' d' : Nat} {a' : Goroutine} {w' : World} {es : Array Event} {st' sm' : Int}, stepG X.P true a w = .go a' w' es → Aside X.Wg w w' → WgAt X.ty X.Wg w' st' sm' → (∀ op ∈ MemOp.ofEvents 0 a.frame.fn a.frame.place es, Ok0 X.L op) → MS X tag' f' d' a' w' → deafBehind d0 es = d' →
      Go.ConcN.Mode j (wdD D) tag'.c st' sm' → tag'.least = tag.least → tag'.left = tag.left → tag'.closed = tag.closed → (∀ i, tag' ≠ .hand i) → (∀ i, tag' ≠ .hblk i) →
      (tag'.phi X.n (Vc j (wdD D)) < tag.phi X.n (Vc j (wdD D)) ∨ (tag'.phi X.n (Vc j (wdD D)) = tag.phi X.n (Vc j (wdD D)) ∧ f' < f0)) → Steps1 X e (mu X e j D q tag f0 next) gs w sl t 0 :=
    fun hgo hAs hwg' hok hms hd hm' t1 t2 t3 n1 n2 hlt => h.mainGo hx ha hgo (k_aside hx hAs hwg') hms hok hd hwg' hm' (hAs.block _ hx.d1) (hAs.block _ hx.d2) (hAs.block _ hx.d3) (hAs.block _ hx.m1) t1 t2 t3 (tok_of h.pl.tagok t1 t2 n1 n2) n2 hlt
  have idleM : ∀ {f' : Nat} {a' : Goroutine} {es : Array Event}, stepG X.P true a w = .go a' w es → (∀ ev ∈ es, EvM X ev) → MS X tag f' d0 a' w → f' < f0 → (∀ i, tag ≠ .hblk i) → Steps1 X e (mu X e j D q tag f0 next) gs w sl t 0 :=
    fun hgo hev hms hlt n2 => h.mainGo hx ha hgo (.refl w) hms (ok0_ev hev) (deaf_evM hev d0) hwg hmode rfl rfl rfl rfl rfl rfl rfl h.pl.tagok n2 (.inr ⟨rfl, hlt⟩)
  have idle0 : ∀ {f' : Nat} {a' : Goroutine}, stepG X.P true a w = .go a' w #[] → MS X tag f' d0 a' w → f' < f0 → (∀ i, tag ≠ .hblk i) → Steps1 X e (mu X e j D q tag f0 next) gs w sl t 0 :=
    fun hgo hms hlt n2 => idleM hgo (by simp) hms hlt n2
  have w1go : ∀ {l m : Nat}, (tag = .anch l ∨ (tag = .w1 l ∧ f0 = m)) → d0 = 1 → Goes X.P true (K X) DC0 (WLoa X.P X.ty X.Wg (K X) (X.Fin l) (X.Anch l)) m a w → Steps1 X e (mu X e j D q tag f0 next) gs w sl t 0 := by
    intro l m htg hd1 hk
    have ha1 : isOpen tag.c := by rcases htg with rfl | ⟨rfl, _⟩ <;> trivial
    have ha2 : pend tag.c = 0 := by rcases htg with rfl | ⟨rfl, _⟩ <;> rfl
    have l1 : tag.least = some l := by rcases htg with rfl | ⟨rfl, _⟩ <;> rfl
    have l2 : tag.left = 0 := by rcases htg with rfl | ⟨rfl, _⟩ <;> rfl
    have l3 : tag.closed = true := by rcases htg with rfl | ⟨rfl, _⟩ <;> rfl
    have hph : 8 * Vc j (wdD D) + 6 ≤ tag.phi X.n (Vc j (wdD D)) := by rcases htg with rfl | ⟨rfl, _⟩ <;> simp only [MTag.phi] <;> omega
    obtain ⟨ho, hst, hsm, _⟩ := hmode.open_inv ha1
    rw [ha2] at hst
    rcases Goes.cases hk with hstop | ⟨m', rfl, hstep⟩
    · obtain ⟨_, hall⟩ := hstop w (.refl w)
      obtain ⟨a', hgo, c1, c2⟩ := hall (Vc j (wdD D)) (by omega) (by rw [hst, hsm] at hwg; simpa using hwg)
      by_cases hv : Vc j (wdD D) = 0
      · obtain ⟨m₂, hk⟩ := c1 hv
        have hq : AllQuit j (wdD D) := fun i hi => by
          have h0 : cnt (wdD D i) ≤ Vc j (wdD D) := Go.ConcN.le_sumTo (f := fun x => cnt (wdD D x)) hi
          have := ho i hi
          rw [hv] at h0
          simp only [cnt] at h0
          split at h0 <;> omega
        refine bookM hgo (.refl _ w) hwg (ok0_bk hx bk_rd) (tag' := .ke l) (.ke hk) (by rw [hd1]; rfl) ?_ l1.symm l2.symm l3.symm (by simp) (by simp) (.inl (by simp only [MTag.phi]; simp only [MTag.phi] at hph; omega))
        have e0 : st = 0 := by rw [hst, hv]; simp
        rw [e0, hsm]
        exact .fin trivial hq
      · obtain ⟨m₂, hk⟩ := c2 hv
        exact bookM hgo (.refl _ w) hwg (ok0_bk hx bk_rd) (tag' := .w2 l (Vc j (wdD D))) (.w2 hk) (by rw [hd1]; rfl) (hmode.reopen ha1 trivial (by rw [ha2]; rfl) (fun vs e1 => by cases e1; exact ⟨Nat.le_refl _, by omega⟩)) l1.symm l2.symm l3.symm (by simp) (by simp) (.inl (by
          have e9 : (MTag.w2 l (Vc j (wdD D))).phi X.n (Vc j (wdD D)) = 8 * Vc j (wdD D) + 5 := rfl
          rw [e9]; omega))
    · obtain ⟨a', w', es, hgo, ⟨rfl, rfl⟩, hg'⟩ := hstep w (.refl w)
      refine bookM hgo (.refl _ _) hwg (by simp [ofEvents_nil]) (tag' := .w1 l) (f' := m') (.w1 hg') (by rw [hd1]; rfl) (hmode.reopen ha1 trivial (by rw [ha2]; rfl) (by simp [MTag.c])) l1.symm l2.symm l3.symm (by simp) (by simp) ?_
      rcases htg with rfl | ⟨rfl, hf⟩
      · exact .inl (by simp only [MTag.phi]; omega)
      · exact .inr ⟨rfl, by omega⟩
  cases hs with
  | sd hk =>
    rcases Goes.cases hk with hstop | ⟨m', rfl, hstep⟩
    · obtain ⟨_, a', hgo, m₂, hk⟩ := hstop w (.refl w)
      exact .inl (bookM hgo (.refl _ w) hwg (ok0_mk hx (.inl rfl) (by simp)) (.sa hk) rfl (hmode.reopen trivial trivial rfl (by simp [MTag.c])) rfl rfl rfl (by simp) (by simp) (.inl (by simp only [MTag.phi]; omega)))
    · obtain ⟨a', w', es, hgo, ⟨rfl, hev⟩, hg'⟩ := hstep w (.refl w)
      exact .inl (idleM hgo hev (.sd hg') (by omega) (by simp))
  | sa hk =>
    rename_i r
    rcases Goes.cases hk with hstop | ⟨m', rfl, hstep⟩
    · obtain ⟨_, hall⟩ := hstop w (.refl w)
      obtain ⟨ho, hst, hsm, _⟩ := hmode.open_inv trivial
      simp only [MTag.left] at hjn
      obtain ⟨a', hgo, c1, c2⟩ := hall (Vc j (wdD D)) (by omega) (by rw [hst, hsm] at hwg; simpa [pend, MTag.c] using hwg)
      have hm' : Go.ConcN.Mode j (wdD D) (.sp r 3) (((Vc j (wdD D) : Nat) + 1) * KK) 0 := by
        have e1 : (((Vc j (wdD D) : Nat) : Int) + 1) * KK = ((Vc j (wdD D) + pend (.sp r 3) : Nat) : Int) * KK := by simp [pend]
        rw [e1]
        exact .opn trivial ho (by simp)
      rw [hsm] at hwg
      by_cases hv : Vc j (wdD D) = 0
      · obtain ⟨m₂, hk⟩ := c1 hv
        exact .inl (bookM hgo (aside_setCell w (stA X.Wg) _) (hwg.setSt _) (ok0_bk hx bk_rw) (tag' := .sr r) (.sr hk) rfl hm' rfl rfl rfl (by simp) (by simp) (.inl (by simp only [MTag.phi]; omega)))
      · obtain ⟨m₂, hk⟩ := c2 hv
        exact .inl (bookM hgo (aside_setCell w (stA X.Wg) _) (hwg.setSt _) (ok0_bk hx bk_rw) (tag' := .se r) (.se hk) rfl hm' rfl rfl rfl (by simp) (by simp) (.inl (by simp only [MTag.phi]; omega)))
    · obtain ⟨a', w', es, hgo, ⟨rfl, rfl⟩, hg'⟩ := hstep w (.refl w)
      exact .inl (idle0 hgo (.sa hg') (by omega) (by simp))
  | sr hk =>
    rcases Goes.cases hk with hstop | ⟨m', rfl, hstep⟩
    · obtain ⟨_, a', hgo, m₂, hk⟩ := hstop w (.refl w)
      exact .inl (bookM hgo (.refl _ w) hwg (ok0_mk hx (.inr (.inl rfl)) (by simp)) (.se hk) rfl hmode rfl rfl rfl (by simp) (by simp) (.inl (by simp only [MTag.phi]; omega)))
    · obtain ⟨a', w', es, hgo, ⟨rfl, rfl⟩, hg'⟩ := hstep w (.refl w)
      exact .inl (idle0 hgo (.sr hg') (by omega) (by simp))
  | se hk =>
    rcases Goes.cases hk with hstop | ⟨m', rfl, hstep⟩
    · obtain ⟨_, a', hgo, m₂, hk⟩ := hstop w (.refl w)
      exact .inl (bookM hgo (.refl _ w) hwg (ok0_mk hx (.inl rfl) (by simp)) (.sg hk) rfl (hmode.reopen trivial trivial rfl (by simp [MTag.c])) rfl rfl rfl (by simp) (by simp) (.inl (by simp only [MTag.phi]; omega)))
    · obtain ⟨a', w', es, hgo, ⟨rfl, rfl⟩, hg'⟩ := hstep w (.refl w)
      exact .inl (idle0 hgo (.se hg') (by omega) (by simp))
  | sg hk =>
    rcases Goes.cases hk with hstop | ⟨m', rfl, hstep⟩
    · exact .inl (h.spawnStep hx ha (hstop w (.refl w)) rfl)
    · obtain ⟨a', w', es, hgo, ⟨rfl, rfl⟩, hg'⟩ := hstep w (.refl w)
      exact .inl (idle0 hgo (.sg hg') (by omega) (by simp))
  | hand hk =>
    rename_i i m
    rcases Goes.cases hk with hstop | ⟨m', rfl, hstep⟩
    · rcases hstop w (.refl w) with ⟨hi, hh⟩ | ⟨hi, hh⟩
      · exact .inl (h.handStep hx hi ha hh (by omega) rfl)
      · have hnx := h.pl.tagok.2.1 i rfl
        have hnM := h.pl.nextM
        exact .inl (h.closeStep hx ha hh rfl rfl rfl rfl (by simp only [MTag.phi]; omega) (.inl ⟨rfl, by omega⟩) (fun p e1 => by cases e1))
    · obtain ⟨a', w', es, hgo, ⟨rfl, hev⟩, hg'⟩ := hstep w (.refl w)
      exact .inl (idleM hgo hev (.hand hg') (by omega) (by simp))
  | hblk _ => simp [parked] at hrun
  | shut hk =>
    rename_i l
    rcases Goes.cases hk with hstop | ⟨m', rfl, hstep⟩
    · exact .inl (h.closeStep hx ha (hstop w (.refl w)) rfl rfl rfl rfl (by simp only [MTag.phi]; omega) (h.pl.tagok.2.2.2 l rfl) (fun p e1 => by cases e1; rfl))
    · obtain ⟨a', w', es, hgo, ⟨rfl, hev⟩, hg'⟩ := hstep w (.refl w)
      exact .inl (idleM hgo hev (.shut hg') (by omega) (by simp))
  | kd hk =>
    rcases Goes.cases hk with hstop | ⟨m', rfl, hstep⟩
    · obtain ⟨_, a', hgo, m₂, hk⟩ := hstop w (.refl w)
      exact .inl (bookM hgo (.refl _ w) hwg (ok0_mk hx (.inl rfl) (by simp)) (.anch hk) rfl (hmode.reopen trivial trivial rfl (by simp [MTag.c])) rfl rfl rfl (by simp) (by simp) (.inl (by simp only [MTag.phi]; simp only [MTag.left] at hjn; omega)))
    · obtain ⟨a', w', es, hgo, ⟨rfl, hev⟩, hg'⟩ := hstep w (.refl w)
      exact .inl (idleM hgo hev (.kd hg') (by omega) (by simp))
  | anch hk =>
    rename_i l
    rcases Goes.cases hk with hstop | ⟨m', rfl, hstep⟩
    · obtain ⟨_, m₂, hk⟩ := hx.anch l a w (hstop w (.refl w))
      exact .inl (w1go (.inl rfl) rfl hk)
    · obtain ⟨a', w', es, hgo, ⟨rfl, rfl⟩, hg'⟩ := hstep w (.refl w)
      exact .inl (idle0 hgo (.anch hg') (by omega) (by simp))
  | w1 hk => exact .inl (w1go (.inr ⟨rfl, rfl⟩) rfl hk)
  | w2 hk =>
    rename_i l vs
    rcases Goes.cases hk with hstop | ⟨m', rfl, hstep⟩
    · obtain ⟨_, hall⟩ := hstop w (.refl w)
      obtain ⟨ho, hst, hsm, hw2⟩ := hmode.open_inv trivial
      obtain ⟨hle, h1⟩ := hw2 vs rfl
      obtain ⟨hhit, hmiss⟩ := hall (Vc j (wdD D)) (by omega) (by rw [hst, hsm] at hwg; simpa [pend, MTag.c] using hwg)
      by_cases e1 : Vc j (wdD D) = vs
      · obtain ⟨a', hgo, m₂, hk⟩ := hhit e1
        rw [hsm] at hwg
        exact .inl (bookM hgo (aside_setCell w (stA X.Wg) _) (hwg.setSt _) (ok0_bk hx bk_rw) (tag' := .wr l) (.wr hk) rfl (.reg trivial ho (by omega)) rfl rfl rfl (by simp) (by simp) (.inl (by simp only [MTag.phi]; omega)))
      · obtain ⟨a', hgo, m₂, hk⟩ := hmiss e1
        exact .inl (bookM hgo (.refl _ w) hwg (ok0_bk hx bk_rd) (tag' := .anch l) (.anch hk) rfl (hmode.reopen trivial trivial rfl (by simp [MTag.c])) rfl rfl rfl (by simp) (by simp) (.inl (by simp only [MTag.phi]; omega)))
    · obtain ⟨a', w', es, hgo, ⟨rfl, rfl⟩, hg'⟩ := hstep w (.refl w)
      exact .inl (idle0 hgo (.w2 hg') (by omega) (by simp))
  | wr hk =>
    rename_i l
    rcases Goes.cases hk with hstop | ⟨m', rfl, hstep⟩
    · obtain ⟨_, a', hgo, m₂, hk⟩ := hstop w (.refl w)
      exact .inl (bookM hgo (.refl _ w) hwg (ok0_mk hx (.inr (.inr rfl)) (by simp)) (tag' := .w3 l) (.w3 hk) rfl hmode rfl rfl rfl (by simp) (by simp) (.inl (by simp only [MTag.phi]; omega)))
    · obtain ⟨a', w', es, hgo, ⟨rfl, rfl⟩, hg'⟩ := hstep w (.refl w)
      exact .inl (idle0 hgo (.wr hg') (by omega) (by simp))
  | w3 hk =>
    rename_i l m
    rcases Goes.cases hk with hstop | ⟨m', rfl, hstep⟩
    · obtain ⟨_, hoff, hblk, htake⟩ := hstop w (.refl w)
      have hmode' : Go.ConcN.Mode j (wdD D) .w3 st sm := hmode
      cases hmode' with
      | opn h1 _ _ => exact h1.elim
      | reg h1 h2 h3 => exact .inl (bookM (hblk ⟨_, hwg⟩) (.refl _ w) hwg (by simp [ofEvents_nil]) (tag' := .blk l) (.blk hstop) rfl (.reg trivial h2 h3) rfl rfl rfl (by simp) (by simp) (.inr ⟨rfl, by omega⟩))
      | last L h1 h2 h3 h4 => exact .inl (bookM (hblk ⟨_, hwg⟩) (.refl _ w) hwg (by simp [ofEvents_nil]) (tag' := .blk l) (.blk hstop) rfl (.last L trivial h2 h3 h4) rfl rfl rfl (by simp) (by simp) (.inr ⟨rfl, by omega⟩))
      | sema h2 =>
        obtain ⟨a', hgo, m₂, hk⟩ := htake hwg
        exact .inl (bookM hgo (aside_setCell w (smA X.Wg) _) (hwg.setSm 0) (ok0_bk hx bk_sem) (tag' := .w4 l) (.w4 hk) rfl (.fin trivial h2) rfl rfl rfl (by simp) (by simp) (.inl (by simp only [MTag.phi]; omega)))
      | fin h1 _ => exact h1.elim
    · obtain ⟨a', w', es, hgo, ⟨rfl, rfl⟩, hg'⟩ := hstep w (.refl w)
      exact .inl (idle0 hgo (.w3 hg') (by omega) (by simp))
  | blk _ => simp at hrun
  | w4 hk =>
    rename_i l
    rcases Goes.cases hk with hstop | ⟨m', rfl, hstep⟩
    · obtain ⟨_, hxx⟩ := hstop w (.refl w)
      obtain ⟨hq, h8, h9⟩ := hmode.fin_inv trivial
      rw [h8, h9] at hwg
      obtain ⟨a', hgo, m₂, hk⟩ := hxx hwg
      exact .inl (bookM hgo (.refl _ w) hwg (ok0_bk hx bk_rd) (tag' := .ke l) (.ke hk) rfl (.fin trivial hq) rfl rfl rfl (by simp) (by simp) (.inl (by simp only [MTag.phi]; omega)))
    · obtain ⟨a', w', es, hgo, ⟨rfl, rfl⟩, hg'⟩ := hstep w (.refl w)
      exact .inl (idle0 hgo (.w4 hg') (by omega) (by simp))
  | ke hk =>
    rename_i l
    rcases Goes.cases hk with hstop | ⟨m', rfl, hstep⟩
    · obtain ⟨_, a', hgo, m₂, hk⟩ := hstop w (.refl w)
      obtain ⟨hq, h8, h9⟩ := hmode.fin_inv trivial
      rw [h8, h9] at hwg
      exact .inl (bookM hgo (.refl _ w) hwg (ok0_mk hx (.inl rfl) (by simp)) (tag' := .acq l) (.acq hk) rfl (.fin trivial hq) rfl rfl rfl (by simp) (by simp) (.inl (by simp only [MTag.phi]; omega)))
    · obtain ⟨a', w', es, hgo, ⟨rfl, rfl⟩, hg'⟩ := hstep w (.refl w)
      exact .inl (idle0 hgo (.ke hg') (by omega) (by simp))
  | acq hk =>
    rename_i l
    rcases Goes.cases hk with hstop | ⟨m', rfl, hstep⟩
    · obtain ⟨_, a', hgo, m₂, hk⟩ := hstop w (.refl w)
      obtain ⟨hq, h8, h9⟩ := hmode.fin_inv trivial
      rw [h8, h9] at hwg
      have hjn' : j = X.n := hjn
      have hrunT := runT_crowd_go (P := X.P) (sl := sl) (i := 0) ha hgo
      have e1 : MemOp.ofEvents 0 a.frame.fn a.frame.place #[Go.ConcR.mk (.acquire (stA X.Wg))] = #[{ g := 0, fn := a.frame.fn, pos := a.frame.place, act := .mark (.acquire (stA X.Wg)) }] := by rw [ofEvents_eq]; simp [ofEvent_mk]
      rw [e1] at hrunT
      generalize hzo : ({ g := 0, fn := a.frame.fn, pos := a.frame.place, act := .mark (.acquire (stA X.Wg)) } : MemOp) = zo at hrunT
      have hz1 : zo.g = 0 := by rw [← hzo]
      have hz2 : zo.act = .mark (.acquire (stA X.Wg)) := by rw [← hzo]
      have hgs : ∀ op ∈ (#[zo] : Trace), op.g = 0 := by intro op hop; simp at hop; rw [hop]; exact hz1
      have hy : (t ++ #[zo])[t.size]? = some zo := by simp
      have hok : ∀ op ∈ (#[zo] : Trace), Ok0 X.L op := by
        intro op hop
        simp at hop
        subst hop
        exact ⟨hz1, fun x hxx => (by rw [hz2] at hxx; cases hxx), fun b hm => (by rw [hz2] at hm; cases hm)⟩
      have hct := h.ct.app0 hx.apart h.pos hok
      have hd0 : Deaf (t ++ #[zo]) 0 = 0 := by
        rw [Deaf_still t 0 _ fun op hop => by simp at hop; rw [hop, hz2]; exact ⟨by simp, by simp⟩]
        exact h.deaf0
      have old : ∀ k, k ≠ 0 → ∀ y, gs[k]? = some y → ((gs.map (woken X.P a a' w)).setIfInBounds 0 a')[k]? = some (woken X.P a a' w y) := fun k hk y hy => by rw [Go.ConcN.get_map_set _ _ _ _ (Ne.symm hk), hy]; rfl
      have hfin : ∀ i, i < j → (D i).tag = .lib 1 := fun i hi => by
        have h1 := hq i hi
        simp only [wdD, WDat.wd] at h1
        cases hd : (D i).tag <;> rw [hd] at h1 <;> simp [WTag.stage] at h1
        rw [h1]
      have hquit : ∀ i, i < j → ∃ g, gs[e + i]? = some g ∧ QuitsD X.P (D i).fuel (D i).deaf g := fun i hi => by
        obtain ⟨g, hg, hws⟩ := h.wk i hi
        refine ⟨g, hg, ?_⟩
        rw [hfin i hi] at hws
        cases hws
        assumption
      refine .inr ⟨_, w, _, l, next, fb, hrunT, ⟨by simp [h.size]; omega, ⟨a', m₂, Go.ConcN.get_map_set_same _ _ _ (by rw [h.size]; omega), hk⟩, ⟨fun k => if k < e then q k else (D (k - e)).fuel, fun k x k0 hkx => ?_, fun k hk => ?_⟩, ?_, fun k op hkop => ?_, hwg, h.cf, h.q, h.base, h.pl.nextM, h.pl.tagok.2.2.2 l rfl, fun p hp => ?_, h.pl.fbok⟩⟩
      · have hks : k < gs.size := by have := (Array.getElem?_eq_some_iff.1 hkx).1; simpa using this
        rw [h.size] at hks
        rcases Nat.lt_or_ge k e with hke | hke
        · obtain ⟨y, hy', hqy⟩ := h.old k k0 hke
          rw [old k (by omega) y hy', woken_quitsD hqy] at hkx
          obtain rfl := Option.some.inj hkx
          rw [if_pos hke, Deaf_other t (g' := 0) (by omega) _ hgs]
          exact hqy
        · obtain ⟨y, hy', hqy⟩ := hquit (k - e) (by omega)
          rw [show e + (k - e) = k by omega] at hy'
          rw [old k (by omega) y hy', woken_quitsD hqy] at hkx
          obtain rfl := Option.some.inj hkx
          rw [if_neg (by omega), Deaf_other t (g' := 0) (by omega) _ hgs]
          have := h.deafW (k - e) (by omega)
          rw [show e + (k - e) = k by omega] at this
          rw [this]
          exact hqy
      · simp [h.size] at hk
        rw [Deaf_other t (g' := 0) (by omega) _ hgs]
        exact Deaf_absent fun b op hb eq => by have := h.ct.gs b op hb; omega
      · refine hct.calm hd0 (s := stA X.Wg) (q := t.size) (by rw [act?_of hy, hz2]) (by simp [Trace.g?, hz1]) ⟨0, by simp [Trace.g?, hz1], by rw [deaf_old (Nat.le_refl _)]; exact h.deaf0⟩ fun g h1 h2 => ?_
        obtain ⟨r, hr⟩ := h.rel (g - e) (by omega) (by rw [hfin (g - e) (by omega)]; simp [WTag.stage])
        rw [show e + (g - e) = g by omega] at hr
        exact ⟨r, hr.appOther hgs (by omega), lt_of_act? hr.act⟩
      · have := hct.gs k op hkop
        omega
      · rcases h.pl.fin p hp with ⟨k, hk, hkp⟩ | ⟨x1, x2⟩
        · rw [hfin k hk] at hkp; cases hkp
        · exact ⟨x1, fun hb => (x2 hb).imp id fun e1 => (by cases e1; rfl)⟩
    · obtain ⟨a', w', es, hgo, ⟨rfl, rfl⟩, hg'⟩ := hstep w (.refl w)
      exact .inl (idle0 hgo (.acq hg') (by omega) (by simp))

theorem St.awake (hx : Laws X) (h : St X e j D q tag f0 d0 next fb asg st sm gs w t) : ∀ g ∈ gs, awake g := by
  intro g hg
  obtain ⟨k, hk⟩ := Array.mem_iff_getElem?.1 hg
  rcases h.idx hk with rfl | ⟨k0, ke⟩ | ⟨i, hi, rfl⟩
  · obtain ⟨a, ha, hm⟩ := h.main
    rw [ha] at hk; cases hk
    rcases hm.status hx with ⟨hs, _⟩ | ⟨hs, _⟩
    · exact awake_of (.inl hs)
    · exact awake_of (.inr (.inl hs))
  · obtain ⟨y, hy, hq⟩ := h.old k k0 ke
    rw [hk] at hy; cases hy
    exact awake_of (hq.status.elim .inl fun x => .inr (.inr x))
  · obtain ⟨y, hy, hw⟩ := h.wk i hi
    rw [hk] at hy; cases hy
    rcases hw.status hx with ⟨hs, _⟩ | ⟨hs, _⟩ | ⟨_, g₀, rfl, _⟩
    · exact awake_of (.inl hs)
    · exact awake_of (.inr (.inr hs))
    · exact awake_of (.inr (.inl rfl))

/-- There is no deadlock. -/
theorem St.runs (hx : Laws X) (h : St X e j D q tag f0 d0 next fb asg st sm gs w t) : ∃ (i : Nat) (g : Goroutine), gs[i]? = some g ∧ g.status = .running := by
  obtain ⟨a, ha, hm⟩ := h.main
  have hrunW : ∀ i, i < j → (D i).tag ≠ .prk → (D i).tag ≠ .lib 1 → ∃ (i : Nat) (g : Goroutine), gs[i]? = some g ∧ g.status = .running := fun i hi h1 h2 => by
    obtain ⟨y, hy, hw⟩ := h.wk i hi
    rcases hw.status hx with ⟨hs, _⟩ | ⟨_, hp⟩ | ⟨hp, _⟩
    · exact ⟨_, y, hy, hs⟩
    · exact absurd hp h2
    · exact absurd hp h1
  rcases hm.status hx with ⟨hs, _⟩ | ⟨_, hb⟩
  · exact ⟨0, a, ha, hs⟩
  · cases tag with
    | hblk z =>
      obtain ⟨_, hzM, rfl⟩ := h.pl.tagok.2.2.1 z rfl
      have hn := hx.some1 (by omega)
      have hjn : j = X.n := h.jn
      have hl : libs j D = 0 := h.pl.room' rfl
      refine hrunW 0 (by omega) (h.pl.hprk z rfl 0 (by omega)) fun e1 => ?_
      have h9 : (D 0).tag.isLib ≤ libs j D := le_sumTo (f := fun i => (D i).tag.isLib) (show 0 < j by omega)
      rw [hl, e1] at h9
      simp [WTag.isLib] at h9
    | blk l =>
      have hnp := h.pl.noprk rfl
      have hmode : Go.ConcN.Mode j (wdD D) .blk st sm := h.mode
      cases hmode with
      | opn h1 _ _ => exact h1.elim
      | reg _ _ h3 =>
        obtain ⟨i, hi, h5⟩ := Go.ConcN.exists_counted h3
        exact hrunW i hi (hnp i hi) fun e1 => by simp only [wdD, WDat.wd, e1, WTag.stage] at h5; omega
      | last L _ h2 h3 _ => exact hrunW L h2 (hnp L h2) fun e1 => by simp only [wdD, WDat.wd, e1, WTag.stage] at h3; omega
      | fin h1 _ => exact h1.elim
    | _ => exact hb.elim

/-- The elder goroutines' steps leave the group as it is. -/
theorem St.elderMode (h : St X e j D q tag f0 d0 next fb asg st sm gs w t) : ∀ tag', (tag' = tag ∨ ∃ l, tag = .blk l ∧ tag' = .w3 l) → Go.ConcN.Mode j (wdD D) tag'.c st sm := fun _ ht => mode_re h.mode ht

/-- Whatever the tape says. -/
theorem inv_step (hx : Laws X) (μ : Nat × Nat) (m : Machine) (t : Trace) (h : Inv X e μ m t) :
    (∃ gs w sl ops l next fb, stepT X.P m = (.next (crowd gs w sl), ops) ∧ Got X e gs w (t ++ ops) l next fb) ∨ ∃ m' ops μ', stepT X.P m = (.next m', ops) ∧ Lt2 μ' μ ∧ Inv X e μ' m' (t ++ ops) := by
  obtain ⟨j, D, q, tag, f0, d0, next, fb, asg, st, sm, gs, w, sl, rfl, hS, rfl⟩ := h
  obtain ⟨i, g, d, sl', hg, hrun, hstep⟩ := crowd_pick (P := X.P) (w := w) (sl := sl) (hS.awake hx) (hS.runs hx)
  rw [hstep]
  have hS' := hS.at hx d
  rcases hS.idx hg with rfl | ⟨k0, ke⟩ | ⟨k, hk, rfl⟩
  · rcases hS'.stepMain (sl := sl') hx hg hrun with h1 | ⟨gs', w', ops, l, next, fb, h1, h2⟩
    · exact .inr h1
    · exact .inl ⟨gs', w', sl', ops, l, next, fb, h1, h2⟩
  · exact .inr (hS'.elderGo hx k0 ke hg hrun hS'.elderMode)
  · exact .inr (hS'.stepWorker hx hk hg hrun)

theorem crew_runs (hx : Laws X) : ∀ (μ : Nat × Nat) (m : Machine) (t : Trace), Inv X e μ m t → ∃ N gs w sl t' l next fb, runNT X.P N m t = (.next (crowd gs w sl), t') ∧ Got X e gs w t' l next fb := by
  intro μ
  induction μ using (Prod.lex Nat.lt_wfRel Nat.lt_wfRel).wf.induction with
  | _ μ ih =>
    intro m t h
    rcases inv_step hx μ m t h with ⟨gs, w, sl, ops, l, next, fb, h1, h2⟩ | ⟨m', ops, μ', h1, hlt, hI⟩
    · exact ⟨1, gs, w, sl, t ++ ops, l, next, fb, by simp [runNT, h1], h2⟩
    · obtain ⟨N, gs, w, sl, t', l, next, fb, hr, hG⟩ := ih μ' hlt m' _ hI
      exact ⟨N + 1, gs, w, sl, t', l, next, fb, by simp only [runNT, h1]; exact hr, hG⟩

/-- From where the starter has all that it needs. -/
theorem crew_phase (hx : Laws X) {gs : Array Goroutine} {a : Goroutine} {sl : Option (Nat × Nat)} {t : Trace} {q : Nat → Nat} (h0 : gs[0]? = some a) (hL : Leavers X.P t gs q) (hC : Calm X.L.Shun t) (hgs : ∀ (i : Nat) (op : MemOp), t[i]? = some op → op.g < gs.size)
    (hwg : WgAt X.ty X.Wg X.w0 0 0) (hcp : ∃ s r, X.w0.heap[X.Cp]? = some (.chan 0 #[] false s r false)) (hcs : ∃ s r, X.w0.heap[X.Cs]? = some (.chan 0 #[] false s r false)) (hcf : ∃ s r, X.w0.heap[X.Cf]? = some (.chan X.n #[] false s r false)) (hq : X.Q X.w0)
    (hS : Spawns X X.n a X.w0) : ∃ N gs' w sl' t' l next fb, runNT X.P N (crowd gs X.w0 sl) t = (.next (crowd gs' w sl'), t') ∧ Got X gs.size gs' w t' l next fb := by
  have hpos : 1 ≤ gs.size := (Array.getElem?_eq_some_iff.1 h0).1
  have mk' : ∀ (tag : MTag) (f : Nat), MS X tag f 0 a X.w0 → tag.left = X.n → tag.least = none → tag.closed = false → pend tag.c = 0 → isOpen tag.c → (∀ vs, tag.c ≠ .w2 vs) → TagOk X tag 0 [] → (∀ z, tag ≠ .hblk z) →
      ∃ N gs' w sl' t' l next fb, runNT X.P N (crowd gs X.w0 sl) t = (.next (crowd gs' w sl'), t') ∧ Got X gs.size gs' w t' l next fb := by
    intro tag f hms t2 t1 t3 hp0 hop hw2 htok hnb
    have : Inv X gs.size (mu X gs.size 0 (fun _ => ⟨.sel, 0, 0⟩) q tag f 0) (crowd gs X.w0 sl) t := by
      refine ⟨0, fun _ => ⟨.sel, 0, 0⟩, q, tag, f, 0, 0, [], fun _ => none, 0, 0, gs, X.w0, sl, rfl, ⟨hpos, by simp, ⟨a, h0, hms⟩, fun i i0 ie => ⟨_, Array.getElem?_eq_getElem ie, hL.old i _ i0 (Array.getElem?_eq_getElem ie)⟩, fun i hi => (by omega), (by omega), .begin hx.apart hC hgs fun _ => rfl, hC.hears, fun i hi => (by omega), fun i hi => (by omega), hwg, ?_, hcp, by rw [t3]; exact hcs, hcf, hq,
        ⟨Nat.zero_le _, fun _ _ => rfl, fun i hi => (by omega), fun p hp => (by omega), fun p hp => (by cases hp), (by simp), fun _ => rfl, htok, fun _ i hi => (by omega), fun z e1 => absurd e1 (hnb z)⟩, .refl _⟩, rfl⟩
      have := Go.ConcN.Mode.opn (j := 0) (D := wdD fun _ => ⟨.sel, 0, 0⟩) hop (fun i hi => by omega) (fun vs e1 => absurd e1 (hw2 vs))
      simpa [Vc, sumTo, hp0] using this
    obtain ⟨N, gs', w, sl', t', l, next, fb, h1, h2⟩ := crew_runs hx _ _ _ this
    exact ⟨N, gs', w, sl', t', l, next, fb, h1, h2⟩
  cases hn : X.n with
  | zero =>
    rw [hn] at hS
    obtain ⟨m, hk⟩ := hS
    exact mk' (.hand 0) (m + 1) (.hand hk) (by rw [hn]; rfl) rfl rfl rfl trivial (by simp [MTag.c]) ⟨fun y => (by simp [MTag.left] at y), fun _ e1 => (by cases e1; rfl), fun _ e1 => (by cases e1), fun _ e1 => (by cases e1)⟩ (by simp)
  | succ r =>
    rw [hn, spawns_succ] at hS
    obtain ⟨m, hk⟩ := hS
    exact mk' (.sd r) m (.sd hk) (by rw [hn]; rfl) rfl rfl rfl trivial (by simp [MTag.c]) ⟨fun _ => rfl, fun _ e1 => (by cases e1), fun _ e1 => (by cases e1), fun _ e1 => (by cases e1)⟩ (by simp)
end
end Go.Proofs.Ytbckmkppmdfnnaa.Crew
