/- crew: a crew at work: every step of the starter; who started a crew comes to where all have ended. -/
import Derived.Test.YtbckmkppmdfnnaaCrMc
namespace Go.Proofs.Ytbckmkppmdfnnaa.Crew
open Go.Conc Go.RowKit Go.Conc.Lib
open Go.ConcN (WgLive WD CTag sumTo upd upd_ne upd_same sumTo_congr sumTo_upd_out Vc cnt RelBy RelBy.appOther RelBy.appNot OpenSt AllQuit isW3 pend isOpen isFin bk_cell Deaf_absent Deaf_still le_sumTo get_map_set get_map_set_same bk_rd bk_rw bk_sem)
open Go.ConcR (KK wgBlock WgAt stA smA rd wr mk Payload DC0 Bk ofEvent_loc_mark ofEvent_cell ofEvent_mk g_of_ofEvents)

structure Got (X : Cfg) (e : Nat) (gs : Array Goroutine) (w : World) (t : Trace) (l next : Nat) (fb : List Nat) : Prop where
  size : gs.size = e + X.n
  main : ∃ a k, gs[0]? = some a ∧ Goes X.P true (K X) DC0 (X.Fin l) k a w
  lv : ∃ q, Leavers X.P t gs q
  calm : Calm (fun l => X.L.Shun l ∨ X.L.Sh l) t
  gsb : ∀ (i : Nat) (op : MemOp), t[i]? = some op → op.g < e + X.n
  wg : WgAt X.ty X.Wg w 0 0
  cf : ∃ s r, w.heap[X.Cf]? = some (.chan X.n (fb.map ival).toArray false s r false)
  q : X.Q w
  base : K X X.w0 w
  nextM : next ≤ X.M
  least : (l = X.M ∧ next = X.M) ∨ (l < next ∧ X.b l = true)
  fin : ∀ p, p < next → X.Done p w ∧ (X.b p = true → p ∈ fb ∨ p = l)
  fbok : ∀ p ∈ fb, p < next ∧ X.b p = true

section
variable {X : Cfg} {e j : Nat} {D : Nat → WDat} {q : Nat → Nat} {tag : MTag} {f0 d0 next : Nat} {fb : List Nat} {asg : Nat → Option Nat} {st sm : Int} {gs : Array Goroutine} {w w' : World} {t : Trace} {sl : Option (Nat × Nat)}

theorem ok0_bk (hx : Laws X) {fn : FuncId} {pos : String} {es : Array Event} (h : ∀ ev ∈ es, Bk X.Wg ev) : ∀ op ∈ MemOp.ofEvents 0 fn pos es, Ok0 X.L op := by
  intro op hop
  rw [ofEvents_eq] at hop
  obtain ⟨ev, hev, rfl⟩ := Array.mem_map.1 hop
  rcases h ev hev with h1 | h1 | ⟨a, wr, rfl, ha⟩
  · exact ⟨rfl, fun x hxx => (by simp only [ofEvent_loc_mark h1] at hxx; cases hxx), fun a hm => (by simp only [ofEvent_loc_mark h1] at hm; cases hm)⟩
  · exact ⟨rfl, fun x hxx => (by simp only [ofEvent_loc_mark h1] at hxx; cases hxx), fun a hm => (by simp only [ofEvent_loc_mark h1] at hm; cases hm)⟩
  · refine ⟨rfl, fun x hxx => ?_, fun b hm => (by simp only [ofEvent_cell] at hm; cases hm)⟩
    simp only [ofEvent_cell, MemAct.touch?, Option.some.injEq] at hxx
    subst hxx
    exact .inl ⟨(hx.shWg _).2 ⟨a, rfl, ha⟩, by simp⟩
theorem ok0_mk (hx : Laws X) {fn : FuncId} {pos : String} {m : Mark} (h1 : (MemAct.mark m).touch? = none ∨ m = .read (smA X.Wg) ∨ m = .write (smA X.Wg)) (h2 : ∀ a, m ≠ .release a) : ∀ op ∈ MemOp.ofEvents 0 fn pos #[mk m], Ok0 X.L op := by
  intro op hop
  rw [ofEvents_eq] at hop
  obtain ⟨ev, hev, rfl⟩ := Array.mem_map.1 hop
  simp only [List.mem_toArray, List.mem_singleton] at hev
  subst hev
  refine ⟨rfl, fun x hxx => ?_, fun a hm => (by simp only [ofEvent_mk] at hm; cases hm; exact h2 a rfl)⟩
  simp only [ofEvent_mk] at hxx
  rcases h1 with h1 | rfl | rfl
  · rw [h1] at hxx; cases hxx
  · simp only [MemAct.touch?, Option.some.injEq] at hxx
    subst hxx
    exact .inl ⟨(hx.shWg _).2 ⟨_, rfl, rfl⟩, by simp⟩
  · simp only [MemAct.touch?, Option.some.injEq] at hxx
    subst hxx
    exact .inl ⟨(hx.shWg _).2 ⟨_, rfl, rfl⟩, by simp⟩
theorem ok0_ev {fn : FuncId} {pos : String} {es : Array Event} (h : ∀ ev ∈ es, EvM X ev) : ∀ op ∈ MemOp.ofEvents 0 fn pos es, Ok0 X.L op := by
  intro op hop
  rw [ofEvents_eq] at hop
  obtain ⟨ev, hev, rfl⟩ := Array.mem_map.1 hop
  obtain ⟨a, rfl, h1, h2, h3⟩ := h ev hev
  refine ⟨rfl, fun x hxx => ?_, fun b hm => (by simp only [ofEvent_cell] at hm; cases hm)⟩
  simp only [ofEvent_cell, MemAct.touch?, Option.some.injEq] at hxx
  subst hxx
  exact .inr ⟨h1, h2, h3, rfl⟩
theorem deaf_evM {es : Array Event} (h : ∀ ev ∈ es, EvM X ev) (d : Nat) : deafBehind d es = d :=
  deafBehind_still (fun ev hev => by obtain ⟨a, rfl, _⟩ := h ev hev; simp) d
theorem tok_of {tag' : MTag} (h : TagOk X tag next fb) (t1 : tag'.least = tag.least) (t2 : tag'.left = tag.left) (h1 : ∀ i, tag' ≠ .hand i) (h2 : ∀ i, tag' ≠ .hblk i) : TagOk X tag' next fb :=
  ⟨fun y => h.1 (t2 ▸ y), fun i e1 => absurd e1 (h1 i), fun i e1 => absurd e1 (h2 i), fun l e1 => h.2.2.2 l (t1 ▸ e1)⟩

/-- The starter alone goes on by a communication. -/
theorem St.comm0 (h : St X e j D q tag f0 d0 next fb asg st sm gs w t) (hx : Laws X) {gs' : Array Goroutine} {u : Trace} {tag' : MTag} {f' next' : Nat} {fb' : List Nat}
    (hsz : gs'.size = gs.size) (hmain : ∃ a, gs'[0]? = some a ∧ MS X tag' f' d0 a w') (hoth : ∀ k, k ≠ 0 → gs'[k]? = gs[k]?) (hK : K X w w')
    (hu : ∀ op ∈ u, op.act.touch? = none ∧ op.g < e + j ∧ ∀ m, op.act ≠ .mark m) (hwg : w'.heap[X.Wg]? = w.heap[X.Wg]?)
    (t1 : tag'.c = tag.c) (t2 : tag'.left = tag.left) (t3 : tag'.closed = tag.closed)
    (hcp : ∃ s r, w'.heap[X.Cp]? = some (.chan 0 #[] false s r false)) (hcs : w'.heap[X.Cs]? = w.heap[X.Cs]?) (hcf : ∃ s r, w'.heap[X.Cf]? = some (.chan X.n (fb'.map ival).toArray false s r false))
    (hpl : Places X e j D tag' next' fb' asg w') : St X e j D q tag' f' d0 next' fb' asg st sm gs' w' (t ++ u) := by
  have hst : ∀ op ∈ u, op.act ≠ .mark .disable ∧ op.act ≠ .mark .enable := fun op hop => ⟨(hu op hop).2.2 _, (hu op hop).2.2 _⟩
  have hD : ∀ g, Deaf (t ++ u) g = Deaf t g := fun g => Deaf_still t g u hst
  have hrel : ∀ {g r : Nat}, RelBy (stA X.Wg) t g r → RelBy (stA X.Wg) (t ++ u) g r := fun {g r} hr => hr.app fun b hb _ hcount => by
    obtain ⟨y, hy, _⟩ := hcount
    obtain ⟨op, hop, hoy⟩ := touch_of hy
    rcases getElem?_append_cases hop with ⟨hlt, _⟩ | ⟨_, hou⟩
    · omega
    · rw [(hu op hou).1] at hoy; cases hoy
  have hpos := h.pos
  refine ⟨h.pos, by rw [hsz]; exact h.size, hmain, fun k k0 ke => ?_, fun k hk => ?_, by rw [t2]; exact h.jn, h.ct.appN fun op hop => ⟨(hu op hop).1, (hu op hop).2.1, fun a => (hu op hop).2.2 _⟩, by rw [hD]; exact h.deaf0, fun k hk => by rw [hD]; exact h.deafW k hk, fun k hk hs => ?_,
    h.wg.of_block hwg, by rw [t1]; exact h.mode, hcp, by rw [hcs, t3]; exact h.cs, hcf, hK.q h.q, hpl, h.base.trans hK⟩
  · obtain ⟨g, hg, hq⟩ := h.old k k0 ke
    exact ⟨g, by rw [hoth k (by omega)]; exact hg, by rw [hD]; exact hq⟩
  · obtain ⟨g, hg, hw⟩ := h.wk k hk
    exact ⟨g, by rw [hoth (e + k) (by omega)]; exact hg, hw.rely hx hK⟩
  · obtain ⟨r, hr⟩ := h.rel k hk hs
    exact ⟨r, hrel hr⟩

/-- The starter stands at its select with place z. -/
theorem St.handStep (hx : Laws X) {z : Nat} (h : St X e j D q (.hand z) f0 d0 next fb asg st sm gs w t) (hz : z < X.M) {a : Goroutine} (ha : gs[0]? = some a) (hh : X.Hand z a w) (hf0 : 1 ≤ f0) (hd0 : d0 = 0) : Steps1 X e (mu X e j D q (.hand z) f0 next) gs w sl t 0 := by
  subst hd0
  have hpos := h.pos
  obtain ⟨_, _, hstep⟩ := hx.handStep _ _ _ hh
  obtain ⟨s, r, hcp⟩ := h.cp
  obtain ⟨s', r', hcf⟩ := h.cf
  have hnx := h.pl.tagok.2.1 z rfl
  subst hnx
  have hlt0 : 0 < gs.size := by rw [h.size]; omega
  have hpart : ∀ b k, (b, k) ∈ partners (gs.setIfInBounds 0 ph) X.Cp false → k = 0 ∧ b ≠ 0 ∧ ∃ i g₀, i < j ∧ b = e + i ∧ (D i).tag = .prk ∧ gs[b]? = some (parked g₀ (pc X) .select) ∧ X.Sel g₀ w := by
    intro b k hbk
    obtain ⟨g, hg, hk⟩ := mem_partners.1 hbk
    rcases getElem?_stand gs 0 b g hg with ⟨_, rfl⟩ | ⟨hb0, hg'⟩
    · rw [offersAt_ph] at hk; cases hk
    · rcases h.offers hx hg' with h1 | ⟨h0, _⟩ | ⟨i, g₀, hi, rfl, hp, rfl, hsel⟩
      · rw [h1] at hk; cases hk
      · exact absurd h0 hb0
      · rw [(offers_pc g₀ hx).1] at hk
        simp at hk
        exact ⟨hk, hb0, i, g₀, hi, rfl, hp, hg', hsel⟩
  have hcomm := hand_comm (sl := sl) (i := 0) ha hstep hcp hcf (fun b k hbk => by
    obtain ⟨h1, h2, i, g₀, _, _, _, h3, _⟩ := hpart b k hbk
    exact ⟨h1, h2, g₀, _, _, _, h3, rfl⟩) (h.noSend hx 0 (.inl fun z e1 => by cases e1))
  rcases hcomm with ⟨b, gb, cs, shj, d, hmem, hb, hrun⟩ | ⟨d, hbuf, hrun⟩ | ⟨hnone, hbuf, hrun⟩
  · -- a worker that waits takes it
    obtain ⟨_, hb0, i, g₀, hi, rfl, hprk, hb', hsel⟩ := hpart b 0 hmem
    have e0 : parked gb cs shj = parked g₀ (pc X) .select := Option.some.inj (hb.symm.trans hb')
    have e1 : ∀ v, gb.finishComm X.P cs shj ((0 : Nat) : Int) v true = g₀.finishComm X.P (pc X) .select ((0 : Nat) : Int) v true := by
      intro v
      obtain ⟨a1, a2, a3, a4, a5⟩ := gb
      obtain ⟨b1, b2, b3, b4, b5⟩ := g₀
      simp only [parked, Goroutine.mk.injEq, Option.some.injEq, Prod.mk.injEq] at e0
      obtain ⟨rfl, rfl, _, rfl, rfl, rfl⟩ := e0
      rfl
    have hlt : e + i < gs.size := (Array.getElem?_eq_some_iff.1 hb).1
    obtain ⟨hK, hn1, hn2⟩ := chan_turn hx (cap' := 0) (buf' := #[]) (cl' := false) (s' := s + 1) (r' := r + 1) (.inl rfl) hcp d
    obtain ⟨m₁, hm₁⟩ := hx.handSent next a _ (hx.handRely _ _ _ _ hh hK)
    obtain ⟨m₂, hm₂⟩ := hx.selTake g₀ _ next (hx.selRely _ _ _ hsel hK) hz
    have hasg := h.pl.asgN next (Nat.le_refl _)
    obtain ⟨gw, hgw, hwsp⟩ := h.wk i hi
    have hdeaf : (D i).deaf = 0 := by
      generalize (D i).fuel = fx at hwsp
      generalize hdd : (D i).deaf = dd at hwsp
      rw [hprk] at hwsp
      cases hwsp
      rfl
    have s0 : (D i).tag.stage = 7 := by rw [hprk]; rfl
    have hrk : (D i).tag.rank = 8 := by rw [hprk]; rfl
    have hnl : (D i).tag.isLib = 0 := by rw [hprk]; rfl
    have vc : Vc j (wdD (upd D i ⟨.at next, m₂, 0⟩)) = Vc j (wdD D) := by
      have := Vc_upd' (j := j) D ⟨.at next, m₂, 0⟩ hi
      have : cnt (⟨.at next, m₂, 0⟩ : WDat).wd = cnt (D i).wd := by show (if 5 ≤ 7 then 1 else 0) = (if 5 ≤ (D i).tag.stage then 1 else 0); simp [s0]
      omega
    refine ⟨_, _, mu X e j (upd D i ⟨.at next, m₂, 0⟩) q (.hand (next + 1)) (m₁ + 1) (next + 1), hrun, ?_, j, upd D i ⟨.at next, m₂, 0⟩, q, .hand (next + 1), m₁ + 1, 0, next + 1, fb, (fun p => if p = next then some (e + i) else asg p), st, sm, _, _, sl, rfl,
      h.comm hx (i := i) (x := ⟨.at next, m₂, 0⟩) (by simp) ⟨a.finishComm X.P (hc X next) .select ((0 : Nat) : Int) undef false, by rw [Array.getElem?_setIfInBounds_self_of_lt (by simpa using hlt0)]; rfl, .hand hm₁⟩
        (fun _ => ⟨_, by rw [Array.getElem?_setIfInBounds_ne (by omega), Array.getElem?_setIfInBounds_self_of_lt hlt, e1], .at hm₂⟩)
        (fun k k0 hk => by rw [Array.getElem?_setIfInBounds_ne (Ne.symm k0), Array.getElem?_setIfInBounds_ne (Ne.symm hk)]) hK hdeaf.symm rfl s0 (silentQ fun op hop => ?_) (hn2 _ (Ne.symm hx.d1)) rfl rfl rfl (h.ct.hand (by omega) (by omega) hasg) ⟨_, _, hn1⟩ (hn2 _ (Ne.symm hx.d4)) (by rw [hn2 _ (Ne.symm hx.d5)]; exact h.cf) ?_, rfl⟩
    · have := ranks_upd (j := j) D ⟨.at next, m₂, 0⟩ hi
      have h7 : (WTag.at next).rank = 10 := rfl
      unfold mu
      rw [vc]
      refine Prod.Lex.left _ _ ?_
      simp only [MTag.phi] at *
      omega
    · simp [ofEvents_nil] at hop
      rcases hop with rfl | rfl | rfl | rfl <;> exact ⟨by dsimp only; omega, rfl, by simp⟩
    · have hl := libs_upd (j := j) D ⟨.at next, m₂, 0⟩ hi
      have h1 : (WTag.at next).isLib = 0 := rfl
      simp only at hl
      have hdn : ∀ p, X.Done p w → X.Done p ((w.at d).setChan X.Cp 0 #[] false (s + 1) (r + 1) false) := fun p hp => hx.doneOf p _ _ (hn2 _ hx.m2) hp
      refine ⟨by omega, fun p hp => (by simp only [if_neg (show p ≠ next by omega)]; exact h.pl.asgN p (by omega)), fun k hk p hp => ?_, fun p hp => ?_, fun p hp => (by have := h.pl.fbok p hp; exact ⟨by omega, this.2⟩), (by have := h.pl.room; omega), fun _ => (by have := h.pl.room' rfl; omega),
        ⟨fun x => (by simp [MTag.left] at x), fun _ e1 => (by cases e1; rfl), fun _ e1 => (by cases e1), fun _ e1 => (by cases e1)⟩, fun e1 => (by cases e1), fun _ e1 => (by cases e1)⟩
      · by_cases e1 : k = i
        · subst e1; rw [upd_same] at hp; cases hp; exact ⟨by simp, by omega⟩
        · rw [upd_ne D _ e1] at hp
          obtain ⟨h3, h4⟩ := h.pl.tagAt k hk p hp
          exact ⟨by simp only [if_neg (show p ≠ next by omega)]; exact h3, by omega⟩
      · by_cases e2 : p = next
        · subst e2; exact .inl ⟨i, hi, by rw [upd_same]⟩
        · rcases h.pl.fin p (by omega) with ⟨k, hk, hkp⟩ | ⟨h2, h3⟩
          · by_cases e1 : k = i
            · subst e1; rw [hprk] at hkp; cases hkp
            · exact .inl ⟨k, hk, by rw [upd_ne D _ e1]; exact hkp⟩
          · exact .inr ⟨hdn p h2, fun hb => (h3 hb).imp id fun e1 => by cases e1⟩
  · -- one that was found is told
    obtain ⟨p, fb', rfl⟩ : ∃ p fb', fb = p :: fb' := by
      cases fb with
      | nil => simp at hbuf
      | cons p fb' => exact ⟨p, fb', rfl⟩
    obtain ⟨hp1, hp2⟩ := h.pl.fbok p (by simp)
    obtain ⟨hK, hn1, hn2⟩ := chan_turn hx (cap' := X.n) (buf' := (fb'.map ival).toArray) (cl' := false) (s' := s') (r' := r' + 1) (.inr (.inr rfl)) hcf d
    obtain ⟨m₁, hm₁⟩ := hx.handGot next a _ p (hx.handRely _ _ _ _ hh hK) (by have := h.pl.nextM; omega)
    have hext : (((p :: fb').map ival).toArray).extract 1 (((p :: fb').map ival).toArray).size = (fb'.map ival).toArray := by
      simp
      rw [List.take_of_length_le (by simp)]
    have hget : (((p :: fb').map ival).toArray).getD 0 undef = .int .i64 p := by simp [ival]
    rw [hext, hget] at hrun
    refine ⟨_, _, mu X e j D q (.shut p) m₁ next, hrun, ?_, j, D, q, .shut p, m₁, 0, next, fb', asg, st, sm, _, _, sl, rfl,
      h.comm0 hx (by simp) ⟨a.finishComm X.P (hc X next) .select ((1 : Nat) : Int) (.int .i64 p) true, by rw [Array.getElem?_setIfInBounds_self_of_lt hlt0]; rfl, .shut hm₁⟩ (fun k k0 => by rw [Array.getElem?_setIfInBounds_ne (Ne.symm k0)]) hK (silentQ fun op hop => ?_) (hn2 _ (Ne.symm hx.d3)) rfl rfl rfl (by rw [hn2 _ hx.d5]; exact h.cp) (hn2 _ hx.d6) ⟨_, _, hn1⟩ ?_, rfl⟩
    · unfold mu
      exact Prod.Lex.left _ _ (by simp only [MTag.phi]; omega)
    · simp [ofEvents_nil] at hop
      rcases hop with rfl | rfl <;> exact ⟨by dsimp only; omega, rfl, by simp⟩
    · refine ⟨h.pl.nextM, h.pl.asgN, h.pl.tagAt, fun p' hp' => (h.pl.fin p' hp').imp id fun y => ⟨hx.doneOf p' _ _ (hn2 _ hx.m4) y.1, fun hb => ?_⟩, fun p' hp' => h.pl.fbok p' (by simp [hp']), (by have := h.pl.room; simp only [List.length_cons] at this; omega), fun e1 => (by cases e1),
        ⟨fun x => (by simp [MTag.left] at x), fun _ e1 => (by cases e1), fun _ e1 => (by cases e1), fun l e1 => (by cases e1; exact .inr ⟨hp1, hp2⟩)⟩, fun e1 => (by cases e1), fun _ e1 => (by cases e1)⟩
      rcases y.2 hb with h4 | h4
      · simp only [List.mem_cons] at h4
        rcases h4 with rfl | h4
        · exact .inr rfl
        · exact .inl h4
      · cases h4
  · -- it waits
    have hfb : fb = [] := by
      cases fb with
      | nil => rfl
      | cons => simp at hbuf
    subst hfb
    refine ⟨_, _, mu X e j D q (.hblk next) 0 next, hrun, ?_, j, D, q, .hblk next, 0, 0, next, [], asg, st, sm, _, w, sl, rfl,
      h.comm0 hx (by simp) ⟨parked a (hc X next) .select, by rw [Array.getElem?_setIfInBounds_self_of_lt hlt0]; rfl, .hblk hh⟩ (fun k k0 => by rw [Array.getElem?_setIfInBounds_ne (Ne.symm k0)]) (.refl w) (fun op hop => by simp [ofEvents_nil] at hop) rfl rfl rfl rfl h.cp rfl h.cf ?_, rfl⟩
    · unfold mu
      refine Prod.Lex.right _ ?_
      omega
    · refine ⟨h.pl.nextM, h.pl.asgN, h.pl.tagAt, h.pl.fin, h.pl.fbok, h.pl.room, h.pl.room', ⟨fun x => (by simp [MTag.left] at x), fun _ e1 => (by cases e1), fun _ e1 => (by cases e1; exact ⟨rfl, hz, rfl⟩), fun l e1 => (by cases e1)⟩, fun e1 => (by cases e1), fun _ _ k hk hp => ?_⟩
      obtain ⟨g, hg, hws⟩ := h.wk k hk
      rcases hws.status hx with ⟨_, h2⟩ | ⟨_, h2⟩ | ⟨_, g₀, rfl, _⟩
      · exact h2 hp
      · rw [hp] at h2; cases h2
      · have : (e + k, 0) ∈ partners (gs.setIfInBounds 0 ph) X.Cp false := mem_partners.2 ⟨_, stand_get (by omega) hg, by rw [(offers_pc g₀ hx).1]; simp⟩
        rw [hnone] at this; cases this

def wake (d : WDat) : WDat := match d.tag with
  | .prk => ⟨.sel, 1, d.deaf⟩
  | _ => d
theorem wake_prk {d : WDat} (h : d.tag = .prk) : wake d = ⟨.sel, 1, d.deaf⟩ := by simp [wake, h]
theorem wake_ne {d : WDat} (h : d.tag ≠ .prk) : wake d = d := by
  unfold wake
  split
  · exact absurd ‹_› h
  · rfl
theorem wake_rank (d : WDat) : (wake d).tag.rank = d.tag.rank ∧ (wake d).tag.stage = d.tag.stage ∧ (wake d).tag.isLib = d.tag.isLib ∧ (wake d).deaf = d.deaf ∧ (∀ p, (wake d).tag = .at p ↔ d.tag = .at p) := by
  unfold wake
  cases hd : d.tag <;> simp [hd, WTag.rank, WTag.stage, WTag.isLib]

/-- The starter gives the word to stop. -/
theorem St.closeStep (hx : Laws X) (h : St X e j D q tag f0 d0 next fb asg st sm gs w t) {a : Goroutine} {l : Nat} (ha : gs[0]? = some a) (hh : X.Shut l a w) (hd0 : d0 = 0) (h1 : tag.closed = false) (h2 : tag.left = 0) (h3 : tag.c = .kd) (h4 : 8 * X.n + 9 ≤ tag.phi X.n (Vc j (wdD D)))
    (h5 : (l = X.M ∧ next = X.M) ∨ (l < next ∧ X.b l = true)) (h6 : ∀ p, tag.least = some p → p = l) : Steps1 X e (mu X e j D q tag f0 next) gs w sl t 0 := by
  subst hd0
  have hpos := h.pos
  obtain ⟨s, r, hcs⟩ := h.cs
  rw [h1] at hcs
  obtain ⟨_, hmw, g', hg'r, hgo, m, hk⟩ := hx.shut l a w s r hh hcs
  obtain ⟨hK, hn1, hn2⟩ := chan_turn hx (cap' := 0) (buf' := #[]) (cl' := true) (s' := s) (r' := r) (.inr (.inl rfl)) hcs w.drawn
  have hw0 : (w.at w.drawn) = w := rfl
  rw [hw0] at hK hn1 hn2
  have hrun := runT_crowd_go (P := X.P) (sl := sl) (i := 0) ha hgo
  have hwk : ∀ o : Goroutine, woken X.P a g' (w.setChan X.Cs 0 #[] true s r false) o = o.again (w.setChan X.Cs 0 #[] true s r false) := fun o => by simp [woken, hmw, hg'r]
  have hok : ∀ op ∈ MemOp.ofEvents 0 a.frame.fn a.frame.place #[(⟨.obj X.Cs, false, true⟩ : Event), ⟨.obj X.Cs, true, true⟩], Ok0 X.L op := by
    intro op hop
    rw [ofEvents_eq] at hop
    obtain ⟨ev, hev, rfl⟩ := Array.mem_map.1 hop
    simp only [List.mem_toArray, List.mem_cons, List.not_mem_nil, or_false] at hev
    rcases hev with rfl | rfl
    · refine ⟨rfl, fun x hxx => ?_, fun b hm => (by cases hm)⟩
      simp only [MemAct.ofEvent, MemAct.touch?, Option.some.injEq] at hxx
      subst hxx
      refine .inr ⟨fun hs => ?_, fun hs => ?_, fun p hs => ?_, rfl⟩
      · obtain ⟨_, e1, _⟩ := (hx.shWg _).1 hs; cases e1
      · obtain ⟨_, e1⟩ := hx.shunCell _ hs; cases e1
      · obtain ⟨_, e1⟩ := hx.ownCell p _ hs; cases e1
    · exact ⟨rfl, fun x hxx => (by cases hxx), fun b hm => (by cases hm)⟩
  have hgs : ∀ op ∈ MemOp.ofEvents 0 a.frame.fn a.frame.place #[(⟨.obj X.Cs, false, true⟩ : Event), ⟨.obj X.Cs, true, true⟩], op.g = 0 := fun op hop => (hok op hop).1
  have old : ∀ k, k ≠ 0 → ∀ y, gs[k]? = some y → ((gs.map (woken X.P a g' (w.setChan X.Cs 0 #[] true s r false))).setIfInBounds 0 g')[k]? = some (woken X.P a g' (w.setChan X.Cs 0 #[] true s r false) y) := fun k hk y hy => by rw [get_map_set _ _ _ _ (Ne.symm hk), hy]; rfl
  have eV : Vc j (wdD fun k => wake (D k)) = Vc j (wdD D) := sumTo_congr fun i _ => by
    show (if 5 ≤ (wake (D i)).tag.stage then 1 else 0) = (if 5 ≤ (D i).tag.stage then 1 else 0)
    rw [(wake_rank (D i)).2.1]
  have eR : ranks j (fun k => wake (D k)) = ranks j D := sumTo_congr fun i _ => (wake_rank (D i)).1
  have eL : libs j (fun k => wake (D k)) = libs j D := sumTo_congr fun i _ => (wake_rank (D i)).2.2.1
  have hdn : ∀ p, X.Done p w → X.Done p (w.setChan X.Cs 0 #[] true s r false) := fun p hp => hx.doneOf p _ _ (hn2 _ hx.m3) hp
  refine ⟨_, _, mu X e j (fun k => wake (D k)) q (.kd l) m next, hrun, ?_, j, (fun k => wake (D k)), q, .kd l, m, 0, next, fb, asg, st, sm, _, _, sl, rfl,
    ⟨h.pos, by simp [h.size], ⟨g', get_map_set_same _ _ _ (by rw [h.size]; omega), .kd hk⟩, fun k k0 ke => ?_, fun k hkj => ?_, by have := h.jn; rw [h2] at this; exact this, h.ct.app0 hx.apart h.pos hok, by rw [Deaf_own, h.deaf0]; rfl, fun k hkj => by rw [Deaf_other t (by omega) _ hgs, h.deafW k hkj, (wake_rank (D k)).2.2.2.1], fun k hkj hst => ?_,
      h.wg.of_block (hn2 _ (Ne.symm hx.d2)), ?_, by rw [hn2 _ hx.d4]; exact h.cp, ⟨_, _, hn1⟩, by rw [hn2 _ (Ne.symm hx.d6)]; exact h.cf, hK.q h.q,
      ⟨h.pl.nextM, h.pl.asgN, fun k hkj p hp => h.pl.tagAt k hkj p (((wake_rank (D k)).2.2.2.2 p).1 hp), fun p hp => ?_, h.pl.fbok, by rw [eL]; exact h.pl.room, fun e1 => (by cases e1), ⟨fun x => (by simp [MTag.left] at x), fun _ e1 => (by cases e1), fun _ e1 => (by cases e1), fun l' e1 => (by cases e1; exact h5)⟩, fun _ k hkj hp => ?_, fun _ e1 => (by cases e1)⟩, h.base.trans hK⟩, rfl⟩
  · unfold mu
    have e9 : (MTag.kd l).phi X.n (Vc j (wdD D)) = 8 * X.n + 8 := rfl
    rw [eV, eR, e9]
    exact Prod.Lex.left _ _ (by omega)
  · obtain ⟨y, hy, hq⟩ := h.old k k0 ke
    exact ⟨_, old k (by omega) y hy, by rw [woken_quitsD hq, Deaf_other t (by omega) _ hgs]; exact hq⟩
  · obtain ⟨y, hy, hwy⟩ := h.wk k hkj
    refine ⟨_, old (e + k) (by omega) y hy, ?_⟩
    by_cases hp : (D k).tag = .prk
    · have e2 := wake_prk hp
      generalize hdk : D k = dk at hp hwy e2 ⊢
      obtain ⟨tg, fl, df⟩ := dk
      simp only at hp
      subst hp
      cases hwy with
      | prk hsel =>
        rw [e2, hwk, again_some_closed (k := 1) (c := X.Cs) (z := X.zs) rfl hn1]
        exact .woke (hx.selRely _ _ _ hsel hK)
    · rw [wake_ne hp, hwy.woken hx (w' := w.setChan X.Cs 0 #[] true s r false) fun e2 => absurd e2 hp]
      exact hwy.rely hx hK
  · rw [(wake_rank (D k)).2.1] at hst
    obtain ⟨r, hr⟩ := h.rel k hkj hst
    exact ⟨r, hr.appOther hgs (by omega)⟩
  · have hm := h.mode
    rw [h3] at hm
    exact hm.congr fun i _ => by simp only [wdD, WDat.wd]; exact (wake_rank (D i)).2.1
  · rcases h.pl.fin p hp with ⟨k, hkj, hkp⟩ | ⟨x1, x2⟩
    · exact .inl ⟨k, hkj, ((wake_rank (D k)).2.2.2.2 p).2 hkp⟩
    · exact .inr ⟨hdn p x1, fun hb => (x2 hb).imp id fun e1 => by rw [h6 p e1]; rfl⟩
  · by_cases hp' : (D k).tag = .prk
    · simp only [wake_prk hp'] at hp; cases hp
    · simp only [wake_ne hp'] at hp; exact hp' hp
end
end Go.Proofs.Ytbckmkppmdfnnaa.Crew
