/- crew: a crew at work: what holds at every moment, and how a step that is its maker's own keeps it. -/
import Derived.Test.YtbckmkppmdfnnaaCrS
import Derived.Test.YtbckmkppmdfnnaaCrC
namespace Go.Proofs.Ytbckmkppmdfnnaa.Crew
open Go.Conc Go.RowKit Go.Conc.Lib
open Go.ConcN (WgLive WD CTag sumTo upd sumTo_upd sumTo_congr upd_ne upd_same Vc cnt RelBy get_map_set get_map_set_same le_sumTo sumTo_le RelBy.appOther RelBy.appNot Deaf_absent)
open Go.ConcR (KK wgBlock WgAt stA smA rd wr mk Payload DC0 again_blocked g_of_ofEvents loc_of_ofEvent)

def ival (p : Nat) : Value := .int .i64 p
def TagOk (X : Cfg) (tag : MTag) (next : Nat) (fb : List Nat) : Prop :=
  (0 < tag.left → next = 0) ∧ (∀ i, tag = .hand i → next = i) ∧ (∀ i, tag = .hblk i → next = i ∧ i < X.M ∧ fb = []) ∧ (∀ l, tag.least = some l → (l = X.M ∧ next = X.M) ∨ (l < next ∧ X.b l = true))
def wdD (D : Nat → WDat) : Nat → WD := fun i => (D i).wd
def libs (j : Nat) (D : Nat → WDat) : Nat := sumTo j fun i => (D i).tag.isLib
def ranks (j : Nat) (D : Nat → WDat) : Nat := sumTo j fun i => (D i).tag.rank
def fuels (j : Nat) (D : Nat → WDat) : Nat := sumTo j fun i => (D i).fuel
theorem wdD_upd (D : Nat → WDat) (i : Nat) (x : WDat) : wdD (upd D i x) = upd (wdD D) i x.wd := by
  funext a
  unfold wdD upd
  split <;> rfl

/-- What hangs on the places alone. -/
structure Places (X : Cfg) (e j : Nat) (D : Nat → WDat) (tag : MTag) (next : Nat) (fb : List Nat) (asg : Nat → Option Nat) (w : World) : Prop where
  nextM : next ≤ X.M
  asgN : ∀ p, next ≤ p → asg p = none
  tagAt : ∀ i, i < j → ∀ p, (D i).tag = .at p → asg p = some (e + i) ∧ p < next
  fin : ∀ p, p < next → (∃ i, i < j ∧ (D i).tag = .at p) ∨ (X.Done p w ∧ (X.b p = true → p ∈ fb ∨ tag.least = some p))
  fbok : ∀ p ∈ fb, p < next ∧ X.b p = true
  room : fb.length ≤ libs j D
  room' : tag.least = none → libs j D = fb.length
  tagok : TagOk X tag next fb
  noprk : tag.closed = true → ∀ i, i < j → (D i).tag ≠ .prk
  hprk : ∀ i, tag = .hblk i → ∀ k, k < j → (D k).tag ≠ .prk

structure St (X : Cfg) (e j : Nat) (D : Nat → WDat) (q : Nat → Nat) (tag : MTag) (f0 d0 next : Nat) (fb : List Nat) (asg : Nat → Option Nat) (st sm : Int) (gs : Array Goroutine) (w : World) (t : Trace) : Prop where
  pos : 1 ≤ e
  size : gs.size = e + j
  main : ∃ a, gs[0]? = some a ∧ MS X tag f0 d0 a w
  old : ∀ i, 0 < i → i < e → ∃ g, gs[i]? = some g ∧ QuitsD X.P (q i) (Deaf t i) g
  wk : ∀ i, i < j → ∃ g, gs[e + i]? = some g ∧ WS X (D i).tag (D i).fuel (D i).deaf g w
  jn : j + tag.left = X.n
  ct : CTr X.L e j asg t
  deaf0 : Deaf t 0 = d0
  deafW : ∀ i, i < j → Deaf t (e + i) = (D i).deaf
  rel : ∀ i, i < j → (D i).tag.stage ≤ 6 → ∃ r, RelBy (stA X.Wg) t (e + i) r
  wg : WgAt X.ty X.Wg w st sm
  mode : Go.ConcN.Mode j (wdD D) tag.c st sm
  cp : ∃ s r, w.heap[X.Cp]? = some (.chan 0 #[] false s r false)
  cs : ∃ s r, w.heap[X.Cs]? = some (.chan 0 #[] tag.closed s r false)
  cf : ∃ s r, w.heap[X.Cf]? = some (.chan X.n (fb.map ival).toArray false s r false)
  q : X.Q w
  pl : Places X e j D tag next fb asg w
  base : K X X.w0 w

def mu (X : Cfg) (e j : Nat) (D : Nat → WDat) (q : Nat → Nat) (tag : MTag) (f0 next : Nat) : Nat × Nat :=
  (tag.phi X.n (Vc j (wdD D)) + ranks j D + 4 * (X.M - next), f0 + 2 * fuels j D + 2 * sumTo e q)
def Inv (X : Cfg) (e : Nat) (μ : Nat × Nat) (m : Machine) (t : Trace) : Prop :=
  ∃ j D q tag f0 d0 next fb asg st sm gs w sl, m = crowd gs w sl ∧ St X e j D q tag f0 d0 next fb asg st sm gs w t ∧ μ = mu X e j D q tag f0 next
/-- A step that goes on. -/
def Steps1 (X : Cfg) (e : Nat) (μ : Nat × Nat) (gs : Array Goroutine) (w : World) (sl : Option (Nat × Nat)) (t : Trace) (i : Nat) : Prop :=
  ∃ m₁ ops μ', runT X.P (crowd gs w sl) i = (.next m₁, ops) ∧ Lt2 μ' μ ∧ Inv X e μ' m₁ (t ++ ops)

section
variable {X : Cfg} {e j : Nat} {D : Nat → WDat} {q : Nat → Nat} {tag : MTag} {f0 d0 next : Nat} {fb : List Nat} {asg : Nat → Option Nat} {st sm : Int} {gs : Array Goroutine} {w w' : World} {t : Trace} {sl : Option (Nat × Nat)}

theorem woken_prk {a a' g₀ : Goroutine} {s r s' r' : Nat} (h1 : w'.heap[X.Cp]? = some (.chan 0 #[] false s r false)) (h2 : w'.heap[X.Cs]? = some (.chan 0 #[] false s' r' false)) : woken X.P a a' w' (parked g₀ (pc X) .select) = parked g₀ (pc X) .select := by
  unfold woken
  split
  · refine again_all_open fun cc hcc => ?_
    simp [pc] at hcc
    rcases hcc with rfl | rfl
    · exact ⟨_, _, _, _, _, _, _, rfl, h1⟩
    · exact ⟨_, _, _, _, _, _, _, rfl, h2⟩
  · rfl
theorem woken_hblk {a a' g₀ : Goroutine} {i n s r s' r' : Nat} {buf : Array Value} (h1 : w'.heap[X.Cp]? = some (.chan 0 #[] false s r false)) (h2 : w'.heap[X.Cf]? = some (.chan n buf false s' r' false)) : woken X.P a a' w' (parked g₀ (hc X i) .select) = parked g₀ (hc X i) .select := by
  unfold woken
  split
  · simp [Goroutine.again, parked, hc, scase, rcase, h1, h2]
  · rfl

theorem WS.woken (hx : Laws X) {tg : WTag} {f d : Nat} {g a a' : Goroutine} (h : WS X tg f d g w) (hp : tg = .prk → (∃ s r, w'.heap[X.Cp]? = some (.chan 0 #[] false s r false)) ∧ ∃ s r, w'.heap[X.Cs]? = some (.chan 0 #[] false s r false)) : woken X.P a a' w' g = g := by
  rcases h.status hx with ⟨hs, _⟩ | ⟨hs, _⟩ | ⟨he, g₀, rfl, _⟩
  · exact woken_running hs
  · unfold Go.Conc.woken
    split
    · exact again_running _ (.inr hs)
    · rfl
  · obtain ⟨⟨s, r, h1⟩, s', r', h2⟩ := hp he
    exact woken_prk h1 h2

theorem MS.wokenBy (hx : Laws X) {a : Goroutine} (h : MS X tag f0 d0 a w) (k : K X w w') {n : Nat} {buf : Array Value} (h1 : ∃ s r, w'.heap[X.Cp]? = some (.chan 0 #[] false s r false)) (h2 : ∃ s r, w'.heap[X.Cf]? = some (.chan n buf false s r false)) (g g' : Goroutine) :
    ∃ tag' f', MS X tag' f' d0 (woken X.P g g' w' a) w' ∧ f' ≤ f0 + 1 ∧ (tag' = tag ∨ ∃ l, tag = .blk l ∧ tag' = .w3 l) ∧ (mayWake X.P g = true → g'.status = .running → ∀ l, tag' ≠ .blk l) := by
  have h' := h.rely hx k
  rcases h'.status hx with ⟨hs, hne⟩ | ⟨hs, hb⟩
  · exact ⟨tag, f0, by rw [woken_running hs]; exact h', by omega, .inl rfl, fun _ _ l e => hne (by rw [e]; trivial)⟩
  · cases h' with
    | hblk hh =>
      obtain ⟨s, r, h1⟩ := h1
      obtain ⟨s', r', h2⟩ := h2
      exact ⟨_, _, by rw [woken_hblk h1 h2]; exact .hblk hh, by omega, .inl rfl, fun _ _ l e => by cases e⟩
    | blk hh =>
      unfold Go.Conc.woken
      split
      · have h3 := hh w' (.refl w')
        exact ⟨_, 0 + 1, by rw [again_blocked h3.1 h3.2.1]; exact .w3 (Goes.stop hh), by omega, .inr ⟨_, rfl, rfl⟩, fun _ _ l e => by cases e⟩
      · rename_i hcc
        exact ⟨_, _, .blk hh, by omega, .inl rfl, fun h1 h2 => absurd (by simp [h1, h2]) hcc⟩
    | _ => exact hb.elim

theorem retag_least {tag' : MTag} (h : tag' = tag ∨ ∃ l, tag = .blk l ∧ tag' = .w3 l) : tag'.least = tag.least ∧ tag'.left = tag.left ∧ tag'.closed = tag.closed ∧ (∀ n v, tag'.phi n v = tag.phi n v) ∧ (∀ i, tag' = .hand i → tag = .hand i) ∧ (∀ i, tag' = .hblk i → tag = .hblk i) := by
  rcases h with rfl | ⟨l, rfl, rfl⟩
  · exact ⟨rfl, rfl, rfl, fun _ _ => rfl, fun _ h => h, fun _ h => h⟩
  · exact ⟨rfl, rfl, rfl, fun _ _ => rfl, fun _ h => (by cases h), fun _ h => (by cases h)⟩
theorem TagOk.retag {tag' : MTag} (h : TagOk X tag next fb) (ht : tag' = tag ∨ ∃ l, tag = .blk l ∧ tag' = .w3 l) : TagOk X tag' next fb := by
  obtain ⟨e1, e2, _, _, e4, e5⟩ := retag_least ht
  exact ⟨fun x => h.1 (e2 ▸ x), fun i x => h.2.1 i (e4 i x), fun i x => h.2.2.1 i (e5 i x), fun l x => h.2.2.2 l (e1 ▸ x)⟩
theorem phi_le (n : Nat) {v v' : Nat} (h : v' ≤ v) (tag : MTag) : tag.phi n v' ≤ tag.phi n v := by
  cases tag <;> simp only [MTag.phi] <;> omega
theorem Vc_upd' {i : Nat} (D : Nat → WDat) (x : WDat) (hi : i < j) : Vc j (wdD (upd D i x)) + cnt (D i).wd = Vc j (wdD D) + cnt x.wd := by
  rw [wdD_upd]; exact sumTo_upd (wdD D) x.wd cnt hi
theorem ranks_upd {i : Nat} (D : Nat → WDat) (x : WDat) (hi : i < j) : ranks j (upd D i x) + (D i).tag.rank = ranks j D + x.tag.rank := sumTo_upd D x (fun d => d.tag.rank) hi
theorem fuels_upd {i : Nat} (D : Nat → WDat) (x : WDat) (hi : i < j) : fuels j (upd D i x) + (D i).fuel = fuels j D + x.fuel := sumTo_upd D x (fun d => d.fuel) hi
theorem libs_upd {i : Nat} (D : Nat → WDat) (x : WDat) (hi : i < j) : libs j (upd D i x) + (D i).tag.isLib = libs j D + x.tag.isLib := sumTo_upd D x (fun d => d.tag.isLib) hi

theorem St.at (hx : Laws X) (h : St X e j D q tag f0 d0 next fb asg st sm gs w t) (d : Nat) : St X e j D q tag f0 d0 next fb asg st sm gs (w.at d) t :=
  ⟨h.pos, h.size, let ⟨a, h1, h2⟩ := h.main; ⟨a, h1, h2.rely hx (.at w d hx)⟩, h.old, fun i hi => let ⟨g, h1, h2⟩ := h.wk i hi; ⟨g, h1, h2.rely hx (.at w d hx)⟩, h.jn, h.ct, h.deaf0, h.deafW, h.rel, h.wg, h.mode, h.cp, h.cs, h.cf, hx.qOf w (w.at d) rfl h.q,
   ⟨h.pl.nextM, h.pl.asgN, h.pl.tagAt, fun p hp => (h.pl.fin p hp).imp id fun x => ⟨hx.doneOf p w (w.at d) rfl x.1, x.2⟩, h.pl.fbok, h.pl.room, h.pl.room', h.pl.tagok, h.pl.noprk, h.pl.hprk⟩, h.base.trans (.at w d hx)⟩

theorem ok_gs {i : Nat} {asg' : Nat → Option Nat} {u : Trace} (hu : ∀ op ∈ u, OkW X.L asg' i op) : ∀ op ∈ u, op.g = i := fun op hop => (hu op hop).1

/-- A step of worker i's own. -/
theorem St.workGo (hx : Laws X) (h : St X e j D q tag f0 d0 next fb asg st sm gs w t) {i : Nat} (hi : i < j) {g g' : Goroutine} {es : Array Event} {x : WDat} {st' sm' : Int}
    (hg : gs[e + i]? = some g) (hgo : stepG X.P false g w = .go g' w' es) (hK : K X w w') (hWS : WS X x.tag x.fuel x.deaf g' w')
    (hok : ∀ op ∈ MemOp.ofEvents (e + i) g.frame.fn g.frame.place es, OkW X.L asg (e + i) op) (hdeaf : deafBehind (D i).deaf es = x.deaf)
    (hrel : x.tag.stage ≤ 6 → ∃ r, RelBy (stA X.Wg) (t ++ MemOp.ofEvents (e + i) g.frame.fn g.frame.place es) (e + i) r) (hwg : WgAt X.ty X.Wg w' st' sm')
    (hmode : ∀ tag', (tag' = tag ∨ ∃ l, tag = .blk l ∧ tag' = .w3 l) → (mayWake X.P g = true → g'.status = .running → ∀ l, tag' ≠ .blk l) → Go.ConcN.Mode j (wdD (upd D i x)) tag'.c st' sm')
    (hp : w'.heap[X.Cp]? = w.heap[X.Cp]?) (hs : w'.heap[X.Cs]? = w.heap[X.Cs]?) (hf : w'.heap[X.Cf]? = w.heap[X.Cf]?)
    (htag : x.tag = (D i).tag ∨ ∃ s s', (D i).tag = .lib s ∧ x.tag = .lib s') (hnp : (D i).tag ≠ .prk) (hdone : ∀ p, (D i).tag ≠ .at p → X.Done p w → X.Done p w')
    (hlt : (x.tag.rank < (D i).tag.rank ∧ cnt x.wd ≤ cnt (D i).wd) ∨ (x.tag.rank = (D i).tag.rank ∧ x.tag.stage = (D i).tag.stage ∧ x.fuel < (D i).fuel)) :
    Steps1 X e (mu X e j D q tag f0 next) gs w sl t (e + i) := by
  obtain ⟨a, ha, hm⟩ := h.main
  have hcp : ∃ s r, w'.heap[X.Cp]? = some (.chan 0 #[] false s r false) := by rw [hp]; exact h.cp
  have hcs : ∃ s r, w'.heap[X.Cs]? = some (.chan 0 #[] tag.closed s r false) := by rw [hs]; exact h.cs
  have hcf : ∃ s r, w'.heap[X.Cf]? = some (.chan X.n (fb.map ival).toArray false s r false) := by rw [hf]; exact h.cf
  obtain ⟨tag', f', hm', hf', ht', hwk⟩ := hm.wokenBy hx hK hcp hcf g g'
  obtain ⟨t1, t2, t3, t4, t5, t6⟩ := retag_least ht'
  have hpos := h.pos
  have hei : (e + i == 0) = false := by simp; omega
  have hrun := runT_crowd_go (P := X.P) (sl := sl) (i := e + i) hg (by rw [hei]; exact hgo)
  have hgs : ∀ op ∈ MemOp.ofEvents (e + i) g.frame.fn g.frame.place es, op.g = e + i := fun op hop => (hok op hop).1
  have v1 := Vc_upd' (j := j) D x hi
  have v2 := ranks_upd (j := j) D x hi
  have v3 := fuels_upd (j := j) D x hi
  have v4 := libs_upd (j := j) D x hi
  have hlib : x.tag.isLib = (D i).tag.isLib := by
    rcases htag with e1 | ⟨s, s', e1, e2⟩
    · rw [e1]
    · rw [e1, e2]; rfl
  have hat : ∀ p, x.tag = .at p ↔ (D i).tag = .at p := by
    intro p
    rcases htag with e1 | ⟨s, s', e1, e2⟩
    · rw [e1]
    · rw [e1, e2]; simp
  have hprk' : x.tag ≠ .prk := by
    rcases htag with e1 | ⟨s, s', e1, e2⟩
    · rw [e1]; exact hnp
    · rw [e2]; simp
  have old : ∀ k, k ≠ e + i → ∀ y, gs[k]? = some y → ((gs.map (woken X.P g g' w')).setIfInBounds (e + i) g')[k]? = some (woken X.P g g' w' y) := fun k hk y hy => by rw [get_map_set _ _ _ _ (Ne.symm hk), hy]; rfl
  refine ⟨_, _, mu X e j (upd D i x) q tag' f' next, hrun, ?_, j, upd D i x, q, tag', f', d0, next, fb, asg, st', sm', _, w', sl, rfl, ⟨h.pos, by simp [h.size], ⟨_, old 0 (by omega) a ha, hm'⟩, fun k k0 ke => ?_, fun k hk => ?_, by rw [t2]; exact h.jn,
    h.ct.appW hx.apart (by omega) (by omega) hok, by rw [Deaf_other t (by omega) _ hgs]; exact h.deaf0, fun k hk => ?_, fun k hk hst => ?_, hwg, hmode tag' ht' hwk, hcp, by rw [t3]; exact hcs, hcf, hK.q h.q,
    ⟨h.pl.nextM, h.pl.asgN, fun k hk p hp => ?_, fun p hp => ?_, h.pl.fbok, by have := h.pl.room; omega, fun e1 => by have := h.pl.room' (t1 ▸ e1); omega, h.pl.tagok.retag ht', fun e1 k hk => ?_, fun z e1 k hk => ?_⟩, h.base.trans hK⟩, rfl⟩
  · unfold mu
    rw [t4]
    rcases hlt with ⟨h1, h2⟩ | ⟨h1, h2, h3⟩
    · refine Prod.Lex.left _ _ ?_
      have := phi_le X.n (v' := Vc j (wdD (upd D i x))) (v := Vc j (wdD D)) (by omega) tag
      omega
    · have ec : cnt x.wd = cnt (D i).wd := by
        show (if 5 ≤ x.tag.stage then 1 else 0) = (if 5 ≤ (D i).tag.stage then 1 else 0)
        rw [h2]
      have ev : Vc j (wdD (upd D i x)) = Vc j (wdD D) := by omega
      have er : ranks j (upd D i x) = ranks j D := by omega
      rw [ev, er]
      refine Prod.Lex.right _ ?_
      omega
  · obtain ⟨y, hy, hq⟩ := h.old k k0 ke
    exact ⟨_, old k (by omega) y hy, by rw [woken_quitsD hq, Deaf_other t (by omega) _ hgs]; exact hq⟩
  · by_cases e1 : k = i
    · subst e1
      exact ⟨g', get_map_set_same _ _ _ (by rw [h.size]; omega), by rw [upd_same]; exact hWS⟩
    · obtain ⟨y, hy, hwy⟩ := h.wk k hk
      refine ⟨_, old (e + k) (by omega) y hy, ?_⟩
      rw [upd_ne D x e1, hwy.woken hx (w' := w') fun e2 => ⟨hcp, ?_⟩]
      · exact hwy.rely hx hK
      · have : tag.closed = false := by
          cases ec : tag.closed with
          | false => rfl
          | true => exact absurd e2 (h.pl.noprk ec k hk)
        rw [this] at hcs; exact hcs
  · by_cases e1 : k = i
    · subst e1; rw [Deaf_own, h.deafW k hk, upd_same]; exact hdeaf
    · rw [Deaf_other t (by omega) _ hgs, h.deafW k hk, upd_ne D x e1]
  · by_cases e1 : k = i
    · subst e1; rw [upd_same] at hst; exact hrel hst
    · rw [upd_ne D x e1] at hst
      obtain ⟨r, hr⟩ := h.rel k hk hst
      exact ⟨r, hr.appOther hgs (by omega)⟩
  · by_cases e1 : k = i
    · subst e1; rw [upd_same] at hp; exact h.pl.tagAt k hk p ((hat p).1 hp)
    · rw [upd_ne D x e1] at hp; exact h.pl.tagAt k hk p hp
  · rcases h.pl.fin p hp with ⟨k, hk, hkp⟩ | ⟨h1, h2⟩
    · refine .inl ⟨k, hk, ?_⟩
      by_cases e1 : k = i
      · subst e1; rw [upd_same]; exact (hat p).2 hkp
      · rw [upd_ne D x e1]; exact hkp
    · by_cases e1 : (D i).tag = .at p
      · exact .inl ⟨i, hi, by rw [upd_same]; exact (hat p).2 e1⟩
      · exact .inr ⟨hdone p e1 h1, fun hb => by rw [t1]; exact h2 hb⟩
  · by_cases e2 : k = i
    · subst e2; rw [upd_same]; exact hprk'
    · rw [upd_ne D x e2]; exact h.pl.noprk (t3 ▸ e1) k hk
  · by_cases e2 : k = i
    · subst e2; rw [upd_same]; exact hprk'
    · rw [upd_ne D x e2]; exact h.pl.hprk z (t6 z e1) k hk

/-- A step of the starter's own, that closes nothing. -/
theorem St.mainGo (hx : Laws X) (h : St X e j D q tag f0 d0 next fb asg st sm gs w t) {a a' : Goroutine} {es : Array Event} {tag' : MTag} {f' : Nat} {st' sm' : Int} {l : Nat}
    (ha : gs[0]? = some a) (hgo : stepG X.P true a w = .go a' w' es) (hK : K X w w') (hMS : MS X tag' f' l a' w')
    (hok : ∀ op ∈ MemOp.ofEvents 0 a.frame.fn a.frame.place es, Ok0 X.L op) (hdeaf : deafBehind d0 es = l) (hwg : WgAt X.ty X.Wg w' st' sm') (hmode : Go.ConcN.Mode j (wdD D) tag'.c st' sm')
    (hp : w'.heap[X.Cp]? = w.heap[X.Cp]?) (hs : w'.heap[X.Cs]? = w.heap[X.Cs]?) (hf : w'.heap[X.Cf]? = w.heap[X.Cf]?) (hk : w'.heap[X.Mk]? = w.heap[X.Mk]?)
    (t1 : tag'.least = tag.least) (t2 : tag'.left = tag.left) (t3 : tag'.closed = tag.closed) (tok : TagOk X tag' next fb) (tnb : ∀ i, tag' ≠ .hblk i)
    (hlt : tag'.phi X.n (Vc j (wdD D)) < tag.phi X.n (Vc j (wdD D)) ∨ (tag'.phi X.n (Vc j (wdD D)) = tag.phi X.n (Vc j (wdD D)) ∧ f' < f0)) :
    Steps1 X e (mu X e j D q tag f0 next) gs w sl t 0 := by
  have hcp : ∃ s r, w'.heap[X.Cp]? = some (.chan 0 #[] false s r false) := by rw [hp]; exact h.cp
  have hcs : ∃ s r, w'.heap[X.Cs]? = some (.chan 0 #[] tag.closed s r false) := by rw [hs]; exact h.cs
  have hcf : ∃ s r, w'.heap[X.Cf]? = some (.chan X.n (fb.map ival).toArray false s r false) := by rw [hf]; exact h.cf
  have hpos := h.pos
  have hrun := runT_crowd_go (P := X.P) (sl := sl) (i := 0) ha hgo
  have hgs : ∀ op ∈ MemOp.ofEvents 0 a.frame.fn a.frame.place es, op.g = 0 := fun op hop => (hok op hop).1
  have old : ∀ k, k ≠ 0 → ∀ y, gs[k]? = some y → ((gs.map (woken X.P a a' w')).setIfInBounds 0 a')[k]? = some (woken X.P a a' w' y) := fun k hk y hy => by rw [get_map_set _ _ _ _ (Ne.symm hk), hy]; rfl
  refine ⟨_, _, mu X e j D q tag' f' next, hrun, ?_, j, D, q, tag', f', l, next, fb, asg, st', sm', _, w', sl, rfl, ⟨h.pos, by simp [h.size], ⟨a', get_map_set_same _ _ _ (by rw [h.size]; omega), hMS⟩, fun k k0 ke => ?_, fun k hk => ?_, by rw [t2]; exact h.jn,
    h.ct.app0 hx.apart h.pos hok, by rw [Deaf_own, h.deaf0]; exact hdeaf, fun k hk => by rw [Deaf_other t (by omega) _ hgs]; exact h.deafW k hk, fun k hk hst => ?_, hwg, hmode, hcp, by rw [t3]; exact hcs, hcf, hK.q h.q,
    ⟨h.pl.nextM, h.pl.asgN, h.pl.tagAt, fun p hp => (h.pl.fin p hp).imp id fun y => ⟨hx.doneOf _ _ _ hk y.1, by rw [t1]; exact y.2⟩, h.pl.fbok, h.pl.room, by rw [t1]; exact h.pl.room', tok, by rw [t3]; exact h.pl.noprk, fun i e1 => absurd e1 (tnb i)⟩, h.base.trans hK⟩, rfl⟩
  · unfold mu
    rcases hlt with h1 | ⟨h1, h2⟩
    · exact Prod.Lex.left _ _ (by omega)
    · rw [h1]; exact Prod.Lex.right _ (by omega)
  · obtain ⟨y, hy, hq⟩ := h.old k k0 ke
    exact ⟨_, old k (by omega) y hy, by rw [woken_quitsD hq, Deaf_other t (by omega) _ hgs]; exact hq⟩
  · obtain ⟨y, hy, hwy⟩ := h.wk k hk
    refine ⟨_, old (e + k) (by omega) y hy, ?_⟩
    rw [hwy.woken hx (w' := w') fun e2 => ⟨hcp, ?_⟩]
    · exact hwy.rely hx hK
    · have : tag.closed = false := by
        cases ec : tag.closed with
        | false => rfl
        | true => exact absurd e2 (h.pl.noprk ec k hk)
      rw [this] at hcs; exact hcs
  · obtain ⟨r, hr⟩ := h.rel k hk hst
    exact ⟨r, hr.appOther hgs (by omega)⟩

/-- One of the elder goroutines slips. -/
theorem St.elderGo (hx : Laws X) (h : St X e j D q tag f0 d0 next fb asg st sm gs w t) {i : Nat} (i0 : 0 < i) (ie : i < e) {g : Goroutine} (hg : gs[i]? = some g) (hgr : g.status = .running)
    (hm2 : ∀ tag', (tag' = tag ∨ ∃ l, tag = .blk l ∧ tag' = .w3 l) → Go.ConcN.Mode j (wdD D) tag'.c st sm) : Steps1 X e (mu X e j D q tag f0 next) gs w sl t i := by
  obtain ⟨a, ha, hm⟩ := h.main
  obtain ⟨g₁, hg₁, hq⟩ := h.old i i0 ie
  obtain rfl : g = g₁ := by rw [hg] at hg₁; exact Option.some.inj hg₁
  have hi0 : (i == 0) = false := by simp; omega
  cases hqi : q i with
  | zero => rw [hqi] at hq; rw [hq.1] at hgr; cases hgr
  | succ k =>
    rw [hqi] at hq
    rcases hq with ⟨hfi, _⟩ | ⟨_, g', es, hmute, hstp, hq'⟩
    · rw [hfi] at hgr; cases hgr
    obtain ⟨tag', f', hm', hf', ht', _⟩ := hm.wokenBy hx (.refl w) h.cp h.cf g g'
    obtain ⟨t1, t2, t3, t4, t5, t6⟩ := retag_least ht'
    have hrun := runT_crowd_go (P := X.P) (sl := sl) (i := i) hg (by rw [hi0]; exact hstp w)
    have hgs : ∀ op ∈ MemOp.ofEvents i g.frame.fn g.frame.place es, op.g = i := g_of_ofEvents
    have hn : ∀ op ∈ MemOp.ofEvents i g.frame.fn g.frame.place es, op.act.touch? = none ∧ op.g < e + j ∧ ∀ a, op.act ≠ .mark (.release a) := fun op hop => by
      rw [ofEvents_eq] at hop
      obtain ⟨ev, hev, rfl⟩ := Array.mem_map.1 hop
      refine ⟨touch_mute (hmute ev hev), by show i < e + j; omega, fun a ha => ?_⟩
      have := hmute ev hev
      have hl := loc_of_ofEvent ha
      obtain ⟨loc, wr, sy⟩ := ev
      simp only at hl
      subst hl
      simp [Event.mute] at this
    have old : ∀ b, b ≠ i → ∀ y, gs[b]? = some y → ((gs.map (woken X.P g g' w)).setIfInBounds i g')[b]? = some (woken X.P g g' w y) := fun b hb y hy => by rw [get_map_set _ _ _ _ (Ne.symm hb), hy]; rfl
    have hsum : sumTo e (upd q i k) + (k + 1) = sumTo e q + k := by
      have := sumTo_upd q k id ie
      simpa [hqi] using this
    refine ⟨_, _, mu X e j D (upd q i k) tag' f' next, hrun, ?_, j, D, upd q i k, tag', f', d0, next, fb, asg, st, sm, _, w, sl, rfl, ⟨h.pos, by simp [h.size], ⟨_, old 0 (by omega) a ha, hm'⟩, fun b b0 be => ?_, fun b hb => ?_, by rw [t2]; exact h.jn,
      h.ct.appN hn, by rw [Deaf_other t (by omega) _ hgs]; exact h.deaf0, fun b hb => by rw [Deaf_other t (by omega) _ hgs]; exact h.deafW b hb, fun b hb hst => ?_, h.wg, hm2 tag' ht', h.cp, by rw [t3]; exact h.cs, h.cf, h.q,
      ⟨h.pl.nextM, h.pl.asgN, h.pl.tagAt, fun p hp => (h.pl.fin p hp).imp id fun y => ⟨y.1, by rw [t1]; exact y.2⟩, h.pl.fbok, h.pl.room, by rw [t1]; exact h.pl.room', h.pl.tagok.retag ht', by rw [t3]; exact h.pl.noprk, fun z e1 => h.pl.hprk z (t6 z e1)⟩, h.base⟩, rfl⟩
    · unfold mu
      rw [t4]
      refine Prod.Lex.right _ ?_
      omega
    · by_cases e1 : b = i
      · subst e1
        exact ⟨g', get_map_set_same _ _ _ (by rw [h.size]; omega), by rw [upd_same, Deaf_own]; exact hq'⟩
      · obtain ⟨y, hy, hqy⟩ := h.old b b0 be
        exact ⟨_, old b e1 y hy, by rw [woken_quitsD hqy, Deaf_other t (Ne.symm e1) _ hgs, upd_ne q k e1]; exact hqy⟩
    · obtain ⟨y, hy, hwy⟩ := h.wk b hb
      refine ⟨_, old (e + b) (by omega) y hy, ?_⟩
      rw [hwy.woken hx (w' := w) fun e2 => ⟨h.cp, ?_⟩]
      · exact hwy
      · have : tag.closed = false := by
          cases ec : tag.closed with
          | false => rfl
          | true => exact absurd e2 (h.pl.noprk ec b hb)
        have hcs := h.cs
        rw [this] at hcs; exact hcs
    · obtain ⟨r, hr⟩ := h.rel b hb hst
      exact ⟨r, hr.appOther hgs (by omega)⟩
end
end Go.Proofs.Ytbckmkppmdfnnaa.Crew
