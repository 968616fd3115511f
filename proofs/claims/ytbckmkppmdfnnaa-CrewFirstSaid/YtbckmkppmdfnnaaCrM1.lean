/- crew: a crew at work: what holds at every moment, and how a step that is its maker's own keeps it. -/
import Derived.Test.YtbckmkppmdfnnaaCrS
import Derived.Test.YtbckmkppmdfnnaaCrC
namespace Go.Proofs.Ytbckmkppmdfnnaa.Crew
open Go.Conc Go.RowKit Go.Conc.Lib
open Go.ConcN (WgLive WD CTag sumTo upd sumTo_upd sumTo_congr upd_ne upd_same Vc cnt RelBy get_map_set get_map_set_same le_sumTo sumTo_le RelBy.appOther RelBy.appNot Deaf_absent)
open Go.ConcR (KK wgBlock WgAt stA smA rd wr mk Payload DC0 again_blocked g_of_ofEvents loc_of_ofEvent)

def ival (p : Nat) : Value := .int .i64 p
def TagOk (X : Cfg) (tag : MTag) (next : Nat) (fb : List Nat) : Prop :=
  (0 < tag.left → next = 0) ∧ (∀ i, tag = .hand i → next = i) ∧ (∀ i, tag = .hblk i → next = i ∧ i < X.M ∧ fb = []) ∧ (∀ l, tag.least = some l → (l = X.M ∧ next = X.M) ∨ (l < next ∧ X.b l = true))
def wdD (D : Nat → WDat) : Nat → WD := fun i => (D i).wd
def libs (j : Nat) (D : Nat → WDat) : Nat := sumTo j fun i => (D i).tag.isLib
def ranks (j : Nat) (D : Nat → WDat) : Nat := sumTo j fun i => (D i).tag.rank
def fuels (j : Nat) (D : Nat → WDat) : Nat := sumTo j fun i => (D i).fuel
theorem wdD_upd (D : Nat → WDat) (i : Nat) (x : WDat) : wdD (upd D i x) = upd (wdD D) i x.wd := by
  funext a
  unfold wdD upd
  split <;> rfl

/-- What hangs on the places alone. -/
structure Places (X : Cfg) (e j : Nat) (D : Nat → WDat) (tag : MTag) (next : Nat) (fb : List Nat) (asg : Nat → Option Nat) (w : World) : Prop where
  nextM : next ≤ X.M
  asgN : ∀ p, next ≤ p → asg p = none
  tagAt : ∀ i, i < j → ∀ p, (D i).tag = .at p → asg p = some (e + i) ∧ p < next
  fin : ∀ p, p < next → (∃ i, i < j ∧ (D i).tag = .at p) ∨ (X.Done p w ∧ (X.b p = true → p ∈ fb ∨ tag.least = some p))
  fbok : ∀ p ∈ fb, p < next ∧ X.b p = true
  room : fb.length ≤ libs j D
  room' : tag.least = none → libs j D = fb.length
  tagok : TagOk X tag next fb
  noprk : tag.closed = true → ∀ i, i < j → (D i).tag ≠ .prk
  hprk : ∀ i, tag = .hblk i → ∀ k, k < j → (D k).tag ≠ .prk

structure St (X : Cfg) (e j : Nat) (D : Nat → WDat) (q : Nat → Nat) (tag : MTag) (f0 d0 next : Nat) (fb : List Nat) (asg : Nat → Option Nat) (st sm : Int) (gs : Array Goroutine) (w : World) (t : Trace) : Prop where
  pos : 1 ≤ e
  size : gs.size = e + j
  main : ∃ a, gs[0]? = some a ∧ MS X tag f0 d0 a w
  old : ∀ i, 0 < i → i < e → ∃ g, gs[i]? = some g ∧ QuitsD X.P (q i) (Deaf t i) g
  wk : ∀ i, i < j → ∃ g, gs[e + i]? = some g ∧ WS X (D i).tag (D i).fuel (D i).deaf g w
  jn : j + tag.left = X.n
  ct : CTr X.L e j asg t
  deaf0 : Deaf t 0 = d0
  deafW : ∀ i, i < j → Deaf t (e + i) = (D i).deaf
  rel : ∀ i, i < j → (D i).tag.stage ≤ 6 → ∃ r, RelBy (stA X.Wg) t (e + i) r
  wg : WgAt X.ty X.Wg w st sm
  mode : Go.ConcN.Mode j (wdD D) tag.c st sm
  cp : ∃ s r, w.heap[X.Cp]? = some (.chan 0 #[] false s r false)
  cs : ∃ s r, w.heap[X.Cs]? = some (.chan 0 #[] tag.closed s r false)
  cf : ∃ s r, w.heap[X.Cf]? = some (.chan X.n (fb.map ival).toArray false s r false)
  q : X.Q w
  pl : Places X e j D tag next fb asg w
  base : K X X.w0 w

def mu (X : Cfg) (e j : Nat) (D : Nat → WDat) (q : Nat → Nat) (tag : MTag) (f0 next : Nat) : Nat × Nat :=
  (tag.phi X.n (Vc j (wdD D)) + ranks j D + 4 * (X.M - next), f0 + 2 * fuels j D + 2 * sumTo e q)
def Inv (X : Cfg) (e : Nat) (μ : Nat × Nat) (m : Machine) (t : Trace) : Prop :=
  ∃ j D q tag f0 d0 next fb asg st sm gs w sl, m = crowd gs w sl ∧ St X e j D q tag f0 d0 next fb asg st sm gs w t ∧ μ = mu X e j D q tag f0 next
/-- A step that goes on. -/
def Steps1 (X : Cfg) (e : Nat) (μ : Nat × Nat) (gs : Array Goroutine) (w : World) (sl : Option (Nat × Nat)) (t : Trace) (i : Nat) : Prop :=
  ∃ m₁ ops μ', runT X.P (crowd gs w sl) i = (.next m₁, ops) ∧ Lt2 μ' μ ∧ Inv X e μ' m₁ (t ++ ops)

section
variable {X : Cfg} {e j : Nat} {D : Nat → WDat} {q : Nat → Nat} {tag : MTag} {f0 d0 next : Nat} {fb : List Nat} {asg : Nat → Option Nat} {st sm : Int} {gs : Array Goroutine} {w w' : World} {t : Trace} {sl : Option (Nat × Nat)}

theorem woken_prk {a a' g₀ : Goroutine} {s r s' r' : Nat} (h1 : w'.heap[X.Cp]? = some (.chan 0 #[] false s r false)) (h2 : w'.heap[X.Cs]? = some (.chan 0 #[] false s' r' false)) : woken X.P a a' w' (parked g₀ (pc X) .select) = parked g₀ (pc X) .select := by
  unfold woken
  split
  · refine again_all_open fun cc hcc => ?_
    simp [pc] at hcc
    rcases hcc with rfl | rfl
    · exact ⟨_, _, _, _, _, _, _, rfl, h1⟩
    · exact ⟨_, _, _, _, _, _, _, rfl, h2⟩
  · rfl
theorem woken_hblk {a a' g₀ : Goroutine} {i n s r s' r' : Nat} {buf : Array Value} (h1 : w'.heap[X.Cp]? = some (.chan 0 #[] false s r false)) (h2 : w'.heap[X.Cf]? = some (.chan n buf false s' r' false)) : woken X.P a a' w' (parked g₀ (hc X i) .select) = parked g₀ (hc X i) .select := by
  unfold woken
  split
  · simp [Goroutine.again, parked, hc, scase, rcase, h1, h2]
  · rfl

theorem WS.woken (hx : Laws X) {tg : WTag} {f d : Nat} {g a a' : Goroutine} (h : WS X tg f d g w) (hp : tg = .prk → (∃ s r, w'.heap[X.Cp]? = some (.chan 0 #[] false s r false)) ∧ ∃ s r, w'.heap[X.Cs]? = some (.chan 0 #[] false s r false)) : woken X.P a a' w' g = g := by
  rcases h.status hx with ⟨hs, _⟩ | ⟨hs, _⟩ | ⟨he, g₀, rfl, _⟩
  · exact woken_running hs
  · unfold Go.Conc.woken
    split
    · exact again_running _ (.inr hs)
    · rfl
  · obtain ⟨⟨s, r, h1⟩, s', r', h2⟩ := hp he
    exact woken_prk h1 h2

theorem MS.wokenBy (hx : Laws X) {a : Goroutine} (h : MS X tag f0 d0 a w) (k : K X w w') {n : Nat} {buf : Array Value} (h1 : ∃ s r, w'.heap[X.Cp]? = some (.chan 0 #[] false s r false)) (h2 : ∃ s r, w'.heap[X.Cf]? = some (.chan n buf false s r false)) (g g' : Goroutine) :
    ∃ tag' f', MS X tag' f' d0 (woken X.P g g' w' a) w' ∧ f' ≤ f0 + 1 ∧ (tag' = tag ∨ ∃ l, tag = .blk l ∧ tag' = .w3 l) ∧ (mayWake X.P g = true → g'.status = .running → ∀ l, tag' ≠ .blk l) := by
  have h' := h.rely hx k
  rcases h'.status hx with ⟨hs, hne⟩ | ⟨hs, hb⟩
  · exact ⟨tag, f0, by rw [woken_running hs]; exact h', by omega, .inl rfl, fun _ _ l e => hne (by rw [e]; trivial)⟩
  · cases h' with
    | hblk hh =>
      obtain ⟨s, r, h1⟩ := h1
      obtain ⟨s', r', h2⟩ := h2
      exact ⟨_, _, by rw [woken_hblk h1 h2]; exact .hblk hh, by omega, .inl rfl, fun _ _ l e => by cases e⟩
    | blk hh =>
      unfold Go.Conc.woken
      split
      · have h3 := hh w' (.refl w')
        exact ⟨_, 0 + 1, by rw [again_blocked h3.1 h3.2.1]; exact .w3 (Goes.stop hh), by omega, .inr ⟨_, rfl, rfl⟩, fun _ _ l e => by cases e⟩
      · rename_i hcc
        exact ⟨_, _, .blk hh, by omega, .inl rfl, fun h1 h2 => absurd (by simp [h1, h2]) hcc⟩
    | _ => exact hb.elim

theorem retag_least {tag' : MTag} (h : tag' = tag ∨ ∃ l, tag = .blk l ∧ tag' = .w3 l) : tag'.least = tag.least ∧ tag'.left = tag.left ∧ tag'.closed = tag.closed ∧ (∀ n v, tag'.phi n v = tag.phi n v) ∧ (∀ i, tag' = .hand i → tag = .hand i) ∧ (∀ i, tag' = .hblk i → tag = .hblk i) := by
  rcases h with rfl | ⟨l, rfl, rfl⟩
  · exact ⟨rfl, rfl, rfl, fun _ _ => rfl, fun _ h => h, fun _ h => h⟩
  · exact ⟨rfl, rfl, rfl, fun _ _ => rfl, fun _ h => (by cases h), fun _ h => (by cases h)⟩
theorem TagOk.retag {tag' : MTag} (h : TagOk X tag next fb) (ht : tag' = tag ∨ ∃ l, tag = .blk l ∧ tag' = .w3 l) : TagOk X tag' next fb := by
  obtain ⟨e1, e2, _, _, e4, e5⟩ := retag_least ht
  exact ⟨fun x => h.1 (e2 ▸ x), fun i x => h.2.1 i (e4 i x), fun i x => h.2.2.1 i (e5 i x), fun l x => h.2.2.2 l (e1 ▸ x)⟩
theorem phi_le (n : Nat) {v v' : Nat} (h : v' ≤ v) (tag : MTag) : tag.phi n v' ≤ tag.phi n v := by
  cases tag <;> simp only [MTag.phi] <;> omega
theorem Vc_upd' {i : Nat} (D : Nat → WDat) (x : WDat) (hi : i < j) : Vc j (wdD (upd D i x)) + cnt (D i).wd = Vc j (wdD D) + cnt x.wd := by
  rw [wdD_upd]; exact sumTo_upd (wdD D) x.wd cnt hi
theorem ranks_upd {i : Nat} (D : Nat → WDat) (x : WDat) (hi : i < j) : ranks j (upd D i x) + (D i).tag.rank = ranks j D + x.tag.rank := sumTo_upd D x (fun d => d.tag.rank) hi
theorem fuels_upd {i : Nat} (D : Nat → WDat) (x : WDat) (hi : i < j) : fuels j (upd D i x) + (D i).fuel = fuels j D + x.fuel := sumTo_upd D x (fun d => d.fuel) hi
theorem libs_upd {i : Nat} (D : Nat → WDat) (x : WDat) (hi : i < j) : libs j (upd D i x) + (D i).tag.isLib = libs j D + x.tag.isLib := sumTo_upd D x (fun d => d.tag.isLib) hi

theorem St.at (hx : Laws X) (h : St X e j D q tag f0 d0 next fb asg st sm gs w t) (d : Nat) : St X e j D q tag f0 d0 next fb asg st sm gs (w.at d) t :=
  ⟨h.pos, h.size, let ⟨a, h1, h2⟩ := h.main; ⟨a, h1, h2.rely hx (.at w d hx)⟩, h.old, fun i hi => let ⟨g, h1, h2⟩ := h.wk i hi; ⟨g, h1, h2.rely hx (.at w d hx)⟩, h.jn, h.ct, h.deaf0, h.deafW, h.rel, h.wg, h.mode, h.cp, h.cs, h.cf, hx.qOf w (w.at d) rfl h.q,
   ⟨h.pl.nextM, h.pl.asgN, h.pl.tagAt, fun p hp => (h.pl.fin p hp).imp id fun x => ⟨hx.doneOf p w (w.at d) rfl x.1, x.2⟩, h.pl.fbok, h.pl.room, h.pl.room', h.pl.tagok, h.pl.noprk, h.pl.hprk⟩, h.base.trans (.at w d hx)⟩

theorem ok_gs {i : Nat} {asg' : Nat → Option Nat} {u : Trace} (hu : ∀ op ∈ u, OkW X.L asg' i op) : ∀ op ∈ u, op.g = i := fun op hop => (hu op hop).1

/-- A step of worker i's own. -/
theorem St.workGo (hx : Laws X) (h : St X e j D q tag f0 d0 next fb asg st sm gs w t) {i : Nat} (hi : i < j) {g g' : Goroutine} {es : Array Event} {x : WDat} {st' sm' : Int}
    (hg : gs[e + i]? = some g) (hgo : stepG X.P false g w = .go g' w' es) (hK : K X w w') (hWS : WS X x.tag x.fuel x.deaf g' w')
    (hok : ∀ op ∈ MemOp.ofEvents (e + i) g.frame.fn g.frame.place es, OkW X.L asg (e + i) op) (hdeaf : deafBehind (D i).deaf es = x.deaf)
    (hrel : x.tag.stage ≤ 6 → ∃ r, RelBy (stA X.Wg) (t ++ MemOp.ofEvents (e + i) g.frame.fn g.frame.place es) (e + i) r) (hwg : WgAt X.ty X.Wg w' st' sm')
    (hmode : ∀ tag', (tag' = tag ∨ ∃ l, tag = .blk l ∧ tag' = .w3 l) → (mayWake X.P g = true → g'.status = .running → ∀ l, tag' ≠ .blk l) → Go.ConcN.Mode j (wdD (upd D i x)) tag'.c st' sm')
    (hp : w'.heap[X.Cp]? = w.heap[X.Cp]?) (hs : w'.heap[X.Cs]? = w.heap[X.Cs]?) (hf : w'.heap[X.Cf]? = w.heap[X.Cf]?)
    (htag : x.tag = (D i).tag ∨ ∃ s s', (D i).tag = .lib s ∧ x.tag = .lib s') (hnp : (D i).tag ≠ .prk) (hdone : ∀ p, (D i).tag ≠ .at p → X.Done p w → X.Done p w')
    (hlt : (x.tag.rank < (D i).tag.rank ∧ cnt x.wd ≤ cnt (D i).wd) ∨ (x.tag.rank = (D i).tag.rank ∧ x.tag.stage = (D i).tag.stage ∧ x.fuel < (D i).fuel)) :
    Steps1 X e (mu X e j D q tag f0 next) gs w sl t (e + i) := by
  obtain ⟨a, ha, hm⟩ := h.main
  have hcp : ∃ s r, w'.heap[X.Cp]? = some (.chan 0 #[] false s r false) := by rw [hp]; exact h.cp
  have hcs : ∃ s r, w'.heap[X.Cs]? = some (.chan 0 #[] tag.closed s r false) := by rw [hs]; exact h.cs
  have hcf : ∃ s r, w'.heap[X.Cf]? = some (.chan X.n (fb.map ival).toArray false s r false) := by rw [hf]; exact h.cf
  obtain ⟨tag', f', hm', hf', ht', hwk⟩ := hm.wokenBy hx hK hcp hcf g g'
  obtain ⟨t1, t2, t3, t4, t5, t6⟩ := retag_least ht'
  have hpos := h.pos
  have hei : (e + i == 0) = false := by simp; omega
  have hrun := runT_crowd_go (P := X.P) (sl := sl) (i := e + i) hg (by rw [hei]; exact hgo)
  have hgs : ∀ op ∈ MemOp.ofEvents (e + i) g.frame.fn g.frame.place es, op.g = e + i := fun op hop => (hok op hop).1
  have v1 := Vc_upd' (j := j) D x hi
  have v2 := ranks_upd (j := j) D x hi
  have v3 := fuels_upd (j := j) D x hi
  have v4 := libs_upd (j := j) D x hi
  have hlib : x.tag.isLib = (D i).tag.isLib := by
    rcases htag with e1 | ⟨s, s', e1, e2⟩
    · rw [e1]
    · rw [e1, e2]; rfl
  have hat : ∀ p, x.tag = .at p ↔ (D i).tag = .at p := by
    intro p
    rcases htag with e1 | ⟨s, s', e1, e2⟩
    · rw [e1]
    · rw [e1, e2]; simp
  have hprk' : x.tag ≠ .prk := by
    rcases htag with e1 | ⟨s, s', e1, e2⟩
    · rw [e1]; exact hnp
    · rw [e2]; simp
  have old : ∀ k, k ≠ e + i → ∀ y, gs[k]? = some y → ((gs.map (woken X.P g g' w')).setIfInBounds (e + i) g')[k]? = some (woken X.P g g' w' y) := fun k hk y hy => by rw [get_map_set _ _ _ _ (Ne.symm hk), hy]; rfl
  refine ⟨_, _, mu X e j (upd D i x) q tag' f' next, hrun, ?_, j, upd D i x, q, tag', f', d0, next, fb, asg, st', sm', _, w', sl, rfl, ⟨h.pos, by simp [h.size], ⟨_, old 0 (by omega) a ha, hm'⟩, fun k k0 ke => ?_, fun k hk => ?_, by rw [t2]; exact h.jn,
    h.ct.appW hx.apart (by omega) (by omega) hok, by rw [Deaf_other t (by omega) _ hgs]; exact h.deaf0, fun k hk => ?_, fun k hk hst => ?_, hwg, hmode tag' ht' hwk, hcp, by rw [t3]; exact hcs, hcf, hK.q h.q,
    ⟨h.pl.nextM, h.pl.asgN, fun k hk p hp => ?_, fun p hp => ?_, h.pl.fbok, by have := h.pl.room; omega, fun e1 => by have := h.pl.room' (t1 ▸ e1); omega, h.pl.tagok.retag ht', fun e1 k hk => ?_, fun z e1 k hk => ?_⟩, h.base.trans hK⟩, rfl⟩
  · unfold mu
    rw [t4]
    rcases hlt with ⟨h1, h2⟩ | ⟨h1, h2, h3⟩
    · refine Prod.Lex.left _ _ ?_
      have := phi_le X.n (v' := Vc j (wdD (upd D i x))) (v := Vc j (wdD D)) (by omega) tag
      omega
    · have ec : cnt x.wd = cnt (D i).wd := by
        show (if 5 ≤ x.tag.stage then 1 else 0) = (if 5 ≤ (D i).tag.stage then 1 else 0)
        rw [h2]
      have ev : Vc j (wdD (upd D i x)) = Vc j (wdD D) := by omega
      have er : ranks j (upd D i x) = ranks j D := by omega
      rw [ev, er]
      refine Prod.Lex.right _ ?_
      omega
  · obtain ⟨y, hy, hq⟩ := h.old k k0 ke
    exact ⟨_, old k (by omega) y hy, by rw [woken_quitsD hq, Deaf_other t (by omega) _ hgs]; exact hq⟩
  · by_cases e1 : k = i
    · subst e1
      exact ⟨g', get_map_set_same _ _ _ (by rw [h.size]; omega), by rw [upd_same]; exact hWS⟩
    · obtain ⟨y, hy, hwy⟩ := h.wk k hk
      refine ⟨_, old (e + k) (by omega) y hy, ?_⟩
      rw [upd_ne D x e1, hwy.woken hx (w' := w') fun e2 => ⟨hcp, ?_⟩]
      · exact hwy.rely hx hK
      · have : tag.closed = false := by
          cases ec : tag.closed with
          | false => rfl
          | true => exact absurd e2 (h.pl.noprk ec k hk)
        rw [this] at hcs; exact hcs
  · by_cases e1 : k = i
    · subst e1; rw [Deaf_own, h.deafW k hk, upd_same]; exact hdeaf
    · rw [Deaf_other t (by omega) _ hgs, h.deafW k hk, upd_ne D x e1]
  · by_cases e1 : k = i
    · subst e1; rw [upd_same] at hst; exact hrel hst
    · rw [upd_ne D x e1] at hst
      obtain ⟨r, hr⟩ := h.rel k hk hst
      exact ⟨r, hr.appOther hgs (by omega)⟩
  · by_cases e1 : k = i
    · subst e1; rw [upd_same] at hp; exact h.pl.tagAt k hk p ((hat p).1 hp)
    · rw [upd_ne D x e1] at hp; exact h.pl.tagAt k hk p hp
  · rcases h.pl.fin p hp with ⟨k, hk, hkp⟩ | ⟨h1, h2⟩
    · refine .inl ⟨k, hk, ?_⟩
      by_cases e1 : k = i
      · subst e1; rw [upd_same]; exact (hat p).2 hkp
      · rw [upd_ne D x e1]; exact hkp
    · by_cases e1 : (D i).tag = .at p
      · exact .inl ⟨i, hi, by rw [upd_same]; exact (hat p).2 e1⟩
      · exact .inr ⟨hdone p e1 h1, fun hb => by rw [t1]; exact h2 hb⟩
  · by_cases e2 : k = i
    · subst e2; rw [upd_same]; exact hprk'
    · rw [upd_ne D x e2]; exact h.pl.noprk (t3 ▸ e1) k hk
  · by_cases e2 : k = i
    · subst e2; rw [upd_same]; exact hprk'
    · rw [upd_ne D x e2]; exact h.pl.hprk z (t6 z e1) k hk

/-- A step of the starter's own, that closes nothing. -/
theorem St.mainGo (hx : Laws X) (h : St X e j D q tag f0 d0 next fb asg st sm gs w t) {a a' : Goroutine} {es : Array Event} {tag' : MTag} {f' : Nat} {st' sm' : Int} {l : Nat}
    (ha : gs[0]? = some a) (hgo : stepG X.P true a w = .go a' w' es) (hK : K X w w') (hMS : MS X tag' f' l a' w')
    (hok : ∀ op ∈ MemOp.ofEvents 0 a.frame.fn a.frame.place es, Ok0 X.L op) (hdeaf : deafBehind d0 es = l) (hwg : WgAt X.ty X.Wg w' st' sm') (hmode : Go.ConcN.Mode j (wdD D) tag'.c st' sm')
    (hp : w'.heap[X.Cp]? = w.heap[X.Cp]?) (hs : w'.heap[X.Cs]? = w.heap[X.Cs]?) (hf : w'.heap[X.Cf]? = w.heap[X.Cf]?) (hk : w'.heap[X.Mk]? = w.heap[X.Mk]?)
    (t1 : tag'.least = tag.least) (t2 : tag'.left = tag.left) (t3 : tag'.closed = tag.closed) (tok : TagOk X tag' next fb) (tnb : ∀ i, tag' ≠ .hblk i)
    (hlt : tag'.phi X.n (Vc j (wdD D)) < tag.phi X.n (Vc j (wdD D)) ∨ (tag'.phi X.n (Vc j (wdD D)) = tag.phi X.n (Vc j (wdD D)) ∧ f' < f0)) :
    Steps1 X e (mu X e j D q tag f0 next) gs w sl t 0 := by
  have hcp : ∃ s r, w'.heap[X.Cp]? = some (.chan 0 #[] false s r false) := by rw [hp]; exact h.cp
  have hcs : ∃ s r, w'.heap[X.Cs]? = some (.chan 0 #[] tag.closed s r false) := by rw [hs]; exact h.cs
  have hcf : ∃ s r, w'.heap[X.Cf]? = some (.chan X.n (fb.map ival).toArray false s r false) := by rw [hf]; exact h.cf
  have hpos := h.pos
  have hrun := runT_crowd_go (P := X.P) (sl := sl) (i := 0) ha hgo
  have hgs : ∀ op ∈ MemOp.ofEvents 0 a.frame.fn a.frame.place es, op.g = 0 := fun op hop => (hok op hop).1
  have old : ∀ k, k ≠ 0 → ∀ y, gs[k]? = some y → ((gs.map (woken X.P a a' w')).setIfInBounds 0 a')[k]? = some (woken X.P a a' w' y) := fun k hk y hy => by rw [get_map_set _ _ _ _ (Ne.symm hk), hy]; rfl
  refine ⟨_, _, mu X e j D q tag' f' next, hrun, ?_, j, D, q, tag', f', l, next, fb, asg, st', sm', _, w', sl, rfl, ⟨h.pos, by simp [h.size], ⟨a', get_map_set_same _ _ _ (by rw [h.size]; omega), hMS⟩, fun k k0 ke => ?_, fun k hk => ?_, by rw [t2]; exact h.jn,
    h.ct.app0 hx.apart h.pos hok, by rw [Deaf_own, h.deaf0]; exact hdeaf, fun k hk => by rw [Deaf_other t (by omega) _ hgs]; exact h.deafW k hk, fun k hk hst => ?_, hwg, hmode, hcp, by rw [t3]; exact hcs, hcf, hK.q h.q,
    ⟨h.pl.nextM, h.pl.asgN, h.pl.tagAt, fun p hp => (h.pl.fin p hp).imp id fun y => ⟨hx.doneOf _ _ _ hk y.1, by rw [t1]; exact y.2⟩, h.pl.fbok, h.pl.room, by rw [t1]; exact h.pl.room', tok, by rw [t3]; exact h.pl.noprk, fun i e1 => absurd e1 (tnb i)⟩, h.base.trans hK⟩, rfl⟩
  · unfold mu
    rcases hlt with h1 | ⟨h1, h2⟩
    · exact Prod.Lex.left _ _ (by omega)
    · rw [h1]; exact Prod.Lex.right _ (by omega)
  · obtain ⟨y, hy, hq⟩ := h.old k k0 ke
    exact ⟨_, old k (by omega) y hy, by rw [woken_quitsD hq, Deaf_other t (by omega) _ hgs]; exact hq⟩
  · obtain ⟨y, hy, hwy⟩ := h.wk k hk
    refine ⟨_, old (e + k) (by omega) y hy, ?_⟩
    rw [hwy.woken hx (w' := w') fun e2 => ⟨hcp, ?_⟩]
    · exact hwy.rely hx hK
    · have : tag.closed = false := by
        cases ec : tag.closed with
        | false => rfl
        | true => exact absurd e2 (h.pl.noprk ec k hk)
      rw [this] at hcs; exact hcs
  · obtain ⟨r, hr⟩ := h.rel k hk hst
    exact ⟨r, hr.appOther hgs (by omega)⟩

/-- One of the elder goroutines slips. -/
theorem St.elderGo (hx : Laws X) (h : St X e j D q tag f0 d0 next fb asg st sm gs w t) {i : Nat} (i0 : 0 < i) (ie : i < e) {g : Goroutine} (hg : gs[i]? = some g) (hgr : g.status = .running)
    (hm2 : ∀ tag', (tag' = tag ∨ ∃ l, tag = .blk l ∧ tag' = .w3 l) → Go.ConcN.Mode j (wdD D) tag'.c st sm) : Steps1 X e (mu X e j D q tag f0 next) gs w sl t i := by
  obtain ⟨a, ha, hm⟩ := h.main
  obtain ⟨g₁, hg₁, hq⟩ := h.old i i0 ie
  obtain rfl : g = g₁ := by rw [hg] at hg₁; exact Option.some.inj hg₁
  have hi0 : (i == 0) = false := by simp; omega
  cases hqi : q i with
  | zero => rw [hqi] at hq; rw [hq.1] at hgr; cases hgr
  | succ k =>
    rw [hqi] at hq
    rcases hq with ⟨hfi, _⟩ | ⟨_, g', es, hmute, hstp, hq'⟩
    · rw [hfi] at hgr; cases hgr
    obtain ⟨tag', f', hm', hf', ht', _⟩ := hm.wokenBy hx (.refl w) h.cp h.cf g g'
    obtain ⟨t1, t2, t3, t4, t5, t6⟩ := retag_least ht'
    have hrun := runT_crowd_go (P := X.P) (sl := sl) (i := i) hg (by rw [hi0]; exact hstp w)
    have hgs : ∀ op ∈ MemOp.ofEvents i g.frame.fn g.frame.place es, op.g = i := g_of_ofEvents
    have hn : ∀ op ∈ MemOp.ofEvents i g.frame.fn g.frame.place es, op.act.touch? = none ∧ op.g < e + j ∧ ∀ a, op.act ≠ .mark (.release a) := fun op hop => by
      rw [ofEvents_eq] at hop
      obtain ⟨ev, hev, rfl⟩ := Array.mem_map.1 hop
      refine ⟨touch_mute (hmute ev hev), by show i < e + j; omega, fun a ha => ?_⟩
      have := hmute ev hev
      have hl := loc_of_ofEvent ha
      obtain ⟨loc, wr, sy⟩ := ev
      simp only at hl
      subst hl
      simp [Event.mute] at this
    have old : ∀ b, b ≠ i → ∀ y, gs[b]? = some y → ((gs.map (woken X.P g g' w)).setIfInBounds i g')[b]? = some (woken X.P g g' w y) := fun b hb y hy => by rw [get_map_set _ _ _ _ (Ne.symm hb), hy]; rfl
    have hsum : sumTo e (upd q i k) + (k + 1) = sumTo e q + k := by
      have := sumTo_upd q k id ie
      simpa [hqi] using this
    refine ⟨_, _, mu X e j D (upd q i k) tag' f' next, hrun, ?_, j, D, upd q i k, tag', f', d0, next, fb, asg, st, sm, _, w, sl, rfl, ⟨h.pos, by simp [h.size], ⟨_, old 0 (by omega) a ha, hm'⟩, fun b b0 be => ?_, fun b hb => ?_, by rw [t2]; exact h.jn,
      h.ct.appN hn, by rw [Deaf_other t (by omega) _ hgs]; exact h.deaf0, fun b hb => by rw [Deaf_other t (by omega) _ hgs]; exact h.deafW b hb, fun b hb hst => ?_, h.wg, hm2 tag' ht', h.cp, by rw [t3]; exact h.cs, h.cf, h.q,
      ⟨h.pl.nextM, h.pl.asgN, h.pl.tagAt, fun p hp => (h.pl.fin p hp).imp id fun y => ⟨y.1, by rw [t1]; exact y.2⟩, h.pl.fbok, h.pl.room, by rw [t1]; exact h.pl.room', h.pl.tagok.retag ht', by rw [t3]; exact h.pl.noprk, fun z e1 => h.pl.hprk z (t6 z e1)⟩, h.base⟩, rfl⟩
    · unfold mu
      rw [t4]
      refine Prod.Lex.right _ ?_
      omega
    · by_cases e1 : b = i
      · subst e1
        exact ⟨g', get_map_set_same _ _ _ (by rw [h.size]; omega), by rw [upd_same, Deaf_own]; exact hq'⟩
      · obtain ⟨y, hy, hqy⟩ := h.old b b0 be
        exact ⟨_, old b e1 y hy, by rw [woken_quitsD hqy, Deaf_other t (Ne.symm e1) _ hgs, upd_ne q k e1]; exact hqy⟩
    · obtain ⟨y, hy, hwy⟩ := h.wk b hb
      refine ⟨_, old (e + b) (by omega) y hy, ?_⟩
      rw [hwy.woken hx (w' := w) fun e2 => ⟨h.cp, ?_⟩]
      · exact hwy
      · have : tag.closed = false := by
          cases ec : tag.closed with
          | false => rfl
          | true => exact absurd e2 (h.pl.noprk ec b hb)
        have hcs := h.cs
        rw [this] at hcs; exact hcs
    · obtain ⟨r, hr⟩ := h.rel b hb hst
      exact ⟨r, hr.appOther hgs (by omega)⟩
end
end Go.Proofs.Ytbckmkppmdfnnaa.Crew

namespace Go.Proofs.Ytbckmkppmdfnnaa.Crew
open Go.Conc Go.RowKit Go.Conc.Lib
open Go.ConcN (WgLive WD CTag sumTo upd sumTo_upd sumTo_congr upd_ne upd_same Vc cnt RelBy le_sumTo sumTo_le RelBy.appOther RelBy.appNot Deaf_still)
open Go.ConcR (KK wgBlock WgAt stA smA rd wr mk Payload DC0)

section
variable {X : Cfg} {e j : Nat} {D : Nat → WDat} {q : Nat → Nat} {tag : MTag} {f0 d0 next : Nat} {fb : List Nat} {asg : Nat → Option Nat} {st sm : Int} {gs : Array Goroutine} {w w' : World} {t : Trace} {sl : Option (Nat × Nat)}

theorem St.idx (h : St X e j D q tag f0 d0 next fb asg st sm gs w t) {k : Nat} {g : Goroutine} (hk : gs[k]? = some g) : k = 0 ∨ (0 < k ∧ k < e) ∨ ∃ i, i < j ∧ k = e + i := by
  have := (Array.getElem?_eq_some_iff.1 hk).1
  rw [h.size] at this
  rcases Nat.eq_zero_or_pos k with h0 | h0
  · exact .inl h0
  · rcases Nat.lt_or_ge k e with h1 | h1
    · exact .inr (.inl ⟨h0, h1⟩)
    · exact .inr (.inr ⟨k - e, by omega, by omega⟩)

/-- What a goroutine offers. -/
theorem St.offers (hx : Laws X) (h : St X e j D q tag f0 d0 next fb asg st sm gs w t) {k : Nat} {g : Goroutine} (hk : gs[k]? = some g) :
    (∀ c b, offersAt g c b = []) ∨ (k = 0 ∧ ∃ z g₀, tag = .hblk z ∧ g = parked g₀ (hc X z) .select ∧ X.Hand z g₀ w) ∨ ∃ i g₀, i < j ∧ k = e + i ∧ (D i).tag = .prk ∧ g = parked g₀ (pc X) .select ∧ X.Sel g₀ w := by
  rcases h.idx hk with rfl | ⟨k0, ke⟩ | ⟨i, hi, rfl⟩
  · obtain ⟨a, ha, hm⟩ := h.main
    rw [ha] at hk; cases hk
    rcases hm.status hx with ⟨hs, _⟩ | ⟨hs, hb⟩
    · exact .inl fun c b => offersAt_of_not_blocked (by rw [hs]; simp) c b
    · cases hm with
      | hblk hh => exact .inr (.inl ⟨rfl, _, _, rfl, rfl, hh⟩)
      | blk hh =>
        have ho := (hh w (.refl w)).2.1
        exact .inl fun c b => by simp [offersAt, ho]
      | _ => exact hb.elim
  · obtain ⟨g', hg', hq⟩ := h.old k k0 ke
    rw [hk] at hg'; cases hg'
    exact .inl fun c b => offersAt_of_not_blocked (by rcases hq.status with hs | hs <;> rw [hs] <;> simp) c b
  · obtain ⟨g', hg', hw⟩ := h.wk i hi
    rw [hk] at hg'; cases hg'
    rcases hw.status hx with ⟨hs, _⟩ | ⟨hs, _⟩ | ⟨hp, g₀, rfl, hsel⟩
    · exact .inl fun c b => offersAt_of_not_blocked (by rw [hs]; simp) c b
    · exact .inl fun c b => offersAt_of_not_blocked (by rw [hs]; simp) c b
    · exact .inr (.inr ⟨i, g₀, hi, rfl, hp, rfl, hsel⟩)

theorem offers_hc (g₀ : Goroutine) (z : Nat) (hx : Laws X) : offersAt (parked g₀ (hc X z) .select) X.Cp true = [0] ∧ offersAt (parked g₀ (hc X z) .select) X.Cf false = [1] ∧ (∀ c, c ≠ X.Cp → offersAt (parked g₀ (hc X z) .select) c true = []) ∧ ∀ c, c ≠ X.Cf → offersAt (parked g₀ (hc X z) .select) c false = [] := by
  have h5 := hx.d5
  refine ⟨?_, ?_, fun c hcc => ?_, fun c hcc => ?_⟩
  · simp [offersAt, parked, hc, scase, rcase]
  · simp [offersAt, parked, hc, scase, rcase]
  · simp [offersAt, parked, hc, scase, rcase, Ne.symm hcc]
  · simp [offersAt, parked, hc, scase, rcase, Ne.symm hcc]
theorem offers_pc (g₀ : Goroutine) (hx : Laws X) : offersAt (parked g₀ (pc X) .select) X.Cp false = [0] ∧ (∀ c, offersAt (parked g₀ (pc X) .select) c true = []) ∧ ∀ c, c ≠ X.Cp → c ≠ X.Cs → offersAt (parked g₀ (pc X) .select) c false = [] := by
  have h4 := hx.d4
  refine ⟨?_, fun c => ?_, fun c h1 h2 => ?_⟩
  · simp [offersAt, parked, pc, rcase, Ne.symm h4]
  · simp [offersAt, parked, pc, rcase]
  · simp [offersAt, parked, pc, rcase, Ne.symm h1, Ne.symm h2]

theorem St.noSend (hx : Laws X) (h : St X e j D q tag f0 d0 next fb asg st sm gs w t) (i : Nat) {c : Nat} (hcc : (∀ z, tag ≠ .hblk z) ∨ c ≠ X.Cp) : partners (gs.setIfInBounds i ph) c true = [] := by
  refine partners_nil fun k g hk => ?_
  rcases getElem?_stand gs i k g hk with ⟨_, rfl⟩ | ⟨_, hk'⟩
  · exact offersAt_ph c true
  · rcases h.offers hx hk' with h1 | ⟨_, z, g₀, ht, rfl, _⟩ | ⟨_, g₀, _, _, _, rfl, _⟩
    · exact h1 c true
    · rcases hcc with h2 | h2
      · exact absurd ht (h2 z)
      · exact (offers_hc g₀ z hx).2.2.1 c h2
    · exact (offers_pc g₀ hx).2.1 c
theorem St.oneSend (hx : Laws X) {z : Nat} (h : St X e j D q (.hblk z) f0 d0 next fb asg st sm gs w t) {i : Nat} (hi : i ≠ 0) {g₀ : Goroutine} (hg : gs[0]? = some (parked g₀ (hc X z) .select)) : partners (gs.setIfInBounds i ph) X.Cp true = [(0, 0)] := by
  rw [partners_one (j := 0) (g := parked g₀ (hc X z) .select) (stand_get (Ne.symm hi) hg) fun k x hk hx' => ?_, (offers_hc g₀ z hx).1]
  · rfl
  · rcases getElem?_stand gs i k x hx' with ⟨_, rfl⟩ | ⟨_, hk'⟩
    · exact offersAt_ph _ true
    · rcases h.offers hx hk' with h1 | ⟨h0, _⟩ | ⟨_, g₁, _, _, _, rfl, _⟩
      · exact h1 _ true
      · exact absurd h0 hk
      · exact (offers_pc g₁ hx).2.1 _
theorem St.noRecvF (hx : Laws X) (h : St X e j D q tag f0 d0 next fb asg st sm gs w t) (i : Nat) (hcc : ∀ z, tag ≠ .hblk z) : partners (gs.setIfInBounds i ph) X.Cf false = [] := by
  refine partners_nil fun k g hk => ?_
  rcases getElem?_stand gs i k g hk with ⟨_, rfl⟩ | ⟨_, hk'⟩
  · exact offersAt_ph _ false
  · rcases h.offers hx hk' with h1 | ⟨_, z, g₀, ht, rfl, _⟩ | ⟨_, g₀, _, _, _, rfl, _⟩
    · exact h1 _ false
    · exact absurd ht (hcc z)
    · exact (offers_pc g₀ hx).2.2 _ (Ne.symm hx.d5) (Ne.symm hx.d6)
theorem St.oneRecvF (hx : Laws X) {z : Nat} (h : St X e j D q (.hblk z) f0 d0 next fb asg st sm gs w t) {i : Nat} (hi : i ≠ 0) {g₀ : Goroutine} (hg : gs[0]? = some (parked g₀ (hc X z) .select)) : partners (gs.setIfInBounds i ph) X.Cf false = [(0, 1)] := by
  rw [partners_one (j := 0) (g := parked g₀ (hc X z) .select) (stand_get (Ne.symm hi) hg) fun k x hk hx' => ?_, (offers_hc g₀ z hx).2.1]
  · rfl
  · rcases getElem?_stand gs i k x hx' with ⟨_, rfl⟩ | ⟨_, hk'⟩
    · exact offersAt_ph _ false
    · rcases h.offers hx hk' with h1 | ⟨h0, _⟩ | ⟨_, g₁, _, _, _, rfl, _⟩
      · exact h1 _ false
      · exact absurd h0 hk
      · exact (offers_pc g₁ hx).2.2 _ (Ne.symm hx.d5) (Ne.symm hx.d6)

/-- Behind a communication. -/
theorem St.comm (h : St X e j D q tag f0 d0 next fb asg st sm gs w t) (hx : Laws X) {i : Nat} {x : WDat} {gs' : Array Goroutine} {u : Trace} {tag' : MTag} {f' next' : Nat} {fb' : List Nat} {asg' : Nat → Option Nat}
    (hsz : gs'.size = gs.size) (hmain : ∃ a, gs'[0]? = some a ∧ MS X tag' f' d0 a w') (hwi : i < j → ∃ g, gs'[e + i]? = some g ∧ WS X x.tag x.fuel x.deaf g w') (hoth : ∀ k, k ≠ 0 → k ≠ e + i → gs'[k]? = gs[k]?) (hK : K X w w')
    (hxd : x.deaf = (D i).deaf) (s1 : x.tag.stage = 7) (s0 : (D i).tag.stage = 7) (hu : ∀ op ∈ u, op.act.touch? = none ∧ op.g < e + j ∧ ∀ m, op.act ≠ .mark m) (hwg : w'.heap[X.Wg]? = w.heap[X.Wg]?)
    (t1 : tag'.c = tag.c) (t2 : tag'.left = tag.left) (t3 : tag'.closed = tag.closed) (hct : CTr X.L e j asg' t)
    (hcp : ∃ s r, w'.heap[X.Cp]? = some (.chan 0 #[] false s r false)) (hcs : w'.heap[X.Cs]? = w.heap[X.Cs]?) (hcf : ∃ s r, w'.heap[X.Cf]? = some (.chan X.n (fb'.map ival).toArray false s r false))
    (hpl : Places X e j (upd D i x) tag' next' fb' asg' w') : St X e j (upd D i x) q tag' f' d0 next' fb' asg' st sm gs' w' (t ++ u) := by
  have hst : ∀ op ∈ u, op.act ≠ .mark .disable ∧ op.act ≠ .mark .enable := fun op hop => ⟨(hu op hop).2.2 _, (hu op hop).2.2 _⟩
  have hD : ∀ g, Deaf (t ++ u) g = Deaf t g := fun g => Deaf_still t g u hst
  have hrel : ∀ {g r : Nat}, RelBy (stA X.Wg) t g r → RelBy (stA X.Wg) (t ++ u) g r := fun {g r} hr => hr.app fun b hb _ hcount => by
    obtain ⟨y, hy, _⟩ := hcount
    obtain ⟨op, hop, hoy⟩ := touch_of hy
    rcases getElem?_append_cases hop with ⟨hlt, _⟩ | ⟨_, hou⟩
    · omega
    · rw [(hu op hou).1] at hoy; cases hoy
  have hei : ∀ k, 0 < k → k < e → gs'[k]? = gs[k]? := fun k k0 ke => hoth k (by omega) (by omega)
  have hpos := h.pos
  refine ⟨h.pos, by rw [hsz]; exact h.size, hmain, fun k k0 ke => ?_, fun k hk => ?_, by rw [t2]; exact h.jn, hct.appN fun op hop => ⟨(hu op hop).1, (hu op hop).2.1, fun a => (hu op hop).2.2 _⟩, by rw [hD]; exact h.deaf0, fun k hk => ?_, fun k hk hs => ?_,
    h.wg.of_block hwg, ?_, hcp, by rw [hcs, t3]; exact h.cs, hcf, hK.q h.q, hpl, h.base.trans hK⟩
  · obtain ⟨g, hg, hq⟩ := h.old k k0 ke
    exact ⟨g, by rw [hei k k0 ke]; exact hg, by rw [hD]; exact hq⟩
  · by_cases e1 : k = i
    · subst e1; rw [upd_same]; exact hwi hk
    · obtain ⟨g, hg, hw⟩ := h.wk k hk
      exact ⟨g, by rw [hoth (e + k) (by omega) (by omega)]; exact hg, by rw [upd_ne D x e1]; exact hw.rely hx hK⟩
  · rw [hD, h.deafW k hk]
    by_cases e1 : k = i
    · subst e1; rw [upd_same, hxd]
    · rw [upd_ne D x e1]
  · by_cases e1 : k = i
    · subst e1; rw [upd_same, s1] at hs; omega
    · rw [upd_ne D x e1] at hs
      obtain ⟨r, hr⟩ := h.rel k hk hs
      exact ⟨r, hrel hr⟩
  · rw [t1]
    refine h.mode.congr fun a _ => ?_
    by_cases e1 : a = i
    · subst e1; simp only [wdD, upd_same, WDat.wd, s1, s0]
    · simp only [wdD, upd_ne D x e1]

theorem chan_turn (hx : Laws X) {c cap cap' s r s' r' : Nat} {buf buf' : Array Value} {cl cl' : Bool} (hc : c = X.Cp ∨ c = X.Cs ∨ c = X.Cf) (h : w.heap[c]? = some (.chan cap buf cl s r false)) (d : Nat) :
    K X w ((w.at d).setChan c cap' buf' cl' s' r' false) ∧ ((w.at d).setChan c cap' buf' cl' s' r' false).heap[c]? = some (.chan cap' buf' cl' s' r' false) ∧ ∀ b, b ≠ c → ((w.at d).setChan c cap' buf' cl' s' r' false).heap[b]? = w.heap[b]? := by
  have hlt : c < w.heap.size := (Array.getElem?_eq_some_iff.1 h).1
  have h1 : ((w.at d).setChan c cap' buf' cl' s' r' false).heap[c]? = some (.chan cap' buf' cl' s' r' false) := by
    show (w.heap.setIfInBounds c _)[c]? = _
    rw [Array.getElem?_setIfInBounds_self_of_lt hlt]
  have h2 : ∀ b, b ≠ c → ((w.at d).setChan c cap' buf' cl' s' r' false).heap[b]? = w.heap[b]? := fun b hb => by
    show (w.heap.setIfInBounds c _)[b]? = _
    rw [Array.getElem?_setIfInBounds_ne (Ne.symm hb)]
  have hwg : X.Wg ≠ c := by
    rcases hc with rfl | rfl | rfl
    · exact Ne.symm hx.d1
    · exact Ne.symm hx.d2
    · exact Ne.symm hx.d3
  refine ⟨.turn hx rfl rfl rfl (by simp [World.setChan, World.at]) (c := c) (.inr hc) h2 fun ⟨st, sm, hl⟩ => ⟨st, sm, hl.of_block (h2 _ hwg)⟩, h1, h2⟩

theorem silent4 {n a b c d : Nat} (ha : a < n) (hb : b < n) {x y z v : MemAct} {f1 f2 f3 f4 : FuncId} {p1 p2 p3 p4 : String} (hc : c = a ∧ d = b) (hq : ∀ m ∈ [x, y, z, v], m.touch? = none ∧ ∀ k, m ≠ .mark k) :
    ∀ op ∈ (#[⟨a, f1, p1, x⟩, ⟨b, f2, p2, y⟩, ⟨c, f3, p3, z⟩, ⟨d, f4, p4, v⟩] : Trace), op.act.touch? = none ∧ op.g < n ∧ ∀ m, op.act ≠ .mark m := by
  intro op hop
  obtain ⟨rfl, rfl⟩ := hc
  simp only [List.mem_toArray, List.mem_cons, List.not_mem_nil, or_false] at hop
  rcases hop with rfl | rfl | rfl | rfl
  · exact ⟨(hq x (by simp)).1, ha, (hq x (by simp)).2⟩
  · exact ⟨(hq y (by simp)).1, hb, (hq y (by simp)).2⟩
  · exact ⟨(hq z (by simp)).1, ha, (hq z (by simp)).2⟩
  · exact ⟨(hq v (by simp)).1, hb, (hq v (by simp)).2⟩
theorem silentQ {n : Nat} {u : Trace} (h : ∀ op ∈ u, op.g < n ∧ (op.act.touch? = none ∧ ∀ m, op.act ≠ .mark m)) : ∀ op ∈ u, op.act.touch? = none ∧ op.g < n ∧ ∀ m, op.act ≠ .mark m := fun op hop => ⟨(h op hop).2.1, (h op hop).1, (h op hop).2.2⟩
theorem ofEvents_nil (g : Nat) (fn : FuncId) (pos : String) : MemOp.ofEvents g fn pos #[] = #[] := rfl

/-- Worker i stands at its select. -/
theorem St.selStep (hx : Laws X) (h : St X e j D q tag f0 d0 next fb asg st sm gs w t) {i : Nat} (hi : i < j) {g g₀ : Goroutine} (hg : gs[e + i]? = some g) (hsel : X.Sel g₀ w) (hstep : stepG X.P false g w = .comm g₀ (pc X) true .select w #[])
    (htg : ((D i).tag = .sel ∧ 1 ≤ (D i).fuel) ∨ ∃ p, (D i).tag = .at p ∧ X.b p = false ∧ X.Done p w) (hd : (D i).deaf = 0) : Steps1 X e (mu X e j D q tag f0 next) gs w sl t (e + i) := by
  have hpos := h.pos
  have hei : (e + i == 0) = false := by simp; omega
  have hstep' : stepG X.P (e + i == 0) g w = .comm g₀ (pc X) true .select w #[] := by rw [hei]; exact hstep
  have s0 : (D i).tag.stage = 7 := by rcases htg with ⟨e1, _⟩ | ⟨p, e1, _⟩ <;> rw [e1] <;> rfl
  have hrk : (D i).tag.rank = 8 ∨ (D i).tag.rank = 10 := by rcases htg with ⟨e1, _⟩ | ⟨p, e1, _⟩ <;> rw [e1] <;> simp [WTag.rank]
  have hnl : (D i).tag.isLib = 0 := by rcases htg with ⟨e1, _⟩ | ⟨p, e1, _⟩ <;> rw [e1] <;> rfl
  have hat : ∀ p, (D i).tag = .at p → X.b p = false ∧ X.Done p w := fun p hp => by
    rcases htg with ⟨e1, _⟩ | ⟨p', e1, h1, h2⟩
    · rw [e1] at hp; cases hp
    · rw [e1] at hp; cases hp; exact ⟨h1, h2⟩
  obtain ⟨a, ha, hm⟩ := h.main
  obtain ⟨s, r, hcp⟩ := h.cp
  obtain ⟨s', r', hcs⟩ := h.cs
  have hlt : e + i < gs.size := (Array.getElem?_eq_some_iff.1 hg).1
  have vc : ∀ x : WDat, x.tag.stage = 7 → Vc j (wdD (upd D i x)) = Vc j (wdD D) := fun x hx7 => by
    have := Vc_upd' (j := j) D x hi
    have : cnt x.wd = cnt (D i).wd := by show (if 5 ≤ x.tag.stage then 1 else 0) = (if 5 ≤ (D i).tag.stage then 1 else 0); rw [hx7, s0]
    omega
  have own : ∀ x k y, gs[k]? = some y → k ≠ e + i → (gs.setIfInBounds (e + i) x)[k]? = some y := fun x k y hy hk => by rw [Array.getElem?_setIfInBounds_ne (Ne.symm hk)]; exact hy
  cases hcl : tag.closed with
  | true =>
    -- told to stop
    rw [hcl] at hcs
    have hnb : ∀ z, tag ≠ .hblk z := fun z e1 => by rw [e1] at hcl; cases hcl
    have hrun := crowd_sel_recv_closed (sl := sl) hg hstep' (k := 1) (c := X.Cs) (z := X.zs) rfl (fun m c' hm' hc' => by
      have hlt' := (Array.getElem?_eq_some_iff.1 hc').1
      simp only [pc, List.size_toArray, List.length_cons, List.length_nil] at hlt'
      obtain rfl : m = 0 := by omega
      obtain rfl : rcase X.Cp (.int .i64 0) = c' := by simpa [pc] using hc'
      exact ways_recv_none hcp (h.noSend hx _ (.inl hnb))) hcs (h.noSend hx _ (.inl hnb))
    obtain ⟨m₂, hm₂⟩ := hx.selStop g₀ w hsel
    refine ⟨_, _, mu X e j (upd D i ⟨.lib 7, m₂, 0⟩) q tag f0 next, hrun, ?_, j, upd D i ⟨.lib 7, m₂, 0⟩, q, tag, f0, d0, next, fb, asg, st, sm, _, w, sl, rfl,
      h.comm hx (i := i) (x := ⟨.lib 7, m₂, 0⟩) (by simp) ⟨a, own _ 0 a ha (by omega), hm⟩ (fun _ => ⟨_, by rw [Array.getElem?_setIfInBounds_self_of_lt hlt], .r0 hm₂⟩) (fun k _ hk => by rw [Array.getElem?_setIfInBounds_ne (Ne.symm hk)]) (.refl w) hd.symm rfl s0 (silentQ fun op hop => ?_) rfl rfl rfl rfl h.ct h.cp rfl h.cf ?_, rfl⟩
    · have := ranks_upd (j := j) D ⟨.lib 7, m₂, 0⟩ hi
      have h7 : (WTag.lib 7).rank = 7 := rfl
      unfold mu
      rw [vc _ rfl]
      exact Prod.Lex.left _ _ (by simp only at this; omega)
    · simp [ofEvents_nil] at hop
      subst hop
      exact ⟨by dsimp only; omega, rfl, by simp⟩
    · have hl := libs_upd (j := j) D ⟨.lib 7, m₂, 0⟩ hi
      have h1 : (WTag.lib 7).isLib = 1 := rfl
      simp only at hl
      refine ⟨h.pl.nextM, h.pl.asgN, fun k hk p hp => ?_, fun p hp => ?_, h.pl.fbok, by have := h.pl.room; omega, fun e1 => ?_, h.pl.tagok, fun _ k hk => ?_, fun z e1 => absurd e1 (hnb z)⟩
      · by_cases e1 : k = i
        · subst e1; rw [upd_same] at hp; cases hp
        · rw [upd_ne D _ e1] at hp; exact h.pl.tagAt k hk p hp
      · rcases h.pl.fin p hp with ⟨k, hk, hkp⟩ | h2
        · by_cases e1 : k = i
          · subst e1
            obtain ⟨h3, h4⟩ := hat p hkp
            exact .inr ⟨h4, fun hb => by rw [h3] at hb; cases hb⟩
          · exact .inl ⟨k, hk, by rw [upd_ne D _ e1]; exact hkp⟩
        · exact .inr h2
      · cases tag <;> first | (cases hcl; done) | cases e1
      · by_cases e1 : k = i
        · subst e1; rw [upd_same]; simp
        · rw [upd_ne D _ e1]; exact h.pl.noprk hcl k hk
  | false =>
    rw [hcl] at hcs
    by_cases hb : ∃ z, tag = .hblk z
    · -- the starter waits there with a place
      obtain ⟨z, rfl⟩ := hb
      cases hm with
      | hblk hh =>
      rename_i g₁
      obtain ⟨rfl, hzM, rfl⟩ := h.pl.tagok.2.2.1 z rfl
      have hrun := sel_meets_sel (sl := sl) hg hstep' (k := 0) (c := X.Cp) (z := .int .i64 0) rfl (fun m c' hm' hc' => by
        have hlt' := (Array.getElem?_eq_some_iff.1 hc').1
        simp only [pc, List.size_toArray, List.length_cons, List.length_nil] at hlt'
        obtain rfl : m = 1 := by omega
        obtain rfl : rcase X.Cs X.zs = c' := by simpa [pc] using hc'
        exact ways_recv_none hcs (h.noSend hx _ (.inr (Ne.symm hx.d4)))) hcp (j := 0) (by omega) ha (kj := 0) rfl (h.oneSend hx (by omega) ha)
      obtain ⟨hK, hn1, hn2⟩ := chan_turn hx (cap' := 0) (buf' := #[]) (cl' := false) (s' := s + 1) (r' := r + 1) (.inl rfl) hcp w.drawn
      have hw0 : (w.at w.drawn) = w := rfl
      rw [hw0] at hK hn1 hn2
      obtain ⟨m₁, hm₁⟩ := hx.handSent next g₁ _ (hx.handRely _ _ _ _ hh hK)
      obtain ⟨m₂, hm₂⟩ := hx.selTake g₀ _ next (hx.selRely _ _ _ hsel hK) hzM
      have hasg := h.pl.asgN next (Nat.le_refl _)
      refine ⟨_, _, mu X e j (upd D i ⟨.at next, m₂, 0⟩) q (.hand (next + 1)) (m₁ + 1) (next + 1), hrun, ?_, j, upd D i ⟨.at next, m₂, 0⟩, q, .hand (next + 1), m₁ + 1, 0, next + 1, [], (fun p => if p = next then some (e + i) else asg p), st, sm, _, _, sl, rfl,
        h.comm hx (i := i) (x := ⟨.at next, m₂, 0⟩) (by simp) ⟨_, by rw [Array.getElem?_setIfInBounds_ne (by omega), Array.getElem?_setIfInBounds_self_of_lt (by omega)], .hand hm₁⟩ (fun _ => ⟨_, by rw [Array.getElem?_setIfInBounds_self_of_lt (by simpa using hlt)], .at hm₂⟩)
          (fun k k0 hk => by rw [Array.getElem?_setIfInBounds_ne (Ne.symm hk), Array.getElem?_setIfInBounds_ne (Ne.symm k0)]) hK hd.symm rfl s0 (silentQ fun op hop => ?_) (hn2 _ (Ne.symm hx.d1)) rfl rfl rfl (h.ct.hand (by omega) (by omega) hasg) ⟨_, _, hn1⟩ (hn2 _ (Ne.symm hx.d4)) (by rw [hn2 _ (Ne.symm hx.d5)]; exact h.cf) ?_, rfl⟩
      · have := ranks_upd (j := j) D ⟨.at next, m₂, 0⟩ hi
        have h7 : (WTag.at next).rank = 10 := rfl
        unfold mu
        rw [vc _ rfl]
        refine Prod.Lex.left _ _ ?_
        simp only [MTag.phi] at *
        omega
      · simp [ofEvents_nil] at hop
        rcases hop with rfl | rfl | rfl | rfl <;> exact ⟨by dsimp only; omega, rfl, by simp⟩
      · have hl := libs_upd (j := j) D ⟨.at next, m₂, 0⟩ hi
        have h1 : (WTag.at next).isLib = 0 := rfl
        simp only at hl
        have hdn : ∀ p, X.Done p w → X.Done p (w.setChan X.Cp 0 #[] false (s + 1) (r + 1) false) := fun p hp => hx.doneOf p _ _ (hn2 _ hx.m2) hp
        refine ⟨by omega, fun p hp => by simp only [if_neg (show p ≠ next by omega)]; exact h.pl.asgN p (by omega), fun k hk p hp => ?_, fun p hp => ?_, fun p hp => (by cases hp), (by simp), fun _ => (by have := h.pl.room' rfl; simp only [List.length_nil] at this ⊢; omega), ⟨fun x => (by simp [MTag.left] at x), fun _ e1 => (by cases e1; rfl), fun _ e1 => (by cases e1), fun _ e1 => (by cases e1)⟩, fun e1 => (by cases e1), fun _ e1 => (by cases e1)⟩
        · by_cases e1 : k = i
          · subst e1; rw [upd_same] at hp; cases hp; exact ⟨by simp, by omega⟩
          · rw [upd_ne D _ e1] at hp
            obtain ⟨h3, h4⟩ := h.pl.tagAt k hk p hp
            exact ⟨by simp only [if_neg (show p ≠ next by omega)]; exact h3, by omega⟩
        · by_cases e2 : p = next
          · subst e2; exact .inl ⟨i, hi, by rw [upd_same]⟩
          · rcases h.pl.fin p (by omega) with ⟨k, hk, hkp⟩ | ⟨h2, h3⟩
            · by_cases e1 : k = i
              · subst e1
                obtain ⟨h3, h4⟩ := hat p hkp
                exact .inr ⟨hdn p h4, fun hb => by rw [h3] at hb; cases hb⟩
              · exact .inl ⟨k, hk, by rw [upd_ne D _ e1]; exact hkp⟩
            · exact .inr ⟨hdn p h2, fun hb => (h3 hb).imp id fun e1 => by cases e1⟩
    · -- nobody there: it waits
      have hnb : ∀ z, tag ≠ .hblk z := fun z e1 => hb ⟨z, e1⟩
      have hrun := crowd_waits (sl := sl) hg hstep' fun cc hcc => by
        simp [pc] at hcc
        rcases hcc with rfl | rfl
        · exact ways_recv_none hcp (h.noSend hx _ (.inl hnb))
        · exact ways_recv_none hcs (h.noSend hx _ (.inl hnb))
      refine ⟨_, _, mu X e j (upd D i ⟨.prk, 0, 0⟩) q tag f0 next, hrun, ?_, j, upd D i ⟨.prk, 0, 0⟩, q, tag, f0, d0, next, fb, asg, st, sm, _, w, sl, rfl,
        h.comm hx (i := i) (x := ⟨.prk, 0, 0⟩) (by simp) ⟨a, own _ 0 a ha (by omega), hm⟩ (fun _ => ⟨_, by rw [Array.getElem?_setIfInBounds_self_of_lt hlt], .prk hsel⟩) (fun k _ hk => by rw [Array.getElem?_setIfInBounds_ne (Ne.symm hk)]) (.refl w) hd.symm rfl s0 (fun op hop => by simp [ofEvents_nil] at hop) rfl rfl rfl rfl h.ct h.cp rfl h.cf ?_, rfl⟩
      · have h1 := ranks_upd (j := j) D ⟨.prk, 0, 0⟩ hi
        have h2 := fuels_upd (j := j) D ⟨.prk, 0, 0⟩ hi
        have h7 : WTag.prk.rank = 8 := rfl
        unfold mu
        rw [vc _ rfl]
        simp only at h1 h2
        rcases htg with ⟨e1, hf⟩ | ⟨p, e1, _⟩
        · have h8 : (D i).tag.rank = 8 := by rw [e1]; rfl
          rw [show ranks j (upd D i ⟨.prk, 0, 0⟩) = ranks j D by omega]
          exact Prod.Lex.right _ (by omega)
        · have h8 : (D i).tag.rank = 10 := by rw [e1]; rfl
          exact Prod.Lex.left _ _ (by omega)
      · have hl := libs_upd (j := j) D ⟨.prk, 0, 0⟩ hi
        have h1 : WTag.prk.isLib = 0 := rfl
        simp only at hl
        refine ⟨h.pl.nextM, h.pl.asgN, fun k hk p hp => ?_, fun p hp => ?_, h.pl.fbok, (by have := h.pl.room; omega), fun e1 => (by have := h.pl.room' e1; omega), h.pl.tagok, fun e1 => (by rw [hcl] at e1; cases e1), fun z e1 => absurd e1 (hnb z)⟩
        · by_cases e1 : k = i
          · subst e1; rw [upd_same] at hp; cases hp
          · rw [upd_ne D _ e1] at hp; exact h.pl.tagAt k hk p hp
        · rcases h.pl.fin p hp with ⟨k, hk, hkp⟩ | h2
          · by_cases e1 : k = i
            · subst e1
              obtain ⟨h3, h4⟩ := hat p hkp
              exact .inr ⟨h4, fun hb => by rw [h3] at hb; cases hb⟩
            · exact .inl ⟨k, hk, by rw [upd_ne D _ e1]; exact hkp⟩
          · exact .inr h2

/-- Worker i tells that it found place p. -/
theorem St.sndStep (hx : Laws X) (h : St X e j D q tag f0 d0 next fb asg st sm gs w t) {i : Nat} (hi : i < j) {g : Goroutine} (hg : gs[e + i]? = some g) {p : Nat} (htg : (D i).tag = .at p) (hbp : X.b p = true) (hdp : X.Done p w) (hsnd : AtSnd X p g w) (hd : (D i).deaf = 0) :
    Steps1 X e (mu X e j D q tag f0 next) gs w sl t (e + i) := by
  have hpos := h.pos
  have hei : (e + i == 0) = false := by simp; omega
  obtain ⟨_, g₂, hstep, hgo⟩ := hsnd
  have hstep' : stepG X.P (e + i == 0) g w = .comm g₂ (sc X p) true .send w #[] := by rw [hei]; exact hstep
  have s0 : (D i).tag.stage = 7 := by rw [htg]; rfl
  have hrk : (D i).tag.rank = 10 := by rw [htg]; rfl
  have hnl : (D i).tag.isLib = 0 := by rw [htg]; rfl
  obtain ⟨hpa, hpn⟩ := h.pl.tagAt i hi p htg
  obtain ⟨a, ha, hm⟩ := h.main
  obtain ⟨s, r, hcf⟩ := h.cf
  have hlt : e + i < gs.size := (Array.getElem?_eq_some_iff.1 hg).1
  have vc : ∀ x : WDat, x.tag.stage = 7 → Vc j (wdD (upd D i x)) = Vc j (wdD D) := fun x hx7 => by
    have := Vc_upd' (j := j) D x hi
    have : cnt x.wd = cnt (D i).wd := by show (if 5 ≤ x.tag.stage then 1 else 0) = (if 5 ≤ (D i).tag.stage then 1 else 0); rw [hx7, s0]
    omega
  by_cases hb : ∃ z, tag = .hblk z
  · obtain ⟨z, rfl⟩ := hb
    cases hm with
    | hblk hh =>
    rename_i g₁
    obtain ⟨rfl, hzM, rfl⟩ := h.pl.tagok.2.2.1 z rfl
    have hrun := crowd_send_meets_sel (sl := sl) hg hstep' hcf (j := 0) (by omega) ha (k := 1) (zj := .int .i64 0) rfl (h.oneRecvF hx (by omega) ha)
    obtain ⟨hK, hn1, hn2⟩ := chan_turn hx (cap' := X.n) (buf' := (([] : List Nat).map ival).toArray) (cl' := false) (s' := s + 1) (r' := r + 1) (.inr (.inr rfl)) hcf w.drawn
    have hw0 : (w.at w.drawn) = w := rfl
    rw [hw0] at hK hn1 hn2
    obtain ⟨m₁, hm₁⟩ := hx.handGot next g₁ _ p (hx.handRely _ _ _ _ hh hK) (by have := h.pl.nextM; omega)
    obtain ⟨m₂, hm₂⟩ := hgo _ hK
    refine ⟨_, _, mu X e j (upd D i ⟨.lib 7, m₂, 0⟩) q (.shut p) m₁ next, hrun, ?_, j, upd D i ⟨.lib 7, m₂, 0⟩, q, .shut p, m₁, 0, next, [], asg, st, sm, _, _, sl, rfl,
      h.comm hx (i := i) (x := ⟨.lib 7, m₂, 0⟩) (by simp) ⟨_, by rw [Array.getElem?_setIfInBounds_ne (by omega), Array.getElem?_setIfInBounds_self_of_lt (by omega)], .shut hm₁⟩ (fun _ => ⟨g₂.finishComm X.P (sc X p) .send 0 undef false, by rw [Array.getElem?_setIfInBounds_self_of_lt (by simpa using hlt)]; rfl, .r0 hm₂⟩)
        (fun k k0 hk => by rw [Array.getElem?_setIfInBounds_ne (Ne.symm hk), Array.getElem?_setIfInBounds_ne (Ne.symm k0)]) hK hd.symm rfl s0 (silentQ fun op hop => ?_) (hn2 _ (Ne.symm hx.d3)) rfl rfl rfl h.ct (by rw [hn2 _ hx.d5]; exact h.cp) (hn2 _ hx.d6) ⟨_, _, hn1⟩ ?_, rfl⟩
    · have := ranks_upd (j := j) D ⟨.lib 7, m₂, 0⟩ hi
      have h7 : (WTag.lib 7).rank = 7 := rfl
      unfold mu
      rw [vc _ rfl]
      refine Prod.Lex.left _ _ ?_
      simp only [MTag.phi] at *
      omega
    · simp [ofEvents_nil] at hop
      rcases hop with rfl | rfl | rfl | rfl <;> exact ⟨by dsimp only; omega, rfl, by simp⟩
    · have hdn : ∀ p, X.Done p w → X.Done p (w.setChan X.Cf X.n (([] : List Nat).map ival).toArray false (s + 1) (r + 1) false) := fun p hp => hx.doneOf p _ _ (hn2 _ hx.m4) hp
      refine ⟨h.pl.nextM, h.pl.asgN, fun k hk p' hp => ?_, fun p' hp => ?_, fun p hp => (by cases hp), (by simp), fun e1 => (by cases e1), ⟨fun x => (by simp [MTag.left] at x), fun _ e1 => (by cases e1), fun _ e1 => (by cases e1), fun l e1 => (by cases e1; exact .inr ⟨hpn, hbp⟩)⟩, fun e1 => (by cases e1), fun _ e1 => (by cases e1)⟩
      · by_cases e1 : k = i
        · subst e1; rw [upd_same] at hp; cases hp
        · rw [upd_ne D _ e1] at hp; exact h.pl.tagAt k hk p' hp
      · rcases h.pl.fin p' hp with ⟨k, hk, hkp⟩ | ⟨h2, h3⟩
        · by_cases e1 : k = i
          · subst e1
            rw [htg] at hkp; cases hkp
            exact .inr ⟨hdn p hdp, fun _ => .inr rfl⟩
          · exact .inl ⟨k, hk, by rw [upd_ne D _ e1]; exact hkp⟩
        · exact .inr ⟨hdn p' h2, fun hb => by
            rcases h3 hb with h4 | h4
            · cases h4
            · cases h4⟩
  · have hnb : ∀ z, tag ≠ .hblk z := fun z e1 => hb ⟨z, e1⟩
    have hl := libs_upd (j := j) D ⟨.lib 7, 0, 0⟩ hi
    have h1 : (WTag.lib 7).isLib = 1 := rfl
    have hle : libs j (upd D i ⟨.lib 7, 0, 0⟩) ≤ j := by
      have := sumTo_le (f := fun a => (upd D i ⟨.lib 7, 0, 0⟩ a).tag.isLib) (c := 1) (j := j) fun a _ => by cases (upd D i ⟨.lib 7, 0, 0⟩ a).tag <;> simp [WTag.isLib]
      simpa [libs] using this
    simp only at hl
    have hroom : ((fb.map ival).toArray).size < X.n := by
      have := h.pl.room
      have := h.jn
      simp only [List.size_toArray, List.length_map]
      omega
    have hrun := crowd_send_room (sl := sl) hg hstep' hcf hroom (h.noRecvF hx _ hnb)
    obtain ⟨hK, hn1, hn2⟩ := chan_turn hx (cap' := X.n) (buf' := (fb.map ival).toArray.push (.int .i64 p)) (cl' := false) (s' := s + 1) (r' := r) (.inr (.inr rfl)) hcf w.drawn
    have hw0 : (w.at w.drawn) = w := rfl
    rw [hw0] at hK hn1 hn2
    obtain ⟨m₂, hm₂⟩ := hgo _ hK
    have hbuf : (fb.map ival).toArray.push (.int .i64 (p : Int)) = ((fb ++ [p]).map ival).toArray := by simp [ival]
    refine ⟨_, _, mu X e j (upd D i ⟨.lib 7, m₂, 0⟩) q tag f0 next, hrun, ?_, j, upd D i ⟨.lib 7, m₂, 0⟩, q, tag, f0, d0, next, fb ++ [p], asg, st, sm, _, _, sl, rfl,
      h.comm hx (i := i) (x := ⟨.lib 7, m₂, 0⟩) (by simp) ⟨a, by rw [Array.getElem?_setIfInBounds_ne (by omega)]; exact ha, hm.rely hx hK⟩ (fun _ => ⟨g₂.finishComm X.P (sc X p) .send 0 undef false, by rw [Array.getElem?_setIfInBounds_self_of_lt hlt]; rfl, .r0 hm₂⟩)
        (fun k k0 hk => by rw [Array.getElem?_setIfInBounds_ne (Ne.symm hk)]) hK hd.symm rfl s0 (silentQ fun op hop => ?_) (hn2 _ (Ne.symm hx.d3)) rfl rfl rfl h.ct (by rw [hn2 _ hx.d5]; exact h.cp) (hn2 _ hx.d6) ⟨_, _, by rw [hn1, hbuf]⟩ ?_, rfl⟩
    · have := ranks_upd (j := j) D ⟨.lib 7, m₂, 0⟩ hi
      have h7 : (WTag.lib 7).rank = 7 := rfl
      unfold mu
      rw [vc _ rfl]
      refine Prod.Lex.left _ _ ?_
      simp only at *
      omega
    · simp [ofEvents_nil] at hop
      rcases hop with rfl | rfl <;> exact ⟨by dsimp only; omega, rfl, by simp⟩
    · have hdn : ∀ p', X.Done p' w → X.Done p' (w.setChan X.Cf X.n ((fb.map ival).toArray.push (.int .i64 p)) false (s + 1) r false) := fun p hp => hx.doneOf p _ _ (hn2 _ hx.m4) hp
      have hl' := libs_upd (j := j) D ⟨.lib 7, m₂, 0⟩ hi
      simp only at hl'
      refine ⟨h.pl.nextM, h.pl.asgN, fun k hk p' hp => ?_, fun p' hp => ?_, fun p' hp => ?_, by have := h.pl.room; simp only [List.length_append, List.length_singleton]; omega, fun e1 => by have := h.pl.room' e1; simp only [List.length_append, List.length_singleton]; omega, ⟨h.pl.tagok.1, h.pl.tagok.2.1, fun z e1 => absurd e1 (hnb z), h.pl.tagok.2.2.2⟩, fun e1 k hk => ?_, fun z e1 => absurd e1 (hnb z)⟩
      · by_cases e1 : k = i
        · subst e1; rw [upd_same] at hp; cases hp
        · rw [upd_ne D _ e1] at hp; exact h.pl.tagAt k hk p' hp
      · rcases h.pl.fin p' hp with ⟨k, hk, hkp⟩ | ⟨h2, h3⟩
        · by_cases e1 : k = i
          · subst e1
            rw [htg] at hkp; cases hkp
            exact .inr ⟨hdn p hdp, fun _ => .inl (by simp)⟩
          · exact .inl ⟨k, hk, by rw [upd_ne D _ e1]; exact hkp⟩
        · exact .inr ⟨hdn p' h2, fun hb => (h3 hb).imp (fun h4 => by simp [h4]) id⟩
      · simp only [List.mem_append, List.mem_singleton] at hp
        rcases hp with h2 | rfl
        · exact h.pl.fbok p' h2
        · exact ⟨hpn, hbp⟩
      · by_cases e2 : k = i
        · subst e2; rw [upd_same]; simp
        · rw [upd_ne D _ e2]; exact h.pl.noprk e1 k hk
end
end Go.Proofs.Ytbckmkppmdfnnaa.Crew

namespace Go.Proofs.Ytbckmkppmdfnnaa.Crew
open Go.Conc Go.RowKit Go.Conc.Lib
open Go.ConcN (WgLive WD CTag sumTo upd upd_ne upd_same Vc cnt RelBy RelBy.appOther OpenSt isW3 pend others_uncounted Vc_upd bk_cell RelBy.new RelBy.book)
open Go.ConcR (KK wgBlock WgAt stA smA rd wr mk Payload DC0 Bk bk_of_mute ofEvent_loc_mark ofEvent_cell ofEvent_mk loc_of_ofEvent)

section
variable {X : Cfg} {e j : Nat} {D : Nat → WDat} {q : Nat → Nat} {tag : MTag} {f0 d0 next : Nat} {fb : List Nat} {asg : Nat → Option Nat} {st sm : Int} {gs : Array Goroutine} {w w' : World} {t : Trace} {sl : Option (Nat × Nat)}

theorem okW_bk (hx : Laws X) {g : Nat} {fn : FuncId} {pos : String} {es : Array Event} (h : ∀ ev ∈ es, Bk X.Wg ev) : ∀ op ∈ MemOp.ofEvents g fn pos es, OkW X.L asg g op := by
  intro op hop
  rw [ofEvents_eq] at hop
  obtain ⟨ev, hev, rfl⟩ := Array.mem_map.1 hop
  rcases h ev hev with h1 | h1 | ⟨a, wr, rfl, ha⟩
  · exact ⟨rfl, fun x hxx => (by simp only [ofEvent_loc_mark h1] at hxx; cases hxx), fun a hm => (by simp only [ofEvent_loc_mark h1] at hm; cases hm)⟩
  · exact ⟨rfl, fun x hxx => (by simp only [ofEvent_loc_mark h1] at hxx; cases hxx), fun a hm => (by simp only [ofEvent_loc_mark h1] at hm; cases hm)⟩
  · refine ⟨rfl, fun x hxx => ?_, fun b hm => by simp only [ofEvent_cell] at hm; cases hm⟩
    simp only [ofEvent_cell, MemAct.touch?, Option.some.injEq] at hxx
    subst hxx
    exact .inl ⟨(hx.shWg _).2 ⟨a, rfl, ha⟩, by simp, by simp⟩
theorem okW_mk {g : Nat} {fn : FuncId} {pos : String} {m : Mark} (h1 : (MemAct.mark m).touch? = none) (h2 : ∀ a, m ≠ .release a) : ∀ op ∈ MemOp.ofEvents g fn pos #[mk m], OkW X.L asg g op := by
  intro op hop
  rw [ofEvents_eq] at hop
  obtain ⟨ev, hev, rfl⟩ := Array.mem_map.1 hop
  simp only [List.mem_toArray, List.mem_singleton] at hev
  subst hev
  exact ⟨rfl, fun x hxx => (by simp only [ofEvent_mk, h1] at hxx; cases hxx), fun a hm => (by simp only [ofEvent_mk] at hm; cases hm; exact h2 a rfl)⟩
theorem okW_ev {g : Nat} {fn : FuncId} {pos : String} {es : Array Event} {o : Option Nat} (ho : ∀ p, o = some p → asg p = some g) (h : ∀ ev ∈ es, EvW X o ev) : ∀ op ∈ MemOp.ofEvents g fn pos es, OkW X.L asg g op := by
  intro op hop
  rw [ofEvents_eq] at hop
  obtain ⟨ev, hev, rfl⟩ := Array.mem_map.1 hop
  obtain ⟨a, wr, rfl, hcase⟩ := h ev hev
  refine ⟨rfl, fun x hxx => ?_, fun b hm => by simp only [ofEvent_cell] at hm; cases hm⟩
  simp only [ofEvent_cell, MemAct.touch?, Option.some.injEq] at hxx
  subst hxx
  refine .inr ⟨?_, by simp⟩
  rcases hcase with ⟨p, hp, hown⟩ | ⟨hr, hw⟩
  · exact .inl ⟨p, ho p hp, hown⟩
  · exact .inr ⟨hr, hw⟩
theorem deaf_ev {es : Array Event} {o : Option Nat} (h : ∀ ev ∈ es, EvW X o ev) (d : Nat) : deafBehind d es = d :=
  deafBehind_still (fun ev hev => by obtain ⟨a, wr, rfl, _⟩ := h ev hev; simp) d
theorem mode_same {i : Nat} {x : WDat} {c : CTag} (hm : Go.ConcN.Mode j (wdD D) c st sm) (hs : x.tag.stage = (D i).tag.stage) : Go.ConcN.Mode j (wdD (upd D i x)) c st sm :=
  hm.congr fun a _ => by
    by_cases e1 : a = i
    · subst e1; simp only [wdD, upd_same, WDat.wd, hs]
    · simp only [wdD, upd_ne D x e1]
theorem mode_re {tag' : MTag} {D' : Nat → WD} (hm : Go.ConcN.Mode j D' tag.c st sm) (ht : tag' = tag ∨ ∃ l, tag = .blk l ∧ tag' = .w3 l) : Go.ConcN.Mode j D' tag'.c st sm :=
  Go.ConcN.Mode.retag hm (by
    rcases ht with rfl | ⟨l, rfl, rfl⟩
    · exact .inl rfl
    · exact .inr ⟨rfl, rfl⟩)
theorem k_aside (hx : Laws X) (h : Aside X.Wg w w') {st' sm' : Int} (hw : WgAt X.ty X.Wg w' st' sm') : K X w w' := .turn hx h.tape h.os h.output h.size (.inl rfl) h.block fun _ => ⟨_, _, hw⟩

set_option maxHeartbeats 3200000 in
theorem St.stepWorker (hx : Laws X) (h : St X e j D q tag f0 d0 next fb asg st sm gs w t) {i : Nat} (hi : i < j) {g : Goroutine} (hg : gs[e + i]? = some g) (hrun : g.status = .running) : Steps1 X e (mu X e j D q tag f0 next) gs w sl t (e + i) := by
  obtain ⟨g₁, hg₁, hs⟩ := h.wk i hi
  obtain rfl : g = g₁ := by rw [hg] at hg₁; exact Option.some.inj hg₁
  have hmode := h.mode
  have hpos := h.pos
  have hnj : j + tag.left = X.n := h.jn
  have hfew := hx.few
  have hdk := h.deafW i hi
  generalize hst : (D i).tag = tg at hs
  generalize hfu : (D i).fuel = m at hs
  generalize hde : (D i).deaf = dd at hs
  rw [hde] at hdk
  have hpend : pend tag.c ≤ tag.left := by cases tag <;> simp [MTag.c, MTag.left, pend]
  have hVj : Vc j (wdD D) ≤ j := Go.ConcN.Vc_le j (wdD D)
  -- a step of the library's bookkeeping: at most the group's block turns
  have bookG : ∀ {s s' m' dd' : Nat} {g' : Goroutine} {w' : World} {es : Array Event} {st' sm' : Int}, tg = .lib s → stepG X.P false g w = .go g' w' es → Aside X.Wg w w' → WgAt X.ty X.Wg w' st' sm' → (∀ ev ∈ es, Bk X.Wg ev) →
      (∀ jx ev, es[jx]? = some ev → (MemAct.ofEvent ev).touch? = none ∨ 0 < deafBehind dd (es.extract 0 jx)) → WS X (.lib s') m' dd' g' w' → deafBehind dd es = dd' → s ≤ 6 →
      (∀ tag', (tag' = tag ∨ ∃ l, tag = .blk l ∧ tag' = .w3 l) → (mayWake X.P g = true → g'.status = .running → ∀ l, tag' ≠ .blk l) → Go.ConcN.Mode j (wdD (upd D i ⟨.lib s', m', dd'⟩)) tag'.c st' sm') → ((s' < s ∧ cnt ⟨s', m', dd'⟩ ≤ cnt (D i).wd) ∨ (s' = s ∧ m' < m)) →
      Steps1 X e (mu X e j D q tag f0 next) gs w sl t (e + i) := by
    intro s s' m' dd' g' w' es st' sm' htg hgo hAs hwg' hbk hd hs' hdd h6 hmode' hlt
    subst htg
    have h6' : (D i).tag.stage ≤ 6 := by rw [hst]; exact h6
    refine h.workGo hx hi (x := ⟨.lib s', m', dd'⟩) hg hgo (k_aside hx hAs hwg') hs' (okW_bk hx hbk) (by rw [hde]; exact hdd) (fun _ => ?_) hwg' hmode' (hAs.block _ hx.d1) (hAs.block _ hx.d2) (hAs.block _ hx.d3) (.inr ⟨s, s', hst, rfl⟩) (by rw [hst]; simp) (fun p _ hp => hx.doneOf p _ _ (hAs.block _ hx.m1) hp) ?_
    · obtain ⟨r, hr⟩ := h.rel i hi h6'
      exact ⟨r, hr.book hdk _ _ hbk hd⟩
    · rcases hlt with ⟨h1, h2⟩ | ⟨h1, h2⟩
      · exact .inl ⟨by rw [hst]; exact h1, h2⟩
      · exact .inr ⟨by rw [hst]; exact h1, by rw [hst]; exact h1, by rw [hfu]; exact h2⟩
  have book : ∀ {s s' m' dd' : Nat} {g' : Goroutine} {w' : World} {es : Array Event} {st' sm' : Int}, tg = .lib s → stepG X.P false g w = .go g' w' es → Aside X.Wg w w' → WgAt X.ty X.Wg w' st' sm' → (∀ ev ∈ es, Bk X.Wg ev) →
      (∀ jx ev, es[jx]? = some ev → (MemAct.ofEvent ev).touch? = none ∨ 0 < deafBehind dd (es.extract 0 jx)) → WS X (.lib s') m' dd' g' w' → deafBehind dd es = dd' → s ≤ 6 →
      Go.ConcN.Mode j (wdD (upd D i ⟨.lib s', m', dd'⟩)) tag.c st' sm' → ((s' < s ∧ cnt ⟨s', m', dd'⟩ ≤ cnt (D i).wd) ∨ (s' = s ∧ m' < m)) →
      Steps1 X e (mu X e j D q tag f0 next) gs w sl t (e + i) :=
    fun htg hgo hAs hwg' hbk hd hs' hdd h6 hm' hlt => bookG htg hgo hAs hwg' hbk hd hs' hdd h6 (fun _ ht _ => mode_re hm' ht) hlt
  have idle : ∀ {s m' : Nat} {g' : Goroutine}, tg = .lib s → stepG X.P false g w = .go g' w #[] → WS X (.lib s) m' dd g' w → m' < m → s ≤ 6 → Steps1 X e (mu X e j D q tag f0 next) gs w sl t (e + i) :=
    fun htg hgo hs' hm h6 => book htg hgo (.refl _ w) h.wg (by simp) (by simp) hs' rfl h6 (mode_same hmode (by rw [hst, htg])) (.inr ⟨rfl, hm⟩)
  have stageD : ∀ {s : Nat}, tg = .lib s → (wdD D i).stage = s := fun htg => by simp only [wdD, WDat.wd, hst, htg, WTag.stage]
  have modeU : ∀ {s' m' dd' : Nat} {c : CTag} {a b : Int}, Go.ConcN.Mode j (upd (wdD D) i ⟨s', m', dd'⟩) c a b → Go.ConcN.Mode j (wdD (upd D i ⟨.lib s', m', dd'⟩)) c a b := fun hm => by rw [wdD_upd]; exact hm
  have selTo : ∀ {g₀ : Goroutine}, X.Sel g₀ w → stepG X.P false g w = .comm g₀ (pc X) true .select w #[] → ((tg = .sel ∧ 1 ≤ m) ∨ ∃ p, tg = .at p ∧ X.b p = false ∧ X.Done p w) → dd = 0 → Steps1 X e (mu X e j D q tag f0 next) gs w sl t (e + i) :=
    fun h1 h2 h3 h4 => h.selStep hx hi hg h1 h2 (by rw [hst, hfu]; exact h3) (by rw [hde]; exact h4)
  cases hs with
  | sel hgo =>
    rcases Goes.cases hgo with hstop | ⟨m', rfl, hstep⟩
    · have hsel := hstop w (.refl w)
      exact selTo hsel (hx.selStep _ _ hsel).2.2 (.inl ⟨rfl, by omega⟩) rfl
    · obtain ⟨g', w', es, hgo, ⟨rfl, hev⟩, hg'⟩ := hstep w (.refl w)
      exact h.workGo hx hi (x := ⟨.sel, m' + 1, 0⟩) hg hgo (.refl _) (.sel hg') (okW_ev (o := none) (fun _ e1 => by cases e1) hev) (by rw [hde]; exact deaf_ev hev 0) (fun hh => by simp [WTag.stage] at hh) h.wg (fun _ ht _ => mode_re (mode_same hmode (by rw [hst])) ht) rfl rfl rfl (.inl hst.symm) (by rw [hst]; simp) (fun _ _ hp => hp)
        (.inr ⟨by rw [hst], by rw [hst], by rw [hfu]; dsimp only; omega⟩)
  | woke hsel =>
    rename_i g₀
    obtain ⟨h1, h2, h3⟩ := hx.selStep _ _ hsel
    refine selTo hsel ?_ (.inl ⟨rfl, Nat.le_refl _⟩) rfl
    rw [stepG_tries]
    have : ({ g₀ with status := .running } : Goroutine) = g₀ := by
      obtain ⟨a1, a2, a3, a4, a5⟩ := g₀
      simp only at h1
      rw [h1]
    rw [this]
    exact h3
  | prk _ => simp [parked] at hrun
  | «at» hgo =>
    rename_i p
    rcases Goes.cases hgo with hstop | ⟨m', rfl, hstep⟩
    · obtain ⟨hdp, ⟨hb, hsel⟩ | ⟨hb, hsnd⟩⟩ := hstop w (.refl w)
      · exact selTo hsel (hx.selStep _ _ hsel).2.2 (.inr ⟨p, rfl, hb, hdp⟩) rfl
      · exact h.sndStep hx hi hg hst hb hdp hsnd hde
    · obtain ⟨g', w', es, hgo, ⟨hput, hev⟩, hg'⟩ := hstep w (.refl w)
      exact h.workGo hx hi (x := ⟨.at p, m', 0⟩) hg hgo (hput.k hx) (.at hg') (okW_ev (o := some p) (fun p' e1 => by cases e1; exact (h.pl.tagAt i hi p hst).1) hev) (by rw [hde]; exact deaf_ev hev 0) (fun hh => by simp [WTag.stage] at hh) (h.wg.of_block (hput.block _ (Ne.symm hx.m1)))
        (fun _ ht _ => mode_re (mode_same hmode (by rw [hst])) ht) (hput.block _ (Ne.symm hx.m2)) (hput.block _ (Ne.symm hx.m3)) (hput.block _ (Ne.symm hx.m4)) (.inl hst.symm) (by rw [hst]; simp)
        (fun p' _ hdn => hput.done p' hdn) (.inr ⟨by rw [hst], by rw [hst], by rw [hfu]; dsimp only; omega⟩)
  | r0 hgo =>
    rcases Goes.cases hgo with hstop | ⟨m', rfl, hstep⟩
    · obtain ⟨_, g', hgo, m₂, hk⟩ := hstop w (.refl w)
      refine h.workGo hx hi (x := ⟨.lib 6, m₂, 0⟩) hg hgo (.refl _) (.k1 hk) (okW_mk rfl (by simp)) (by rw [hde]; rfl) (fun _ => ⟨t.size, RelBy.new hdk _ _⟩) h.wg (fun _ ht _ => mode_re (modeU (hmode.counted hi (by rw [stageD rfl]; omega) (.inl rfl) m₂ 0)) ht) rfl rfl rfl (.inr ⟨7, 6, hst, rfl⟩) (by rw [hst]; simp) (fun _ _ hp => hp)
        (.inl ⟨by rw [hst]; show 6 < 7; omega, by simp [cnt, WDat.wd, hst, WTag.stage]⟩)
    · obtain ⟨g', w', es, hgo, ⟨rfl, hev⟩, hg'⟩ := hstep w (.refl w)
      exact h.workGo hx hi (x := ⟨.lib 7, m', 0⟩) hg hgo (.refl _) (.r0 hg') (okW_ev (o := none) (fun _ e1 => by cases e1) hev) (by rw [hde]; exact deaf_ev hev 0) (fun hh => by simp [WTag.stage] at hh) h.wg (fun _ ht _ => mode_re (mode_same hmode (by rw [hst])) ht) rfl rfl rfl (.inl hst.symm) (by rw [hst]; simp) (fun _ _ hp => hp)
        (.inr ⟨by rw [hst], by rw [hst], by rw [hfu]; dsimp only; omega⟩)
  | k1 hgo =>
    rcases Goes.cases hgo with hstop | ⟨m', rfl, hstep⟩
    · obtain ⟨_, g', hgo, m₂, hk⟩ := hstop w id
      exact book rfl hgo (.refl _ w) h.wg (by intro ev he; simp at he; subst he; exact .inl rfl) (by intro jx ev he; exact .inl (by have := Array.mem_of_getElem? he; simp at this; subst this; rfl)) (.d1 hk) rfl (by omega)
        (modeU (hmode.counted hi (by rw [stageD rfl]; omega) (.inr rfl) m₂ 1)) (.inl ⟨by omega, by simp [cnt, WDat.wd, hst, WTag.stage]⟩)
    · obtain ⟨g', w', es, hgo, ⟨rfl, rfl⟩, hg'⟩ := hstep w id
      exact idle rfl hgo (.k1 hg') (by omega) (by omega)
  | d1 hgo =>
    rcases Goes.cases hgo with hstop | ⟨m', rfl, hstep⟩
    · obtain ⟨_, hall⟩ := hstop w id
      have hwg := h.wg
      have hc1 : cnt (wdD D i) = 1 := by simp [cnt, wdD, WDat.wd, hst, WTag.stage]
      have hV1 : 1 ≤ Vc j (wdD D) := by have := Go.ConcN.le_sumTo (f := fun x => cnt (wdD D x)) hi; simp only [Vc]; omega
      have bk2 : ∀ ev ∈ #[rd (stA X.Wg), wr (stA X.Wg)], Bk X.Wg ev := by intro ev he; simp at he; rcases he with rfl | rfl <;> exact bk_cell _ _ rfl
      have df2 : ∀ jx ev, (#[rd (stA X.Wg), wr (stA X.Wg)] : Array Event)[jx]? = some ev → (MemAct.ofEvent ev).touch? = none ∨ 0 < deafBehind 1 ((#[rd (stA X.Wg), wr (stA X.Wg)] : Array Event).extract 0 jx) := by
        intro jx ev he
        match jx, he with
        | 0, _ => exact .inr (by simp [deafBehind])
        | 1, _ => exact .inr (by simp [deafBehind, rd])
        | jx + 2, he => simp at he
      have hq0 : ∀ b, cnt (⟨1, b, 1⟩ : WD) = 0 := fun _ => rfl
      have opq : ∀ b, OpenSt j (wdD D) → OpenSt j (upd (wdD D) i ⟨1, b, 1⟩) := fun b ho a ha => by
        by_cases e1 : a = i
        · subst e1; rw [upd_same]; simp
        · rw [upd_ne _ _ e1]; exact ho a ha
      have hsD : (wdD D i).stage = 5 := stageD rfl
      have hlt1 : ∀ s' m' dd', s' < 5 → ((s' < 5 ∧ cnt ⟨s', m', dd'⟩ ≤ cnt (D i).wd) ∨ (s' = 5 ∧ m' < m)) := fun s' m' dd' h5 => .inl ⟨h5, by show (if 5 ≤ s' then 1 else 0) ≤ _; rw [if_neg (by omega)]; omega⟩
      have hasd : ∀ v : Int, Aside X.Wg w (w.setCell (stA X.Wg) (.int .u64 v)) := fun v => aside_setCell w (stA X.Wg) _
      generalize hcc : tag.c = c at hmode hpend
      cases hmode with
      | opn h1 h2 h3 =>
        obtain ⟨v, hv⟩ : ∃ v, Vc j (wdD D) + pend c = v + 1 := ⟨Vc j (wdD D) + pend c - 1, by omega⟩
        rw [hv] at hwg
        have hw1 : WgAt X.ty X.Wg w (((v : Nat) + 1) * KK + ((0 : Nat) : Int)) 0 := by simpa using hwg
        obtain ⟨g', hgo, _, hq⟩ := hall v 0 (by omega) (by omega) hw1
        obtain ⟨b, hq⟩ := hq (by omega)
        have hv' : Vc j (upd (wdD D) i ⟨1, b, 1⟩) + pend c = v := by have := Vc_upd (wdD D) (⟨1, b, 1⟩ : WD) hi; have := hq0 b; omega
        refine book rfl hgo (hasd _) (hwg.setSt _) bk2 df2 (.quit hq) rfl (by omega) ?_ (hlt1 _ _ _ (by omega))
        have e1 : ((v : Nat) : Int) * KK + ((0 : Nat) : Int) = ((Vc j (upd (wdD D) i ⟨1, b, 1⟩) + pend c : Nat) : Int) * KK := by rw [hv']; simp
        rw [e1, hcc]
        exact modeU (.opn h1 (opq b h2) (fun vs ev => by have := h3 vs ev; omega))
      | reg h1 h2 h3 =>
        obtain ⟨v, hv⟩ : ∃ v, Vc j (wdD D) = v + 1 := ⟨Vc j (wdD D) - 1, by omega⟩
        rw [hv] at hwg
        have hw1 : WgAt X.ty X.Wg w (((v : Nat) + 1) * KK + ((1 : Nat) : Int)) 0 := by simpa using hwg
        obtain ⟨g', hgo, hl, hq⟩ := hall v 1 (by omega) (by omega) hw1
        by_cases hv0 : v = 0
        · subst hv0
          obtain ⟨m₂, hk⟩ := hl ⟨rfl, rfl⟩
          refine book rfl hgo (hasd _) (hwg.setSt _) bk2 df2 (.d2 hk) rfl (by omega) ?_ (hlt1 _ _ _ (by omega))
          have hoth : ∀ a, a < j → a ≠ i → (wdD D a).stage = 1 := fun a ha e1 => by
            have c0 := others_uncounted hi hv hc1 a ha e1
            have := h2 a ha
            simp only [cnt] at c0
            split at c0 <;> omega
          have := Go.ConcN.Mode.last (j := j) (D := upd (wdD D) i ⟨4, m₂, 1⟩) (tag := c) i h1 hi (by rw [upd_same]; simp) (fun a ha e1 => by rw [upd_ne _ _ e1]; exact hoth a ha e1)
          rw [upd_same] at this
          rw [hcc]
          exact modeU (by simpa using this)
        · obtain ⟨b, hq⟩ := hq (by omega)
          have hv' : Vc j (upd (wdD D) i ⟨1, b, 1⟩) = v := by have := Vc_upd (wdD D) (⟨1, b, 1⟩ : WD) hi; have := hq0 b; omega
          refine book rfl hgo (hasd _) (hwg.setSt _) bk2 df2 (.quit hq) rfl (by omega) ?_ (hlt1 _ _ _ (by omega))
          have e1 : ((v : Nat) : Int) * KK + ((1 : Nat) : Int) = ((Vc j (upd (wdD D) i ⟨1, b, 1⟩) : Nat) : Int) * KK + 1 := by rw [hv']; simp
          rw [e1, hcc]
          exact modeU (.reg h1 (opq b h2) (by omega))
      | last L _ h2 h3 h4 =>
        by_cases e1 : i = L
        · subst e1; omega
        · have := h4 i hi e1; omega
      | sema h2 => have := h2 i hi; omega
      | fin _ h2 => have := h2 i hi; omega
    · obtain ⟨g', w', es, hgo, ⟨rfl, rfl⟩, hg'⟩ := hstep w id
      exact idle rfl hgo (.d1 hg') (by omega) (by omega)
  | d2 hgo =>
    rcases Goes.cases hgo with hstop | ⟨m', rfl, hstep⟩
    · obtain ⟨_, hxx⟩ := hstop w id
      have hsD : (wdD D i).stage = 4 := stageD rfl
      obtain ⟨hW3, hoth, h8, h9⟩ := hmode.isLast hi (by omega)
      have hwg := h.wg
      rw [h8, h9, if_neg (by omega)] at hwg
      obtain ⟨g', hgo, m₂, hk⟩ := hxx hwg
      refine book rfl hgo (.refl _ w) hwg (by intro ev he; simp at he; subst he; exact bk_cell _ _ rfl) (by intro jx ev he; match jx, he with | 0, _ => exact .inr (by simp [deafBehind]) | jx + 1, he => simp at he) (.d3 hk) rfl (by omega) ?_ (.inl ⟨by omega, by simp [cnt]⟩)
      have := Go.ConcN.Mode.last (j := j) (D := upd (wdD D) i ⟨3, m₂, 1⟩) (tag := tag.c) i hW3 hi (by rw [upd_same]; simp) (fun a ha e1 => by rw [upd_ne _ _ e1]; exact hoth a ha e1)
      rw [upd_same] at this
      exact modeU (by simpa using this)
    · obtain ⟨g', w', es, hgo, ⟨rfl, rfl⟩, hg'⟩ := hstep w id
      exact idle rfl hgo (.d2 hg') (by omega) (by omega)
  | d3 hgo =>
    rcases Goes.cases hgo with hstop | ⟨m', rfl, hstep⟩
    · obtain ⟨_, hxx⟩ := hstop w id
      have hsD : (wdD D i).stage = 3 := stageD rfl
      obtain ⟨hW3, hoth, h8, h9⟩ := hmode.isLast hi (by omega)
      have hwg := h.wg
      rw [h8, h9, if_neg (by omega)] at hwg
      obtain ⟨g', hgo, m₂, hk⟩ := hxx hwg
      refine book rfl hgo (aside_setCell w (stA X.Wg) _) (hwg.setSt 0) (by intro ev he; simp at he; subst he; exact bk_cell _ _ rfl) (by intro jx ev he; match jx, he with | 0, _ => exact .inr (by simp [deafBehind]) | jx + 1, he => simp at he) (.d4 hk) rfl (by omega) ?_ (.inl ⟨by omega, by simp [cnt]⟩)
      have := Go.ConcN.Mode.last (j := j) (D := upd (wdD D) i ⟨2, m₂, 1⟩) (tag := tag.c) i hW3 hi (by rw [upd_same]; simp) (fun a ha e1 => by rw [upd_ne _ _ e1]; exact hoth a ha e1)
      rw [upd_same] at this
      exact modeU (by simpa using this)
    · obtain ⟨g', w', es, hgo, ⟨rfl, rfl⟩, hg'⟩ := hstep w id
      exact idle rfl hgo (.d3 hg') (by omega) (by omega)
  | d4 hgo =>
    rcases Goes.cases hgo with hstop | ⟨m', rfl, hstep⟩
    · obtain ⟨_, hmw, hxx⟩ := hstop w id
      have hsD : (wdD D i).stage = 2 := stageD rfl
      obtain ⟨hW3, hoth, h8, h9⟩ := hmode.isLast hi (by omega)
      have hwg := h.wg
      rw [h8, h9, if_pos (by omega)] at hwg
      obtain ⟨g', hgo, b, hq⟩ := hxx hwg
      have hrun' : g'.status = .running := by
        cases b with
        | zero => exact absurd hq.2 (by decide)
        | succ b => exact hq.elim (fun y => absurd y.2 (by decide)) (fun y => y.1)
      refine bookG rfl hgo (aside_setCell w (smA X.Wg) _) (hwg.setSm 1) (es := semEvents (smA X.Wg)) ?_ ?_ (.quit hq) (by simp [deafBehind, semEvents]) (by omega) ?_ (.inl ⟨by omega, by simp [cnt]⟩)
      · intro ev he
        simp [semEvents] at he
        rcases he with rfl | rfl | rfl | rfl
        · exact .inl rfl
        · exact bk_cell _ _ rfl
        · exact bk_cell _ _ rfl
        · exact .inr (.inl rfl)
      · intro jx ev he
        match jx, he with
        | 0, he => simp [semEvents] at he; subst he; exact .inl rfl
        | 1, _ => exact .inr (by simp [deafBehind, semEvents])
        | 2, _ => exact .inr (by simp [deafBehind, semEvents])
        | 3, he => simp [semEvents] at he; subst he; exact .inl rfl
        | jx + 4, he => simp [semEvents] at he
      · intro tag' ht hw
        have hnb := hw hmw hrun'
        have e3 : tag'.c = .w3 := by
          rcases ht with rfl | ⟨_, _, rfl⟩
          · cases tag' <;> first | rfl | exact hW3.elim | exact absurd rfl (hnb _)
          · rfl
        rw [e3]
        exact modeU (.sema fun a ha => by
          by_cases e1 : a = i
          · subst e1; rw [upd_same]
          · rw [upd_ne _ _ e1]; exact hoth a ha e1)
    · obtain ⟨g', w', es, hgo, ⟨rfl, rfl⟩, hg'⟩ := hstep w id
      exact idle rfl hgo (.d4 hg') (by omega) (by omega)
  | quit hq =>
    cases m with
    | zero => rw [hq.1] at hrun; cases hrun
    | succ b =>
      rcases hq with ⟨hf, _⟩ | ⟨_, g', es, hmute, hstep, hq⟩
      · rw [hf] at hrun; cases hrun
      · have hbk : ∀ ev ∈ es, Bk X.Wg ev := fun ev he => bk_of_mute (hmute ev he)
        have hno : ∀ jx ev, es[jx]? = some ev → (MemAct.ofEvent ev).touch? = none ∨ 0 < deafBehind dd (es.extract 0 jx) := fun jx ev he => .inl (touch_mute (hmute ev (Array.mem_of_getElem? he)))
        exact book rfl (hstep w) (.refl _ w) h.wg hbk hno (.quit hq) rfl (by omega) (mode_same hmode (by rw [hst])) (.inr ⟨rfl, by omega⟩)
end
end Go.Proofs.Ytbckmkppmdfnnaa.Crew

namespace Go.Proofs.Ytbckmkppmdfnnaa.Crew
open Go.Conc Go.RowKit Go.Conc.Lib
open Go.ConcN (WgLive WD CTag sumTo upd upd_ne upd_same sumTo_congr sumTo_upd_out Vc cnt RelBy RelBy.appOther RelBy.appNot OpenSt AllQuit isW3 pend isOpen isFin bk_cell Deaf_absent Deaf_still le_sumTo get_map_set get_map_set_same bk_rd bk_rw bk_sem)
open Go.ConcR (KK wgBlock WgAt stA smA rd wr mk Payload DC0 Bk ofEvent_loc_mark ofEvent_cell ofEvent_mk g_of_ofEvents)

structure Got (X : Cfg) (e : Nat) (gs : Array Goroutine) (w : World) (t : Trace) (l next : Nat) (fb : List Nat) : Prop where
  size : gs.size = e + X.n
  main : ∃ a k, gs[0]? = some a ∧ Goes X.P true (K X) DC0 (X.Fin l) k a w
  lv : ∃ q, Leavers X.P t gs q
  calm : Calm (fun l => X.L.Shun l ∨ X.L.Sh l) t
  gsb : ∀ (i : Nat) (op : MemOp), t[i]? = some op → op.g < e + X.n
  wg : WgAt X.ty X.Wg w 0 0
  cf : ∃ s r, w.heap[X.Cf]? = some (.chan X.n (fb.map ival).toArray false s r false)
  q : X.Q w
  base : K X X.w0 w
  nextM : next ≤ X.M
  least : (l = X.M ∧ next = X.M) ∨ (l < next ∧ X.b l = true)
  fin : ∀ p, p < next → X.Done p w ∧ (X.b p = true → p ∈ fb ∨ p = l)
  fbok : ∀ p ∈ fb, p < next ∧ X.b p = true

section
variable {X : Cfg} {e j : Nat} {D : Nat → WDat} {q : Nat → Nat} {tag : MTag} {f0 d0 next : Nat} {fb : List Nat} {asg : Nat → Option Nat} {st sm : Int} {gs : Array Goroutine} {w w' : World} {t : Trace} {sl : Option (Nat × Nat)}

theorem ok0_bk (hx : Laws X) {fn : FuncId} {pos : String} {es : Array Event} (h : ∀ ev ∈ es, Bk X.Wg ev) : ∀ op ∈ MemOp.ofEvents 0 fn pos es, Ok0 X.L op := by
  intro op hop
  rw [ofEvents_eq] at hop
  obtain ⟨ev, hev, rfl⟩ := Array.mem_map.1 hop
  rcases h ev hev with h1 | h1 | ⟨a, wr, rfl, ha⟩
  · exact ⟨rfl, fun x hxx => (by simp only [ofEvent_loc_mark h1] at hxx; cases hxx), fun a hm => (by simp only [ofEvent_loc_mark h1] at hm; cases hm)⟩
  · exact ⟨rfl, fun x hxx => (by simp only [ofEvent_loc_mark h1] at hxx; cases hxx), fun a hm => (by simp only [ofEvent_loc_mark h1] at hm; cases hm)⟩
  · refine ⟨rfl, fun x hxx => ?_, fun b hm => (by simp only [ofEvent_cell] at hm; cases hm)⟩
    simp only [ofEvent_cell, MemAct.touch?, Option.some.injEq] at hxx
    subst hxx
    exact .inl ⟨(hx.shWg _).2 ⟨a, rfl, ha⟩, by simp⟩
theorem ok0_mk (hx : Laws X) {fn : FuncId} {pos : String} {m : Mark} (h1 : (MemAct.mark m).touch? = none ∨ m = .read (smA X.Wg) ∨ m = .write (smA X.Wg)) (h2 : ∀ a, m ≠ .release a) : ∀ op ∈ MemOp.ofEvents 0 fn pos #[mk m], Ok0 X.L op := by
  intro op hop
  rw [ofEvents_eq] at hop
  obtain ⟨ev, hev, rfl⟩ := Array.mem_map.1 hop
  simp only [List.mem_toArray, List.mem_singleton] at hev
  subst hev
  refine ⟨rfl, fun x hxx => ?_, fun a hm => (by simp only [ofEvent_mk] at hm; cases hm; exact h2 a rfl)⟩
  simp only [ofEvent_mk] at hxx
  rcases h1 with h1 | rfl | rfl
  · rw [h1] at hxx; cases hxx
  · simp only [MemAct.touch?, Option.some.injEq] at hxx
    subst hxx
    exact .inl ⟨(hx.shWg _).2 ⟨_, rfl, rfl⟩, by simp⟩
  · simp only [MemAct.touch?, Option.some.injEq] at hxx
    subst hxx
    exact .inl ⟨(hx.shWg _).2 ⟨_, rfl, rfl⟩, by simp⟩
theorem ok0_ev {fn : FuncId} {pos : String} {es : Array Event} (h : ∀ ev ∈ es, EvM X ev) : ∀ op ∈ MemOp.ofEvents 0 fn pos es, Ok0 X.L op := by
  intro op hop
  rw [ofEvents_eq] at hop
  obtain ⟨ev, hev, rfl⟩ := Array.mem_map.1 hop
  obtain ⟨a, rfl, h1, h2, h3⟩ := h ev hev
  refine ⟨rfl, fun x hxx => ?_, fun b hm => (by simp only [ofEvent_cell] at hm; cases hm)⟩
  simp only [ofEvent_cell, MemAct.touch?, Option.some.injEq] at hxx
  subst hxx
  exact .inr ⟨h1, h2, h3, rfl⟩
theorem deaf_evM {es : Array Event} (h : ∀ ev ∈ es, EvM X ev) (d : Nat) : deafBehind d es = d :=
  deafBehind_still (fun ev hev => by obtain ⟨a, rfl, _⟩ := h ev hev; simp) d
theorem tok_of {tag' : MTag} (h : TagOk X tag next fb) (t1 : tag'.least = tag.least) (t2 : tag'.left = tag.left) (h1 : ∀ i, tag' ≠ .hand i) (h2 : ∀ i, tag' ≠ .hblk i) : TagOk X tag' next fb :=
  ⟨fun y => h.1 (t2 ▸ y), fun i e1 => absurd e1 (h1 i), fun i e1 => absurd e1 (h2 i), fun l e1 => h.2.2.2 l (t1 ▸ e1)⟩

/-- The starter alone goes on by a communication. -/
theorem St.comm0 (h : St X e j D q tag f0 d0 next fb asg st sm gs w t) (hx : Laws X) {gs' : Array Goroutine} {u : Trace} {tag' : MTag} {f' next' : Nat} {fb' : List Nat}
    (hsz : gs'.size = gs.size) (hmain : ∃ a, gs'[0]? = some a ∧ MS X tag' f' d0 a w') (hoth : ∀ k, k ≠ 0 → gs'[k]? = gs[k]?) (hK : K X w w')
    (hu : ∀ op ∈ u, op.act.touch? = none ∧ op.g < e + j ∧ ∀ m, op.act ≠ .mark m) (hwg : w'.heap[X.Wg]? = w.heap[X.Wg]?)
    (t1 : tag'.c = tag.c) (t2 : tag'.left = tag.left) (t3 : tag'.closed = tag.closed)
    (hcp : ∃ s r, w'.heap[X.Cp]? = some (.chan 0 #[] false s r false)) (hcs : w'.heap[X.Cs]? = w.heap[X.Cs]?) (hcf : ∃ s r, w'.heap[X.Cf]? = some (.chan X.n (fb'.map ival).toArray false s r false))
    (hpl : Places X e j D tag' next' fb' asg w') : St X e j D q tag' f' d0 next' fb' asg st sm gs' w' (t ++ u) := by
  have hst : ∀ op ∈ u, op.act ≠ .mark .disable ∧ op.act ≠ .mark .enable := fun op hop => ⟨(hu op hop).2.2 _, (hu op hop).2.2 _⟩
  have hD : ∀ g, Deaf (t ++ u) g = Deaf t g := fun g => Deaf_still t g u hst
  have hrel : ∀ {g r : Nat}, RelBy (stA X.Wg) t g r → RelBy (stA X.Wg) (t ++ u) g r := fun {g r} hr => hr.app fun b hb _ hcount => by
    obtain ⟨y, hy, _⟩ := hcount
    obtain ⟨op, hop, hoy⟩ := touch_of hy
    rcases getElem?_append_cases hop with ⟨hlt, _⟩ | ⟨_, hou⟩
    · omega
    · rw [(hu op hou).1] at hoy; cases hoy
  have hpos := h.pos
  refine ⟨h.pos, by rw [hsz]; exact h.size, hmain, fun k k0 ke => ?_, fun k hk => ?_, by rw [t2]; exact h.jn, h.ct.appN fun op hop => ⟨(hu op hop).1, (hu op hop).2.1, fun a => (hu op hop).2.2 _⟩, by rw [hD]; exact h.deaf0, fun k hk => by rw [hD]; exact h.deafW k hk, fun k hk hs => ?_,
    h.wg.of_block hwg, by rw [t1]; exact h.mode, hcp, by rw [hcs, t3]; exact h.cs, hcf, hK.q h.q, hpl, h.base.trans hK⟩
  · obtain ⟨g, hg, hq⟩ := h.old k k0 ke
    exact ⟨g, by rw [hoth k (by omega)]; exact hg, by rw [hD]; exact hq⟩
  · obtain ⟨g, hg, hw⟩ := h.wk k hk
    exact ⟨g, by rw [hoth (e + k) (by omega)]; exact hg, hw.rely hx hK⟩
  · obtain ⟨r, hr⟩ := h.rel k hk hs
    exact ⟨r, hrel hr⟩

/-- The starter stands at its select with place z. -/
theorem St.handStep (hx : Laws X) {z : Nat} (h : St X e j D q (.hand z) f0 d0 next fb asg st sm gs w t) (hz : z < X.M) {a : Goroutine} (ha : gs[0]? = some a) (hh : X.Hand z a w) (hf0 : 1 ≤ f0) (hd0 : d0 = 0) : Steps1 X e (mu X e j D q (.hand z) f0 next) gs w sl t 0 := by
  subst hd0
  have hpos := h.pos
  obtain ⟨_, _, hstep⟩ := hx.handStep _ _ _ hh
  obtain ⟨s, r, hcp⟩ := h.cp
  obtain ⟨s', r', hcf⟩ := h.cf
  have hnx := h.pl.tagok.2.1 z rfl
  subst hnx
  have hlt0 : 0 < gs.size := by rw [h.size]; omega
  have hpart : ∀ b k, (b, k) ∈ partners (gs.setIfInBounds 0 ph) X.Cp false → k = 0 ∧ b ≠ 0 ∧ ∃ i g₀, i < j ∧ b = e + i ∧ (D i).tag = .prk ∧ gs[b]? = some (parked g₀ (pc X) .select) ∧ X.Sel g₀ w := by
    intro b k hbk
    obtain ⟨g, hg, hk⟩ := mem_partners.1 hbk
    rcases getElem?_stand gs 0 b g hg with ⟨_, rfl⟩ | ⟨hb0, hg'⟩
    · rw [offersAt_ph] at hk; cases hk
    · rcases h.offers hx hg' with h1 | ⟨h0, _⟩ | ⟨i, g₀, hi, rfl, hp, rfl, hsel⟩
      · rw [h1] at hk; cases hk
      · exact absurd h0 hb0
      · rw [(offers_pc g₀ hx).1] at hk
        simp at hk
        exact ⟨hk, hb0, i, g₀, hi, rfl, hp, hg', hsel⟩
  have hcomm := hand_comm (sl := sl) (i := 0) ha hstep hcp hcf (fun b k hbk => by
    obtain ⟨h1, h2, i, g₀, _, _, _, h3, _⟩ := hpart b k hbk
    exact ⟨h1, h2, g₀, _, _, _, h3, rfl⟩) (h.noSend hx 0 (.inl fun z e1 => by cases e1))
  rcases hcomm with ⟨b, gb, cs, shj, d, hmem, hb, hrun⟩ | ⟨d, hbuf, hrun⟩ | ⟨hnone, hbuf, hrun⟩
  · -- a worker that waits takes it
    obtain ⟨_, hb0, i, g₀, hi, rfl, hprk, hb', hsel⟩ := hpart b 0 hmem
    have e0 : parked gb cs shj = parked g₀ (pc X) .select := Option.some.inj (hb.symm.trans hb')
    have e1 : ∀ v, gb.finishComm X.P cs shj ((0 : Nat) : Int) v true = g₀.finishComm X.P (pc X) .select ((0 : Nat) : Int) v true := by
      intro v
      obtain ⟨a1, a2, a3, a4, a5⟩ := gb
      obtain ⟨b1, b2, b3, b4, b5⟩ := g₀
      simp only [parked, Goroutine.mk.injEq, Option.some.injEq, Prod.mk.injEq] at e0
      obtain ⟨rfl, rfl, _, rfl, rfl, rfl⟩ := e0
      rfl
    have hlt : e + i < gs.size := (Array.getElem?_eq_some_iff.1 hb).1
    obtain ⟨hK, hn1, hn2⟩ := chan_turn hx (cap' := 0) (buf' := #[]) (cl' := false) (s' := s + 1) (r' := r + 1) (.inl rfl) hcp d
    obtain ⟨m₁, hm₁⟩ := hx.handSent next a _ (hx.handRely _ _ _ _ hh hK)
    obtain ⟨m₂, hm₂⟩ := hx.selTake g₀ _ next (hx.selRely _ _ _ hsel hK) hz
    have hasg := h.pl.asgN next (Nat.le_refl _)
    obtain ⟨gw, hgw, hwsp⟩ := h.wk i hi
    have hdeaf : (D i).deaf = 0 := by
      generalize (D i).fuel = fx at hwsp
      generalize hdd : (D i).deaf = dd at hwsp
      rw [hprk] at hwsp
      cases hwsp
      rfl
    have s0 : (D i).tag.stage = 7 := by rw [hprk]; rfl
    have hrk : (D i).tag.rank = 8 := by rw [hprk]; rfl
    have hnl : (D i).tag.isLib = 0 := by rw [hprk]; rfl
    have vc : Vc j (wdD (upd D i ⟨.at next, m₂, 0⟩)) = Vc j (wdD D) := by
      have := Vc_upd' (j := j) D ⟨.at next, m₂, 0⟩ hi
      have : cnt (⟨.at next, m₂, 0⟩ : WDat).wd = cnt (D i).wd := by show (if 5 ≤ 7 then 1 else 0) = (if 5 ≤ (D i).tag.stage then 1 else 0); simp [s0]
      omega
    refine ⟨_, _, mu X e j (upd D i ⟨.at next, m₂, 0⟩) q (.hand (next + 1)) (m₁ + 1) (next + 1), hrun, ?_, j, upd D i ⟨.at next, m₂, 0⟩, q, .hand (next + 1), m₁ + 1, 0, next + 1, fb, (fun p => if p = next then some (e + i) else asg p), st, sm, _, _, sl, rfl,
      h.comm hx (i := i) (x := ⟨.at next, m₂, 0⟩) (by simp) ⟨a.finishComm X.P (hc X next) .select ((0 : Nat) : Int) undef false, by rw [Array.getElem?_setIfInBounds_self_of_lt (by simpa using hlt0)]; rfl, .hand hm₁⟩
        (fun _ => ⟨_, by rw [Array.getElem?_setIfInBounds_ne (by omega), Array.getElem?_setIfInBounds_self_of_lt hlt, e1], .at hm₂⟩)
        (fun k k0 hk => by rw [Array.getElem?_setIfInBounds_ne (Ne.symm k0), Array.getElem?_setIfInBounds_ne (Ne.symm hk)]) hK hdeaf.symm rfl s0 (silentQ fun op hop => ?_) (hn2 _ (Ne.symm hx.d1)) rfl rfl rfl (h.ct.hand (by omega) (by omega) hasg) ⟨_, _, hn1⟩ (hn2 _ (Ne.symm hx.d4)) (by rw [hn2 _ (Ne.symm hx.d5)]; exact h.cf) ?_, rfl⟩
    · have := ranks_upd (j := j) D ⟨.at next, m₂, 0⟩ hi
      have h7 : (WTag.at next).rank = 10 := rfl
      unfold mu
      rw [vc]
      refine Prod.Lex.left _ _ ?_
      simp only [MTag.phi] at *
      omega
    · simp [ofEvents_nil] at hop
      rcases hop with rfl | rfl | rfl | rfl <;> exact ⟨by dsimp only; omega, rfl, by simp⟩
    · have hl := libs_upd (j := j) D ⟨.at next, m₂, 0⟩ hi
      have h1 : (WTag.at next).isLib = 0 := rfl
      simp only at hl
      have hdn : ∀ p, X.Done p w → X.Done p ((w.at d).setChan X.Cp 0 #[] false (s + 1) (r + 1) false) := fun p hp => hx.doneOf p _ _ (hn2 _ hx.m2) hp
      refine ⟨by omega, fun p hp => (by simp only [if_neg (show p ≠ next by omega)]; exact h.pl.asgN p (by omega)), fun k hk p hp => ?_, fun p hp => ?_, fun p hp => (by have := h.pl.fbok p hp; exact ⟨by omega, this.2⟩), (by have := h.pl.room; omega), fun _ => (by have := h.pl.room' rfl; omega),
        ⟨fun x => (by simp [MTag.left] at x), fun _ e1 => (by cases e1; rfl), fun _ e1 => (by cases e1), fun _ e1 => (by cases e1)⟩, fun e1 => (by cases e1), fun _ e1 => (by cases e1)⟩
      · by_cases e1 : k = i
        · subst e1; rw [upd_same] at hp; cases hp; exact ⟨by simp, by omega⟩
        · rw [upd_ne D _ e1] at hp
          obtain ⟨h3, h4⟩ := h.pl.tagAt k hk p hp
          exact ⟨by simp only [if_neg (show p ≠ next by omega)]; exact h3, by omega⟩
      · by_cases e2 : p = next
        · subst e2; exact .inl ⟨i, hi, by rw [upd_same]⟩
        · rcases h.pl.fin p (by omega) with ⟨k, hk, hkp⟩ | ⟨h2, h3⟩
          · by_cases e1 : k = i
            · subst e1; rw [hprk] at hkp; cases hkp
            · exact .inl ⟨k, hk, by rw [upd_ne D _ e1]; exact hkp⟩
          · exact .inr ⟨hdn p h2, fun hb => (h3 hb).imp id fun e1 => by cases e1⟩
  · -- one that was found is told
    obtain ⟨p, fb', rfl⟩ : ∃ p fb', fb = p :: fb' := by
      cases fb with
      | nil => simp at hbuf
      | cons p fb' => exact ⟨p, fb', rfl⟩
    obtain ⟨hp1, hp2⟩ := h.pl.fbok p (by simp)
    obtain ⟨hK, hn1, hn2⟩ := chan_turn hx (cap' := X.n) (buf' := (fb'.map ival).toArray) (cl' := false) (s' := s') (r' := r' + 1) (.inr (.inr rfl)) hcf d
    obtain ⟨m₁, hm₁⟩ := hx.handGot next a _ p (hx.handRely _ _ _ _ hh hK) (by have := h.pl.nextM; omega)
    have hext : (((p :: fb').map ival).toArray).extract 1 (((p :: fb').map ival).toArray).size = (fb'.map ival).toArray := by
      simp
      rw [List.take_of_length_le (by simp)]
    have hget : (((p :: fb').map ival).toArray).getD 0 undef = .int .i64 p := by simp [ival]
    rw [hext, hget] at hrun
    refine ⟨_, _, mu X e j D q (.shut p) m₁ next, hrun, ?_, j, D, q, .shut p, m₁, 0, next, fb', asg, st, sm, _, _, sl, rfl,
      h.comm0 hx (by simp) ⟨a.finishComm X.P (hc X next) .select ((1 : Nat) : Int) (.int .i64 p) true, by rw [Array.getElem?_setIfInBounds_self_of_lt hlt0]; rfl, .shut hm₁⟩ (fun k k0 => by rw [Array.getElem?_setIfInBounds_ne (Ne.symm k0)]) hK (silentQ fun op hop => ?_) (hn2 _ (Ne.symm hx.d3)) rfl rfl rfl (by rw [hn2 _ hx.d5]; exact h.cp) (hn2 _ hx.d6) ⟨_, _, hn1⟩ ?_, rfl⟩
    · unfold mu
      exact Prod.Lex.left _ _ (by simp only [MTag.phi]; omega)
    · simp [ofEvents_nil] at hop
      rcases hop with rfl | rfl <;> exact ⟨by dsimp only; omega, rfl, by simp⟩
    · refine ⟨h.pl.nextM, h.pl.asgN, h.pl.tagAt, fun p' hp' => (h.pl.fin p' hp').imp id fun y => ⟨hx.doneOf p' _ _ (hn2 _ hx.m4) y.1, fun hb => ?_⟩, fun p' hp' => h.pl.fbok p' (by simp [hp']), (by have := h.pl.room; simp only [List.length_cons] at this; omega), fun e1 => (by cases e1),
        ⟨fun x => (by simp [MTag.left] at x), fun _ e1 => (by cases e1), fun _ e1 => (by cases e1), fun l e1 => (by cases e1; exact .inr ⟨hp1, hp2⟩)⟩, fun e1 => (by cases e1), fun _ e1 => (by cases e1)⟩
      rcases y.2 hb with h4 | h4
      · simp only [List.mem_cons] at h4
        rcases h4 with rfl | h4
        · exact .inr rfl
        · exact .inl h4
      · cases h4
  · -- it waits
    have hfb : fb = [] := by
      cases fb with
      | nil => rfl
      | cons => simp at hbuf
    subst hfb
    refine ⟨_, _, mu X e j D q (.hblk next) 0 next, hrun, ?_, j, D, q, .hblk next, 0, 0, next, [], asg, st, sm, _, w, sl, rfl,
      h.comm0 hx (by simp) ⟨parked a (hc X next) .select, by rw [Array.getElem?_setIfInBounds_self_of_lt hlt0]; rfl, .hblk hh⟩ (fun k k0 => by rw [Array.getElem?_setIfInBounds_ne (Ne.symm k0)]) (.refl w) (fun op hop => by simp [ofEvents_nil] at hop) rfl rfl rfl rfl h.cp rfl h.cf ?_, rfl⟩
    · unfold mu
      refine Prod.Lex.right _ ?_
      omega
    · refine ⟨h.pl.nextM, h.pl.asgN, h.pl.tagAt, h.pl.fin, h.pl.fbok, h.pl.room, h.pl.room', ⟨fun x => (by simp [MTag.left] at x), fun _ e1 => (by cases e1), fun _ e1 => (by cases e1; exact ⟨rfl, hz, rfl⟩), fun l e1 => (by cases e1)⟩, fun e1 => (by cases e1), fun _ _ k hk hp => ?_⟩
      obtain ⟨g, hg, hws⟩ := h.wk k hk
      rcases hws.status hx with ⟨_, h2⟩ | ⟨_, h2⟩ | ⟨_, g₀, rfl, _⟩
      · exact h2 hp
      · rw [hp] at h2; cases h2
      · have : (e + k, 0) ∈ partners (gs.setIfInBounds 0 ph) X.Cp false := mem_partners.2 ⟨_, stand_get (by omega) hg, by rw [(offers_pc g₀ hx).1]; simp⟩
        rw [hnone] at this; cases this

def wake (d : WDat) : WDat := match d.tag with
  | .prk => ⟨.sel, 1, d.deaf⟩
  | _ => d
theorem wake_prk {d : WDat} (h : d.tag = .prk) : wake d = ⟨.sel, 1, d.deaf⟩ := by simp [wake, h]
theorem wake_ne {d : WDat} (h : d.tag ≠ .prk) : wake d = d := by
  unfold wake
  split
  · exact absurd ‹_› h
  · rfl
theorem wake_rank (d : WDat) : (wake d).tag.rank = d.tag.rank ∧ (wake d).tag.stage = d.tag.stage ∧ (wake d).tag.isLib = d.tag.isLib ∧ (wake d).deaf = d.deaf ∧ (∀ p, (wake d).tag = .at p ↔ d.tag = .at p) := by
  unfold wake
  cases hd : d.tag <;> simp [hd, WTag.rank, WTag.stage, WTag.isLib]

/-- The starter gives the word to stop. -/
theorem St.closeStep (hx : Laws X) (h : St X e j D q tag f0 d0 next fb asg st sm gs w t) {a : Goroutine} {l : Nat} (ha : gs[0]? = some a) (hh : X.Shut l a w) (hd0 : d0 = 0) (h1 : tag.closed = false) (h2 : tag.left = 0) (h3 : tag.c = .kd) (h4 : 8 * X.n + 9 ≤ tag.phi X.n (Vc j (wdD D)))
    (h5 : (l = X.M ∧ next = X.M) ∨ (l < next ∧ X.b l = true)) (h6 : ∀ p, tag.least = some p → p = l) : Steps1 X e (mu X e j D q tag f0 next) gs w sl t 0 := by
  subst hd0
  have hpos := h.pos
  obtain ⟨s, r, hcs⟩ := h.cs
  rw [h1] at hcs
  obtain ⟨_, hmw, g', hg'r, hgo, m, hk⟩ := hx.shut l a w s r hh hcs
  obtain ⟨hK, hn1, hn2⟩ := chan_turn hx (cap' := 0) (buf' := #[]) (cl' := true) (s' := s) (r' := r) (.inr (.inl rfl)) hcs w.drawn
  have hw0 : (w.at w.drawn) = w := rfl
  rw [hw0] at hK hn1 hn2
  have hrun := runT_crowd_go (P := X.P) (sl := sl) (i := 0) ha hgo
  have hwk : ∀ o : Goroutine, woken X.P a g' (w.setChan X.Cs 0 #[] true s r false) o = o.again (w.setChan X.Cs 0 #[] true s r false) := fun o => by simp [woken, hmw, hg'r]
  have hok : ∀ op ∈ MemOp.ofEvents 0 a.frame.fn a.frame.place #[(⟨.obj X.Cs, false, true⟩ : Event), ⟨.obj X.Cs, true, true⟩], Ok0 X.L op := by
    intro op hop
    rw [ofEvents_eq] at hop
    obtain ⟨ev, hev, rfl⟩ := Array.mem_map.1 hop
    simp only [List.mem_toArray, List.mem_cons, List.not_mem_nil, or_false] at hev
    rcases hev with rfl | rfl
    · refine ⟨rfl, fun x hxx => ?_, fun b hm => (by cases hm)⟩
      simp only [MemAct.ofEvent, MemAct.touch?, Option.some.injEq] at hxx
      subst hxx
      refine .inr ⟨fun hs => ?_, fun hs => ?_, fun p hs => ?_, rfl⟩
      · obtain ⟨_, e1, _⟩ := (hx.shWg _).1 hs; cases e1
      · obtain ⟨_, e1⟩ := hx.shunCell _ hs; cases e1
      · obtain ⟨_, e1⟩ := hx.ownCell p _ hs; cases e1
    · exact ⟨rfl, fun x hxx => (by cases hxx), fun b hm => (by cases hm)⟩
  have hgs : ∀ op ∈ MemOp.ofEvents 0 a.frame.fn a.frame.place #[(⟨.obj X.Cs, false, true⟩ : Event), ⟨.obj X.Cs, true, true⟩], op.g = 0 := fun op hop => (hok op hop).1
  have old : ∀ k, k ≠ 0 → ∀ y, gs[k]? = some y → ((gs.map (woken X.P a g' (w.setChan X.Cs 0 #[] true s r false))).setIfInBounds 0 g')[k]? = some (woken X.P a g' (w.setChan X.Cs 0 #[] true s r false) y) := fun k hk y hy => by rw [get_map_set _ _ _ _ (Ne.symm hk), hy]; rfl
  have eV : Vc j (wdD fun k => wake (D k)) = Vc j (wdD D) := sumTo_congr fun i _ => by
    show (if 5 ≤ (wake (D i)).tag.stage then 1 else 0) = (if 5 ≤ (D i).tag.stage then 1 else 0)
    rw [(wake_rank (D i)).2.1]
  have eR : ranks j (fun k => wake (D k)) = ranks j D := sumTo_congr fun i _ => (wake_rank (D i)).1
  have eL : libs j (fun k => wake (D k)) = libs j D := sumTo_congr fun i _ => (wake_rank (D i)).2.2.1
  have hdn : ∀ p, X.Done p w → X.Done p (w.setChan X.Cs 0 #[] true s r false) := fun p hp => hx.doneOf p _ _ (hn2 _ hx.m3) hp
  refine ⟨_, _, mu X e j (fun k => wake (D k)) q (.kd l) m next, hrun, ?_, j, (fun k => wake (D k)), q, .kd l, m, 0, next, fb, asg, st, sm, _, _, sl, rfl,
    ⟨h.pos, by simp [h.size], ⟨g', get_map_set_same _ _ _ (by rw [h.size]; omega), .kd hk⟩, fun k k0 ke => ?_, fun k hkj => ?_, by have := h.jn; rw [h2] at this; exact this, h.ct.app0 hx.apart h.pos hok, by rw [Deaf_own, h.deaf0]; rfl, fun k hkj => by rw [Deaf_other t (by omega) _ hgs, h.deafW k hkj, (wake_rank (D k)).2.2.2.1], fun k hkj hst => ?_,
      h.wg.of_block (hn2 _ (Ne.symm hx.d2)), ?_, by rw [hn2 _ hx.d4]; exact h.cp, ⟨_, _, hn1⟩, by rw [hn2 _ (Ne.symm hx.d6)]; exact h.cf, hK.q h.q,
      ⟨h.pl.nextM, h.pl.asgN, fun k hkj p hp => h.pl.tagAt k hkj p (((wake_rank (D k)).2.2.2.2 p).1 hp), fun p hp => ?_, h.pl.fbok, by rw [eL]; exact h.pl.room, fun e1 => (by cases e1), ⟨fun x => (by simp [MTag.left] at x), fun _ e1 => (by cases e1), fun _ e1 => (by cases e1), fun l' e1 => (by cases e1; exact h5)⟩, fun _ k hkj hp => ?_, fun _ e1 => (by cases e1)⟩, h.base.trans hK⟩, rfl⟩
  · unfold mu
    have e9 : (MTag.kd l).phi X.n (Vc j (wdD D)) = 8 * X.n + 8 := rfl
    rw [eV, eR, e9]
    exact Prod.Lex.left _ _ (by omega)
  · obtain ⟨y, hy, hq⟩ := h.old k k0 ke
    exact ⟨_, old k (by omega) y hy, by rw [woken_quitsD hq, Deaf_other t (by omega) _ hgs]; exact hq⟩
  · obtain ⟨y, hy, hwy⟩ := h.wk k hkj
    refine ⟨_, old (e + k) (by omega) y hy, ?_⟩
    by_cases hp : (D k).tag = .prk
    · have e2 := wake_prk hp
      generalize hdk : D k = dk at hp hwy e2 ⊢
      obtain ⟨tg, fl, df⟩ := dk
      simp only at hp
      subst hp
      cases hwy with
      | prk hsel =>
        rw [e2, hwk, again_some_closed (k := 1) (c := X.Cs) (z := X.zs) rfl hn1]
        exact .woke (hx.selRely _ _ _ hsel hK)
    · rw [wake_ne hp, hwy.woken hx (w' := w.setChan X.Cs 0 #[] true s r false) fun e2 => absurd e2 hp]
      exact hwy.rely hx hK
  · rw [(wake_rank (D k)).2.1] at hst
    obtain ⟨r, hr⟩ := h.rel k hkj hst
    exact ⟨r, hr.appOther hgs (by omega)⟩
  · have hm := h.mode
    rw [h3] at hm
    exact hm.congr fun i _ => by simp only [wdD, WDat.wd]; exact (wake_rank (D i)).2.1
  · rcases h.pl.fin p hp with ⟨k, hkj, hkp⟩ | ⟨x1, x2⟩
    · exact .inl ⟨k, hkj, ((wake_rank (D k)).2.2.2.2 p).2 hkp⟩
    · exact .inr ⟨hdn p x1, fun hb => (x2 hb).imp id fun e1 => by rw [h6 p e1]; rfl⟩
  · by_cases hp' : (D k).tag = .prk
    · simp only [wake_prk hp'] at hp; cases hp
    · simp only [wake_ne hp'] at hp; exact hp' hp
end
end Go.Proofs.Ytbckmkppmdfnnaa.Crew

namespace Go.Proofs.Ytbckmkppmdfnnaa.Crew
open Go.Conc Go.RowKit Go.Conc.Lib
open Go.ConcN (WgLive WD CTag sumTo upd upd_ne upd_same sumTo_congr sumTo_upd_out Vc cnt RelBy RelBy.appOther RelBy.appNot OpenSt AllQuit isW3 pend isOpen isFin bk_cell Deaf_absent Deaf_still le_sumTo bk_rd bk_rw bk_sem)
open Go.ConcR (KK wgBlock WgAt stA smA rd wr mk Payload DC0 Bk ofEvent_loc_mark ofEvent_cell ofEvent_mk g_of_ofEvents)

section
variable {X : Cfg} {e j : Nat} {D : Nat → WDat} {q : Nat → Nat} {tag : MTag} {f0 d0 next : Nat} {fb : List Nat} {asg : Nat → Option Nat} {st sm : Int} {gs : Array Goroutine} {w w' : World} {t : Trace} {sl : Option (Nat × Nat)}

/-- The go statement. -/
theorem St.spawnStep (hx : Laws X) {r : Nat} (h : St X e j D q (.sg r) f0 d0 next fb asg st sm gs w t) {a : Goroutine} (ha : gs[0]? = some a) (hgo : AtGo X r a w) (hd0 : d0 = 0) : Steps1 X e (mu X e j D q (.sg r) f0 next) gs w sl t 0 := by
  subst hd0
  have hpos := h.pos
  obtain ⟨_, a', child, hsp, _, ⟨m₂, hch⟩, hnext⟩ := hgo
  have hrun := runT_crowd_spawn (P := X.P) (sl := sl) (i := 0) ha (by simpa using hsp)
  have hn0 := h.pl.tagok.1 (by simp [MTag.left])
  subst hn0
  have hfb : fb = [] := by
    cases fb with
    | nil => rfl
    | cons p fb' => have := (h.pl.fbok p (by simp)).1; omega
  subst hfb
  have hlib := h.pl.room' rfl
  obtain ⟨ho, hst, hsm, _⟩ := h.mode.open_inv trivial
  subst hsm
  have hj := h.jn
  simp only [MTag.left] at hj
  rw [h.size] at hrun
  generalize hxo : ({ g := 0, fn := a.frame.fn, pos := a.frame.place, act := .go (e + j) } : MemOp) = xo at hrun
  generalize hyo : ({ g := e + j, fn := child.frame.fn, pos := a.frame.place, act := .start } : MemOp) = yo at hrun
  have hxo' : xo.g = 0 ∧ xo.act = .go (e + j) := by rw [← hxo]; exact ⟨rfl, rfl⟩
  have hyo' : yo.g = e + j ∧ yo.act = .start := by rw [← hyo]; exact ⟨rfl, rfl⟩
  have hu : ((MemOp.ofEvents 0 a.frame.fn a.frame.place #[]).push xo).push yo = #[xo, yo] := rfl
  rw [hu] at hrun
  have hm : ∀ op ∈ (#[xo, yo] : Trace), op = xo ∨ op = yo := by intro op hop; simpa using hop
  have hstl : ∀ op ∈ (#[xo, yo] : Trace), op.act ≠ .mark .disable ∧ op.act ≠ .mark .enable := by
    intro op hop
    rcases hm op hop with rfl | rfl
    · rw [hxo'.2]; exact ⟨by simp, by simp⟩
    · rw [hyo'.2]; exact ⟨by simp, by simp⟩
  have hD : ∀ g, Deaf (t ++ #[xo, yo]) g = Deaf t g := fun g => Deaf_still t g _ hstl
  have old : ∀ k, k ≠ 0 → k < e + j → ∀ y, gs[k]? = some y → ((gs.setIfInBounds 0 a').push child)[k]? = some y := fun k hk hlt y hy => by
    rw [Array.getElem?_push_lt (by simp [h.size]; omega), ← Array.getElem?_eq_getElem, Array.getElem?_setIfInBounds_ne (Ne.symm hk)]
    exact hy
  have ha' : ((gs.setIfInBounds 0 a').push child)[0]? = some a' := by
    rw [Array.getElem?_push_lt (by simp [h.size]; omega), ← Array.getElem?_eq_getElem]
    rw [Array.getElem?_setIfInBounds_self_of_lt (by rw [h.size]; omega)]
  have hc' : ((gs.setIfInBounds 0 a').push child)[e + j]? = some child := by
    rw [show e + j = (gs.setIfInBounds 0 a').size by simp [h.size], Array.getElem?_push_size]
  have eV : Vc (j + 1) (wdD (upd D j ⟨.sel, m₂ + 1, 0⟩)) = Vc j (wdD D) + 1 := by
    have e1 : (sumTo j fun i => cnt (wdD (upd D j ⟨.sel, m₂ + 1, 0⟩) i)) = sumTo j fun i => cnt (wdD D i) := sumTo_congr fun i hi => by simp only [wdD, upd_ne D _ (show i ≠ j by omega)]
    simp only [Vc, sumTo]
    rw [e1]
    have : cnt (wdD (upd D j ⟨.sel, m₂ + 1, 0⟩) j) = 1 := by simp [wdD, upd_same, WDat.wd, cnt, WTag.stage]
    omega
  have eR : ranks (j + 1) (upd D j ⟨.sel, m₂ + 1, 0⟩) = ranks j D + 8 := by
    have e1 : (sumTo j fun i => (upd D j ⟨.sel, m₂ + 1, 0⟩ i).tag.rank) = sumTo j fun i => (D i).tag.rank := sumTo_congr fun i hi => by simp only [upd_ne D _ (show i ≠ j by omega)]
    simp only [ranks, sumTo]
    rw [e1]
    simp [upd_same, WTag.rank]
  have eL : libs (j + 1) (upd D j ⟨.sel, m₂ + 1, 0⟩) = libs j D := by
    have e1 : (sumTo j fun i => (upd D j ⟨.sel, m₂ + 1, 0⟩ i).tag.isLib) = sumTo j fun i => (D i).tag.isLib := sumTo_congr fun i hi => by simp only [upd_ne D _ (show i ≠ j by omega)]
    simp only [libs, sumTo]
    rw [e1]
    simp [upd_same, WTag.isLib]
  have ho' : OpenSt (j + 1) (wdD (upd D j ⟨.sel, m₂ + 1, 0⟩)) := fun i hi => by
    by_cases e1 : i = j
    · subst e1; exact .inl (by simp [wdD, upd_same, WDat.wd, WTag.stage])
    · simp only [wdD, upd_ne D _ e1]; exact ho i (by omega)
  have mk' : ∀ (tag' : MTag) (f' : Nat), MS X tag' f' 0 a' w → tag'.left = r → tag'.least = none → tag'.closed = false → pend tag'.c = 0 → isOpen tag'.c → (∀ vs, tag'.c ≠ .w2 vs) → TagOk X tag' 0 [] → (∀ z, tag' ≠ .hblk z) →
      (∀ v, tag'.phi X.n (v + 1) + 8 < (MTag.sg r).phi X.n v) → Steps1 X e (mu X e j D q (.sg r) f0 0) gs w sl t 0 := by
    intro tag' f' hms t2 t1 t3 hp0 hop hw2 htok hnb hlt
    refine ⟨_, _, mu X e (j + 1) (upd D j ⟨.sel, m₂ + 1, 0⟩) q tag' f' 0, hrun, ?_, j + 1, upd D j ⟨.sel, m₂ + 1, 0⟩, q, tag', f', 0, 0, [], asg, st, 0, _, w, sl, rfl,
      ⟨h.pos, by simp [h.size]; omega, ⟨a', ha', hms⟩, fun k k0 ke => ?_, fun k hk => ?_, by omega, h.ct.fork hx.apart hxo' hyo' h.deaf0, by rw [hD]; exact h.deaf0, fun k hk => ?_, fun k hk hs => ?_, h.wg, ?_, h.cp, by rw [t3]; exact h.cs, h.cf, h.q,
        ⟨h.pl.nextM, h.pl.asgN, fun k hk p hp => ?_, fun p hp => (by omega), h.pl.fbok, (by simp), fun _ => (by rw [eL]; exact hlib), htok, fun e1 => (by rw [t3] at e1; cases e1), fun z e1 => absurd e1 (hnb z)⟩, h.base⟩, rfl⟩
    · unfold mu
      rw [eV, eR]
      have := hlt (Vc j (wdD D))
      exact Prod.Lex.left _ _ (by omega)
    · obtain ⟨y, hy, hqy⟩ := h.old k k0 ke
      exact ⟨y, old k (by omega) (by omega) y hy, by rw [hD]; exact hqy⟩
    · by_cases e1 : k = j
      · subst e1; exact ⟨child, hc', by rw [upd_same]; exact .sel hch⟩
      · obtain ⟨y, hy, hwy⟩ := h.wk k (by omega)
        exact ⟨y, old (e + k) (by omega) (by omega) y hy, by rw [upd_ne D _ e1]; exact hwy⟩
    · rw [hD]
      by_cases e1 : k = j
      · subst e1; rw [upd_same]; exact Deaf_absent fun b op hb eq => by have := h.ct.gs b op hb; omega
      · rw [upd_ne D _ e1]; exact h.deafW k (by omega)
    · by_cases e1 : k = j
      · subst e1; rw [upd_same] at hs; simp [WTag.stage] at hs
      · rw [upd_ne D _ e1] at hs
        obtain ⟨b, hb⟩ := h.rel k (by omega) hs
        refine ⟨b, hb.appNot fun op hop => ?_⟩
        rcases hm op hop with rfl | rfl
        · rw [hxo'.1]; omega
        · rw [hyo'.1]; omega
    · have e1 : st = ((Vc (j + 1) (wdD (upd D j ⟨.sel, m₂ + 1, 0⟩)) + pend tag'.c : Nat) : Int) * KK := by rw [hst, eV, hp0]; simp [MTag.c, pend]
      rw [e1]
      exact .opn hop ho' fun vs e2 => absurd e2 (hw2 vs)
    · by_cases e1 : k = j
      · subst e1; rw [upd_same] at hp; cases hp
      · rw [upd_ne D _ e1] at hp; exact h.pl.tagAt k (by omega) p hp
  cases r with
  | zero =>
    obtain ⟨m₃, hk⟩ := hnext
    exact mk' (.hand 0) (m₃ + 1) (.hand hk) rfl rfl rfl rfl trivial (by simp [MTag.c]) ⟨fun y => (by simp [MTag.left] at y), fun _ e1 => (by cases e1; rfl), fun _ e1 => (by cases e1), fun _ e1 => (by cases e1)⟩ (by simp) (fun v => by simp only [MTag.phi]; omega)
  | succ r' =>
    rw [spawns_succ] at hnext
    obtain ⟨m₃, hk⟩ := hnext
    exact mk' (.sd r') m₃ (.sd hk) rfl rfl rfl rfl trivial (by simp [MTag.c]) ⟨fun _ => rfl, fun _ e1 => (by cases e1), fun _ e1 => (by cases e1), fun _ e1 => (by cases e1)⟩ (by simp) (fun v => by simp only [MTag.phi]; omega)

set_option maxHeartbeats 3200000 in
/-- Every step of the starter's. -/
theorem St.stepMain (hx : Laws X) (h : St X e j D q tag f0 d0 next fb asg st sm gs w t) {a : Goroutine} (ha : gs[0]? = some a) (hrun : a.status = .running) :
    Steps1 X e (mu X e j D q tag f0 next) gs w sl t 0 ∨ ∃ gs' w' ops l next fb, runT X.P (crowd gs w sl) 0 = (.next (crowd gs' w' sl), ops) ∧ Got X e gs' w' (t ++ ops) l next fb := by
  obtain ⟨a₁, ha₁, hs⟩ := h.main
  obtain rfl : a = a₁ := by rw [ha] at ha₁; exact Option.some.inj ha₁
  have hmode := h.mode
  have hpos := h.pos
  have hjn := h.jn
  have hfew := hx.few
  have hwg := h.wg
  have hVj : Vc j (wdD D) ≤ j := Go.ConcN.Vc_le j (wdD D)
  -- one of the library's marks and atomic steps
  have bookM : ∀ {tag' : MTag} {f' d' : Nat} {a' : Goroutine} {w' : World} {es : Array Event} {st' sm' : Int}, stepG X.P true a w = .go a' w' es → Aside X.Wg w w' → WgAt X.ty X.Wg w' st' sm' → (∀ op ∈ MemOp.ofEvents 0 a.frame.fn a.frame.place es, Ok0 X.L op) → MS X tag' f' d' a' w' → deafBehind d0 es = d' →
      Go.ConcN.Mode j (wdD D) tag'.c st' sm' → tag'.least = tag.least → tag'.left = tag.left → tag'.closed = tag.closed → (∀ i, tag' ≠ .hand i) → (∀ i, tag' ≠ .hblk i) →
      (tag'.phi X.n (Vc j (wdD D)) < tag.phi X.n (Vc j (wdD D)) ∨ (tag'.phi X.n (Vc j (wdD D)) = tag.phi X.n (Vc j (wdD D)) ∧ f' < f0)) → Steps1 X e (mu X e j D q tag f0 next) gs w sl t 0 :=
    fun hgo hAs hwg' hok hms hd hm' t1 t2 t3 n1 n2 hlt => h.mainGo hx ha hgo (k_aside hx hAs hwg') hms hok hd hwg' hm' (hAs.block _ hx.d1) (hAs.block _ hx.d2) (hAs.block _ hx.d3) (hAs.block _ hx.m1) t1 t2 t3 (tok_of h.pl.tagok t1 t2 n1 n2) n2 hlt
  have idleM : ∀ {f' : Nat} {a' : Goroutine} {es : Array Event}, stepG X.P true a w = .go a' w es → (∀ ev ∈ es, EvM X ev) → MS X tag f' d0 a' w → f' < f0 → (∀ i, tag ≠ .hblk i) → Steps1 X e (mu X e j D q tag f0 next) gs w sl t 0 :=
    fun hgo hev hms hlt n2 => h.mainGo hx ha hgo (.refl w) hms (ok0_ev hev) (deaf_evM hev d0) hwg hmode rfl rfl rfl rfl rfl rfl rfl h.pl.tagok n2 (.inr ⟨rfl, hlt⟩)
  have idle0 : ∀ {f' : Nat} {a' : Goroutine}, stepG X.P true a w = .go a' w #[] → MS X tag f' d0 a' w → f' < f0 → (∀ i, tag ≠ .hblk i) → Steps1 X e (mu X e j D q tag f0 next) gs w sl t 0 :=
    fun hgo hms hlt n2 => idleM hgo (by simp) hms hlt n2
  have w1go : ∀ {l m : Nat}, (tag = .anch l ∨ (tag = .w1 l ∧ f0 = m)) → d0 = 1 → Goes X.P true (K X) DC0 (WLoa X.P X.ty X.Wg (K X) (X.Fin l) (X.Anch l)) m a w → Steps1 X e (mu X e j D q tag f0 next) gs w sl t 0 := by
    intro l m htg hd1 hk
    have ha1 : isOpen tag.c := by rcases htg with rfl | ⟨rfl, _⟩ <;> trivial
    have ha2 : pend tag.c = 0 := by rcases htg with rfl | ⟨rfl, _⟩ <;> rfl
    have l1 : tag.least = some l := by rcases htg with rfl | ⟨rfl, _⟩ <;> rfl
    have l2 : tag.left = 0 := by rcases htg with rfl | ⟨rfl, _⟩ <;> rfl
    have l3 : tag.closed = true := by rcases htg with rfl | ⟨rfl, _⟩ <;> rfl
    have hph : 8 * Vc j (wdD D) + 6 ≤ tag.phi X.n (Vc j (wdD D)) := by rcases htg with rfl | ⟨rfl, _⟩ <;> simp only [MTag.phi] <;> omega
    obtain ⟨ho, hst, hsm, _⟩ := hmode.open_inv ha1
    rw [ha2] at hst
    rcases Goes.cases hk with hstop | ⟨m', rfl, hstep⟩
    · obtain ⟨_, hall⟩ := hstop w (.refl w)
      obtain ⟨a', hgo, c1, c2⟩ := hall (Vc j (wdD D)) (by omega) (by rw [hst, hsm] at hwg; simpa using hwg)
      by_cases hv : Vc j (wdD D) = 0
      · obtain ⟨m₂, hk⟩ := c1 hv
        have hq : AllQuit j (wdD D) := fun i hi => by
          have h0 : cnt (wdD D i) ≤ Vc j (wdD D) := Go.ConcN.le_sumTo (f := fun x => cnt (wdD D x)) hi
          have := ho i hi
          rw [hv] at h0
          simp only [cnt] at h0
          split at h0 <;> omega
        refine bookM hgo (.refl _ w) hwg (ok0_bk hx bk_rd) (tag' := .ke l) (.ke hk) (by rw [hd1]; rfl) ?_ l1.symm l2.symm l3.symm (by simp) (by simp) (.inl (by simp only [MTag.phi]; simp only [MTag.phi] at hph; omega))
        have e0 : st = 0 := by rw [hst, hv]; simp
        rw [e0, hsm]
        exact .fin trivial hq
      · obtain ⟨m₂, hk⟩ := c2 hv
        exact bookM hgo (.refl _ w) hwg (ok0_bk hx bk_rd) (tag' := .w2 l (Vc j (wdD D))) (.w2 hk) (by rw [hd1]; rfl) (hmode.reopen ha1 trivial (by rw [ha2]; rfl) (fun vs e1 => by cases e1; exact ⟨Nat.le_refl _, by omega⟩)) l1.symm l2.symm l3.symm (by simp) (by simp) (.inl (by
          have e9 : (MTag.w2 l (Vc j (wdD D))).phi X.n (Vc j (wdD D)) = 8 * Vc j (wdD D) + 5 := rfl
          rw [e9]; omega))
    · obtain ⟨a', w', es, hgo, ⟨rfl, rfl⟩, hg'⟩ := hstep w (.refl w)
      refine bookM hgo (.refl _ _) hwg (by simp [ofEvents_nil]) (tag' := .w1 l) (f' := m') (.w1 hg') (by rw [hd1]; rfl) (hmode.reopen ha1 trivial (by rw [ha2]; rfl) (by simp [MTag.c])) l1.symm l2.symm l3.symm (by simp) (by simp) ?_
      rcases htg with rfl | ⟨rfl, hf⟩
      · exact .inl (by simp only [MTag.phi]; omega)
      · exact .inr ⟨rfl, by omega⟩
  cases hs with
  | sd hk =>
    rcases Goes.cases hk with hstop | ⟨m', rfl, hstep⟩
    · obtain ⟨_, a', hgo, m₂, hk⟩ := hstop w (.refl w)
      exact .inl (bookM hgo (.refl _ w) hwg (ok0_mk hx (.inl rfl) (by simp)) (.sa hk) rfl (hmode.reopen trivial trivial rfl (by simp [MTag.c])) rfl rfl rfl (by simp) (by simp) (.inl (by simp only [MTag.phi]; omega)))
    · obtain ⟨a', w', es, hgo, ⟨rfl, hev⟩, hg'⟩ := hstep w (.refl w)
      exact .inl (idleM hgo hev (.sd hg') (by omega) (by simp))
  | sa hk =>
    rename_i r
    rcases Goes.cases hk with hstop | ⟨m', rfl, hstep⟩
    · obtain ⟨_, hall⟩ := hstop w (.refl w)
      obtain ⟨ho, hst, hsm, _⟩ := hmode.open_inv trivial
      simp only [MTag.left] at hjn
      obtain ⟨a', hgo, c1, c2⟩ := hall (Vc j (wdD D)) (by omega) (by rw [hst, hsm] at hwg; simpa [pend, MTag.c] using hwg)
      have hm' : Go.ConcN.Mode j (wdD D) (.sp r 3) (((Vc j (wdD D) : Nat) + 1) * KK) 0 := by
        have e1 : (((Vc j (wdD D) : Nat) : Int) + 1) * KK = ((Vc j (wdD D) + pend (.sp r 3) : Nat) : Int) * KK := by simp [pend]
        rw [e1]
        exact .opn trivial ho (by simp)
      rw [hsm] at hwg
      by_cases hv : Vc j (wdD D) = 0
      · obtain ⟨m₂, hk⟩ := c1 hv
        exact .inl (bookM hgo (aside_setCell w (stA X.Wg) _) (hwg.setSt _) (ok0_bk hx bk_rw) (tag' := .sr r) (.sr hk) rfl hm' rfl rfl rfl (by simp) (by simp) (.inl (by simp only [MTag.phi]; omega)))
      · obtain ⟨m₂, hk⟩ := c2 hv
        exact .inl (bookM hgo (aside_setCell w (stA X.Wg) _) (hwg.setSt _) (ok0_bk hx bk_rw) (tag' := .se r) (.se hk) rfl hm' rfl rfl rfl (by simp) (by simp) (.inl (by simp only [MTag.phi]; omega)))
    · obtain ⟨a', w', es, hgo, ⟨rfl, rfl⟩, hg'⟩ := hstep w (.refl w)
      exact .inl (idle0 hgo (.sa hg') (by omega) (by simp))
  | sr hk =>
    rcases Goes.cases hk with hstop | ⟨m', rfl, hstep⟩
    · obtain ⟨_, a', hgo, m₂, hk⟩ := hstop w (.refl w)
      exact .inl (bookM hgo (.refl _ w) hwg (ok0_mk hx (.inr (.inl rfl)) (by simp)) (.se hk) rfl hmode rfl rfl rfl (by simp) (by simp) (.inl (by simp only [MTag.phi]; omega)))
    · obtain ⟨a', w', es, hgo, ⟨rfl, rfl⟩, hg'⟩ := hstep w (.refl w)
      exact .inl (idle0 hgo (.sr hg') (by omega) (by simp))
  | se hk =>
    rcases Goes.cases hk with hstop | ⟨m', rfl, hstep⟩
    · obtain ⟨_, a', hgo, m₂, hk⟩ := hstop w (.refl w)
      exact .inl (bookM hgo (.refl _ w) hwg (ok0_mk hx (.inl rfl) (by simp)) (.sg hk) rfl (hmode.reopen trivial trivial rfl (by simp [MTag.c])) rfl rfl rfl (by simp) (by simp) (.inl (by simp only [MTag.phi]; omega)))
    · obtain ⟨a', w', es, hgo, ⟨rfl, rfl⟩, hg'⟩ := hstep w (.refl w)
      exact .inl (idle0 hgo (.se hg') (by omega) (by simp))
  | sg hk =>
    rcases Goes.cases hk with hstop | ⟨m', rfl, hstep⟩
    · exact .inl (h.spawnStep hx ha (hstop w (.refl w)) rfl)
    · obtain ⟨a', w', es, hgo, ⟨rfl, rfl⟩, hg'⟩ := hstep w (.refl w)
      exact .inl (idle0 hgo (.sg hg') (by omega) (by simp))
  | hand hk =>
    rename_i i m
    rcases Goes.cases hk with hstop | ⟨m', rfl, hstep⟩
    · rcases hstop w (.refl w) with ⟨hi, hh⟩ | ⟨hi, hh⟩
      · exact .inl (h.handStep hx hi ha hh (by omega) rfl)
      · have hnx := h.pl.tagok.2.1 i rfl
        have hnM := h.pl.nextM
        exact .inl (h.closeStep hx ha hh rfl rfl rfl rfl (by simp only [MTag.phi]; omega) (.inl ⟨rfl, by omega⟩) (fun p e1 => by cases e1))
    · obtain ⟨a', w', es, hgo, ⟨rfl, hev⟩, hg'⟩ := hstep w (.refl w)
      exact .inl (idleM hgo hev (.hand hg') (by omega) (by simp))
  | hblk _ => simp [parked] at hrun
  | shut hk =>
    rename_i l
    rcases Goes.cases hk with hstop | ⟨m', rfl, hstep⟩
    · exact .inl (h.closeStep hx ha (hstop w (.refl w)) rfl rfl rfl rfl (by simp only [MTag.phi]; omega) (h.pl.tagok.2.2.2 l rfl) (fun p e1 => by cases e1; rfl))
    · obtain ⟨a', w', es, hgo, ⟨rfl, hev⟩, hg'⟩ := hstep w (.refl w)
      exact .inl (idleM hgo hev (.shut hg') (by omega) (by simp))
  | kd hk =>
    rcases Goes.cases hk with hstop | ⟨m', rfl, hstep⟩
    · obtain ⟨_, a', hgo, m₂, hk⟩ := hstop w (.refl w)
      exact .inl (bookM hgo (.refl _ w) hwg (ok0_mk hx (.inl rfl) (by simp)) (.anch hk) rfl (hmode.reopen trivial trivial rfl (by simp [MTag.c])) rfl rfl rfl (by simp) (by simp) (.inl (by simp only [MTag.phi]; simp only [MTag.left] at hjn; omega)))
    · obtain ⟨a', w', es, hgo, ⟨rfl, hev⟩, hg'⟩ := hstep w (.refl w)
      exact .inl (idleM hgo hev (.kd hg') (by omega) (by simp))
  | anch hk =>
    rename_i l
    rcases Goes.cases hk with hstop | ⟨m', rfl, hstep⟩
    · obtain ⟨_, m₂, hk⟩ := hx.anch l a w (hstop w (.refl w))
      exact .inl (w1go (.inl rfl) rfl hk)
    · obtain ⟨a', w', es, hgo, ⟨rfl, rfl⟩, hg'⟩ := hstep w (.refl w)
      exact .inl (idle0 hgo (.anch hg') (by omega) (by simp))
  | w1 hk => exact .inl (w1go (.inr ⟨rfl, rfl⟩) rfl hk)
  | w2 hk =>
    rename_i l vs
    rcases Goes.cases hk with hstop | ⟨m', rfl, hstep⟩
    · obtain ⟨_, hall⟩ := hstop w (.refl w)
      obtain ⟨ho, hst, hsm, hw2⟩ := hmode.open_inv trivial
      obtain ⟨hle, h1⟩ := hw2 vs rfl
      obtain ⟨hhit, hmiss⟩ := hall (Vc j (wdD D)) (by omega) (by rw [hst, hsm] at hwg; simpa [pend, MTag.c] using hwg)
      by_cases e1 : Vc j (wdD D) = vs
      · obtain ⟨a', hgo, m₂, hk⟩ := hhit e1
        rw [hsm] at hwg
        exact .inl (bookM hgo (aside_setCell w (stA X.Wg) _) (hwg.setSt _) (ok0_bk hx bk_rw) (tag' := .wr l) (.wr hk) rfl (.reg trivial ho (by omega)) rfl rfl rfl (by simp) (by simp) (.inl (by simp only [MTag.phi]; omega)))
      · obtain ⟨a', hgo, m₂, hk⟩ := hmiss e1
        exact .inl (bookM hgo (.refl _ w) hwg (ok0_bk hx bk_rd) (tag' := .anch l) (.anch hk) rfl (hmode.reopen trivial trivial rfl (by simp [MTag.c])) rfl rfl rfl (by simp) (by simp) (.inl (by simp only [MTag.phi]; omega)))
    · obtain ⟨a', w', es, hgo, ⟨rfl, rfl⟩, hg'⟩ := hstep w (.refl w)
      exact .inl (idle0 hgo (.w2 hg') (by omega) (by simp))
  | wr hk =>
    rename_i l
    rcases Goes.cases hk with hstop | ⟨m', rfl, hstep⟩
    · obtain ⟨_, a', hgo, m₂, hk⟩ := hstop w (.refl w)
      exact .inl (bookM hgo (.refl _ w) hwg (ok0_mk hx (.inr (.inr rfl)) (by simp)) (tag' := .w3 l) (.w3 hk) rfl hmode rfl rfl rfl (by simp) (by simp) (.inl (by simp only [MTag.phi]; omega)))
    · obtain ⟨a', w', es, hgo, ⟨rfl, rfl⟩, hg'⟩ := hstep w (.refl w)
      exact .inl (idle0 hgo (.wr hg') (by omega) (by simp))
  | w3 hk =>
    rename_i l m
    rcases Goes.cases hk with hstop | ⟨m', rfl, hstep⟩
    · obtain ⟨_, hoff, hblk, htake⟩ := hstop w (.refl w)
      have hmode' : Go.ConcN.Mode j (wdD D) .w3 st sm := hmode
      cases hmode' with
      | opn h1 _ _ => exact h1.elim
      | reg h1 h2 h3 => exact .inl (bookM (hblk ⟨_, hwg⟩) (.refl _ w) hwg (by simp [ofEvents_nil]) (tag' := .blk l) (.blk hstop) rfl (.reg trivial h2 h3) rfl rfl rfl (by simp) (by simp) (.inr ⟨rfl, by omega⟩))
      | last L h1 h2 h3 h4 => exact .inl (bookM (hblk ⟨_, hwg⟩) (.refl _ w) hwg (by simp [ofEvents_nil]) (tag' := .blk l) (.blk hstop) rfl (.last L trivial h2 h3 h4) rfl rfl rfl (by simp) (by simp) (.inr ⟨rfl, by omega⟩))
      | sema h2 =>
        obtain ⟨a', hgo, m₂, hk⟩ := htake hwg
        exact .inl (bookM hgo (aside_setCell w (smA X.Wg) _) (hwg.setSm 0) (ok0_bk hx bk_sem) (tag' := .w4 l) (.w4 hk) rfl (.fin trivial h2) rfl rfl rfl (by simp) (by simp) (.inl (by simp only [MTag.phi]; omega)))
      | fin h1 _ => exact h1.elim
    · obtain ⟨a', w', es, hgo, ⟨rfl, rfl⟩, hg'⟩ := hstep w (.refl w)
      exact .inl (idle0 hgo (.w3 hg') (by omega) (by simp))
  | blk _ => simp at hrun
  | w4 hk =>
    rename_i l
    rcases Goes.cases hk with hstop | ⟨m', rfl, hstep⟩
    · obtain ⟨_, hxx⟩ := hstop w (.refl w)
      obtain ⟨hq, h8, h9⟩ := hmode.fin_inv trivial
      rw [h8, h9] at hwg
      obtain ⟨a', hgo, m₂, hk⟩ := hxx hwg
      exact .inl (bookM hgo (.refl _ w) hwg (ok0_bk hx bk_rd) (tag' := .ke l) (.ke hk) rfl (.fin trivial hq) rfl rfl rfl (by simp) (by simp) (.inl (by simp only [MTag.phi]; omega)))
    · obtain ⟨a', w', es, hgo, ⟨rfl, rfl⟩, hg'⟩ := hstep w (.refl w)
      exact .inl (idle0 hgo (.w4 hg') (by omega) (by simp))
  | ke hk =>
    rename_i l
    rcases Goes.cases hk with hstop | ⟨m', rfl, hstep⟩
    · obtain ⟨_, a', hgo, m₂, hk⟩ := hstop w (.refl w)
      obtain ⟨hq, h8, h9⟩ := hmode.fin_inv trivial
      rw [h8, h9] at hwg
      exact .inl (bookM hgo (.refl _ w) hwg (ok0_mk hx (.inl rfl) (by simp)) (tag' := .acq l) (.acq hk) rfl (.fin trivial hq) rfl rfl rfl (by simp) (by simp) (.inl (by simp only [MTag.phi]; omega)))
    · obtain ⟨a', w', es, hgo, ⟨rfl, rfl⟩, hg'⟩ := hstep w (.refl w)
      exact .inl (idle0 hgo (.ke hg') (by omega) (by simp))
  | acq hk =>
    rename_i l
    rcases Goes.cases hk with hstop | ⟨m', rfl, hstep⟩
    · obtain ⟨_, a', hgo, m₂, hk⟩ := hstop w (.refl w)
      obtain ⟨hq, h8, h9⟩ := hmode.fin_inv trivial
      rw [h8, h9] at hwg
      have hjn' : j = X.n := hjn
      have hrunT := runT_crowd_go (P := X.P) (sl := sl) (i := 0) ha hgo
      have e1 : MemOp.ofEvents 0 a.frame.fn a.frame.place #[Go.ConcR.mk (.acquire (stA X.Wg))] = #[{ g := 0, fn := a.frame.fn, pos := a.frame.place, act := .mark (.acquire (stA X.Wg)) }] := by rw [ofEvents_eq]; simp [ofEvent_mk]
      rw [e1] at hrunT
      generalize hzo : ({ g := 0, fn := a.frame.fn, pos := a.frame.place, act := .mark (.acquire (stA X.Wg)) } : MemOp) = zo at hrunT
      have hz1 : zo.g = 0 := by rw [← hzo]
      have hz2 : zo.act = .mark (.acquire (stA X.Wg)) := by rw [← hzo]
      have hgs : ∀ op ∈ (#[zo] : Trace), op.g = 0 := by intro op hop; simp at hop; rw [hop]; exact hz1
      have hy : (t ++ #[zo])[t.size]? = some zo := by simp
      have hok : ∀ op ∈ (#[zo] : Trace), Ok0 X.L op := by
        intro op hop
        simp at hop
        subst hop
        exact ⟨hz1, fun x hxx => (by rw [hz2] at hxx; cases hxx), fun b hm => (by rw [hz2] at hm; cases hm)⟩
      have hct := h.ct.app0 hx.apart h.pos hok
      have hd0 : Deaf (t ++ #[zo]) 0 = 0 := by
        rw [Deaf_still t 0 _ fun op hop => by simp at hop; rw [hop, hz2]; exact ⟨by simp, by simp⟩]
        exact h.deaf0
      have old : ∀ k, k ≠ 0 → ∀ y, gs[k]? = some y → ((gs.map (woken X.P a a' w)).setIfInBounds 0 a')[k]? = some (woken X.P a a' w y) := fun k hk y hy => by rw [Go.ConcN.get_map_set _ _ _ _ (Ne.symm hk), hy]; rfl
      have hfin : ∀ i, i < j → (D i).tag = .lib 1 := fun i hi => by
        have h1 := hq i hi
        simp only [wdD, WDat.wd] at h1
        cases hd : (D i).tag <;> rw [hd] at h1 <;> simp [WTag.stage] at h1
        rw [h1]
      have hquit : ∀ i, i < j → ∃ g, gs[e + i]? = some g ∧ QuitsD X.P (D i).fuel (D i).deaf g := fun i hi => by
        obtain ⟨g, hg, hws⟩ := h.wk i hi
        refine ⟨g, hg, ?_⟩
        rw [hfin i hi] at hws
        cases hws
        assumption
      refine .inr ⟨_, w, _, l, next, fb, hrunT, ⟨by simp [h.size]; omega, ⟨a', m₂, Go.ConcN.get_map_set_same _ _ _ (by rw [h.size]; omega), hk⟩, ⟨fun k => if k < e then q k else (D (k - e)).fuel, fun k x k0 hkx => ?_, fun k hk => ?_⟩, ?_, fun k op hkop => ?_, hwg, h.cf, h.q, h.base, h.pl.nextM, h.pl.tagok.2.2.2 l rfl, fun p hp => ?_, h.pl.fbok⟩⟩
      · have hks : k < gs.size := by have := (Array.getElem?_eq_some_iff.1 hkx).1; simpa using this
        rw [h.size] at hks
        rcases Nat.lt_or_ge k e with hke | hke
        · obtain ⟨y, hy', hqy⟩ := h.old k k0 hke
          rw [old k (by omega) y hy', woken_quitsD hqy] at hkx
          obtain rfl := Option.some.inj hkx
          rw [if_pos hke, Deaf_other t (g' := 0) (by omega) _ hgs]
          exact hqy
        · obtain ⟨y, hy', hqy⟩ := hquit (k - e) (by omega)
          rw [show e + (k - e) = k by omega] at hy'
          rw [old k (by omega) y hy', woken_quitsD hqy] at hkx
          obtain rfl := Option.some.inj hkx
          rw [if_neg (by omega), Deaf_other t (g' := 0) (by omega) _ hgs]
          have := h.deafW (k - e) (by omega)
          rw [show e + (k - e) = k by omega] at this
          rw [this]
          exact hqy
      · simp [h.size] at hk
        rw [Deaf_other t (g' := 0) (by omega) _ hgs]
        exact Deaf_absent fun b op hb eq => by have := h.ct.gs b op hb; omega
      · refine hct.calm hd0 (s := stA X.Wg) (q := t.size) (by rw [act?_of hy, hz2]) (by simp [Trace.g?, hz1]) ⟨0, by simp [Trace.g?, hz1], by rw [deaf_old (Nat.le_refl _)]; exact h.deaf0⟩ fun g h1 h2 => ?_
        obtain ⟨r, hr⟩ := h.rel (g - e) (by omega) (by rw [hfin (g - e) (by omega)]; simp [WTag.stage])
        rw [show e + (g - e) = g by omega] at hr
        exact ⟨r, hr.appOther hgs (by omega), lt_of_act? hr.act⟩
      · have := hct.gs k op hkop
        omega
      · rcases h.pl.fin p hp with ⟨k, hk, hkp⟩ | ⟨x1, x2⟩
        · rw [hfin k hk] at hkp; cases hkp
        · exact ⟨x1, fun hb => (x2 hb).imp id fun e1 => (by cases e1; rfl)⟩
    · obtain ⟨a', w', es, hgo, ⟨rfl, rfl⟩, hg'⟩ := hstep w (.refl w)
      exact .inl (idle0 hgo (.acq hg') (by omega) (by simp))

theorem St.awake (hx : Laws X) (h : St X e j D q tag f0 d0 next fb asg st sm gs w t) : ∀ g ∈ gs, awake g := by
  intro g hg
  obtain ⟨k, hk⟩ := Array.mem_iff_getElem?.1 hg
  rcases h.idx hk with rfl | ⟨k0, ke⟩ | ⟨i, hi, rfl⟩
  · obtain ⟨a, ha, hm⟩ := h.main
    rw [ha] at hk; cases hk
    rcases hm.status hx with ⟨hs, _⟩ | ⟨hs, _⟩
    · exact awake_of (.inl hs)
    · exact awake_of (.inr (.inl hs))
  · obtain ⟨y, hy, hq⟩ := h.old k k0 ke
    rw [hk] at hy; cases hy
    exact awake_of (hq.status.elim .inl fun x => .inr (.inr x))
  · obtain ⟨y, hy, hw⟩ := h.wk i hi
    rw [hk] at hy; cases hy
    rcases hw.status hx with ⟨hs, _⟩ | ⟨hs, _⟩ | ⟨_, g₀, rfl, _⟩
    · exact awake_of (.inl hs)
    · exact awake_of (.inr (.inr hs))
    · exact awake_of (.inr (.inl rfl))

/-- There is no deadlock. -/
theorem St.runs (hx : Laws X) (h : St X e j D q tag f0 d0 next fb asg st sm gs w t) : ∃ (i : Nat) (g : Goroutine), gs[i]? = some g ∧ g.status = .running := by
  obtain ⟨a, ha, hm⟩ := h.main
  have hrunW : ∀ i, i < j → (D i).tag ≠ .prk → (D i).tag ≠ .lib 1 → ∃ (i : Nat) (g : Goroutine), gs[i]? = some g ∧ g.status = .running := fun i hi h1 h2 => by
    obtain ⟨y, hy, hw⟩ := h.wk i hi
    rcases hw.status hx with ⟨hs, _⟩ | ⟨_, hp⟩ | ⟨hp, _⟩
    · exact ⟨_, y, hy, hs⟩
    · exact absurd hp h2
    · exact absurd hp h1
  rcases hm.status hx with ⟨hs, _⟩ | ⟨_, hb⟩
  · exact ⟨0, a, ha, hs⟩
  · cases tag with
    | hblk z =>
      obtain ⟨_, hzM, rfl⟩ := h.pl.tagok.2.2.1 z rfl
      have hn := hx.some1 (by omega)
      have hjn : j = X.n := h.jn
      have hl : libs j D = 0 := h.pl.room' rfl
      refine hrunW 0 (by omega) (h.pl.hprk z rfl 0 (by omega)) fun e1 => ?_
      have h9 : (D 0).tag.isLib ≤ libs j D := le_sumTo (f := fun i => (D i).tag.isLib) (show 0 < j by omega)
      rw [hl, e1] at h9
      simp [WTag.isLib] at h9
    | blk l =>
      have hnp := h.pl.noprk rfl
      have hmode : Go.ConcN.Mode j (wdD D) .blk st sm := h.mode
      cases hmode with
      | opn h1 _ _ => exact h1.elim
      | reg _ _ h3 =>
        obtain ⟨i, hi, h5⟩ := Go.ConcN.exists_counted h3
        exact hrunW i hi (hnp i hi) fun e1 => by simp only [wdD, WDat.wd, e1, WTag.stage] at h5; omega
      | last L _ h2 h3 _ => exact hrunW L h2 (hnp L h2) fun e1 => by simp only [wdD, WDat.wd, e1, WTag.stage] at h3; omega
      | fin h1 _ => exact h1.elim
    | _ => exact hb.elim

/-- The elder goroutines' steps leave the group as it is. -/
theorem St.elderMode (h : St X e j D q tag f0 d0 next fb asg st sm gs w t) : ∀ tag', (tag' = tag ∨ ∃ l, tag = .blk l ∧ tag' = .w3 l) → Go.ConcN.Mode j (wdD D) tag'.c st sm := fun _ ht => mode_re h.mode ht

/-- Whatever the tape says. -/
theorem inv_step (hx : Laws X) (μ : Nat × Nat) (m : Machine) (t : Trace) (h : Inv X e μ m t) :
    (∃ gs w sl ops l next fb, stepT X.P m = (.next (crowd gs w sl), ops) ∧ Got X e gs w (t ++ ops) l next fb) ∨ ∃ m' ops μ', stepT X.P m = (.next m', ops) ∧ Lt2 μ' μ ∧ Inv X e μ' m' (t ++ ops) := by
  obtain ⟨j, D, q, tag, f0, d0, next, fb, asg, st, sm, gs, w, sl, rfl, hS, rfl⟩ := h
  obtain ⟨i, g, d, sl', hg, hrun, hstep⟩ := crowd_pick (P := X.P) (w := w) (sl := sl) (hS.awake hx) (hS.runs hx)
  rw [hstep]
  have hS' := hS.at hx d
  rcases hS.idx hg with rfl | ⟨k0, ke⟩ | ⟨k, hk, rfl⟩
  · rcases hS'.stepMain (sl := sl') hx hg hrun with h1 | ⟨gs', w', ops, l, next, fb, h1, h2⟩
    · exact .inr h1
    · exact .inl ⟨gs', w', sl', ops, l, next, fb, h1, h2⟩
  · exact .inr (hS'.elderGo hx k0 ke hg hrun hS'.elderMode)
  · exact .inr (hS'.stepWorker hx hk hg hrun)

theorem crew_runs (hx : Laws X) : ∀ (μ : Nat × Nat) (m : Machine) (t : Trace), Inv X e μ m t → ∃ N gs w sl t' l next fb, runNT X.P N m t = (.next (crowd gs w sl), t') ∧ Got X e gs w t' l next fb := by
  intro μ
  induction μ using (Prod.lex Nat.lt_wfRel Nat.lt_wfRel).wf.induction with
  | _ μ ih =>
    intro m t h
    rcases inv_step hx μ m t h with ⟨gs, w, sl, ops, l, next, fb, h1, h2⟩ | ⟨m', ops, μ', h1, hlt, hI⟩
    · exact ⟨1, gs, w, sl, t ++ ops, l, next, fb, by simp [runNT, h1], h2⟩
    · obtain ⟨N, gs, w, sl, t', l, next, fb, hr, hG⟩ := ih μ' hlt m' _ hI
      exact ⟨N + 1, gs, w, sl, t', l, next, fb, by simp only [runNT, h1]; exact hr, hG⟩

/-- From where the starter has all that it needs. -/
theorem crew_phase (hx : Laws X) {gs : Array Goroutine} {a : Goroutine} {sl : Option (Nat × Nat)} {t : Trace} {q : Nat → Nat} (h0 : gs[0]? = some a) (hL : Leavers X.P t gs q) (hC : Calm X.L.Shun t) (hgs : ∀ (i : Nat) (op : MemOp), t[i]? = some op → op.g < gs.size)
    (hwg : WgAt X.ty X.Wg X.w0 0 0) (hcp : ∃ s r, X.w0.heap[X.Cp]? = some (.chan 0 #[] false s r false)) (hcs : ∃ s r, X.w0.heap[X.Cs]? = some (.chan 0 #[] false s r false)) (hcf : ∃ s r, X.w0.heap[X.Cf]? = some (.chan X.n #[] false s r false)) (hq : X.Q X.w0)
    (hS : Spawns X X.n a X.w0) : ∃ N gs' w sl' t' l next fb, runNT X.P N (crowd gs X.w0 sl) t = (.next (crowd gs' w sl'), t') ∧ Got X gs.size gs' w t' l next fb := by
  have hpos : 1 ≤ gs.size := (Array.getElem?_eq_some_iff.1 h0).1
  have mk' : ∀ (tag : MTag) (f : Nat), MS X tag f 0 a X.w0 → tag.left = X.n → tag.least = none → tag.closed = false → pend tag.c = 0 → isOpen tag.c → (∀ vs, tag.c ≠ .w2 vs) → TagOk X tag 0 [] → (∀ z, tag ≠ .hblk z) →
      ∃ N gs' w sl' t' l next fb, runNT X.P N (crowd gs X.w0 sl) t = (.next (crowd gs' w sl'), t') ∧ Got X gs.size gs' w t' l next fb := by
    intro tag f hms t2 t1 t3 hp0 hop hw2 htok hnb
    have : Inv X gs.size (mu X gs.size 0 (fun _ => ⟨.sel, 0, 0⟩) q tag f 0) (crowd gs X.w0 sl) t := by
      refine ⟨0, fun _ => ⟨.sel, 0, 0⟩, q, tag, f, 0, 0, [], fun _ => none, 0, 0, gs, X.w0, sl, rfl, ⟨hpos, by simp, ⟨a, h0, hms⟩, fun i i0 ie => ⟨_, Array.getElem?_eq_getElem ie, hL.old i _ i0 (Array.getElem?_eq_getElem ie)⟩, fun i hi => (by omega), (by omega), .begin hx.apart hC hgs fun _ => rfl, hC.hears, fun i hi => (by omega), fun i hi => (by omega), hwg, ?_, hcp, by rw [t3]; exact hcs, hcf, hq,
        ⟨Nat.zero_le _, fun _ _ => rfl, fun i hi => (by omega), fun p hp => (by omega), fun p hp => (by cases hp), (by simp), fun _ => rfl, htok, fun _ i hi => (by omega), fun z e1 => absurd e1 (hnb z)⟩, .refl _⟩, rfl⟩
      have := Go.ConcN.Mode.opn (j := 0) (D := wdD fun _ => ⟨.sel, 0, 0⟩) hop (fun i hi => by omega) (fun vs e1 => absurd e1 (hw2 vs))
      simpa [Vc, sumTo, hp0] using this
    obtain ⟨N, gs', w, sl', t', l, next, fb, h1, h2⟩ := crew_runs hx _ _ _ this
    exact ⟨N, gs', w, sl', t', l, next, fb, h1, h2⟩
  cases hn : X.n with
  | zero =>
    rw [hn] at hS
    obtain ⟨m, hk⟩ := hS
    exact mk' (.hand 0) (m + 1) (.hand hk) (by rw [hn]; rfl) rfl rfl rfl trivial (by simp [MTag.c]) ⟨fun y => (by simp [MTag.left] at y), fun _ e1 => (by cases e1; rfl), fun _ e1 => (by cases e1), fun _ e1 => (by cases e1)⟩ (by simp)
  | succ r =>
    rw [hn, spawns_succ] at hS
    obtain ⟨m, hk⟩ := hS
    exact mk' (.sd r) m (.sd hk) (by rw [hn]; rfl) rfl rfl rfl trivial (by simp [MTag.c]) ⟨fun _ => rfl, fun _ e1 => (by cases e1), fun _ e1 => (by cases e1), fun _ e1 => (by cases e1)⟩ (by simp)
end
end Go.Proofs.Ytbckmkppmdfnnaa.Crew
