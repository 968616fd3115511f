/- crew: a crew at work: where a worker meets the starter, takes a place, tells what it found, is told to stop. -/
import Derived.Test.YtbckmkppmdfnnaaCrMa
namespace Go.Proofs.Ytbckmkppmdfnnaa.Crew
open Go.Conc Go.RowKit Go.Conc.Lib
open Go.ConcN (WgLive WD CTag sumTo upd sumTo_upd sumTo_congr upd_ne upd_same Vc cnt RelBy le_sumTo sumTo_le RelBy.appOther RelBy.appNot Deaf_still)
open Go.ConcR (KK wgBlock WgAt stA smA rd wr mk Payload DC0)

section
variable {X : Cfg} {e j : Nat} {D : Nat → WDat} {q : Nat → Nat} {tag : MTag} {f0 d0 next : Nat} {fb : List Nat} {asg : Nat → Option Nat} {st sm : Int} {gs : Array Goroutine} {w w' : World} {t : Trace} {sl : Option (Nat × Nat)}

theorem St.idx (h : St X e j D q tag f0 d0 next fb asg st sm gs w t) {k : Nat} {g : Goroutine} (hk : gs[k]? = some g) : k = 0 ∨ (0 < k ∧ k < e) ∨ ∃ i, i < j ∧ k = e + i := by
  have := (Array.getElem?_eq_some_iff.1 hk).1
  rw [h.size] at this
  rcases Nat.eq_zero_or_pos k with h0 | h0
  · exact .inl h0
  · rcases Nat.lt_or_ge k e with h1 | h1
    · exact .inr (.inl ⟨h0, h1⟩)
    · exact .inr (.inr ⟨k - e, by omega, by omega⟩)

/-- What a goroutine offers. -/
theorem St.offers (hx : Laws X) (h : St X e j D q tag f0 d0 next fb asg st sm gs w t) {k : Nat} {g : Goroutine} (hk : gs[k]? = some g) :
    (∀ c b, offersAt g c b = []) ∨ (k = 0 ∧ ∃ z g₀, tag = .hblk z ∧ g = parked g₀ (hc X z) .select ∧ X.Hand z g₀ w) ∨ ∃ i g₀, i < j ∧ k = e + i ∧ (D i).tag = .prk ∧ g = parked g₀ (pc X) .select ∧ X.Sel g₀ w := by
  rcases h.idx hk with rfl | ⟨k0, ke⟩ | ⟨i, hi, rfl⟩
  · obtain ⟨a, ha, hm⟩ := h.main
    rw [ha] at hk; cases hk
    rcases hm.status hx with ⟨hs, _⟩ | ⟨hs, hb⟩
    · exact .inl fun c b => offersAt_of_not_blocked (by rw [hs]; simp) c b
    · cases hm with
      | hblk hh => exact .inr (.inl ⟨rfl, _, _, rfl, rfl, hh⟩)
      | blk hh =>
        have ho := (hh w (.refl w)).2.1
        exact .inl fun c b => by simp [offersAt, ho]
      | _ => exact hb.elim
  · obtain ⟨g', hg', hq⟩ := h.old k k0 ke
    rw [hk] at hg'; cases hg'
    exact .inl fun c b => offersAt_of_not_blocked (by rcases hq.status with hs | hs <;> rw [hs] <;> simp) c b
  · obtain ⟨g', hg', hw⟩ := h.wk i hi
    rw [hk] at hg'; cases hg'
    rcases hw.status hx with ⟨hs, _⟩ | ⟨hs, _⟩ | ⟨hp, g₀, rfl, hsel⟩
    · exact .inl fun c b => offersAt_of_not_blocked (by rw [hs]; simp) c b
    · exact .inl fun c b => offersAt_of_not_blocked (by rw [hs]; simp) c b
    · exact .inr (.inr ⟨i, g₀, hi, rfl, hp, rfl, hsel⟩)

theorem offers_hc (g₀ : Goroutine) (z : Nat) (hx : Laws X) : offersAt (parked g₀ (hc X z) .select) X.Cp true = [0] ∧ offersAt (parked g₀ (hc X z) .select) X.Cf false = [1] ∧ (∀ c, c ≠ X.Cp → offersAt (parked g₀ (hc X z) .select) c true = []) ∧ ∀ c, c ≠ X.Cf → offersAt (parked g₀ (hc X z) .select) c false = [] := by
  have h5 := hx.d5
  refine ⟨?_, ?_, fun c hcc => ?_, fun c hcc => ?_⟩
  · simp [offersAt, parked, hc, scase, rcase]
  · simp [offersAt, parked, hc, scase, rcase]
  · simp [offersAt, parked, hc, scase, rcase, Ne.symm hcc]
  · simp [offersAt, parked, hc, scase, rcase, Ne.symm hcc]
theorem offers_pc (g₀ : Goroutine) (hx : Laws X) : offersAt (parked g₀ (pc X) .select) X.Cp false = [0] ∧ (∀ c, offersAt (parked g₀ (pc X) .select) c true = []) ∧ ∀ c, c ≠ X.Cp → c ≠ X.Cs → offersAt (parked g₀ (pc X) .select) c false = [] := by
  have h4 := hx.d4
  refine ⟨?_, fun c => ?_, fun c h1 h2 => ?_⟩
  · simp [offersAt, parked, pc, rcase, Ne.symm h4]
  · simp [offersAt, parked, pc, rcase]
  · simp [offersAt, parked, pc, rcase, Ne.symm h1, Ne.symm h2]

theorem St.noSend (hx : Laws X) (h : St X e j D q tag f0 d0 next fb asg st sm gs w t) (i : Nat) {c : Nat} (hcc : (∀ z, tag ≠ .hblk z) ∨ c ≠ X.Cp) : partners (gs.setIfInBounds i ph) c true = [] := by
  refine partners_nil fun k g hk => ?_
  rcases getElem?_stand gs i k g hk with ⟨_, rfl⟩ | ⟨_, hk'⟩
  · exact offersAt_ph c true
  · rcases h.offers hx hk' with h1 | ⟨_, z, g₀, ht, rfl, _⟩ | ⟨_, g₀, _, _, _, rfl, _⟩
    · exact h1 c true
    · rcases hcc with h2 | h2
      · exact absurd ht (h2 z)
      · exact (offers_hc g₀ z hx).2.2.1 c h2
    · exact (offers_pc g₀ hx).2.1 c
theorem St.oneSend (hx : Laws X) {z : Nat} (h : St X e j D q (.hblk z) f0 d0 next fb asg st sm gs w t) {i : Nat} (hi : i ≠ 0) {g₀ : Goroutine} (hg : gs[0]? = some (parked g₀ (hc X z) .select)) : partners (gs.setIfInBounds i ph) X.Cp true = [(0, 0)] := by
  rw [partners_one (j := 0) (g := parked g₀ (hc X z) .select) (stand_get (Ne.symm hi) hg) fun k x hk hx' => ?_, (offers_hc g₀ z hx).1]
  · rfl
  · rcases getElem?_stand gs i k x hx' with ⟨_, rfl⟩ | ⟨_, hk'⟩
    · exact offersAt_ph _ true
    · rcases h.offers hx hk' with h1 | ⟨h0, _⟩ | ⟨_, g₁, _, _, _, rfl, _⟩
      · exact h1 _ true
      · exact absurd h0 hk
      · exact (offers_pc g₁ hx).2.1 _
theorem St.noRecvF (hx : Laws X) (h : St X e j D q tag f0 d0 next fb asg st sm gs w t) (i : Nat) (hcc : ∀ z, tag ≠ .hblk z) : partners (gs.setIfInBounds i ph) X.Cf false = [] := by
  refine partners_nil fun k g hk => ?_
  rcases getElem?_stand gs i k g hk with ⟨_, rfl⟩ | ⟨_, hk'⟩
  · exact offersAt_ph _ false
  · rcases h.offers hx hk' with h1 | ⟨_, z, g₀, ht, rfl, _⟩ | ⟨_, g₀, _, _, _, rfl, _⟩
    · exact h1 _ false
    · exact absurd ht (hcc z)
    · exact (offers_pc g₀ hx).2.2 _ (Ne.symm hx.d5) (Ne.symm hx.d6)
theorem St.oneRecvF (hx : Laws X) {z : Nat} (h : St X e j D q (.hblk z) f0 d0 next fb asg st sm gs w t) {i : Nat} (hi : i ≠ 0) {g₀ : Goroutine} (hg : gs[0]? = some (parked g₀ (hc X z) .select)) : partners (gs.setIfInBounds i ph) X.Cf false = [(0, 1)] := by
  rw [partners_one (j := 0) (g := parked g₀ (hc X z) .select) (stand_get (Ne.symm hi) hg) fun k x hk hx' => ?_, (offers_hc g₀ z hx).2.1]
  · rfl
  · rcases getElem?_stand gs i k x hx' with ⟨_, rfl⟩ | ⟨_, hk'⟩
    · exact offersAt_ph _ false
    · rcases h.offers hx hk' with h1 | ⟨h0, _⟩ | ⟨_, g₁, _, _, _, rfl, _⟩
      · exact h1 _ false
      · exact absurd h0 hk
      · exact (offers_pc g₁ hx).2.2 _ (Ne.symm hx.d5) (Ne.symm hx.d6)

/-- Behind a communication. -/
theorem St.comm (h : St X e j D q tag f0 d0 next fb asg st sm gs w t) (hx : Laws X) {i : Nat} {x : WDat} {gs' : Array Goroutine} {u : Trace} {tag' : MTag} {f' next' : Nat} {fb' : List Nat} {asg' : Nat → Option Nat}
    (hsz : gs'.size = gs.size) (hmain : ∃ a, gs'[0]? = some a ∧ MS X tag' f' d0 a w') (hwi : i < j → ∃ g, gs'[e + i]? = some g ∧ WS X x.tag x.fuel x.deaf g w') (hoth : ∀ k, k ≠ 0 → k ≠ e + i → gs'[k]? = gs[k]?) (hK : K X w w')
    (hxd : x.deaf = (D i).deaf) (s1 : x.tag.stage = 7) (s0 : (D i).tag.stage = 7) (hu : ∀ op ∈ u, op.act.touch? = none ∧ op.g < e + j ∧ ∀ m, op.act ≠ .mark m) (hwg : w'.heap[X.Wg]? = w.heap[X.Wg]?)
    (t1 : tag'.c = tag.c) (t2 : tag'.left = tag.left) (t3 : tag'.closed = tag.closed) (hct : CTr X.L e j asg' t)
    (hcp : ∃ s r, w'.heap[X.Cp]? = some (.chan 0 #[] false s r false)) (hcs : w'.heap[X.Cs]? = w.heap[X.Cs]?) (hcf : ∃ s r, w'.heap[X.Cf]? = some (.chan X.n (fb'.map ival).toArray false s r false))
    (hpl : Places X e j (upd D i x) tag' next' fb' asg' w') : St X e j (upd D i x) q tag' f' d0 next' fb' asg' st sm gs' w' (t ++ u) := by
  have hst : ∀ op ∈ u, op.act ≠ .mark .disable ∧ op.act ≠ .mark .enable := fun op hop => ⟨(hu op hop).2.2 _, (hu op hop).2.2 _⟩
  have hD : ∀ g, Deaf (t ++ u) g = Deaf t g := fun g => Deaf_still t g u hst
  have hrel : ∀ {g r : Nat}, RelBy (stA X.Wg) t g r → RelBy (stA X.Wg) (t ++ u) g r := fun {g r} hr => hr.app fun b hb _ hcount => by
    obtain ⟨y, hy, _⟩ := hcount
    obtain ⟨op, hop, hoy⟩ := touch_of hy
    rcases getElem?_append_cases hop with ⟨hlt, _⟩ | ⟨_, hou⟩
    · omega
    · rw [(hu op hou).1] at hoy; cases hoy
  have hei : ∀ k, 0 < k → k < e → gs'[k]? = gs[k]? := fun k k0 ke => hoth k (by omega) (by omega)
  have hpos := h.pos
  refine ⟨h.pos, by rw [hsz]; exact h.size, hmain, fun k k0 ke => ?_, fun k hk => ?_, by rw [t2]; exact h.jn, hct.appN fun op hop => ⟨(hu op hop).1, (hu op hop).2.1, fun a => (hu op hop).2.2 _⟩, by rw [hD]; exact h.deaf0, fun k hk => ?_, fun k hk hs => ?_,
    h.wg.of_block hwg, ?_, hcp, by rw [hcs, t3]; exact h.cs, hcf, hK.q h.q, hpl, h.base.trans hK⟩
  · obtain ⟨g, hg, hq⟩ := h.old k k0 ke
    exact ⟨g, by rw [hei k k0 ke]; exact hg, by rw [hD]; exact hq⟩
  · by_cases e1 : k = i
    · subst e1; rw [upd_same]; exact hwi hk
    · obtain ⟨g, hg, hw⟩ := h.wk k hk
      exact ⟨g, by rw [hoth (e + k) (by omega) (by omega)]; exact hg, by rw [upd_ne D x e1]; exact hw.rely hx hK⟩
  · rw [hD, h.deafW k hk]
    by_cases e1 : k = i
    · subst e1; rw [upd_same, hxd]
    · rw [upd_ne D x e1]
  · by_cases e1 : k = i
    · subst e1; rw [upd_same, s1] at hs; omega
    · rw [upd_ne D x e1] at hs
      obtain ⟨r, hr⟩ := h.rel k hk hs
      exact ⟨r, hrel hr⟩
  · rw [t1]
    refine h.mode.congr fun a _ => ?_
    by_cases e1 : a = i
    · subst e1; simp only [wdD, upd_same, WDat.wd, s1, s0]
    · simp only [wdD, upd_ne D x e1]

theorem chan_turn (hx : Laws X) {c cap cap' s r s' r' : Nat} {buf buf' : Array Value} {cl cl' : Bool} (hc : c = X.Cp ∨ c = X.Cs ∨ c = X.Cf) (h : w.heap[c]? = some (.chan cap buf cl s r false)) (d : Nat) :
    K X w ((w.at d).setChan c cap' buf' cl' s' r' false) ∧ ((w.at d).setChan c cap' buf' cl' s' r' false).heap[c]? = some (.chan cap' buf' cl' s' r' false) ∧ ∀ b, b ≠ c → ((w.at d).setChan c cap' buf' cl' s' r' false).heap[b]? = w.heap[b]? := by
  have hlt : c < w.heap.size := (Array.getElem?_eq_some_iff.1 h).1
  have h1 : ((w.at d).setChan c cap' buf' cl' s' r' false).heap[c]? = some (.chan cap' buf' cl' s' r' false) := by
    show (w.heap.setIfInBounds c _)[c]? = _
    rw [Array.getElem?_setIfInBounds_self_of_lt hlt]
  have h2 : ∀ b, b ≠ c → ((w.at d).setChan c cap' buf' cl' s' r' false).heap[b]? = w.heap[b]? := fun b hb => by
    show (w.heap.setIfInBounds c _)[b]? = _
    rw [Array.getElem?_setIfInBounds_ne (Ne.symm hb)]
  have hwg : X.Wg ≠ c := by
    rcases hc with rfl | rfl | rfl
    · exact Ne.symm hx.d1
    · exact Ne.symm hx.d2
    · exact Ne.symm hx.d3
  refine ⟨.turn hx rfl rfl rfl (by simp [World.setChan, World.at]) (c := c) (.inr hc) h2 fun ⟨st, sm, hl⟩ => ⟨st, sm, hl.of_block (h2 _ hwg)⟩, h1, h2⟩

theorem silent4 {n a b c d : Nat} (ha : a < n) (hb : b < n) {x y z v : MemAct} {f1 f2 f3 f4 : FuncId} {p1 p2 p3 p4 : String} (hc : c = a ∧ d = b) (hq : ∀ m ∈ [x, y, z, v], m.touch? = none ∧ ∀ k, m ≠ .mark k) :
    ∀ op ∈ (#[⟨a, f1, p1, x⟩, ⟨b, f2, p2, y⟩, ⟨c, f3, p3, z⟩, ⟨d, f4, p4, v⟩] : Trace), op.act.touch? = none ∧ op.g < n ∧ ∀ m, op.act ≠ .mark m := by
  intro op hop
  obtain ⟨rfl, rfl⟩ := hc
  simp only [List.mem_toArray, List.mem_cons, List.not_mem_nil, or_false] at hop
  rcases hop with rfl | rfl | rfl | rfl
  · exact ⟨(hq x (by simp)).1, ha, (hq x (by simp)).2⟩
  · exact ⟨(hq y (by simp)).1, hb, (hq y (by simp)).2⟩
  · exact ⟨(hq z (by simp)).1, ha, (hq z (by simp)).2⟩
  · exact ⟨(hq v (by simp)).1, hb, (hq v (by simp)).2⟩
theorem silentQ {n : Nat} {u : Trace} (h : ∀ op ∈ u, op.g < n ∧ (op.act.touch? = none ∧ ∀ m, op.act ≠ .mark m)) : ∀ op ∈ u, op.act.touch? = none ∧ op.g < n ∧ ∀ m, op.act ≠ .mark m := fun op hop => ⟨(h op hop).2.1, (h op hop).1, (h op hop).2.2⟩
theorem ofEvents_nil (g : Nat) (fn : FuncId) (pos : String) : MemOp.ofEvents g fn pos #[] = #[] := rfl

/-- Worker i stands at its select. -/
theorem St.selStep (hx : Laws X) (h : St X e j D q tag f0 d0 next fb asg st sm gs w t) {i : Nat} (hi : i < j) {g g₀ : Goroutine} (hg : gs[e + i]? = some g) (hsel : X.Sel g₀ w) (hstep : stepG X.P false g w = .comm g₀ (pc X) true .select w #[])
    (htg : ((D i).tag = .sel ∧ 1 ≤ (D i).fuel) ∨ ∃ p, (D i).tag = .at p ∧ X.b p = false ∧ X.Done p w) (hd : (D i).deaf = 0) : Steps1 X e (mu X e j D q tag f0 next) gs w sl t (e + i) := by
  have hpos := h.pos
  have hei : (e + i == 0) = false := by simp; omega
  have hstep' : stepG X.P (e + i == 0) g w = .comm g₀ (pc X) true .select w #[] := by rw [hei]; exact hstep
  have s0 : (D i).tag.stage = 7 := by rcases htg with ⟨e1, _⟩ | ⟨p, e1, _⟩ <;> rw [e1] <;> rfl
  have hrk : (D i).tag.rank = 8 ∨ (D i).tag.rank = 10 := by rcases htg with ⟨e1, _⟩ | ⟨p, e1, _⟩ <;> rw [e1] <;> simp [WTag.rank]
  have hnl : (D i).tag.isLib = 0 := by rcases htg with ⟨e1, _⟩ | ⟨p, e1, _⟩ <;> rw [e1] <;> rfl
  have hat : ∀ p, (D i).tag = .at p → X.b p = false ∧ X.Done p w := fun p hp => by
    rcases htg with ⟨e1, _⟩ | ⟨p', e1, h1, h2⟩
    · rw [e1] at hp; cases hp
    · rw [e1] at hp; cases hp; exact ⟨h1, h2⟩
  obtain ⟨a, ha, hm⟩ := h.main
  obtain ⟨s, r, hcp⟩ := h.cp
  obtain ⟨s', r', hcs⟩ := h.cs
  have hlt : e + i < gs.size := (Array.getElem?_eq_some_iff.1 hg).1
  have vc : ∀ x : WDat, x.tag.stage = 7 → Vc j (wdD (upd D i x)) = Vc j (wdD D) := fun x hx7 => by
    have := Vc_upd' (j := j) D x hi
    have : cnt x.wd = cnt (D i).wd := by show (if 5 ≤ x.tag.stage then 1 else 0) = (if 5 ≤ (D i).tag.stage then 1 else 0); rw [hx7, s0]
    omega
  have own : ∀ x k y, gs[k]? = some y → k ≠ e + i → (gs.setIfInBounds (e + i) x)[k]? = some y := fun x k y hy hk => by rw [Array.getElem?_setIfInBounds_ne (Ne.symm hk)]; exact hy
  cases hcl : tag.closed with
  | true =>
    -- told to stop
    rw [hcl] at hcs
    have hnb : ∀ z, tag ≠ .hblk z := fun z e1 => by rw [e1] at hcl; cases hcl
    have hrun := crowd_sel_recv_closed (sl := sl) hg hstep' (k := 1) (c := X.Cs) (z := X.zs) rfl (fun m c' hm' hc' => by
      have hlt' := (Array.getElem?_eq_some_iff.1 hc').1
      simp only [pc, List.size_toArray, List.length_cons, List.length_nil] at hlt'
      obtain rfl : m = 0 := by omega
      obtain rfl : rcase X.Cp (.int .i64 0) = c' := by simpa [pc] using hc'
      exact ways_recv_none hcp (h.noSend hx _ (.inl hnb))) hcs (h.noSend hx _ (.inl hnb))
    obtain ⟨m₂, hm₂⟩ := hx.selStop g₀ w hsel
    refine ⟨_, _, mu X e j (upd D i ⟨.lib 7, m₂, 0⟩) q tag f0 next, hrun, ?_, j, upd D i ⟨.lib 7, m₂, 0⟩, q, tag, f0, d0, next, fb, asg, st, sm, _, w, sl, rfl,
      h.comm hx (i := i) (x := ⟨.lib 7, m₂, 0⟩) (by simp) ⟨a, own _ 0 a ha (by omega), hm⟩ (fun _ => ⟨_, by rw [Array.getElem?_setIfInBounds_self_of_lt hlt], .r0 hm₂⟩) (fun k _ hk => by rw [Array.getElem?_setIfInBounds_ne (Ne.symm hk)]) (.refl w) hd.symm rfl s0 (silentQ fun op hop => ?_) rfl rfl rfl rfl h.ct h.cp rfl h.cf ?_, rfl⟩
    · have := ranks_upd (j := j) D ⟨.lib 7, m₂, 0⟩ hi
      have h7 : (WTag.lib 7).rank = 7 := rfl
      unfold mu
      rw [vc _ rfl]
      exact Prod.Lex.left _ _ (by simp only at this; omega)
    · simp [ofEvents_nil] at hop
      subst hop
      exact ⟨by dsimp only; omega, rfl, by simp⟩
    · have hl := libs_upd (j := j) D ⟨.lib 7, m₂, 0⟩ hi
      have h1 : (WTag.lib 7).isLib = 1 := rfl
      simp only at hl
      refine ⟨h.pl.nextM, h.pl.asgN, fun k hk p hp => ?_, fun p hp => ?_, h.pl.fbok, by have := h.pl.room; omega, fun e1 => ?_, h.pl.tagok, fun _ k hk => ?_, fun z e1 => absurd e1 (hnb z)⟩
      · by_cases e1 : k = i
        · subst e1; rw [upd_same] at hp; cases hp
        · rw [upd_ne D _ e1] at hp; exact h.pl.tagAt k hk p hp
      · rcases h.pl.fin p hp with ⟨k, hk, hkp⟩ | h2
        · by_cases e1 : k = i
          · subst e1
            obtain ⟨h3, h4⟩ := hat p hkp
            exact .inr ⟨h4, fun hb => by rw [h3] at hb; cases hb⟩
          · exact .inl ⟨k, hk, by rw [upd_ne D _ e1]; exact hkp⟩
        · exact .inr h2
      · cases tag <;> first | (cases hcl; done) | cases e1
      · by_cases e1 : k = i
        · subst e1; rw [upd_same]; simp
        · rw [upd_ne D _ e1]; exact h.pl.noprk hcl k hk
  | false =>
    rw [hcl] at hcs
    by_cases hb : ∃ z, tag = .hblk z
    · -- the starter waits there with a place
      obtain ⟨z, rfl⟩ := hb
      cases hm with
      | hblk hh =>
      rename_i g₁
      obtain ⟨rfl, hzM, rfl⟩ := h.pl.tagok.2.2.1 z rfl
      have hrun := sel_meets_sel (sl := sl) hg hstep' (k := 0) (c := X.Cp) (z := .int .i64 0) rfl (fun m c' hm' hc' => by
        have hlt' := (Array.getElem?_eq_some_iff.1 hc').1
        simp only [pc, List.size_toArray, List.length_cons, List.length_nil] at hlt'
        obtain rfl : m = 1 := by omega
        obtain rfl : rcase X.Cs X.zs = c' := by simpa [pc] using hc'
        exact ways_recv_none hcs (h.noSend hx _ (.inr (Ne.symm hx.d4)))) hcp (j := 0) (by omega) ha (kj := 0) rfl (h.oneSend hx (by omega) ha)
      obtain ⟨hK, hn1, hn2⟩ := chan_turn hx (cap' := 0) (buf' := #[]) (cl' := false) (s' := s + 1) (r' := r + 1) (.inl rfl) hcp w.drawn
      have hw0 : (w.at w.drawn) = w := rfl
      rw [hw0] at hK hn1 hn2
      obtain ⟨m₁, hm₁⟩ := hx.handSent next g₁ _ (hx.handRely _ _ _ _ hh hK)
      obtain ⟨m₂, hm₂⟩ := hx.selTake g₀ _ next (hx.selRely _ _ _ hsel hK) hzM
      have hasg := h.pl.asgN next (Nat.le_refl _)
      refine ⟨_, _, mu X e j (upd D i ⟨.at next, m₂, 0⟩) q (.hand (next + 1)) (m₁ + 1) (next + 1), hrun, ?_, j, upd D i ⟨.at next, m₂, 0⟩, q, .hand (next + 1), m₁ + 1, 0, next + 1, [], (fun p => if p = next then some (e + i) else asg p), st, sm, _, _, sl, rfl,
        h.comm hx (i := i) (x := ⟨.at next, m₂, 0⟩) (by simp) ⟨_, by rw [Array.getElem?_setIfInBounds_ne (by omega), Array.getElem?_setIfInBounds_self_of_lt (by omega)], .hand hm₁⟩ (fun _ => ⟨_, by rw [Array.getElem?_setIfInBounds_self_of_lt (by simpa using hlt)], .at hm₂⟩)
          (fun k k0 hk => by rw [Array.getElem?_setIfInBounds_ne (Ne.symm hk), Array.getElem?_setIfInBounds_ne (Ne.symm k0)]) hK hd.symm rfl s0 (silentQ fun op hop => ?_) (hn2 _ (Ne.symm hx.d1)) rfl rfl rfl (h.ct.hand (by omega) (by omega) hasg) ⟨_, _, hn1⟩ (hn2 _ (Ne.symm hx.d4)) (by rw [hn2 _ (Ne.symm hx.d5)]; exact h.cf) ?_, rfl⟩
      · have := ranks_upd (j := j) D ⟨.at next, m₂, 0⟩ hi
        have h7 : (WTag.at next).rank = 10 := rfl
        unfold mu
        rw [vc _ rfl]
        refine Prod.Lex.left _ _ ?_
        simp only [MTag.phi] at *
        omega
      · simp [ofEvents_nil] at hop
        rcases hop with rfl | rfl | rfl | rfl <;> exact ⟨by dsimp only; omega, rfl, by simp⟩
      · have hl := libs_upd (j := j) D ⟨.at next, m₂, 0⟩ hi
        have h1 : (WTag.at next).isLib = 0 := rfl
        simp only at hl
        have hdn : ∀ p, X.Done p w → X.Done p (w.setChan X.Cp 0 #[] false (s + 1) (r + 1) false) := fun p hp => hx.doneOf p _ _ (hn2 _ hx.m2) hp
        refine ⟨by omega, fun p hp => by simp only [if_neg (show p ≠ next by omega)]; exact h.pl.asgN p (by omega), fun k hk p hp => ?_, fun p hp => ?_, fun p hp => (by cases hp), (by simp), fun _ => (by have := h.pl.room' rfl; simp only [List.length_nil] at this ⊢; omega), ⟨fun x => (by simp [MTag.left] at x), fun _ e1 => (by cases e1; rfl), fun _ e1 => (by cases e1), fun _ e1 => (by cases e1)⟩, fun e1 => (by cases e1), fun _ e1 => (by cases e1)⟩
        · by_cases e1 : k = i
          · subst e1; rw [upd_same] at hp; cases hp; exact ⟨by simp, by omega⟩
          · rw [upd_ne D _ e1] at hp
            obtain ⟨h3, h4⟩ := h.pl.tagAt k hk p hp
            exact ⟨by simp only [if_neg (show p ≠ next by omega)]; exact h3, by omega⟩
        · by_cases e2 : p = next
          · subst e2; exact .inl ⟨i, hi, by rw [upd_same]⟩
          · rcases h.pl.fin p (by omega) with ⟨k, hk, hkp⟩ | ⟨h2, h3⟩
            · by_cases e1 : k = i
              · subst e1
                obtain ⟨h3, h4⟩ := hat p hkp
                exact .inr ⟨hdn p h4, fun hb => by rw [h3] at hb; cases hb⟩
              · exact .inl ⟨k, hk, by rw [upd_ne D _ e1]; exact hkp⟩
            · exact .inr ⟨hdn p h2, fun hb => (h3 hb).imp id fun e1 => by cases e1⟩
    · -- nobody there: it waits
      have hnb : ∀ z, tag ≠ .hblk z := fun z e1 => hb ⟨z, e1⟩
      have hrun := crowd_waits (sl := sl) hg hstep' fun cc hcc => by
        simp [pc] at hcc
        rcases hcc with rfl | rfl
        · exact ways_recv_none hcp (h.noSend hx _ (.inl hnb))
        · exact ways_recv_none hcs (h.noSend hx _ (.inl hnb))
      refine ⟨_, _, mu X e j (upd D i ⟨.prk, 0, 0⟩) q tag f0 next, hrun, ?_, j, upd D i ⟨.prk, 0, 0⟩, q, tag, f0, d0, next, fb, asg, st, sm, _, w, sl, rfl,
        h.comm hx (i := i) (x := ⟨.prk, 0, 0⟩) (by simp) ⟨a, own _ 0 a ha (by omega), hm⟩ (fun _ => ⟨_, by rw [Array.getElem?_setIfInBounds_self_of_lt hlt], .prk hsel⟩) (fun k _ hk => by rw [Array.getElem?_setIfInBounds_ne (Ne.symm hk)]) (.refl w) hd.symm rfl s0 (fun op hop => by simp [ofEvents_nil] at hop) rfl rfl rfl rfl h.ct h.cp rfl h.cf ?_, rfl⟩
      · have h1 := ranks_upd (j := j) D ⟨.prk, 0, 0⟩ hi
        have h2 := fuels_upd (j := j) D ⟨.prk, 0, 0⟩ hi
        have h7 : WTag.prk.rank = 8 := rfl
        unfold mu
        rw [vc _ rfl]
        simp only at h1 h2
        rcases htg with ⟨e1, hf⟩ | ⟨p, e1, _⟩
        · have h8 : (D i).tag.rank = 8 := by rw [e1]; rfl
          rw [show ranks j (upd D i ⟨.prk, 0, 0⟩) = ranks j D by omega]
          exact Prod.Lex.right _ (by omega)
        · have h8 : (D i).tag.rank = 10 := by rw [e1]; rfl
          exact Prod.Lex.left _ _ (by omega)
      · have hl := libs_upd (j := j) D ⟨.prk, 0, 0⟩ hi
        have h1 : WTag.prk.isLib = 0 := rfl
        simp only at hl
        refine ⟨h.pl.nextM, h.pl.asgN, fun k hk p hp => ?_, fun p hp => ?_, h.pl.fbok, (by have := h.pl.room; omega), fun e1 => (by have := h.pl.room' e1; omega), h.pl.tagok, fun e1 => (by rw [hcl] at e1; cases e1), fun z e1 => absurd e1 (hnb z)⟩
        · by_cases e1 : k = i
          · subst e1; rw [upd_same] at hp; cases hp
          · rw [upd_ne D _ e1] at hp; exact h.pl.tagAt k hk p hp
        · rcases h.pl.fin p hp with ⟨k, hk, hkp⟩ | h2
          · by_cases e1 : k = i
            · subst e1
              obtain ⟨h3, h4⟩ := hat p hkp
              exact .inr ⟨h4, fun hb => by rw [h3] at hb; cases hb⟩
            · exact .inl ⟨k, hk, by rw [upd_ne D _ e1]; exact hkp⟩
          · exact .inr h2

/-- Worker i tells that it found place p. -/
theorem St.sndStep (hx : Laws X) (h : St X e j D q tag f0 d0 next fb asg st sm gs w t) {i : Nat} (hi : i < j) {g : Goroutine} (hg : gs[e + i]? = some g) {p : Nat} (htg : (D i).tag = .at p) (hbp : X.b p = true) (hdp : X.Done p w) (hsnd : AtSnd X p g w) (hd : (D i).deaf = 0) :
    Steps1 X e (mu X e j D q tag f0 next) gs w sl t (e + i) := by
  have hpos := h.pos
  have hei : (e + i == 0) = false := by simp; omega
  obtain ⟨_, g₂, hstep, hgo⟩ := hsnd
  have hstep' : stepG X.P (e + i == 0) g w = .comm g₂ (sc X p) true .send w #[] := by rw [hei]; exact hstep
  have s0 : (D i).tag.stage = 7 := by rw [htg]; rfl
  have hrk : (D i).tag.rank = 10 := by rw [htg]; rfl
  have hnl : (D i).tag.isLib = 0 := by rw [htg]; rfl
  obtain ⟨hpa, hpn⟩ := h.pl.tagAt i hi p htg
  obtain ⟨a, ha, hm⟩ := h.main
  obtain ⟨s, r, hcf⟩ := h.cf
  have hlt : e + i < gs.size := (Array.getElem?_eq_some_iff.1 hg).1
  have vc : ∀ x : WDat, x.tag.stage = 7 → Vc j (wdD (upd D i x)) = Vc j (wdD D) := fun x hx7 => by
    have := Vc_upd' (j := j) D x hi
    have : cnt x.wd = cnt (D i).wd := by show (if 5 ≤ x.tag.stage then 1 else 0) = (if 5 ≤ (D i).tag.stage then 1 else 0); rw [hx7, s0]
    omega
  by_cases hb : ∃ z, tag = .hblk z
  · obtain ⟨z, rfl⟩ := hb
    cases hm with
    | hblk hh =>
    rename_i g₁
    obtain ⟨rfl, hzM, rfl⟩ := h.pl.tagok.2.2.1 z rfl
    have hrun := crowd_send_meets_sel (sl := sl) hg hstep' hcf (j := 0) (by omega) ha (k := 1) (zj := .int .i64 0) rfl (h.oneRecvF hx (by omega) ha)
    obtain ⟨hK, hn1, hn2⟩ := chan_turn hx (cap' := X.n) (buf' := (([] : List Nat).map ival).toArray) (cl' := false) (s' := s + 1) (r' := r + 1) (.inr (.inr rfl)) hcf w.drawn
    have hw0 : (w.at w.drawn) = w := rfl
    rw [hw0] at hK hn1 hn2
    obtain ⟨m₁, hm₁⟩ := hx.handGot next g₁ _ p (hx.handRely _ _ _ _ hh hK) (by have := h.pl.nextM; omega)
    obtain ⟨m₂, hm₂⟩ := hgo _ hK
    refine ⟨_, _, mu X e j (upd D i ⟨.lib 7, m₂, 0⟩) q (.shut p) m₁ next, hrun, ?_, j, upd D i ⟨.lib 7, m₂, 0⟩, q, .shut p, m₁, 0, next, [], asg, st, sm, _, _, sl, rfl,
      h.comm hx (i := i) (x := ⟨.lib 7, m₂, 0⟩) (by simp) ⟨_, by rw [Array.getElem?_setIfInBounds_ne (by omega), Array.getElem?_setIfInBounds_self_of_lt (by omega)], .shut hm₁⟩ (fun _ => ⟨g₂.finishComm X.P (sc X p) .send 0 undef false, by rw [Array.getElem?_setIfInBounds_self_of_lt (by simpa using hlt)]; rfl, .r0 hm₂⟩)
        (fun k k0 hk => by rw [Array.getElem?_setIfInBounds_ne (Ne.symm hk), Array.getElem?_setIfInBounds_ne (Ne.symm k0)]) hK hd.symm rfl s0 (silentQ fun op hop => ?_) (hn2 _ (Ne.symm hx.d3)) rfl rfl rfl h.ct (by rw [hn2 _ hx.d5]; exact h.cp) (hn2 _ hx.d6) ⟨_, _, hn1⟩ ?_, rfl⟩
    · have := ranks_upd (j := j) D ⟨.lib 7, m₂, 0⟩ hi
      have h7 : (WTag.lib 7).rank = 7 := rfl
      unfold mu
      rw [vc _ rfl]
      refine Prod.Lex.left _ _ ?_
      simp only [MTag.phi] at *
      omega
    · simp [ofEvents_nil] at hop
      rcases hop with rfl | rfl | rfl | rfl <;> exact ⟨by dsimp only; omega, rfl, by simp⟩
    · have hdn : ∀ p, X.Done p w → X.Done p (w.setChan X.Cf X.n (([] : List Nat).map ival).toArray false (s + 1) (r + 1) false) := fun p hp => hx.doneOf p _ _ (hn2 _ hx.m4) hp
      refine ⟨h.pl.nextM, h.pl.asgN, fun k hk p' hp => ?_, fun p' hp => ?_, fun p hp => (by cases hp), (by simp), fun e1 => (by cases e1), ⟨fun x => (by simp [MTag.left] at x), fun _ e1 => (by cases e1), fun _ e1 => (by cases e1), fun l e1 => (by cases e1; exact .inr ⟨hpn, hbp⟩)⟩, fun e1 => (by cases e1), fun _ e1 => (by cases e1)⟩
      · by_cases e1 : k = i
        · subst e1; rw [upd_same] at hp; cases hp
        · rw [upd_ne D _ e1] at hp; exact h.pl.tagAt k hk p' hp
      · rcases h.pl.fin p' hp with ⟨k, hk, hkp⟩ | ⟨h2, h3⟩
        · by_cases e1 : k = i
          · subst e1
            rw [htg] at hkp; cases hkp
            exact .inr ⟨hdn p hdp, fun _ => .inr rfl⟩
          · exact .inl ⟨k, hk, by rw [upd_ne D _ e1]; exact hkp⟩
        · exact .inr ⟨hdn p' h2, fun hb => by
            rcases h3 hb with h4 | h4
            · cases h4
            · cases h4⟩
  · have hnb : ∀ z, tag ≠ .hblk z := fun z e1 => hb ⟨z, e1⟩
    have hl := libs_upd (j := j) D ⟨.lib 7, 0, 0⟩ hi
    have h1 : (WTag.lib 7).isLib = 1 := rfl
    have hle : libs j (upd D i ⟨.lib 7, 0, 0⟩) ≤ j := by
      have := sumTo_le (f := fun a => (upd D i ⟨.lib 7, 0, 0⟩ a).tag.isLib) (c := 1) (j := j) fun a _ => by cases (upd D i ⟨.lib 7, 0, 0⟩ a).tag <;> simp [WTag.isLib]
      simpa [libs] using this
    simp only at hl
    have hroom : ((fb.map ival).toArray).size < X.n := by
      have := h.pl.room
      have := h.jn
      simp only [List.size_toArray, List.length_map]
      omega
    have hrun := crowd_send_room (sl := sl) hg hstep' hcf hroom (h.noRecvF hx _ hnb)
    obtain ⟨hK, hn1, hn2⟩ := chan_turn hx (cap' := X.n) (buf' := (fb.map ival).toArray.push (.int .i64 p)) (cl' := false) (s' := s + 1) (r' := r) (.inr (.inr rfl)) hcf w.drawn
    have hw0 : (w.at w.drawn) = w := rfl
    rw [hw0] at hK hn1 hn2
    obtain ⟨m₂, hm₂⟩ := hgo _ hK
    have hbuf : (fb.map ival).toArray.push (.int .i64 (p : Int)) = ((fb ++ [p]).map ival).toArray := by simp [ival]
    refine ⟨_, _, mu X e j (upd D i ⟨.lib 7, m₂, 0⟩) q tag f0 next, hrun, ?_, j, upd D i ⟨.lib 7, m₂, 0⟩, q, tag, f0, d0, next, fb ++ [p], asg, st, sm, _, _, sl, rfl,
      h.comm hx (i := i) (x := ⟨.lib 7, m₂, 0⟩) (by simp) ⟨a, by rw [Array.getElem?_setIfInBounds_ne (by omega)]; exact ha, hm.rely hx hK⟩ (fun _ => ⟨g₂.finishComm X.P (sc X p) .send 0 undef false, by rw [Array.getElem?_setIfInBounds_self_of_lt hlt]; rfl, .r0 hm₂⟩)
        (fun k k0 hk => by rw [Array.getElem?_setIfInBounds_ne (Ne.symm hk)]) hK hd.symm rfl s0 (silentQ fun op hop => ?_) (hn2 _ (Ne.symm hx.d3)) rfl rfl rfl h.ct (by rw [hn2 _ hx.d5]; exact h.cp) (hn2 _ hx.d6) ⟨_, _, by rw [hn1, hbuf]⟩ ?_, rfl⟩
    · have := ranks_upd (j := j) D ⟨.lib 7, m₂, 0⟩ hi
      have h7 : (WTag.lib 7).rank = 7 := rfl
      unfold mu
      rw [vc _ rfl]
      refine Prod.Lex.left _ _ ?_
      simp only at *
      omega
    · simp [ofEvents_nil] at hop
      rcases hop with rfl | rfl <;> exact ⟨by dsimp only; omega, rfl, by simp⟩
    · have hdn : ∀ p', X.Done p' w → X.Done p' (w.setChan X.Cf X.n ((fb.map ival).toArray.push (.int .i64 p)) false (s + 1) r false) := fun p hp => hx.doneOf p _ _ (hn2 _ hx.m4) hp
      have hl' := libs_upd (j := j) D ⟨.lib 7, m₂, 0⟩ hi
      simp only at hl'
      refine ⟨h.pl.nextM, h.pl.asgN, fun k hk p' hp => ?_, fun p' hp => ?_, fun p' hp => ?_, by have := h.pl.room; simp only [List.length_append, List.length_singleton]; omega, fun e1 => by have := h.pl.room' e1; simp only [List.length_append, List.length_singleton]; omega, ⟨h.pl.tagok.1, h.pl.tagok.2.1, fun z e1 => absurd e1 (hnb z), h.pl.tagok.2.2.2⟩, fun e1 k hk => ?_, fun z e1 => absurd e1 (hnb z)⟩
      · by_cases e1 : k = i
        · subst e1; rw [upd_same] at hp; cases hp
        · rw [upd_ne D _ e1] at hp; exact h.pl.tagAt k hk p' hp
      · rcases h.pl.fin p' hp with ⟨k, hk, hkp⟩ | ⟨h2, h3⟩
        · by_cases e1 : k = i
          · subst e1
            rw [htg] at hkp; cases hkp
            exact .inr ⟨hdn p hdp, fun _ => .inl (by simp)⟩
          · exact .inl ⟨k, hk, by rw [upd_ne D _ e1]; exact hkp⟩
        · exact .inr ⟨hdn p' h2, fun hb => (h3 hb).imp (fun h4 => by simp [h4]) id⟩
      · simp only [List.mem_append, List.mem_singleton] at hp
        rcases hp with h2 | rfl
        · exact h.pl.fbok p' h2
        · exact ⟨hpn, hbp⟩
      · by_cases e2 : k = i
        · subst e2; rw [upd_same]; simp
        · rw [upd_ne D _ e2]; exact h.pl.noprk e1 k hk
end
end Go.Proofs.Ytbckmkppmdfnnaa.Crew
