/- crew: what the trace keeps while a crew is at work: who knows which touch; what is handed over; what is left when all have said their release. -/
import Derived.Conc.Beside
import Derived.Conc.CrowdRun
namespace Go.Proofs.Ytbckmkppmdfnnaa.Crew
open Go.Conc
open Go.ConcN (PermW RelBy fork_knows Deaf_absent Deaf_still)

/-- The places of a phase: the group's own; those of elder groups; what is place number p's own; what everybody may read. -/
structure Lands where
  Sh : Loc → Prop
  Shun : Loc → Prop
  Own : Nat → Loc → Prop
  Rd : Loc → Prop
structure Lands.Apart (L : Lands) : Prop where
  own : ∀ p p' l, L.Own p l → L.Own p' l → p = p'
  ownRd : ∀ p l, L.Own p l → ¬ L.Rd l
  ownSh : ∀ p l, L.Own p l → ¬ L.Sh l
  rdSh : ∀ l, L.Rd l → ¬ L.Sh l
  ownShun : ∀ p l, L.Own p l → ¬ L.Shun l
  rdShun : ∀ l, L.Rd l → ¬ L.Shun l
  shShun : ∀ l, L.Sh l → ¬ L.Shun l

structure CTr (L : Lands) (e j : Nat) (asg : Nat → Option Nat) (t : Trace) : Prop where
  shq : ∀ i a, touchAt t i = some a → L.Sh a.loc → a.loc.isMemory = true → (a.kind ≠ .plain ∧ (a.kind = .said → Knows t 0 i)) ∨ (Knows t 0 i ∧ ∀ g, e ≤ g → g < e + j → Knows t g i)
  own : ∀ p g, asg p = some g → ∀ l, l.isMemory = true → L.Own p l → Perm t g l
  unown : ∀ p, asg p = none → ∀ l, l.isMemory = true → L.Own p l → Perm t 0 l ∧ ∀ g, e ≤ g → g < e + j → Perm t g l
  rd : ∀ g, e ≤ g → g < e + j → ∀ l, l.isMemory = true → L.Rd l → PermW t g l
  mine : ∀ l, l.isMemory = true → ¬ L.Sh l → ¬ L.Shun l → (∀ p, ¬ L.Own p l) → PermW t 0 l
  nr : ∀ said, ¬ Race said t
  gs : ∀ (i : Nat) (op : MemOp), t[i]? = some op → op.g < e + j
  elder : ∀ i a g, touchAt t i = some a → a.loc.isMemory = true → t.g? i = some g → g < e → Knows t 0 i ∨ (L.Shun a.loc ∧ a.kind = .atomic)
  over : ∀ i g, t.g? i = some g → g ≠ 0 → g < e → t.counts i → ∃ k, t.g? k = some 0 ∧ HappensBefore t i k
  late : ∀ i a g, touchAt t i = some a → a.loc.isMemory = true → t.g? i = some g → e ≤ g → a.kind = .atomic → L.Sh a.loc
  norel : ∀ i a, t.act? i ≠ some (.mark (.release a))

/-- What the starter may do. -/
def Ok0 (L : Lands) (op : MemOp) : Prop :=
  op.g = 0 ∧ (∀ x, op.act.touch? = some x → (L.Sh x.loc ∧ x.kind ≠ .plain) ∨ (¬ L.Sh x.loc ∧ ¬ L.Shun x.loc ∧ (∀ p, ¬ L.Own p x.loc) ∧ x.write = false)) ∧ ∀ a, op.act ≠ .mark (.release a)
/-- What worker g may do. -/
def OkW (L : Lands) (asg : Nat → Option Nat) (g : Nat) (op : MemOp) : Prop :=
  op.g = g ∧ (∀ x, op.act.touch? = some x → (L.Sh x.loc ∧ x.kind ≠ .plain ∧ x.kind ≠ .said) ∨ (((∃ p, asg p = some g ∧ L.Own p x.loc) ∨ (L.Rd x.loc ∧ x.write = false)) ∧ x.kind ≠ .atomic)) ∧ ∀ a, op.act ≠ .mark (.release a)

section
variable {L : Lands} {e j : Nat} {asg : Nat → Option Nat} {t u : Trace}

theorem touch_cases {i : Nat} {a : Touch} (h : touchAt (t ++ u) i = some a) : (i < t.size ∧ touchAt t i = some a) ∨ (t.size ≤ i ∧ ∃ op ∈ u, (t ++ u)[i]? = some op ∧ op.act.touch? = some a) := by
  obtain ⟨x, hx, hxa⟩ := touch_of h
  rcases getElem?_append_cases hx with ⟨hi, hx'⟩ | ⟨hi, hxu⟩
  · exact .inl ⟨hi, by rw [touchAt_of hx']; exact hxa⟩
  · exact .inr ⟨hi, x, hxu, hx, hxa⟩
theorem PermW.app' {t u : Trace} {g : Nat} {l : Loc} (h : PermW t g l) (hu : ∀ op ∈ u, ∀ b, op.act.touch? = some b → b.loc = l → b.write = true → op.g = g) : PermW (t ++ u) g l := Go.ConcN.PermW.app h hu
theorem g_of {i : Nat} {op : MemOp} (h : t[i]? = some op) : t.g? i = some op.g := by simp [Trace.g?, h]

/-- The parts that hang on the touches alone, where one goroutine's operations are appended. -/
theorem over_app (h : ∀ i g, t.g? i = some g → g ≠ 0 → g < e → t.counts i → ∃ k, t.g? k = some 0 ∧ HappensBefore t i k) (hu : ∀ op ∈ u, op.g ≠ 0 → op.g < e → op.act.touch? = none) :
    ∀ i g, (t ++ u).g? i = some g → g ≠ 0 → g < e → (t ++ u).counts i → ∃ k, (t ++ u).g? k = some 0 ∧ HappensBefore (t ++ u) i k := by
  intro i g hg hne hlt hc
  obtain ⟨x, hx, _⟩ := hc
  obtain ⟨op, hop, hox⟩ := touch_of hx
  rcases getElem?_append_cases hop with ⟨hi, hop'⟩ | ⟨_, hopu⟩
  · obtain ⟨k, hk, hb⟩ := h i g (by simpa [Trace.g?, getElem?_append_old hi] using hg) hne hlt ((counts_old hi).1 ⟨x, hx, ‹_›⟩)
    have hkl : k < t.size := by
      unfold Trace.g? at hk
      obtain ⟨z, hz, _⟩ := Option.map_eq_some_iff.1 hk
      exact lt_size_of_getElem? hz
    exact ⟨k, by simpa [Trace.g?, getElem?_append_old hkl] using hk, hb_app u hb⟩
  · have hg' : op.g = g := by simpa [Trace.g?, hop] using hg
    rw [hu op hopu (by rw [hg']; exact hne) (by rw [hg']; exact hlt)] at hox; cases hox

theorem norel_app (h : ∀ i a, t.act? i ≠ some (.mark (.release a))) (hu : ∀ op ∈ u, ∀ a, op.act ≠ .mark (.release a)) : ∀ i a, (t ++ u).act? i ≠ some (.mark (.release a)) := by
  intro i a hm
  obtain ⟨op, ho, hoa⟩ := Option.map_eq_some_iff.1 hm
  rcases getElem?_append_cases ho with ⟨hi, ho'⟩ | ⟨_, hou⟩
  · exact h i a (by rw [act?_of ho', hoa])
  · exact hu op hou a hoa

theorem CTr.app0 (A : L.Apart) (he : 1 ≤ e) (h : CTr L e j asg t) (hu : ∀ op ∈ u, Ok0 L op) : CTr L e j asg (t ++ u) := by
  refine ⟨fun i a ha hs hm => ?_, fun p g hp l hm hl => (h.own p g hp l hm hl).app fun op hop b hb eq => ?_, fun p hp l hm hl => ⟨(h.unown p hp l hm hl).1.app fun op hop _ _ _ => (hu op hop).1, fun g h1 h2 => ((h.unown p hp l hm hl).2 g h1 h2).app fun op hop b hb eq => ?_⟩,
    fun g h1 h2 l hm hl => PermW.app' (h.rd g h1 h2 l hm hl) fun op hop b hb eq hw => ?_, fun l hm hs hn ho => PermW.app' (h.mine l hm hs hn ho) fun op hop _ _ _ _ => (hu op hop).1, fun said => ?_, fun i op hi => ?_,
    fun i a g ha hm hg hlt => ?_, over_app h.over fun op hop hne => absurd (hu op hop).1 hne, fun i a g ha hm hg hle hk => ?_, norel_app h.norel fun op hop => (hu op hop).2.2⟩
  · rcases touch_cases ha with ⟨_, ha'⟩ | ⟨_, op, hop, hx, hxa⟩
    · rcases h.shq i a ha' hs hm with ⟨h1, h2⟩ | ⟨h1, h2⟩
      · exact .inl ⟨h1, fun k => (h2 k).app u⟩
      · exact .inr ⟨h1.app u, fun g e1 e2 => (h2 g e1 e2).app u⟩
    · rcases (hu op hop).2.1 a hxa with ⟨_, hk⟩ | ⟨hn, _⟩
      · exact .inl ⟨hk, fun _ => by have := knows_own hx; rwa [(hu op hop).1] at this⟩
      · exact absurd hs hn
  · rcases (hu op hop).2.1 b hb with ⟨hs, _⟩ | ⟨_, _, hn, _⟩
    · exact absurd (eq ▸ hs) (A.ownSh p l hl)
    · exact absurd (eq ▸ hl) (hn p)
  · rcases (hu op hop).2.1 b hb with ⟨hs, _⟩ | ⟨_, _, hn, _⟩
    · exact absurd (eq ▸ hs) (A.ownSh p l hl)
    · exact absurd (eq ▸ hl) (hn p)
  · rcases (hu op hop).2.1 b hb with ⟨hs, _⟩ | ⟨_, _, _, hn⟩
    · exact absurd (eq ▸ hs) (A.rdSh l hl)
    · rw [hn] at hw; cases hw
  · refine noRace_append (h.nr said) (fun op hop => (hu op hop).1) (fun i a ha op hop b hb hc => ?_)
    rcases (hu op hop).2.1 b hb with ⟨hs, hk⟩ | ⟨hs, hsn, hno, hw⟩
    · rcases h.shq i a ha (hc.1 ▸ hs) hc.2.1 with ⟨h1, h2⟩ | ⟨h1, _⟩
      · rcases hc.2.2.2 with x | x | ⟨_, x, _⟩
        · exact absurd x h1
        · exact absurd x hk
        · exact h2 x
      · exact h1
    · exact h.mine b.loc (hc.1 ▸ hc.2.1) hs hsn hno i a ha hc.1 (hc.2.2.1.resolve_right (by simp [hw]))
  · rcases getElem?_append_cases hi with ⟨_, hi'⟩ | ⟨_, hiu⟩
    · exact h.gs i op hi'
    · rw [(hu op hiu).1]; omega
  · rcases touch_cases ha with ⟨hi, ha'⟩ | ⟨_, op, hop, hx, hxa⟩
    · exact (h.elder i a g ha' hm (by rw [← g?_old (u := u) hi]; exact hg) hlt).imp (·.app u) id
    · have := knows_own hx; rw [(hu op hop).1] at this; exact .inl this
  · rcases touch_cases ha with ⟨hi, ha'⟩ | ⟨_, op, hop, hx, hxa⟩
    · exact h.late i a g ha' hm (by rw [← g?_old (u := u) hi]; exact hg) hle hk
    · rw [g_of hx, (hu op hop).1] at hg; cases hg; omega

theorem CTr.appW (A : L.Apart) (h : CTr L e j asg t) {g : Nat} (g1 : e ≤ g) (g2 : g < e + j) (hu : ∀ op ∈ u, OkW L asg g op) : CTr L e j asg (t ++ u) := by
  refine ⟨fun i a ha hs hm => ?_, fun p g' hp l hm hl => (h.own p g' hp l hm hl).app fun op hop b hb eq => ?_, fun p hp l hm hl => ⟨(h.unown p hp l hm hl).1.app fun op hop b hb eq => ?_, fun g' h1 h2 => ((h.unown p hp l hm hl).2 g' h1 h2).app fun op hop b hb eq => ?_⟩,
    fun g' h1 h2 l hm hl => PermW.app' (h.rd g' h1 h2 l hm hl) fun op hop b hb eq hw => ?_, fun l hm hs hn ho => PermW.app' (h.mine l hm hs hn ho) fun op hop b hb eq hw => ?_, fun said => ?_, fun i op hi => ?_,
    fun i a g' ha hm hg hlt => ?_, over_app h.over fun op hop _ hlt => absurd hlt (by rw [(hu op hop).1]; omega), fun i a g' ha hm hg hle hk => ?_, norel_app h.norel fun op hop => (hu op hop).2.2⟩
  · rcases touch_cases ha with ⟨_, ha'⟩ | ⟨_, op, hop, hx, hxa⟩
    · rcases h.shq i a ha' hs hm with ⟨h1, h2⟩ | ⟨h1, h2⟩
      · exact .inl ⟨h1, fun k => (h2 k).app u⟩
      · exact .inr ⟨h1.app u, fun g e1 e2 => (h2 g e1 e2).app u⟩
    · rcases (hu op hop).2.1 a hxa with ⟨_, hk, hk'⟩ | ⟨⟨p, _, ho⟩ | ⟨hr, _⟩, _⟩
      · exact .inl ⟨hk, fun k => absurd k hk'⟩
      · exact absurd hs (A.ownSh p _ ho)
      · exact absurd hs (A.rdSh _ hr)
  · rcases (hu op hop).2.1 b hb with ⟨hs, _⟩ | ⟨⟨p', hp', ho⟩ | ⟨hr, _⟩, _⟩
    · exact absurd (eq ▸ hs) (A.ownSh p l hl)
    · have := A.own p p' l hl (eq ▸ ho); subst this
      rw [hp] at hp'; cases hp'; exact (hu op hop).1
    · exact absurd (eq ▸ hr) (A.ownRd p l hl)
  · rcases (hu op hop).2.1 b hb with ⟨hs, _⟩ | ⟨⟨p', hp', ho⟩ | ⟨hr, _⟩, _⟩
    · exact absurd (eq ▸ hs) (A.ownSh p l hl)
    · have := A.own p p' l hl (eq ▸ ho); subst this
      rw [hp] at hp'; cases hp'
    · exact absurd (eq ▸ hr) (A.ownRd p l hl)
  · rcases (hu op hop).2.1 b hb with ⟨hs, _⟩ | ⟨⟨p', hp', ho⟩ | ⟨hr, _⟩, _⟩
    · exact absurd (eq ▸ hs) (A.ownSh p l hl)
    · have := A.own p p' l hl (eq ▸ ho); subst this
      rw [hp] at hp'; cases hp'
    · exact absurd (eq ▸ hr) (A.ownRd p l hl)
  · rcases (hu op hop).2.1 b hb with ⟨hs, _⟩ | ⟨⟨p', _, ho⟩ | ⟨_, hr⟩, _⟩
    · exact absurd (eq ▸ hs) (A.rdSh l hl)
    · exact absurd hl (A.ownRd p' l (eq ▸ ho))
    · rw [hr] at hw; cases hw
  · rcases (hu op hop).2.1 b hb with ⟨hs', _⟩ | ⟨⟨p', _, ho'⟩ | ⟨_, hr⟩, _⟩
    · exact absurd (eq ▸ hs') hs
    · exact absurd (eq ▸ ho') (ho p')
    · rw [hr] at hw; cases hw
  · refine noRace_append (h.nr said) (fun op hop => (hu op hop).1) (fun i a ha op hop b hb hc => ?_)
    have hma : b.loc.isMemory = true := hc.1 ▸ hc.2.1
    rcases (hu op hop).2.1 b hb with ⟨hs, hk, hk'⟩ | ⟨⟨p, hp, ho⟩ | ⟨hr, hw⟩, _⟩
    · rcases h.shq i a ha (hc.1 ▸ hs) hc.2.1 with ⟨h1, _⟩ | ⟨_, h1⟩
      · rcases hc.2.2.2 with x | x | ⟨_, _, x⟩
        · exact absurd x h1
        · exact absurd x hk
        · exact absurd x hk'
      · exact h1 g g1 g2
    · exact h.own p g hp b.loc hma ho i a ha hc.1
    · exact h.rd g g1 g2 b.loc hma hr i a ha hc.1 (hc.2.2.1.resolve_right (by simp [hw]))
  · rcases getElem?_append_cases hi with ⟨_, hi'⟩ | ⟨_, hiu⟩
    · exact h.gs i op hi'
    · rw [(hu op hiu).1]; exact g2
  · rcases touch_cases ha with ⟨hi, ha'⟩ | ⟨_, op, hop, hx, hxa⟩
    · exact (h.elder i a g' ha' hm (by rw [← g?_old (u := u) hi]; exact hg) hlt).imp (·.app u) id
    · rw [g_of hx, (hu op hop).1] at hg; cases hg; omega
  · rcases touch_cases ha with ⟨hi, ha'⟩ | ⟨_, op, hop, hx, hxa⟩
    · exact h.late i a g' ha' hm (by rw [← g?_old (u := u) hi]; exact hg) hle hk
    · rcases (hu op hop).2.1 a hxa with ⟨hs, _⟩ | ⟨_, hna⟩
      · exact hs
      · exact absurd hk hna

/-- Operations that touch nothing, whoever's they are. -/
theorem CTr.appN (h : CTr L e j asg t) (hu : ∀ op ∈ u, op.act.touch? = none ∧ op.g < e + j ∧ ∀ a, op.act ≠ .mark (.release a)) : CTr L e j asg (t ++ u) := by
  have old : ∀ {i : Nat} {a : Touch}, touchAt (t ++ u) i = some a → i < t.size ∧ touchAt t i = some a := by
    intro i a ha
    rcases touch_cases ha with h' | ⟨_, op, hop, _, hxa⟩
    · exact h'
    · rw [(hu op hop).1] at hxa; cases hxa
  have pm : ∀ {g : Nat} {l : Loc}, Perm t g l → Perm (t ++ u) g l := fun hp => hp.app fun op hop b hb _ => by rw [(hu op hop).1] at hb; cases hb
  have pw : ∀ {g : Nat} {l : Loc}, PermW t g l → PermW (t ++ u) g l := fun hp => PermW.app' hp fun op hop b hb _ _ => by rw [(hu op hop).1] at hb; cases hb
  refine ⟨fun i a ha hs hm => ?_, fun p g hp l hm hl => pm (h.own p g hp l hm hl), fun p hp l hm hl => ⟨pm (h.unown p hp l hm hl).1, fun g h1 h2 => pm ((h.unown p hp l hm hl).2 g h1 h2)⟩, fun g h1 h2 l hm hl => pw (h.rd g h1 h2 l hm hl),
    fun l hm hs hn ho => pw (h.mine l hm hs hn ho), fun said => ?_, fun i op hi => ?_, fun i a g ha hm hg hlt => ?_, over_app h.over fun op hop _ _ => (hu op hop).1, fun i a g ha hm hg hle hk => ?_, norel_app h.norel fun op hop => (hu op hop).2.2⟩
  · rcases h.shq i a (old ha).2 hs hm with ⟨h1, h2⟩ | ⟨h1, h2⟩
    · exact .inl ⟨h1, fun k => (h2 k).app u⟩
    · exact .inr ⟨h1.app u, fun g e1 e2 => (h2 g e1 e2).app u⟩
  · rintro ⟨i, k, hik, ⟨a, b, ha, hb, hc⟩, n1, n2⟩
    have ha' := old (show touchAt (t ++ u) i = some a from ha)
    have hb' := old (show touchAt (t ++ u) k = some b from hb)
    exact h.nr said ⟨i, k, hik, ⟨a, b, ha'.2, hb'.2, hc⟩, fun x => n1 (hb_app u x), fun x => n2 (hb_app u x)⟩
  · rcases getElem?_append_cases hi with ⟨_, hi'⟩ | ⟨_, hiu⟩
    · exact h.gs i op hi'
    · exact (hu op hiu).2.1
  · exact (h.elder i a g (old ha).2 hm (by rw [← g?_old (u := u) (old ha).1]; exact hg) hlt).imp (·.app u) id
  · exact h.late i a g (old ha).2 hm (by rw [← g?_old (u := u) (old ha).1]; exact hg) hle hk

/-- A place is handed to worker g. -/
theorem CTr.hand (h : CTr L e j asg t) {p g : Nat} (g1 : e ≤ g) (g2 : g < e + j) (hp : asg p = none) : CTr L e j (fun q => if q = p then some g else asg q) t := by
  refine ⟨h.shq, fun q g' hq l hm hl => ?_, fun q hq l hm hl => ?_, h.rd, h.mine, h.nr, h.gs, h.elder, h.over, h.late, h.norel⟩
  · by_cases e1 : q = p
    · subst e1; rw [if_pos rfl] at hq; cases hq; exact (h.unown q hp l hm hl).2 g g1 g2
    · rw [if_neg e1] at hq; exact h.own q g' hq l hm hl
  · by_cases e1 : q = p
    · subst e1; rw [if_pos rfl] at hq; cases hq
    · rw [if_neg e1] at hq; exact h.unown q hq l hm hl

/-- Another worker is started. -/
theorem CTr.fork (A : L.Apart) (h : CTr L e j asg t) {x y : MemOp} (hx : x.g = 0 ∧ x.act = .go (e + j)) (hy : y.g = e + j ∧ y.act = .start) (h0 : Deaf t 0 = 0) : CTr L e (j + 1) asg (t ++ #[x, y]) := by
  have hk : Deaf t (e + j) = 0 := Deaf_absent fun i op hi eq => by have := h.gs i op hi; omega
  have fk : ∀ {i : Nat}, Knows t 0 i → Knows (t ++ #[x, y]) (e + j) i := fun hi => fork_knows hx hy h0 hk hi
  have hnt : ∀ op ∈ #[x, y], op.act.touch? = none := by
    intro op hop
    simp only [List.mem_toArray, List.mem_cons, List.not_mem_nil, or_false] at hop
    rcases hop with rfl | rfl
    · rw [hx.2]; rfl
    · rw [hy.2]; rfl
  have old : ∀ {i : Nat} {a : Touch}, touchAt (t ++ #[x, y]) i = some a → i < t.size ∧ touchAt t i = some a := by
    intro i a ha
    rcases touch_cases ha with h' | ⟨_, op, hop, _, hxa⟩
    · exact h'
    · rw [hnt op hop] at hxa; cases hxa
  have pm : ∀ {g : Nat} {l : Loc}, Perm t g l → Perm (t ++ #[x, y]) g l := fun hp => hp.app fun op hop b hb _ => by rw [hnt op hop] at hb; cases hb
  have pw : ∀ {g : Nat} {l : Loc}, PermW t g l → PermW (t ++ #[x, y]) g l := fun hp => PermW.app' hp fun op hop b hb _ _ => by rw [hnt op hop] at hb; cases hb
  refine ⟨fun i a ha hs hm => ?_, fun p g hp l hm hl => pm (h.own p g hp l hm hl), fun p hp l hm hl => ⟨pm (h.unown p hp l hm hl).1, fun g h1 h2 => ?_⟩, fun g h1 h2 l hm hl => ?_, fun l hm hs hn ho => pw (h.mine l hm hs hn ho), fun said => ?_, fun i op hi => ?_,
    fun i a g ha hm hg hlt => (h.elder i a g (old ha).2 hm (by rw [← g?_old (u := #[x, y]) (old ha).1]; exact hg) hlt).imp (·.app _) id, over_app h.over fun op hop _ _ => hnt op hop, fun i a g ha hm hg hle hkk => h.late i a g (old ha).2 hm (by rw [← g?_old (u := #[x, y]) (old ha).1]; exact hg) hle hkk, norel_app h.norel fun op hop a => ?_⟩
  · rcases h.shq i a (old ha).2 hs hm with ⟨h1, h2⟩ | ⟨h1, h2⟩
    · exact .inl ⟨h1, fun k => (h2 k).app _⟩
    · refine .inr ⟨h1.app _, fun g e1 e2 => ?_⟩
      rcases Nat.lt_or_ge g (e + j) with hlt | hge
      · exact (h2 g e1 hlt).app _
      · obtain rfl : g = e + j := by omega
        exact fk h1
  · rcases Nat.lt_or_ge g (e + j) with hlt | hge
    · exact pm ((h.unown p hp l hm hl).2 g h1 hlt)
    · obtain rfl : g = e + j := by omega
      exact fun i a ha eq => fk ((h.unown p hp l hm hl).1 i a (old ha).2 eq)
  · rcases Nat.lt_or_ge g (e + j) with hlt | hge
    · exact pw (h.rd g h1 hlt l hm hl)
    · obtain rfl : g = e + j := by omega
      exact fun i a ha eq hw => fk (h.mine l hm (A.rdSh l hl) (A.rdShun l hl) (fun p ho => A.ownRd p l ho hl) i a (old ha).2 eq hw)
  · rintro ⟨i, k, hik, ⟨a, b, ha, hb, hc⟩, n1, n2⟩
    have ha' := old (show touchAt (t ++ #[x, y]) i = some a from ha)
    have hb' := old (show touchAt (t ++ #[x, y]) k = some b from hb)
    exact h.nr said ⟨i, k, hik, ⟨a, b, ha'.2, hb'.2, hc⟩, fun z => n1 (hb_app _ z), fun z => n2 (hb_app _ z)⟩
  · rcases getElem?_append_cases hi with ⟨_, hi'⟩ | ⟨_, hiu⟩
    · have := h.gs i op hi'; omega
    · simp only [List.mem_toArray, List.mem_cons, List.not_mem_nil, or_false] at hiu
      rcases hiu with rfl | rfl
      · rw [hx.1]; omega
      · rw [hy.1]; omega
  · simp only [List.mem_toArray, List.mem_cons, List.not_mem_nil, or_false] at hop
    rcases hop with rfl | rfl
    · rw [hx.2]; simp
    · rw [hy.2]; simp
end

/-! ### between two phases -/
/-- What is held of the trace where all but the starter only leave. -/
structure Calm (Shun : Loc → Prop) (t : Trace) : Prop where
  clean : ∀ said, ¬ Race said t
  known : ∀ i a, touchAt t i = some a → a.loc.isMemory = true → Knows t 0 i ∨ (Shun a.loc ∧ a.kind = .atomic)
  over : t.HandedOver
  hears : Deaf t 0 = 0
  norel : ∀ i a, t.act? i ≠ some (.mark (.release a))

/-- All named blocks lie below some number. -/
theorem low_some : ∀ t : Trace, ∃ B, ∀ op ∈ t, op.act.low B := by
  intro t
  obtain ⟨l⟩ := t
  induction l with
  | nil => exact ⟨0, fun op hop => by simp at hop⟩
  | cons x l ih =>
    obtain ⟨B, hB⟩ := ih
    have one : ∃ B', x.act.low B' := by
      rcases x.act with ⟨⟨⟨⟩ | ⟨⟩ | _ | _ | _, _, _⟩⟩ | _ | _ | _ | _ | _ | _ | _ | _ | m
      case mark => cases m <;> first | exact ⟨0, trivial⟩ | exact ⟨_, Nat.lt_succ_self _⟩
      all_goals first | exact ⟨0, trivial⟩ | exact ⟨_, Nat.lt_succ_self _⟩
    obtain ⟨B', hB'⟩ := one
    refine ⟨max B B', fun op hop => ?_⟩
    simp at hop
    rcases hop with rfl | hop
    · exact MemAct.low_mono (Nat.le_max_right _ _) hB'
    · exact MemAct.low_mono (Nat.le_max_left _ _) (hB op (by simpa using hop))
theorem Calm.past {Shun : Loc → Prop} {t : Trace} (h : Calm Shun t) : ∃ B, Past Shun B t :=
  let ⟨B, hB⟩ := low_some t; ⟨B, h.clean, h.known, h.over, h.hears, hB⟩

section
variable {L : Lands} {e j : Nat} {asg : Nat → Option Nat} {t : Trace}
theorem CTr.begin (A : L.Apart) (h : Calm L.Shun t) (hgs : ∀ (i : Nat) (op : MemOp), t[i]? = some op → op.g < e) (ha : ∀ p, asg p = none) : CTr L e 0 asg t :=
  have kn : ∀ l, ¬ L.Shun l → l.isMemory = true → Perm t 0 l := fun l hn hm i a hi el => (h.known i a hi (el ▸ hm)).resolve_right fun x => hn (el ▸ x.1)
  ⟨fun i a hi hs hm => .inr ⟨kn a.loc (A.shShun _ hs) hm i a hi rfl, fun g h1 h2 => (by omega)⟩, fun p g hp => (by rw [ha p] at hp; cases hp), fun p _ l hm hl => ⟨kn l (A.ownShun p l hl) hm, fun g h1 h2 => (by omega)⟩, fun g h1 h2 => (by omega),
   fun l hm _ hn _ => .of (kn l hn hm), h.clean, fun i op hi => (by have := hgs i op hi; omega), fun i a g hi hm _ _ => h.known i a hi hm, fun i g hg hne _ hc => h.over i g hg hne hc,
   fun i a g hi hm hg hle _ => (by
    unfold Trace.g? at hg
    obtain ⟨op, ho, rfl⟩ := Option.map_eq_some_iff.1 hg
    have := hgs i op ho; omega), h.norel⟩

/-- When every worker has said its release, heard, and the starter its acquire behind it: all is known to the starter but the group's own cells, atomically touched. -/
theorem CTr.calm {s : Addr} (h : CTr L e j asg t) (hd : Deaf t 0 = 0) {q : Nat} (hq : t.act? q = some (.mark (.acquire s))) (hg : t.g? q = some 0) (hh : t.heard q)
    (all : ∀ g, e ≤ g → g < e + j → ∃ r, RelBy s t g r ∧ r < q) : Calm (fun l => L.Shun l ∨ L.Sh l) t := by
  obtain ⟨z, hz, hzg⟩ := Option.map_eq_some_iff.1 hg
  have toq : ∀ i g, t.g? i = some g → e ≤ g → g < e + j → t.counts i → HappensBefore t i q := by
    intro i g hgi h1 h2 hc
    obtain ⟨r, hr, hrq⟩ := all g h1 h2
    have edge : HappensBefore t r q := .single (.inr ⟨.marked hrq (.inr hr.act) hq (fun k _ _ => h.norel k s), hr.heard, hh⟩)
    have hle : i ≤ r := Nat.le_of_not_lt fun hlt => hr.after i hlt hgi hc
    rcases Nat.lt_or_ge i r with hlt | hge
    · exact .trans (.single (.inl ⟨hlt, g, hgi, hr.g⟩)) edge
    · obtain rfl : i = r := by omega
      exact edge
  refine ⟨h.nr, fun i a ha hm => ?_, fun i g hgi hne hc => ?_, hd, h.norel⟩
  · obtain ⟨op, hop, hoa⟩ := touch_of ha
    have hgi := g_of hop
    rcases Nat.lt_or_ge op.g e with hlt | hge
    · exact (h.elder i a op.g ha hm hgi hlt).imp id fun x => ⟨.inl x.1, x.2⟩
    · by_cases hk : a.kind = .atomic
      · exact .inr ⟨.inr (h.late i a op.g ha hm hgi hge hk), hk⟩
      · have := toq i op.g hgi hge (h.gs i op hop) ⟨a, ha, hm, .inl hk⟩
        exact .inl ⟨q, z, hz, hzg, .inr this⟩
  · rcases Nat.lt_or_ge g e with hlt | hge
    · exact h.over i g hgi hne hlt hc
    · obtain ⟨op, ho, rfl⟩ := Option.map_eq_some_iff.1 hgi
      exact ⟨q, hg, toq i op.g hgi hge (h.gs i op ho) hc⟩
end
end Go.Proofs.Ytbckmkppmdfnnaa.Crew
