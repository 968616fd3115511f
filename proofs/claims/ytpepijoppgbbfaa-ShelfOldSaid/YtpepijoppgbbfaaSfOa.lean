/- shelf: rows of shelves and of lists, side by side, that grow. -/
import Derived.Test.YtpepijoppgbbfaaSfL2
namespace Go.Proofs.Ytpepijoppgbbfaa.Shf
open Go.RowKit Go.Shelf Go.Proofs.Ytpepijoppgbbfaa.Gr

/-- append of things that a slice reads as, onto a row of one's own: nothing but the row itself has turned. -/
theorem wpList_append_grow {P : Program} {α : Type} {K : Kind P α} {w : World} {v : Value} {L : List α} {ops : Array Oper} {rest : List Oper} {o : Oper} {a : Act} {Q : Exit → Act → World → Prop} (hgd : o.guard = none) (s x : Operand) (t : TypeId)
    (ho : o.op = .call { callee := .builtin .append, args := #[s, x], argTypes := #[t, t] }) (ht : P.underlying t = some (.slice K.T))
    (B : Nat) (hs : a.eval s = v) (hown : K.Own B v L w) (u : Value) (M : List α) (hx : a.eval x = u) (hat : K.At w u M) (h0 : 0 < M.length) (m : Nat) (hm : L.length + M.length = m)
    (hn : (L.length + M.length) * (K.bytes + 1) ≤ 1099511627776) (hB : B ≤ w.heap.size)
    (h : ∀ g cap w', K.Own B (.slice (some ⟨g, 0, none⟩) m cap) (L ++ M) w' → w.grownBy w' v.ownBlock → (v.ownBlock = some g ∨ g = w.heap.size) → g < w'.heap.size → wpList P ops Q rest (a.put o.dst (.slice (some ⟨g, 0, none⟩) m cap)) w') : wpList P ops Q (o :: rest) a w := by
  subst hm
  obtain ⟨ie, hie, hq⟩ := Option.map_eq_some_iff.1 K.info
  simp only [Prod.mk.injEq] at hq
  obtain ⟨hz, hsz, hby⟩ := hq
  have hm1 : L.length + M.length ≤ (L.length + M.length) * (K.bytes + 1) := Nat.le_mul_of_pos_right _ (by omega)
  have hm2 : (L.length + M.length) * K.bytes ≤ (L.length + M.length) * (K.bytes + 1) := Nat.mul_le_mul_left _ (by omega)
  obtain ⟨g1, o1, cap, rfl, _, hr⟩ := hat.some h0
  refine wpList_append_lies w hgd s x t ho B K.T ie K.zero K.size K.bytes ht hie hz hsz hby K.zsize K.pos v L.length (K.flat L) hs hown ⟨g1, o1, none⟩ M.length cap (K.flat M) hx (K.flat_len M) (fun j u hj => ?_) (K.flat_one M) (by omega) (by unfold maxLen; omega) (by omega) hB _ rfl ?_
  · rw [Addr.add_mid]
    exact hr j u hj
  · intro g cap w' hown' hgrow hg hlt
    refine h g cap w' ?_ hgrow hg hlt
    unfold Kind.Own
    rw [K.flat_append, List.length_append]
    exact hown'

/-- Shelves, by their roots. -/
def KH : Kind Try.prog (Option Addr) where
  T := 24
  size := 1
  bytes := 8
  zero := .agg #[.pointer none]
  enc x := [.pointer x]
  info := by kernel_rfl
  zsize := rfl
  pos := by decide
  len _ := rfl
  one x u hu := by
    simp at hu
    subst hu
    rfl
/-- A slice's parts. -/
abbrev Sl := Option Addr × Nat × Nat
def sl (s : Sl) : Value := .slice s.1 s.2.1 s.2.2
/-- Lists. -/
def KL : Kind Try.prog Sl where
  T := 37
  size := 1
  bytes := 24
  zero := .slice none 0 0
  enc x := [sl x]
  info := by kernel_rfl
  zsize := rfl
  pos := by decide
  len _ := rfl
  one x u hu := by
    simp at hu
    subst hu
    rfl

/-- A shelf that there was, and its list. -/
structure Ent where
  p : Option Addr
  s : Sl
  l : List Th
instance : Inhabited Ent := ⟨⟨none, (none, 0, 0), []⟩⟩
/-- What is so of one of them, where two blocks grow. -/
structure EntAt (av lv : Value) (m : Nat) (W : World) (e : Ent) : Prop where
  shelf : ShelfAt W.heap.size W #[.pointer e.p] e.l
  few : e.l.length ≤ m
  list : KT.At W (sl e.s) e.l
  far : e.l ≠ [] → ∀ k, (sl e.s).ownBlock = some k → av.ownBlock ≠ some k ∧ lv.ownBlock ≠ some k
structure OldI (w : World) (m : Nat) (av lv : Value) (A : List (Option Addr)) (V : List Sl) (E : List Ent) (W : World) : Prop where
  ownA : KH.Own w.heap.size av A W
  ownL : KL.Own w.heap.size lv V W
  apart : ∀ j, av.ownBlock = some j → lv.ownBlock ≠ some j
  each : ∀ e ∈ E, EntAt av lv m W e
  below : Below w.heap.size w W

theorem IsTr.keptN {n₀ : Nat} {A B : World} (h : ∀ k, k < n₀ → ∀ cs fr, A.heap[k]? = some (.cells cs 59 fr) → B.heap[k]? = some (.cells cs 59 fr)) : ∀ {p : Option Addr} {T : Tr}, IsTr n₀ A p T → IsTr n₀ B p T
  | _, .leaf, ht => ht
  | _, .node _ _ _ _, ⟨g, pl, pr, hp, hg, hc, hl, hr⟩ => ⟨g, pl, pr, hp, hg, h g hg _ _ hc, IsTr.keptN h hl, IsTr.keptN h hr⟩
theorem ShelfAt.keptN {n₀ n₁ : Nat} {A B : World} {S : Array Value} {l : List Th} (hs : ShelfAt n₀ A S l) (hn : n₀ ≤ n₁) (h : ∀ k, k < n₀ → ∀ cs fr, A.heap[k]? = some (.cells cs 59 fr) → B.heap[k]? = some (.cells cs 59 fr)) : ShelfAt n₁ B S l := by
  obtain ⟨p, T, hS, hT, hl, hso⟩ := hs
  exact ⟨p, T, hS, (hT.keptN h).mono hn, hl, hso⟩
theorem EntAt.kept {av lv : Value} {m : Nat} {W W' : World} {e : Ent} (h : EntAt av lv m W e) (hb : Below W.heap.size W W') : EntAt av lv m W' e :=
  ⟨h.shelf.below hb hb.size, h.few, h.list.kept hb, h.far⟩
theorem OldI.kept {w : World} {m : Nat} {av lv : Value} {A : List (Option Addr)} {V : List Sl} {E : List Ent} {W W' : World} (h : OldI w m av lv A V E W) (hb : Below W.heap.size W W') : OldI w m av lv A V E W' :=
  ⟨h.ownA.kept hb, h.ownL.kept hb, h.apart, fun e he => (h.each e he).kept hb, h.below.trans (hb.mono h.below.size)⟩
theorem OldI.mono {w : World} {m n : Nat} {av lv : Value} {A : List (Option Addr)} {V : List Sl} {E : List Ent} {W : World} (h : OldI w m av lv A V E W) (hm : m ≤ n) : OldI w n av lv A V E W :=
  ⟨h.ownA, h.ownL, h.apart, fun e he => ⟨(h.each e he).shelf, Nat.le_trans (h.each e he).few hm, (h.each e he).list, (h.each e he).far⟩, h.below⟩
theorem OldI.add {w : World} {m : Nat} {av lv : Value} {A : List (Option Addr)} {V : List Sl} {E : List Ent} {W : World} (h : OldI w m av lv A V E W) {e : Ent} (he : EntAt av lv m W e) : OldI w m av lv A V (E ++ [e]) W :=
  ⟨h.ownA, h.ownL, h.apart, fun x hx => (List.mem_append.1 hx).elim (h.each x) (fun hx => by rw [List.mem_singleton.1 hx]; exact he), h.below⟩

/-- A list lies on where another row grows. -/
theorem at_grow {α : Type} {P : Program} {K : Kind P α} {w w' : World} {v : Value} {L : List α} {row : Option Nat} (h : K.At w v L) (hg : w.grownBy w' row) (hf : L ≠ [] → ∀ k, v.ownBlock = some k → row ≠ some k) : K.At w' v L := by
  rcases h with h | ⟨k, o, cap, rfl, h0, hc, hr⟩
  · exact Or.inl h
  · have hk := hf (fun e => by rw [e] at h0; simp at h0) k rfl
    refine Or.inr ⟨k, o, cap, rfl, h0, hc, fun j u hj => ?_⟩
    have hcell := hr j u hj
    have hlt := World.block_lt_of_cell? _ _ hcell
    rw [← hcell]
    exact World.cell?_of_block (hg.block k hlt fun e => hk e.symm)
theorem at_lt {α : Type} {P : Program} {K : Kind P α} {w : World} {v : Value} {L : List α} (h : K.At w v L) (h0 : L ≠ []) (k : Nat) (hk : v.ownBlock = some k) : k < w.heap.size := by
  rcases h with ⟨_, _, _, he⟩ | ⟨g, o, cap, rfl, hl, hc, hr⟩
  · exact absurd he h0
  · have hkg : g = k := by simpa [Value.ownBlock] using hk
    subst hkg
    have hp : 0 < (K.flat L).length := by rw [K.flat_len]; exact Nat.mul_pos hl K.pos
    have hcell := hr 0 _ (List.getElem?_eq_getElem hp)
    exact World.block_lt_of_cell? _ _ hcell
theorem own_lt {α : Type} {P : Program} {K : Kind P α} {B : Nat} {w : World} {v : Value} {L : List α} (h : K.Own B v L w) (k : Nat) (hk : v.ownBlock = some k) : k < w.heap.size := (World.ownsRow.lt h k hk).2
theorem own_type {α : Type} {P : Program} {K : Kind P α} {B : Nat} {w : World} {v : Value} {L : List α} (h : K.Own B v L w) (k : Nat) (hk : v.ownBlock = some k) : ∃ cs fr, w.heap[k]? = some (.cells cs K.T fr) := by
  rcases h.2 with ⟨hv, _⟩ | ⟨g, cap, cur, hv, _, hg, _⟩
  · rw [hv] at hk
    simp [Value.ownBlock] at hk
  · rw [hv] at hk
    have hkg : g = k := by simpa [Value.ownBlock] using hk
    subst hkg
    exact ⟨_, _, hg⟩
/-- A shelf lies on where a row of another type grows. -/
theorem shelf_grow {w w' : World} {S : Array Value} {l : List Th} {row : Option Nat} (h : ShelfAt w.heap.size w S l) (hg : w.grownBy w' row) (ht : ∀ k, row = some k → ∃ cs t fr, w.heap[k]? = some (.cells cs t fr) ∧ t ≠ 59) : ShelfAt w'.heap.size w' S l :=
  h.keptN hg.size fun k hk cs fr hc => by
    rw [hg.block k hk fun e => ?_]
    · exact hc
    · obtain ⟨cs', t, fr', hc', hne⟩ := ht k e.symm
      rw [hc] at hc'
      simp at hc'
      exact hne hc'.2.1.symm

/-- The row of shelves has grown. -/
theorem OldI.growA {w : World} {m : Nat} {av lv : Value} {A : List (Option Addr)} {V : List Sl} {E : List Ent} {W W' : World} (h : OldI w m av lv A V E W) {g cap n : Nat} {A' : List (Option Addr)} (ho : KH.Own w.heap.size (.slice (some ⟨g, 0, none⟩) n cap) A' W')
    (hg : W.grownBy W' av.ownBlock) (hgg : av.ownBlock = some g ∨ g = W.heap.size) : OldI w m (.slice (some ⟨g, 0, none⟩) n cap) lv A' V E W' := by
  have hL : lv.ownBlock = none ∨ lv.ownBlock ≠ av.ownBlock := by
    cases hl : lv.ownBlock with
    | none => exact Or.inl rfl
    | some k =>
      refine Or.inr fun e => ?_
      exact h.apart k e.symm hl
  have hnew : ∀ k, k < W.heap.size → (av.ownBlock ≠ some k) → (Value.slice (some ⟨g, 0, none⟩) n cap).ownBlock ≠ some k := fun k hk hne e => by
    have e2 : g = k := by simpa [Value.ownBlock] using e
    subst e2
    rcases hgg with h1 | h1
    · exact hne h1
    · omega
  refine ⟨ho, World.ownsRow.kept h.ownL hg hL, fun j hj hl => ?_, fun e he => ?_, h.below.grown hg h.below.size h.ownA.base⟩
  · have hlt := own_lt h.ownL j hl
    exact hnew j hlt (fun e => h.apart j e hl) hj
  · have k := h.each e he
    refine ⟨shelf_grow k.shelf hg fun j hj => ?_, k.few, at_grow k.list hg fun h0 j hj e2 => (k.far h0 j hj).1 e2, fun h0 j hj => ⟨hnew j (at_lt k.list h0 j hj) (k.far h0 j hj).1, (k.far h0 j hj).2⟩⟩
    obtain ⟨cs, fr, hc⟩ := own_type h.ownA j hj
    exact ⟨cs, _, fr, hc, by decide⟩
/-- The row of lists has grown. -/
theorem OldI.growL {w : World} {m : Nat} {av lv : Value} {A : List (Option Addr)} {V : List Sl} {E : List Ent} {W W' : World} (h : OldI w m av lv A V E W) {g cap n : Nat} {V' : List Sl} (ho : KL.Own w.heap.size (.slice (some ⟨g, 0, none⟩) n cap) V' W')
    (hg : W.grownBy W' lv.ownBlock) (hgg : lv.ownBlock = some g ∨ g = W.heap.size) : OldI w m av (.slice (some ⟨g, 0, none⟩) n cap) A V' E W' := by
  have hA : av.ownBlock = none ∨ av.ownBlock ≠ lv.ownBlock := by
    cases hl : av.ownBlock with
    | none => exact Or.inl rfl
    | some k =>
      refine Or.inr fun e => ?_
      exact h.apart k hl e.symm
  have hnew : ∀ k, k < W.heap.size → (lv.ownBlock ≠ some k) → (Value.slice (some ⟨g, 0, none⟩) n cap).ownBlock ≠ some k := fun k hk hne e => by
    have e2 : g = k := by simpa [Value.ownBlock] using e
    subst e2
    rcases hgg with h1 | h1
    · exact hne h1
    · omega
  refine ⟨World.ownsRow.kept h.ownA hg hA, ho, fun j hj hl => ?_, fun e he => ?_, h.below.grown hg h.below.size h.ownL.base⟩
  · have hlt := own_lt h.ownA j hj
    exact hnew j hlt (fun e => h.apart j hj e) hl
  · have k := h.each e he
    refine ⟨shelf_grow k.shelf hg fun j hj => ?_, k.few, at_grow k.list hg fun h0 j hj e2 => (k.far h0 j hj).2 e2, fun h0 j hj => ⟨(k.far h0 j hj).1, hnew j (at_lt k.list h0 j hj) (k.far h0 j hj).2⟩⟩
    obtain ⟨cs, fr, hc⟩ := own_type h.ownL j hj
    exact ⟨cs, _, fr, hc, by decide⟩
/-- The row of shelves, read. -/
theorem OldI.readA {w : World} {m : Nat} {lv : Value} {g n cap : Nat} {A : List (Option Addr)} {V : List Sl} {E : List Ent} {W : World} (h : OldI w m (.slice (some ⟨g, 0, none⟩) n cap) lv A V E W) {i : Nat} {p : Option Addr} (hi : A[i]? = some p) : W.rangeAt g i [.pointer p] := by
  have hlt := (List.getElem?_eq_some_iff.1 hi).1
  obtain ⟨g1, o1, c1, hv, _, hr⟩ := h.ownA.reads.some (by omega)
  have hc := range_thing hr hi (j := 0) (u := .pointer p) rfl
  rw [show i * KH.size + 0 = i from Nat.mul_one i] at hc
  injection hv with h1 _ _
  injection h1 with h1
  injection h1 with h2 h3
  subst h2 h3
  rw [Nat.zero_add] at hc
  intro j u hj
  match j, hj with
  | 0, hj => simp at hj; subst hj; exact hc
  | j + 1, hj => simp at hj
/-- The row of lists, read. -/
theorem OldI.readL {w : World} {m : Nat} {av : Value} {g n cap : Nat} {A : List (Option Addr)} {V : List Sl} {E : List Ent} {W : World} (h : OldI w m av (.slice (some ⟨g, 0, none⟩) n cap) A V E W) {i : Nat} {s : Sl} (hi : V[i]? = some s) : W.cell? ⟨g, i, none⟩ = some (sl s) := by
  have hlt := (List.getElem?_eq_some_iff.1 hi).1
  obtain ⟨g1, o1, c1, hv, _, hr⟩ := h.ownL.reads.some (by omega)
  have hc := range_thing hr hi (j := 0) (u := sl s) rfl
  rw [show i * KL.size + 0 = i from Nat.mul_one i] at hc
  injection hv with h1 _ _
  injection h1 with h1
  injection h1 with h2 h3
  subst h2 h3
  rw [Nat.zero_add] at hc
  exact hc
/-- Another block's row is stored: the list is what it was. -/
theorem at_far {α : Type} {P : Program} {K : Kind P α} {w : World} {v : Value} {L : List α} {g : Nat} {C : Array Value} (h : K.At w v L) (hg : L ≠ [] → ∀ j, v.ownBlock = some j → j ≠ g) : K.At (w.setRow g C) v L := by
  rcases h with h | ⟨k, o, cap, rfl, h0, hc, hr⟩
  · exact Or.inl h
  · have hk : k ≠ g := hg (fun e => by rw [e] at h0; simp at h0) k rfl
    refine Or.inr ⟨k, o, cap, rfl, h0, hc, fun j u hj => ?_⟩
    have := hr j u hj
    rw [← this]
    exact World.cell?_of_block (setRow_other _ _ _ _ hk)

/-- What an operation leaves. -/
inductive FactO where
  | val (v : Value)
  | fresh (lo : Nat) (c : Array Value) (t : TypeId)
  | shp (l : List Th)
  | list (bad : List Nat) (l : List Th)
def FactO.holds : FactO → Value → World → Prop
  | .val v0, v, _ => v = v0
  | .fresh lo c t, v, w => ∃ g, v = .pointer (some ⟨g, 0, none⟩) ∧ lo ≤ g ∧ w.heap[g]? = some (.cells c t (0, 0))
  | .shp l, v, w => ∃ p, v = .agg #[.pointer p] ∧ ShelfAt w.heap.size w #[.pointer p] l
  | .list bad l, v, w => KT.At w v l ∧ (l ≠ [] → ∀ j, v.ownBlock = some j → j ∉ bad)
theorem FactO.kept (f : FactO) (v : Value) (w w' : World) (h : f.holds v w) (hb : Below w.heap.size w w') : f.holds v w' := by
  cases f with
  | val v0 => exact h
  | fresh lo c t =>
    obtain ⟨g, hv, hl, hr⟩ := h
    exact ⟨g, hv, hl, (hb.block g ((Array.getElem?_eq_some_iff.1 hr).1)).trans hr⟩
  | shp l =>
    obtain ⟨p, hv, hS⟩ := h
    exact ⟨p, hv, hS.below hb hb.size⟩
  | list bad l => exact ⟨h.1.kept hb, h.2⟩
theorem wp_runTo {P : Program} {o : Oper} {a : Act} {w : World} {K : Act → World → Prop} {Q : Exit → Act → World → Prop} (v : Value) (w' : World) (h : (execOp a.eval o).run P w = .ok (.value v) w') (hk : K (a.put o.dst v) w') : o.wp P a w K Q := by
  unfold Oper.wp
  rw [h]
  exact hk
theorem code_PutO (p : Option Addr) (l : List Th) (k : ByteArray) (z : Nat) (w : World) (hS : ShelfAt w.heap.size w #[.pointer p] l) (hl : l.length ≤ 10000000000) :
    Calls Try.prog 9 #[.agg #[.pointer p], .string k, .int .u64 z] w fun e w' => ∃ v, e = .returned v ∧ (FactO.shp (putL l k z)).holds v w' ∧ Below w.heap.size w w' :=
  (code_PutS _ l k z w hS hl).mono fun _ _ ⟨S', he, h1, h2⟩ => by
    obtain ⟨q, T, rfl, hT⟩ := h1
    exact ⟨_, he, ⟨q, rfl, q, T, rfl, hT⟩, h2⟩
theorem code_DropO (p : Option Addr) (l : List Th) (k : ByteArray) (w : World) (hS : ShelfAt w.heap.size w #[.pointer p] l) (hl : l.length ≤ 10000000000) :
    Calls Try.prog 11 #[.agg #[.pointer p], .string k] w fun e w' => ∃ v, e = .returned v ∧ (FactO.shp (dropL l k)).holds v w' ∧ Below w.heap.size w w' :=
  (code_DropS _ l k w hS hl).mono fun _ _ ⟨S', he, h1, h2⟩ => by
    obtain ⟨q, T, rfl, hT⟩ := h1
    exact ⟨_, he, ⟨q, rfl, q, T, rfl, hT⟩, h2⟩
theorem ref_PutO (bad : List Nat) (v : Value) (l : List Th) (k : ByteArray) (z : Nat) (w : World) (hT : KT.At w v l) (hl : l.length ≤ 10000000000) (hb : ∀ g ∈ bad, g < w.heap.size) :
    Calls Try.prog 15 #[v, .string k, .int .u64 z] w fun e w' => ∃ v, e = .returned v ∧ (FactO.list bad (putL l k z)).holds v w' ∧ Below w.heap.size w w' :=
  (ref_PutL v l k z w hT hl).mono fun _ _ ⟨_, he, h1, h2, h3⟩ => ⟨_, he, ⟨h1, fun _ j hj hm => by have := h2 j hj; have := hb j hm; omega⟩, h3⟩
theorem ref_DropO (bad : List Nat) (v : Value) (l : List Th) (k : ByteArray) (w : World) (hT : KT.At w v l) (hl : l.length ≤ 10000000000) (hb : ∀ g ∈ bad, g < w.heap.size) (hv : l ≠ [] → ∀ j, v.ownBlock = some j → j ∉ bad) :
    Calls Try.prog 16 #[v, .string k] w fun e w' => ∃ v, e = .returned v ∧ (FactO.list bad (dropL l k)).holds v w' ∧ Below w.heap.size w w' :=
  (ref_DropL v l k w hT hl).mono fun _ _ ⟨_, he, h1, h2, h3⟩ => ⟨_, he, ⟨h1, fun h0 j hj => (h2 j hj).elim (fun h hm => by have := hb j hm; omega) (hv (fun e => h0 (by rw [e]; rfl)) j)⟩, h3⟩
theorem sl_own (a : Option Addr) (n c : Nat) : (sl (a, n, c)) = .slice a n c := rfl
theorem rem_in (x : Int) (n : Nat) (h0 : 0 < n) (h1 : n ≤ 1000) : ∃ q : Nat, q < n ∧ (wrap64 (x.tmod (n : Int) + (n : Int))).tmod (n : Int) = (q : Int) := by
  have hb1 := Int.tmod_lt_of_pos x (b := (n : Int)) (by omega)
  have hb2 : -(n : Int) < x.tmod (n : Int) := Int.lt_tmod_of_pos x (by omega)
  obtain ⟨r, hr⟩ : ∃ r, x.tmod (n : Int) = r := ⟨_, rfl⟩
  rw [hr] at hb1 hb2 ⊢
  have hw : wrap64 (r + (n : Int)) = r + (n : Int) := by unfold wrap64; omega
  rw [hw]
  have h2 : 0 ≤ (r + (n : Int)).tmod (n : Int) := Int.tmod_nonneg _ (by omega)
  have h3 := Int.tmod_lt_of_pos (r + (n : Int)) (b := (n : Int)) (by omega)
  exact ⟨((r + (n : Int)).tmod (n : Int)).toNat, by omega, by omega⟩

/-- A row that is not empty is in a block of its own. -/
theorem own_some {α : Type} {P : Program} {K : Kind P α} {B : Nat} {w : World} {v : Value} {L : List α} (h : K.Own B v L w) (h0 : 0 < L.length) : ∃ g cap, v = .slice (some ⟨g, 0, none⟩) L.length cap ∧ B ≤ g ∧ g < w.heap.size := by
  rcases h.form with ⟨_, rfl⟩ | ⟨g, cap, hv, hB, hg, _⟩
  · simp at h0
  · exact ⟨g, cap, hv, hB, hg⟩

end Go.Proofs.Ytpepijoppgbbfaa.Shf
