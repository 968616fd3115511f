/- reel: reels of the call's own, whatever code they are. -/
import Derived.Test.YtepcfmigkhacgaaDoorRmA
namespace Go.Proofs.YtepcfmigkhacgaaDoor.Rl
open Go.RowKit Go.Proofs.YtepcfmigkhacgaaDoor.Gr Go.Proofs.YtepcfmigkhacgaaDoor.Frame Go.Proofs.YtepcfmigkhacgaaDoor.Dk

/-- A world in which one's own blocks begin at B. -/
structure Home (B : Nat) (w : World) : Prop where
  tab : Tab w
  pos : 0 < B
  size : B ≤ w.heap.size
theorem Home.of {w : World} (ht : Tab w) : Home w.heap.size w := ⟨ht, World.block_lt_of_cell? w _ (ht 0 (by omega)), Nat.le_refl _⟩
theorem Home.frm {B : Nat} {w w' : World} {F : Nat → Prop} (h : Home B w) (hf : Frm F w w') (hF : ∀ k, F k → B ≤ k) : Home B w' := ⟨Frm.tab hf (fun k hk => by have := hF k hk; have := h.pos; omega) h.tab, h.pos, Nat.le_trans h.size hf.size⟩
theorem Home.below {B : Nat} {w w' : World} (h : Home B w) (hb : Below w.heap.size w w') : Home B w' := h.frm (F := fun _ => False) (Frm.of_below hb) (fun _ h => h.elim)
/-- What one call leaves of blocks: none touched but those, new ones among the new. -/
structure Moved (F : Nat → Prop) (w : World) (F' : Nat → Prop) (w' : World) : Prop where
  frm : Frm F w w'
  foot : ∀ k, F' k → F k ∨ w.heap.size ≤ k
theorem Moved.refl {F : Nat → Prop} {w : World} : Moved F w F w := ⟨Frm.refl _ _, fun _ h => Or.inl h⟩
theorem Moved.trans {F G H : Nat → Prop} {a b c : World} (h : Moved F a G b) (k : Moved G b H c) : Moved F a H c :=
  ⟨h.frm.trans k.frm h.foot, fun i hi => by
    rcases k.foot i hi with h1 | h1
    · exact h.foot i h1
    · have := h.frm.size
      omega⟩
theorem Moved.of_below {F : Nat → Prop} {a b : World} (h : Below a.heap.size a b) : Moved F a F b := ⟨(Frm.of_below h).mono (fun _ h => False.elim h), fun _ h => Or.inl h⟩
theorem Moved.below {F G : Nat → Prop} {a b c : World} (h : Moved F a G b) (hb : Below b.heap.size b c) : Moved F a G c := h.trans (Moved.of_below hb)
theorem Moved.down {F G : Nat → Prop} {a b : World} (h : Moved F a G b) {B : Nat} (hF : ∀ k, F k → B ≤ k) (hB : B ≤ a.heap.size) : Below B a b := h.frm.below hB hF
/-- A reel of the call's own. -/
structure RM (C : Reels) (B n : Nat) (F : Nat → Prop) (w : World) (q g : Nat) (S : St) (all : List Tx) (rs : Nat) : Prop where
  at_ : C.At F w q g S all rs
  good : GoodN n S
  fB : ∀ k, F k → B ≤ k
  home : Home B w
section
variable {C : Reels} {B n : Nat} {F G : Nat → Prop} {w w' : World} {q g : Nat} {S T : St} {all : List Tx} {rs : Nat} {lv : Value}
theorem RM.kept (h : RM C B n F w q g S all rs) (hf : Frm G w w') (hG : ∀ k, F k → ¬ G k) (hB : ∀ k, G k → B ≤ k) : RM C B n F w' q g S all rs := ⟨C.kept h.at_ hf hG, h.good, h.fB, h.home.frm hf hB⟩
theorem RM.below (h : RM C B n F w q g S all rs) (hb : Below w.heap.size w w') : RM C B n F w' q g S all rs := h.kept (G := fun _ => False) (Frm.of_below hb) (fun _ _ h => h) (fun _ h => h.elim)
theorem RM.moved (h : RM C B n F w q g S all rs) {F' : Nat → Prop} {T : St} {all' : List Tx} {rs' m : Nat} (h' : C.At F' w' q g T all' rs') (hm : Moved F w F' w') (hT : GoodN m T) : RM C B m F' w' q g T all' rs' :=
  ⟨h', hT, fun k hk => by
    rcases hm.foot k hk with h1 | h1
    · exact h.fB k h1
    · exact Nat.le_trans h.home.size h1, h.home.frm hm.frm h.fB⟩
theorem RM.mono (h : RM C B n F w q g S all rs) {m : Nat} (hm : n ≤ m) : RM C B m F w q g S all rs := ⟨h.at_, h.good.mono hm, h.fB, h.home⟩
theorem RM.lt (h : RM C B n F w q g S all rs) (k : Nat) (hk : F k) : k < w.heap.size := C.lt h.at_ k hk
/-- What a reel's call leaves. -/
def RStep (C : Reels) (B n : Nat) (F : Nat → Prop) (w : World) (q g : Nat) (r : Int) (S : St) (all : List Tx) (rs : Nat) (e : Ending) (w' : World) : Prop :=
  e = .returned (.int .i64 r) ∧ ∃ F', Moved F w F' w' ∧ RM C B n F' w' q g S all rs
theorem RM.append (h : RM C B n F w q g S all rs) (hn : n ≤ 1000000) (s : ByteArray) (hs : s.size ≤ maxLen) {r : Int} {all' : List Tx} (e : appendR S all s.data.toList = (r, T, all')) :
    Calls Tryd.prog 11 #[.pointer (some ⟨q, 0, none⟩), .string s] w (RStep C B (n + 1) F w q g r T all' rs) :=
  (C.appends n s h.at_ h.good hn h.home.tab (fun k hk => by have := h.fB k hk; have := h.home.pos; omega) hs).mono fun _ _ ⟨he, hf, F', hA, hF⟩ => by
    have hg := good_appendR h.good all s.data.toList
    rw [e] at he hA hg
    exact ⟨he, F', ⟨hf, hF⟩, h.moved hA ⟨hf, hF⟩ hg⟩
theorem RM.sync (h : RM C B n F w q g S all rs) (hn : n ≤ 1000000) {r : Int} {rs' : Nat} (e : syncR all.length 64 0 S rs = (r, T, rs')) :
    Calls Tryd.prog 15 #[.pointer (some ⟨q, 0, none⟩)] w (RStep C B (n + 64) F w q g r T all rs') :=
  (C.syncs n h.at_ h.good hn).mono fun _ _ ⟨he, hf, F', hA, hF⟩ => by
    have hg := good_syncR (m := all.length) 64 0 n S rs h.good
    rw [e] at he hA hg
    exact ⟨he, F', ⟨hf, hF⟩, h.moved hA ⟨hf, hF⟩ hg⟩
/-- Its disk. -/
theorem RM.disk (h : RM C B n F w q g S all rs) : ∃ lv, Mine B n w g lv S ∧ ∀ k, foot g lv k → F k := by
  obtain ⟨lv, hd, hF, _⟩ := C.disk h.at_
  exact ⟨lv, ⟨hd, h.good, h.fB g (hF g (Or.inl rfl)), fun k hk => h.fB k (hF k (Or.inr hk))⟩, hF⟩
theorem RM.power (h : RM C B n F w q g S all rs) (m : Int) {r : Int} (e : powerS S m = (r, T)) :
    Calls Tryd.prog 25 #[.pointer (some ⟨g, 0, none⟩), .int .i64 m] w (RStep C B n F w q g r T all rs) := by
  obtain ⟨lv, hd, hF, hx⟩ := C.disk h.at_
  refine (code_Power g lv S m w hd).mono fun _ w2 ⟨he, hl⟩ => ?_
  have hg := h.good.power m
  have hn : (powerS S m).2.now = S.now := by unfold powerS; split; split <;> rfl; rfl
  rw [e] at he hl hg hn
  obtain ⟨F', hA, hF'⟩ := hx _ _ _ hl hn
  have hm : Moved F w F' w2 := ⟨hl.frm.mono hF, hF'⟩
  exact ⟨he, F', hm, h.moved hA hm hg⟩
/-- What Open leaves. -/
def OStep (C : Reels) (B n : Nat) (w : World) (g : Nat) (lv : Value) (R : Int × St × List Tx) (e : Ending) (w' : World) : Prop :=
  (R.1 = 0 ∧ ∃ q F, e = .returned (.tuple #[.pointer (some ⟨q, 0, none⟩), .int .i64 0]) ∧ Moved (foot g lv) w F w' ∧ RM C B n F w' q g R.2.1 R.2.2 R.2.2.length) ∨
    (R.1 ≠ 0 ∧ e = .returned (.tuple #[.pointer none, .int .i64 R.1]) ∧ ∃ lv', Moved (foot g lv) w (foot g lv') w' ∧ Mine B n w' g lv' R.2.1 ∧ Home B w')
theorem mine_open (C : Reels) (h : Mine B n w g lv S) (hh : Home B w) (hn : n ≤ 1000000) {R : Int × St × List Tx} (hR : openS S = R) :
    Calls Tryd.prog 9 #[.pointer (some ⟨g, 0, none⟩)] w (OStep C B (n + 128) w g lv R) := by
  subst hR
  refine (C.opens w g lv S n h.at_ h.good hn hh.tab (fun k hk => by have := h.fb k hk; have := hh.pos; omega)).mono fun _ w2 ⟨hf, hx⟩ => ?_
  have hg := good_openS h.good
  rcases hx with ⟨h1, q, F, he, hA, hF⟩ | ⟨h1, he, lv', hl⟩
  · refine Or.inl ⟨h1, q, F, he, ⟨hf, hF⟩, hA, hg, fun k hk => ?_, hh.frm hf h.fb⟩
    rcases hF k hk with h2 | h2
    · exact h.fb k h2
    · exact Nat.le_trans hh.size h2
  · refine Or.inr ⟨h1, he, lv', ⟨hf, fun k hk => ?_⟩, (h.next hl hg hh.size).1, hh.frm hf h.fb⟩
    rcases hk with hk | hk
    · exact Or.inl (Or.inl hk)
    · rcases hl.foot k hk with h2 | h2
      · exact Or.inl (Or.inr h2)
      · exact Or.inr h2
theorem mine_openTo (C : Reels) (h : Mine B n w g lv S) (hh : Home B w) (hn : n ≤ 1000000) {all : List Tx} (hR : openS S = (0, T, all)) :
    Calls Tryd.prog 9 #[.pointer (some ⟨g, 0, none⟩)] w fun e w' => ∃ q F, e = .returned (.tuple #[.pointer (some ⟨q, 0, none⟩), .int .i64 0]) ∧ Moved (foot g lv) w F w' ∧ RM C B (n + 128) F w' q g T all all.length :=
  (mine_open C h hh hn hR).mono fun _ _ hx => by
    rcases hx with ⟨_, h⟩ | ⟨h1, _⟩
    · exact h
    · exact absurd rfl h1
theorem RM.get (h : RM C B n F w q g S all rs) {i : Int} {s : ByteArray} {r : Int} (e : (bs (getR S all i).1, (getR S all i).2) = (s, r)) :
    Calls Tryd.prog 14 #[.pointer (some ⟨q, 0, none⟩), .int .i64 i] w fun e w' => e = .returned (.tuple #[.string s, .int .i64 r]) ∧ Below w.heap.size w w' := by
  have := C.gets i h.at_ h.home.tab
  rw [Prod.mk.injEq] at e
  rw [e.1, e.2] at this
  exact this
theorem RM.len (h : RM C B n F w q g S all rs) {m : Nat} (e : all.length = m) :
    Calls Tryd.prog 12 #[.pointer (some ⟨q, 0, none⟩)] w fun e w' => e = .returned (.int .i64 m) ∧ Below w.heap.size w w' := by
  subst e
  exact (C.lens h.at_).mono fun _ _ ⟨a, b⟩ => ⟨a, by subst b; exact Below.refl _ _⟩
theorem RM.sure (h : RM C B n F w q g S all rs) : Calls Tryd.prog 13 #[.pointer (some ⟨q, 0, none⟩)] w fun e w' => e = .returned (.int .i64 rs) ∧ Below w.heap.size w w' := (C.sures h.at_).mono fun _ _ ⟨a, b⟩ => ⟨a, by subst b; exact Below.refl _ _⟩
end
end Go.Proofs.YtepcfmigkhacgaaDoor.Rl
