/- reel: ReelKept over any reels: the stage's theorem. -/
import Derived.Test.YtepcfmigkhacgaaDoorRmH
namespace Go.Proofs.YtepcfmigkhacgaaDoor.Rl
open Go.RowKit Go.Proofs.YtepcfmigkhacgaaDoor.Gr Go.Proofs.YtepcfmigkhacgaaDoor.Frame Go.Proofs.YtepcfmigkhacgaaDoor.Dk

/-- A script's call as the reader hands it over. -/
def OpROk (w : World) (y : OpR) : Prop := y.s.size ≤ 9223372036854775807 ∧ ∃ keep : List Int, KI.At w (.slice y.kA y.kN y.kC) keep ∧ ∀ z ∈ keep, (Lit.int .i64 z).wf = true
/-- What the law answers. -/
def YesR (w : World) (e : Ending) (w' : World) : Prop := e = .returned (.bool true) ∧ Below w.heap.size w w'
/-- A row of texts that is none of a reel's blocks. -/
structure Beside (F : Nat → Prop) (w : World) (B : Nat) (v : Value) (all : List Tx) : Prop where
  own : KT.Own 0 v (tx all) w
  off : ∀ k, v.ownBlock = some k → ¬ F k
  low : ∀ k, v.ownBlock = some k → B ≤ k
theorem Beside.nil (F : Nat → Prop) (w : World) (B : Nat) : Beside F w B (.slice none 0 0) [] := ⟨Kind.Own.nil _ _, fun k hk => by simp [Value.ownBlock] at hk, fun k hk => by simp [Value.ownBlock] at hk⟩
theorem Beside.lt {F : Nat → Prop} {w : World} {B : Nat} {v : Value} {all : List Tx} (h : Beside F w B v all) (k : Nat) (hk : v.ownBlock = some k) : k < w.heap.size := by
  obtain ⟨c, hc⟩ := own_type h.own k hk
  exact (Array.getElem?_eq_some_iff.1 hc).1
theorem Beside.moved {F F' : Nat → Prop} {w w' : World} {B : Nat} {v : Value} {all : List Tx} (h : Beside F w B v all) (hm : Moved F w F' w') : Beside F' w' B v all :=
  ⟨own_frm h.own hm.frm h.off, fun k hk hF => by
    rcases hm.foot k hF with h1 | h1
    · exact h.off k hk h1
    · have := h.lt k hk; omega, h.low⟩
theorem Beside.below {F : Nat → Prop} {w w' : World} {B : Nat} {v : Value} {all : List Tx} (h : Beside F w B v all) (hb : Below w.heap.size w w') : Beside F w' B v all := ⟨h.own.kept hb, h.off, h.low⟩
theorem Beside.less {F G : Nat → Prop} {w : World} {B : Nat} {v : Value} {all : List Tx} (h : Beside F w B v all) (hG : ∀ k, G k → F k) : Beside G w B v all := ⟨h.own, fun k hk hg => h.off k hk (hG k hg), h.low⟩
theorem RM.grown {C : Reels} {B n : Nat} {F : Nat → Prop} {w w' : World} {q g : Nat} {S : St} {all : List Tx} {rs : Nat} (h : RM C B n F w q g S all rs) {row : Option Nat} (hg : w.grownBy w' row) (hF : ∀ k, row = some k → ¬ F k) (hB : ∀ k, row = some k → B ≤ k) : RM C B n F w' q g S all rs :=
  h.kept (G := fun k => row = some k) ⟨hg.os, hg.tape, hg.output, hg.size, fun k hk hn => hg.block k hk (fun e => hn e.symm)⟩ (fun k hk e => hF k e hk) (fun k e => hB k e)
theorem below_grown {B : Nat} {w w' : World} {row : Option Nat} (hg : w.grownBy w' row) (hB : ∀ k, row = some k → B ≤ k) (hs : B ≤ w.heap.size) : Below B w w' :=
  ⟨hg.os, hg.tape, hg.output, hg.size, fun k hk => hg.block k (by omega) (fun e => by have := hB k e.symm; omega)⟩
/-- Where a script stands. -/
structure Stand (C : Reels) (B n : Nat) (w0 w : World) (q : Nat) (F : Nat → Prop) (S : St) (all : List Tx) (rs : Nat) (av : Value) (su : Nat) : Prop where
  rm : RM C B n F w q B S all rs
  inv : Inv S all rs
  row : Beside F w B av all
  su : su ≤ rs
  below : Below w0.heap.size w0 w
section
variable {C : Reels} {B n : Nat} {w0 w w' : World} {q : Nat} {F : Nat → Prop} {S : St} {all : List Tx} {rs : Nat} {av : Value} {su : Nat}
theorem Stand.bel (h : Stand C B n w0 w q F S all rs av su) (hb : Below w.heap.size w w') : Stand C B n w0 w' q F S all rs av su :=
  ⟨h.rm.below hb, h.inv, h.row.below hb, h.su, h.below.trans (hb.mono h.below.size)⟩
theorem Stand.mono (h : Stand C B n w0 w q F S all rs av su) {m : Nat} (hm : n ≤ m) : Stand C B m w0 w q F S all rs av su := ⟨h.rm.mono hm, h.inv, h.row, h.su, h.below⟩
end
/-- A record is put behind the row. -/
theorem push_row {C : Reels} {B n : Nat} {w0 w w6 : World} {q : Nat} {F : Nat → Prop} {S : St} {all : List Tx} {rs su : Nat} {av v' : Value} {o : Obj} {s : Tx} (hr : RM C B n F w q B S (all ++ [s]) rs) (hrow : Beside F w B av all) (hinv : Inv S (all ++ [s]) rs) (hsu : su ≤ rs) (hbel : Below w0.heap.size w0 w) (h0 : w0.heap.size ≤ B)
    (hown : KT.Own 0 v' (tx all ++ [bs s]) w6) (hg : (w.alloc o).grownBy w6 av.ownBlock) (hk : ∀ k, v'.ownBlock = some k → av.ownBlock = some k ∨ k = (w.alloc o).heap.size) : Stand C B n w0 w6 q F S (all ++ [s]) rs v' su := by
  have hba : Below w.heap.size w (w.alloc o) := (Below.refl _ _).alloc (Nat.le_refl _) _
  have h1 := (hr.below hba).grown hg hrow.off hrow.low
  have hs := hr.home.size
  refine ⟨h1, hinv, ⟨by rw [tx, List.map_append]; exact hown, fun k hk1 hF => ?_, fun k hk1 => ?_⟩, hsu, (hbel.trans (hba.mono hbel.size)).trans ((below_grown hg hrow.low (Nat.le_trans hs hba.size)).mono h0)⟩
  · rcases hk k hk1 with h2 | h2
    · exact hrow.off k h2 hF
    · have := hr.lt k hF
      have := hba.size
      omega
  · rcases hk k hk1 with h2 | h2
    · exact hrow.low k h2
    · have := hba.size
      omega
theorem left_moved {w w' : World} {g : Nat} {lv lv' : Value} {S : St} (h : Dk.Left w g lv S w' lv') : Moved (foot g lv) w (foot g lv') w' :=
  ⟨h.frm, fun k hk => by
    rcases hk with hk | hk
    · exact Or.inl (Or.inl hk)
    · rcases h.foot k hk with h2 | h2
      · exact Or.inl (Or.inr h2)
      · exact Or.inr h2⟩
/-- A call of the disk's, with what it touches. -/
def DStep (B n : Nat) (w : World) (g : Nat) (lv : Value) (r : Int) (T : St) (e : Ending) (w' : World) : Prop := e = .returned (.int .i64 r) ∧ ∃ lv', Moved (foot g lv) w (foot g lv') w' ∧ Mine B n w' g lv' T ∧ Home B w'
theorem mine_crash {B n : Nat} {w : World} {g : Nat} {lv : Value} {S T : St} (h : Mine B n w g lv S) (hh : Home B w) (hn : n ≤ 1000000) {kv : Value} {keep : List Int} (hK : KI.At w kv keep) (hS : crashS S keep = T) :
    Calls Tryd.prog 16 #[.pointer (some ⟨g, 0, none⟩), kv] w (DStep B n w g lv 0 T) := by
  subst hS
  exact (code_Crash g lv S kv keep w h.at_ (h.good.good (by omega)) hK).mono fun _ _ ⟨he, hl⟩ => ⟨he, _, left_moved hl, (h.next hl (h.good.crash keep) hh.size).1, hh.frm hl.frm h.fb⟩
theorem mine_power {B n : Nat} {w : World} {g : Nat} {lv : Value} {S T : St} (h : Mine B n w g lv S) (hh : Home B w) {m r : Int} (hS : powerS S m = (r, T)) :
    Calls Tryd.prog 25 #[.pointer (some ⟨g, 0, none⟩), .int .i64 m] w (DStep B n w g lv r T) := by
  refine (code_Power g lv S m w h.at_).mono fun _ _ ⟨he, hl⟩ => ?_
  have hg := h.good.power m
  rw [hS] at he hl hg
  exact ⟨he, lv, left_moved hl, (h.next hl hg hh.size).1, hh.frm hl.frm h.fb⟩
theorem mine_openNo (C : Reels) {B n : Nat} {w : World} {g : Nat} {lv : Value} {S T : St} {all : List Tx} (h : Mine B n w g lv S) (hh : Home B w) (hn : n ≤ 1000000) {r : Int} (hR : openS S = (r, T, all)) (h0 : r ≠ 0) :
    Calls Tryd.prog 9 #[.pointer (some ⟨g, 0, none⟩)] w fun e w' => e = .returned (.tuple #[.pointer none, .int .i64 r]) ∧ ∃ lv', Moved (foot g lv) w (foot g lv') w' ∧ Mine B (n + 128) w' g lv' T ∧ Home B w' :=
  (mine_open C h hh hn hR).mono fun _ _ hx => by
    rcases hx with ⟨h1, _⟩ | ⟨_, h2⟩
    · exact absurd h1 h0
    · exact h2
theorem Beside.frm {F G : Nat → Prop} {w w' : World} {B : Nat} {v : Value} {all : List Tx} (h : Beside F w B v all) (hf : Frm G w w') (hG : ∀ k, v.ownBlock = some k → ¬ G k) : Beside F w' B v all := ⟨own_frm h.own hf hG, h.off, h.low⟩
/-- A list that was made behind a reel. -/
theorem beside_new {C : Reels} {B n : Nat} {F : Nat → Prop} {w w' : World} {q g : Nat} {S : St} {all : List Tx} {rs : Nat} (h : RM C B n F w q g S all rs) {v : Value} {L : List Tx} (ho : KT.Own w.heap.size v (tx L) w') : Beside F w' B v L :=
  ⟨own_low0 ho, fun k hk hF => by
    have h1 := ho.base k hk
    have h2 := h.lt k hF
    omega, fun k hk => Nat.le_trans h.home.size (ho.base k hk)⟩
/-- What Open leaves, the answer ahead of the cases. -/
def OpenW (C : Reels) (B n : Nat) (w : World) (g : Nat) (lv : Value) (er : Int) (T : St) (l : List Tx) (e : Ending) (w' : World) : Prop :=
  ∃ pv, e = .returned (.tuple #[pv, .int .i64 er]) ∧ ((er = 0 ∧ ∃ q F, pv = .pointer (some ⟨q, 0, none⟩) ∧ Moved (foot g lv) w F w' ∧ RM C B n F w' q g T l l.length) ∨
    (er ≠ 0 ∧ pv = .pointer none ∧ ∃ lv', Moved (foot g lv) w (foot g lv') w' ∧ Mine B n w' g lv' T ∧ Home B w'))
theorem mine_openW (C : Reels) {B n : Nat} {w : World} {g : Nat} {lv : Value} {S T : St} {l : List Tx} (h : Mine B n w g lv S) (hh : Home B w) (hn : n ≤ 1000000) {er : Int} (hR : openS S = (er, T, l)) :
    Calls Tryd.prog 9 #[.pointer (some ⟨g, 0, none⟩)] w (OpenW C B (n + 128) w g lv er T l) :=
  (mine_open C h hh hn hR).mono fun _ _ hx => by
    rcases hx with ⟨h1, q, F, he, h2⟩ | ⟨h1, he, h2⟩
    · have h1 : er = 0 := h1
      exact ⟨_, by rw [he, h1], Or.inl ⟨h1, q, F, rfl, h2⟩⟩
    · exact ⟨_, he, Or.inr ⟨h1, rfl, h2⟩⟩
end Go.Proofs.YtepcfmigkhacgaaDoor.Rl
