/- crew: the laws of a crew at work hold of the code: from the loop that starts the workers to Wait's return. -/
import Derived.Test.YtbckmkppmdfnnaaCrG
import Derived.Test.YtbckmkppmdfnnaaCrM1
namespace Go.Proofs.Ytbckmkppmdfnnaa.Crew
open Go.Conc Go.RowKit Go.Conc.Lib Go.ConcR.Gen
open Go.ConcN (WgLive)
open Go.ConcR (KK wgBlock WgAt stA smA rd wr mk Payload DC0)

/-- What is asked of the numbers and places alone. -/
structure Field (B : Base) : Prop where
  apart : B.L.Apart
  shWg : ∀ l, B.L.Sh l ↔ ∃ a, l = .cell a ∧ a.block = B.Wg
  ownCell : ∀ p l, B.L.Own p l → ∃ a, l = .cell a
  shunCell : ∀ l, B.L.Shun l → ∃ a, l = .cell a
  d1 : B.Cp ≠ B.Wg
  d2 : B.Cs ≠ B.Wg
  d3 : B.Cf ≠ B.Wg
  d4 : B.Cp ≠ B.Cs
  d5 : B.Cp ≠ B.Cf
  d6 : B.Cs ≠ B.Cf
  m1 : B.Mk ≠ B.Wg
  m2 : B.Mk ≠ B.Cp
  m3 : B.Mk ≠ B.Cs
  m4 : B.Mk ≠ B.Cf
  qOf : ∀ w w' : World, w'.heap[B.Mk]? = w.heap[B.Mk]? → B.Q w → B.Q w'
  doneOf : ∀ p (w w' : World), w'.heap[B.Mk]? = w.heap[B.Mk]? → B.Done p w → B.Done p w'
  few : B.n < 2147483647
  some1 : 0 < B.M → 0 < B.n
  mM : B.M ≤ 9223372036854775807

section
variable (B : Base) (vP vS vF vI : Nat) (isV : Value) (J : World → Prop) (cs : List Frame)
def cfg : Cfg :=
  { toBase := B
    Sel := SelW B vP vS vF vI isV J
    Hand := fun i g w => i < B.M ∧ HandW B vP vS vF vI isV J cs i g w
    Shut := ShutW B vP vS vF vI isV J cs
    Anch := AnchL B vP vS vF vI isV J cs
    Fin := FinW B vP vS vF vI isV J cs }
variable {B vP vS vF vI isV J cs}
theorem cfg_laws (F : Field B) (S : Seat B vP vS vF vI isV J) : Laws (cfg B vP vS vF vI isV J cs) where
  apart := F.apart
  shWg := F.shWg
  ownCell := F.ownCell
  shunCell := F.shunCell
  d1 := F.d1
  d2 := F.d2
  d3 := F.d3
  d4 := F.d4
  d5 := F.d5
  d6 := F.d6
  m1 := F.m1
  m2 := F.m2
  m3 := F.m3
  m4 := F.m4
  qOf := F.qOf
  doneOf := F.doneOf
  few := F.few
  some1 := F.some1
  selRely := fun _ _ _ h k => h.rely S k
  selStep := fun g w h => by
    show g.status = .running ∧ g.offers = none ∧ stepG B.P false g w = _
    rw [S.P]
    exact h.step S
  selTake := fun g w p h hp => by
    show ∃ m, Goes B.P _ _ _ _ m (g.finishComm B.P _ _ _ _ _) w
    rw [S.P]
    exact h.take S hp (fun hb g w hd hs => ⟨hd, .inl ⟨hb, hs⟩⟩) fun hb g w hd hs => ⟨hd, .inr ⟨hb, hs.at S⟩⟩
  selStop := fun g w h => by
    show ∃ m, Goes B.P _ _ _ (DRel B.P _ _) m (g.finishComm B.P _ _ _ _ _) w
    rw [S.P]
    exact ⟨_, h.stop S⟩
  handRely := fun _ _ _ _ h k => ⟨h.1, h.2.rely S k⟩
  handStep := fun i g w h => by
    show g.status = .running ∧ g.offers = none ∧ stepG B.P true g w = _
    rw [S.P]
    exact h.2.step
  handSent := fun i g w h => by
    show ∃ m, Goes B.P _ _ _ _ m (g.finishComm B.P _ _ _ _ _) w
    rw [S.P]
    exact ⟨_, h.2.sent S F.apart F.mM h.1 (fun hi _ _ x => .inl ⟨hi, hi, x⟩) fun hi _ _ x => .inr ⟨hi, x⟩⟩
  handGot := fun i g w p h _ => by
    show ∃ m, Goes B.P _ _ _ _ m (g.finishComm B.P _ _ _ _ _) w
    rw [S.P]
    exact ⟨_, h.2.got S F.apart fun _ _ x => x⟩
  shut := fun l g w s r h hc => by
    show g.status = .running ∧ mayWake B.P g = true ∧ ∃ g', g'.status = .running ∧ stepG B.P true g w = _ ∧ ∃ m, Goes B.P _ _ _ (WDis B.P _ _) m g' _
    rw [S.P]
    exact ShutW.step S F.d2 h hc
  shutRun := fun l g w h => by
    obtain ⟨_, _, _, _, _, _, _, _, _, _, _, _, _, _, _, _, _, _, _, _, _, _, _, _, _, _, _, _, _, _, _, _, _, _, _, _, _, _, _, rfl, _⟩ := h
    rfl
  anch := fun l g w h => by
    show g.status = .running ∧ ∃ m, Goes B.P _ _ _ (WLoa B.P B.ty _ _ _ _) m g w
    rw [S.P, S.ty]
    exact h.go S
theorem cfg_spawns (F : Field B) (S : Seat B vP vS vF vI isV J) (r i : Nat) (hi : i + r = B.n) : ∃ m, ∀ (u2 u3 u4 u6 u11 u12 u13 u14 u15 u16 u17 u18 u19 u20 u23 u24 u25 u26 u27 u28 u29 u30 u31 u32 u33 u34 u35 u36 u37 u38 u39 u40 u41 u42 u43 u44 : Value) (w : World), Seen B vP vS vF vI isV J w →
    Goes Try.prog true (K B) (DM B) (SpStop (cfg B vP vS vF vI isV J cs) r) m (G ((base 29).at ⟨#[.int .i64 (B.M : Nat), .int .i64 (B.n : Nat), u2, u3, u4, .pointer (some ⟨vI, 0, none⟩), u6, .pointer (some ⟨vP, 0, none⟩), .pointer (some ⟨vS, 0, none⟩), .pointer (some ⟨vF, 0, none⟩), .pointer (some ⟨B.Wg, 0, none⟩), u11, u12, u13, u14, u15, u16, u17, u18, u19, u20, .int .i64 (B.n : Nat), .int .i64 (i : Nat), u23, u24, u25, u26, u27, u28, u29, u30, u31, u32, u33, u34, u35, u36, u37, u38, u39, u40, u41, u42, u43, u44], []⟩ [.code L29, .inLoop L29, .inBlock 0, .code R10]) cs) w :=
  spawns_go (X := cfg B vP vS vF vI isV J cs) S F.apart (by have := F.few; exact Nat.le_of_lt this) (fun _ _ h => h) (fun _ _ _ hi h => ⟨hi, h⟩) (fun _ _ _ h => h) r i hi
end
end Go.Proofs.Ytbckmkppmdfnnaa.Crew
