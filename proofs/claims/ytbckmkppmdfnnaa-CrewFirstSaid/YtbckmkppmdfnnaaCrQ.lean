/- Beside goroutines that only leave: a receive out of a buffer; one that finds its channel closed and empty; close. -/
import Derived.Test.YtbckmkppmdfnnaaCrN
import Derived.Conc.CrowdComm
namespace Go.Proofs.Ytbckmkppmdfnnaa.Crew
open Go.Conc Go.RowKit Go.Conc.Lib
open Go.ConcN (Deaf_still)
section
variable {P : Program} {Stop : (Nat → Prop) → Goroutine → World → Prop} {Z : Nat → Prop} {a : Goroutine} {w : World} {t : Trace} {gs : Array Goroutine}
theorem evC_obj (c : Nat) (wr s : Bool) : EvC Z ⟨.obj c, wr, s⟩ := by
  refine ⟨fun x hx hs => ?_, by simp, by simp, fun b => ?_⟩
  · obtain ⟨y, hy, _⟩ := hs
    cases wr <;> cases s <;> simp [MemAct.ofEvent, MemAct.touch?] at hx <;> subst hx <;> simp at hy
  · cases wr <;> cases s <;> simp [MemAct.ofEvent]
theorem evC_cell {b : Addr} (wr : Bool) (h : ¬ Z b.block) : EvC Z ⟨.cell b, wr, false⟩ := by
  refine ⟨fun x hx hs => ?_, by simp, by simp, fun b => by simp [MemAct.ofEvent]⟩
  simp only [ofEvent_cell0, MemAct.touch?, Option.some.injEq] at hx
  subst hx
  obtain ⟨y, hy, hz⟩ := hs
  cases hy
  exact absurd hz h
theorem no_partners {q : Nat → Nat} (hL : Leavers P t gs q) (c : Nat) (b : Bool) : partners (gs.setIfInBounds 0 ph) c b = [] := by
  refine partners_nil fun k g hk => ?_
  rcases getElem?_stand gs 0 k g hk with ⟨_, rfl⟩ | ⟨hk0, hk'⟩
  · exact offersAt_ph c b
  · exact offersAt_of_not_blocked (by rcases (hL.old k g (by omega) hk').status with hs | hs <;> rw [hs] <;> simp) c b
theorem Calm.quiet {S : Loc → Prop} {u : Trace} (h : Calm S t) (hu : ∀ op ∈ u, op.g = 0 ∧ op.act.touch? = none ∧ ∀ m, op.act ≠ .mark m) : Calm S (t ++ u) := by
  obtain ⟨B, hB⟩ := low_some (t ++ u)
  have hp : Past S B t := ⟨h.clean, h.known, h.over, h.hears, fun op hop => hB op (Array.mem_append.2 (.inl hop))⟩
  exact calm_of_past (hp.app0 (fun op hop => (hu op hop).1) (fun op hop b hb => by rw [(hu op hop).2.1] at hb; cases hb) (Deaf_still t 0 u fun op hop => ⟨(hu op hop).2.2 _, (hu op hop).2.2 _⟩) fun op hop => hB op (Array.mem_append.2 (.inr hop)))
    (norel_app h.norel fun op hop b => (hu op hop).2.2 _)
/-- A communication of goroutine 0's own, with nobody. -/
theorem Frm.quiet {u : Trace} {a' : Goroutine} (F : Frm P Z gs a t) (hu : ∀ op ∈ u, op.g = 0 ∧ op.act.touch? = none ∧ ∀ m, op.act ≠ .mark m) : Frm P Z (gs.setIfInBounds 0 a') a' (t ++ u) := by
  have hlt : 0 < gs.size := (Array.getElem?_eq_some_iff.1 F.main).1
  obtain ⟨q, hL⟩ := F.lv
  have hd : ∀ g, Deaf (t ++ u) g = Deaf t g := fun g => Deaf_still t g u fun op hop => ⟨(hu op hop).2.2 _, (hu op hop).2.2 _⟩
  refine ⟨by simp [hlt], ⟨q, fun i g hi hg => ?_, fun j hj => ?_⟩, F.calm.quiet hu, fun i op hi => ?_⟩
  · rw [Array.getElem?_setIfInBounds_ne (by omega)] at hg
    rw [hd]
    exact hL.old i g hi hg
  · rw [hd]
    exact hL.above j (by simpa using hj)
  · rw [Array.size_setIfInBounds]
    rcases getElem?_append_cases hi with ⟨_, hi'⟩ | ⟨_, hu'⟩
    · exact F.gsb i op hi'
    · rw [(hu op hu').1]; exact hlt

theorem BR.recv {c cap s r : Nat} {v z : Value} {buf : Array Value} {cl ok tm : Bool} (hrun : a.status = .running) (hstep : ∀ w₁, AtRel w w₁ → stepG P true a w₁ = .comm a #[rcase c z] true (.recv ok) w₁ #[])
    (hc : w.heap[c]? = some (.chan cap buf cl s r tm)) (hb : 0 < buf.size) (hv : buf.getD 0 undef = v)
    (hn : ∀ w₁, AtRel w w₁ → BR P Stop Z (Go.Conc.served a (recvd ok v true)) (w₁.setChan c cap (buf.extract 1 buf.size) cl s (r + 1) tm)) : BR P Stop Z a w := by
  refine BR.adv hrun fun w₁ k gs sl t F => ?_
  obtain ⟨q, hL⟩ := F.lv
  have hc' : w₁.heap[c]? = some (.chan cap buf cl s r tm) := by obtain ⟨d, rfl⟩ := k; exact hc
  have hr := crowd_recv_buf (P := P) (sl := sl) (i := 0) F.main (hstep w₁ k) hc' hb (no_partners hL c true)
  rw [finishComm_recv, hv] at hr
  refine ⟨_, _, _, _, _, Z, hr, F.quiet ?_, hn w₁ k⟩
  intro op hop
  simp [MemOp.ofEvents] at hop
  rcases hop with rfl | rfl <;> exact ⟨rfl, rfl, by simp⟩
theorem BR.recvClosed {c cap s r : Nat} {z : Value} {ok tm : Bool} (hrun : a.status = .running) (hstep : ∀ w₁, AtRel w w₁ → stepG P true a w₁ = .comm a #[rcase c z] true (.recv ok) w₁ #[])
    (hc : w.heap[c]? = some (.chan cap #[] true s r tm)) (hn : ∀ w₁, AtRel w w₁ → BR P Stop Z (Go.Conc.served a (recvd ok z false)) w₁) : BR P Stop Z a w := by
  refine BR.adv hrun fun w₁ k gs sl t F => ?_
  obtain ⟨q, hL⟩ := F.lv
  have hc' : w₁.heap[c]? = some (.chan cap #[] true s r tm) := by obtain ⟨d, rfl⟩ := k; exact hc
  have hr := crowd_recv_closed (P := P) (sl := sl) (i := 0) F.main (hstep w₁ k) hc' (no_partners hL c true)
  rw [finishComm_recv] at hr
  refine ⟨_, _, _, _, _, Z, hr, F.quiet ?_, hn w₁ k⟩
  intro op hop
  simp [MemOp.ofEvents] at hop
  subst hop
  exact ⟨rfl, rfl, by simp⟩
theorem served_G {b : Frame} {cs : List Frame} {v : Value} : Go.Conc.served (G b cs) v = G (b.finish v) cs := rfl
end
end Go.Proofs.Ytbckmkppmdfnnaa.Crew
