/- crew: from a walk beside leavers to the run of the whole call; openings. -/
import Derived.Test.YtbckmkppmdfnnaaCrAy
import Derived.Conc.LeavingOf
import Derived.OpenShut
import Derived.WalkKit
import Derived.ProofKit
namespace Go.Proofs.Ytbckmkppmdfnnaa.Crew
open Go.Conc Go.RowKit Go.Conc.Lib Go.ConcR.Gen Go.ChangeShapes Go.WideShapes Go.ChangeAt
/-- What a law's run leaves. -/
def PostB (W : World) (v : Value) (w' : World) : Prop := v = .bool true ∧ Below W.heap.size W w'
theorem run_of_ba {f : FuncId} {fn : Func} {t : Tmp} {c : Code} {fr : Array Value} {W : World} (hf : Try.prog.funcs[f]? = some fn) (hr : fn.results = #[.tmp t]) (h2 : ¬ 2 = f)
    (h : ∀ (Stop : (Nat → Prop) → Goroutine → World → Prop), (∀ (Z' : Nat → Prop) (w' : World), Ext (fun _ => False) Z' W w' → ∀ (U : Array Value) (todo : List Item), U.getD t undef = .bool true → BA Stop Z' (G { (base f).at ⟨U, []⟩ todo with mode := .returning } []) w') →
      BA Stop (fun _ => False) (G ((base f).at ⟨fr, []⟩ [.code c]) []) W) :
    ∃ M last o w' t', runNT Try.prog (M + 1) (solo (G ((base f).at ⟨fr, []⟩ [.code c]) []) W) #[] = (.ended o w', t') ∧ runN Try.prog M (solo (G ((base f).at ⟨fr, []⟩ [.code c]) []) W) = .next last ∧
      step Try.prog last = .ended o w' ∧ Conc.Good Try.prog (PostB W) last o w' t' := by
  have h0 := (h (fun Z' g w' => ∃ (U : Array Value) (todo : List Item), U.getD t undef = .bool true ∧ Ext (fun _ => False) Z' W w' ∧ g = G { (base f).at ⟨U, []⟩ todo with mode := .returning } []) fun Z' w' hx U todo hU =>
    BA.stop fun w₁ r => ⟨U, todo, hU, hx.at r, rfl⟩).br
  obtain ⟨N, gs, a, w1, sl, t1, Z1, r1, F, U, todo, hU, hx, rfl⟩ := h0 #[G ((base f).at ⟨fr, []⟩ [.code c]) []] none #[] ⟨rfl, ⟨_, leavers_one Try.prog _⟩, calm_of_past (B := 0) (S := shunZ (fun _ => False)) ⟨past_nil.clean, fun i a ha hm => (past_nil.known i a ha hm).imp id (fun h => h.1.elim), past_nil.over, past_nil.hears, by simp⟩ (fun i a ha => by simp [Trace.act?] at ha), fun i op hi => by simp at hi⟩
  obtain ⟨q, hL⟩ := F.lv
  obtain ⟨B, hB⟩ := low_some t1
  have hP : Past (shunZ Z1) B t1 := ⟨F.calm.clean, F.calm.known, F.calm.over, F.calm.hears, hB⟩
  obtain ⟨K, last, o, w', t', e1, e2, e3, e4⟩ := beside_ends (P := Try.prog) (D := Go.ConcR.DC0) (Post := PostB W) (sl := sl) (n := 0) (fun _ _ _ h e he => by rw [h.2] at he; simp at he) F.main hL hP (Goes.stop fun w₂ r₂ => ⟨rfl, .bool true, #[], by
    simp [G, stepG, unwind, doReturn, results, Frame.at, base, hf, hr, h2, seen, GStep.after]
    simpa [Array.getD_eq_getD_getElem?] using hU, by simp, rfl, (hx.at r₂).olds.os, (hx.at r₂).olds.tape, (hx.at r₂).olds.output, (hx.at r₂).olds.size, (hx.at r₂).olds.block⟩)
  refine ⟨N + K, last, o, w', t', ?_, ?_, e3, e4⟩
  · rw [solo_eq_crowd, Nat.add_assoc, runNT_add, r1]; exact e1
  · rw [solo_eq_crowd, runN_add, ← runNT_fst Try.prog _ _ #[], r1]; exact e2
section
variable {H : Type} {enc : TypeId × Value → H} {w : World} {base : Nat} {held : Bool}
/-- A list of numbers that came in. -/
theorem open_list {r : Reach} {b0 : Nat} {v : Value} {d : DataW H} {p : List MemPlace} (hv : Value.okWide Try.prog w r b0 29 v) (h : DataW.Trod enc Try.prog w base (fun _ => true) held 29 v d p) :
    ∃ oa n cap xs, v = .slice oa n cap ∧ n ≤ 9223372036854775807 ∧ Lists w (fun _ => False) oa n xs := by
  obtain ⟨a, len, cap, rfl⟩ := okWide_slice Try.underlying29 hv
  obtain ⟨fuel, hf⟩ := h
  rcases open_ints Try.underlying29 Try.underlying2 (by kernel_rfl) hf with ⟨hcs, hx⟩ | ⟨a', len', cap', zs, hcs, _, hl, hm, hz, hx, hcell, hwz⟩
  · simp [Value.cells] at hcs
    obtain ⟨rfl, rfl, rfl⟩ := hcs
    exact ⟨none, 0, 0, fun _ => 0, rfl, by omega, fun h => absurd h (by omega), fun _ p _ hp => absurd hp (by omega)⟩
  · simp [Value.cells] at hcs
    obtain ⟨rfl, rfl, rfl⟩ := hcs
    have hlen : len ≤ 9223372036854775807 := by simp only [maxLen] at hm; omega
    refine ⟨_, len, cap, fun p => zs.getD p 0, rfl, hlen, fun _ => ⟨_, rfl⟩, fun a0 p e hp => ?_⟩
    cases e
    have hc := hcell p (by split at hz <;> omega)
    exact ⟨hc, World.block_lt_of_cell? _ _ hc, id⟩
end
end Go.Proofs.Ytbckmkppmdfnnaa.Crew
