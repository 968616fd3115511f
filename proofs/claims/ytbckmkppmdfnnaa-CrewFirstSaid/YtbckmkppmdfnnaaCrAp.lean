/- crew: First, whole, beside goroutines that only leave. -/
import Derived.Test.YtbckmkppmdfnnaaCrAo
namespace Go.Proofs.Ytbckmkppmdfnnaa.Crew
open Go.Conc Go.RowKit Go.Conc.Lib Go.ConcR.Gen
/-- The least place below M of which b, or M. -/
structure Least (b : Nat → Bool) (M r : Nat) : Prop where
  le : r ≤ M
  hit : r < M → b r = true
  miss : ∀ p, p < r → b p = false
theorem olds_cell {w₀ w : World} (h : Olds w₀ w) {a : Addr} (ha : a.block < w₀.heap.size) {v : Value} (hv : w₀.cell? a = some v) : w.cell? a = some v := (World.cell?_of_block (h.block _ ha)).trans hv
theorem Lists.olds {w₀ w : World} {Z : Nat → Prop} {oa : Option Addr} {len : Nat} {xs : Nat → Int} (h : Lists w₀ Z oa len xs) (ho : Olds w₀ w) : Lists w Z oa len xs :=
  ⟨h.one, fun a0 p e hp => let ⟨h1, h2, h3⟩ := h.el a0 p e hp; ⟨olds_cell ho h2 h1, Nat.lt_of_lt_of_le h2 ho.size, h3⟩⟩
section
variable {Z : Nat → Prop} {cs : List Frame} {Stop : (Nat → Prop) → Goroutine → World → Prop}
theorem first_called {oa : Option Addr} {len cap f tb ib : Nat} {wk : Int} {cp : Array Value} {xs : Nat → Int} {φ : Int → Bool} {w : World} (hZ : ∀ c, Z c → c < w.heap.size) (hM : len ≤ 9223372036854775807) (hL : Lists w Z oa len xs)
    (hi : w.cell? ⟨ib, 0, none⟩ = some (.func (.func f) #[] cp)) (ht : w.cell? ⟨tb, 0, none⟩ = some (.slice oa len cap)) (hib : ib < w.heap.size ∧ ¬ Z ib) (htb : tb < w.heap.size ∧ ¬ Z tb)
    (hv : ∀ Mk, w.heap.size ≤ Mk → OldFun w Z Mk (.func (.func f) #[] cp) (fun x => .bool (φ x)))
    (hS : ∀ (Wg r : Nat) (w' : World), Least (fun p => φ (xs p)) len r → w.heap.size ≤ Wg → Wg < w'.heap.size → Olds w w' → ∀ (W : Array Value) (todo : List Item), W.getD 6 undef = res len r → BR Try.prog Stop (fun x => Z x ∨ x = Wg) (G { (base 29).at ⟨W, []⟩ todo with mode := .returning } cs) w') :
    BR Try.prog Stop Z (G ((base 29).at ⟨#[.int .i64 (len : Nat), .int .i64 wk, .func (.func 30) #[] #[.pointer (some ⟨ib, 0, none⟩), .pointer (some ⟨tb, 0, none⟩)], undef, undef, undef, undef, undef, undef, undef, undef, undef, undef, undef, undef, undef, undef, undef, undef, undef, undef, undef, undef, undef, undef, undef, undef, undef, undef, undef, undef, undef, undef, undef, undef, undef, undef, undef, undef, undef, undef, undef, undef, undef, undef], []⟩ [.code body29]) cs) w := by
  refine first_br (b := fun p => φ (xs p)) (Q := fun _ => True) (Done := fun _ _ => True) hZ hM (fun w₁ => w₁.heap.size) (fun w₁ _ => .inr rfl) (fun _ _ => trivial) (fun _ _ _ _ _ _ => trivial) (fun _ _ _ _ _ _ _ => trivial) (fun w₁ Wg Cp Cs Cf ho hnew hN p hp => ?_) fun Wg r w' hc => ?_
  · have F := mkB_field (w₁ := w₁) (M := len) (n := crewN len wk) (b := fun p => φ (xs p)) (Q := fun _ => True) (Done := fun _ _ => True) hN (fun _ _ _ _ => trivial) (fun _ _ _ _ _ => trivial) (by unfold crewN; omega) (fun h => by unfold crewN; omega) hM
    exact job_first hL hi ht hib htb ho.size (hv _ ho.size) hnew F (fun _ _ => rfl) p hp
  · exact hS Wg r w' ⟨hc.le, hc.hit, hc.miss⟩ hc.wg hc.wgs ⟨hc.size, fun c hcs => hc.block c hcs fun w₁ ho => by have := ho.size; omega, hc.tape, hc.os, hc.output⟩
end
end Go.Proofs.Ytbckmkppmdfnnaa.Crew
