/- crew: what First and Each ask of first: their closures at their places. -/
import Derived.Test.YtbckmkppmdfnnaaCrAl
import Derived.Test.YtbckmkppmdfnnaaCrAb
namespace Go.Proofs.Ytbckmkppmdfnnaa.Crew
open Go.Conc Go.RowKit Go.Conc.Lib Go.ConcR.Gen
section
theorem env_of {B : Base} (F : Field B) (p : Nat) : Env (K B) (DWp B p) (fun a => B.L.Rd (.cell a)) where
  T := termsP B p
  refl := K.refl
  step := fun w => ⟨rfl, rfl, rfl, rfl, fun _ _ _ _ _ _ => rfl, id, F.qOf _ _ rfl, fun p => F.doneOf p _ _ rfl⟩
  draw := fun w => ⟨⟨rfl, rfl, rfl, rfl, fun _ _ => rfl, F.qOf _ _ rfl, fun p => F.doneOf p _ _ rfl⟩, by simp⟩
  read := fun w es h => ⟨Put.refl B p w, fun e he => by
    obtain ⟨a, ha, rfl⟩ := h e he
    exact ev_read ha⟩
variable {w₁ w₀ : World} {Z : Nat → Prop} {M n Mk : Nat} {b : Nat → Bool} {Q : World → Prop} {Done : Nat → World → Prop} {Wg Cp Cs Cf : Nat}
/-- An old block that is not written to. -/
theorem fast_old (new : w₀.heap.size ≤ Wg ∧ w₀.heap.size ≤ Cp ∧ w₀.heap.size ≤ Cs ∧ w₀.heap.size ≤ Cf) {a : Addr} (ha : a.block < w₀.heap.size) (hm : a.block ≠ Mk) (hz : ¬ Z a.block) :
    Fast (K (mkB w₁ Z M n Mk b Q Done Wg Cp Cs Cf)) (fun a => (mkB w₁ Z M n Mk b Q Done Wg Cp Cs Cf).L.Rd (.cell a)) a := by
  obtain ⟨n1, n2, n3, n4⟩ := new
  have hc : (mkB w₁ Z M n Mk b Q Done Wg Cp Cs Cf).Calm a.block := ⟨show a.block ≠ Wg by omega, show a.block ≠ Cp by omega, show a.block ≠ Cs by omega, show a.block ≠ Cf by omega, hm⟩
  exact ⟨fun w w' v k h => k.cell hc h, ⟨a, rfl, show a.block ≠ Wg by omega, hz, hm⟩⟩
theorem same_cell {w : World} (h : Same w₀ Mk w) {a : Addr} (ha : a.block < w₀.heap.size) (hm : a.block ≠ Mk) {v : Value} (hv : w₀.cell? a = some v) : w.cell? a = some v :=
  (World.cell?_of_block (h _ ha hm)).trans hv
/-- What is handed to First: the list, the function; all in old blocks. -/
structure Lists (w₀ : World) (Z : Nat → Prop) (oa : Option Addr) (len : Nat) (xs : Nat → Int) : Prop where
  one : 0 < len → ∃ a0, oa = some a0
  el : ∀ a0 p, oa = some a0 → p < len → w₀.cell? (a0.add p) = some (.int .i64 (xs p)) ∧ (a0.add p).block < w₀.heap.size ∧ ¬ Z (a0.add p).block
/-- A function value over old blocks: in whatever company that leaves old blocks be, it answers res. -/
def OldFun (w₀ : World) (Z : Nat → Prop) (Mk : Nat) (iv : Value) (res : Int → Value) : Prop :=
  ∀ (R : World → World → Prop) (D : World → World → Array Event → Prop) (Rd : Addr → Prop) (main : Bool), Env R D Rd → (∀ w w', R w w' → Same w₀ Mk w → Same w₀ Mk w') → (∀ a : Addr, a.block < w₀.heap.size → a.block ≠ Mk → ¬ Z a.block → Fast R Rd a) → ∃ n, FunC main R D (Same w₀ Mk) iv res n
set_option maxHeartbeats 400000 in
/-- First's job. -/
theorem job_first {ib tb : Nat} {iv : Value} {oa : Option Addr} {len cap : Nat} {xs : Nat → Int} {φ : Int → Bool} (hL : Lists w₀ Z oa len xs) (hi : w₀.cell? ⟨ib, 0, none⟩ = some iv) (ht : w₀.cell? ⟨tb, 0, none⟩ = some (.slice oa len cap))
    (hib : ib < w₀.heap.size ∧ ¬ Z ib) (htb : tb < w₀.heap.size ∧ ¬ Z tb) (hMk : w₀.heap.size ≤ Mk) (hv : OldFun w₀ Z Mk iv (fun x => .bool (φ x))) (new : w₀.heap.size ≤ Wg ∧ w₀.heap.size ≤ Cp ∧ w₀.heap.size ≤ Cs ∧ w₀.heap.size ≤ Cf)
    (F : Field (mkB w₁ Z len n Mk b (fun _ => True) (fun _ _ => True) Wg Cp Cs Cf)) (hb : ∀ p, p < len → b p = φ (xs p)) (p : Nat) (hp : p < len) :
    ∃ k, ∀ w, Same w₀ Mk w ∧ True → CallsV Try.prog false (K (mkB w₁ Z len n Mk b (fun _ => True) (fun _ _ => True) Wg Cp Cs Cf)) (DWp (mkB w₁ Z len n Mk b (fun _ => True) (fun _ _ => True) Wg Cp Cs Cf) p)
      (.func (.func 30) #[] #[.pointer (some ⟨ib, 0, none⟩), .pointer (some ⟨tb, 0, none⟩)]) #[.int .i64 (p : Nat)] k w (fun v w' => v = .bool (b p) ∧ K (mkB w₁ Z len n Mk b (fun _ => True) (fun _ _ => True) Wg Cp Cs Cf) w w' ∧ True) := by
  obtain ⟨a0, rfl⟩ := hL.one (by omega)
  obtain ⟨e1, e2, e3⟩ := hL.el a0 p rfl hp
  have E := env_of F p
  have fo : ∀ a : Addr, a.block < w₀.heap.size → a.block ≠ Mk → ¬ Z a.block → Fast (K (mkB w₁ Z len n Mk b (fun _ => True) (fun _ _ => True) Wg Cp Cs Cf)) (fun a => (mkB w₁ Z len n Mk b (fun _ => True) (fun _ _ => True) Wg Cp Cs Cf).L.Rd (.cell a)) a := fun a h1 h2 h3 => fast_old new h1 h2 h3
  have hJ : ∀ w w', K (mkB w₁ Z len n Mk b (fun _ => True) (fun _ _ => True) Wg Cp Cs Cf) w w' → Same w₀ Mk w → Same w₀ Mk w' := fun w w' k h c hc hm => by
    obtain ⟨n1, n2, n3, n4⟩ := new
    exact (k.block c (show c ≠ Wg by omega) (show c ≠ Cp by omega) (show c ≠ Cs by omega) (show c ≠ Cf by omega) hm).trans (h c hc hm)
  obtain ⟨nf, hf⟩ := hv _ _ _ false E hJ fo
  refine ⟨(nf + 3) * 7 + 20, fun w hw => ?_⟩
  have := first1_c (cap := cap) E hJ (fo ⟨ib, 0, none⟩ hib.1 (by dsimp only; omega) hib.2) (fo ⟨tb, 0, none⟩ htb.1 (by dsimp only; omega) htb.2) hf (fo _ e2 (by omega) e3) hp w
    ⟨hw.1, same_cell hw.1 hib.1 (by dsimp only; omega) hi, same_cell hw.1 htb.1 (by dsimp only; omega) ht, same_cell hw.1 e2 (by omega) e1⟩
  obtain ⟨f, cp, h1, h2⟩ := this
  exact ⟨f, cp, h1, h2.mono fun v w' h => ⟨by rw [hb p hp]; exact h.1, h.2, trivial⟩⟩
theorem old_is {kb k : Nat} (hc : w₀.cell? ⟨kb, 0, none⟩ = some (.int .u8 k)) (hk : kb < w₀.heap.size ∧ kb ≠ Mk ∧ ¬ Z kb) : OldFun w₀ Z Mk (.func (.func 31) #[] #[.pointer (some ⟨kb, 0, none⟩)]) (fun x => .bool (isF k x)) :=
  fun _ _ _ _ E _ fo => ⟨80, fun x w h => is1_c E (fo ⟨kb, 0, none⟩ hk.1 hk.2.1 hk.2.2) k x w (same_cell h hk.1 hk.2.1 hc)⟩
theorem old_does {kb k : Nat} (hc : w₀.cell? ⟨kb, 0, none⟩ = some (.int .u8 k)) (hk : kb < w₀.heap.size ∧ kb ≠ Mk ∧ ¬ Z kb) : OldFun w₀ Z Mk (.func (.func 35) #[] #[.pointer (some ⟨kb, 0, none⟩)]) (fun x => .int .i64 (doesF k x)) :=
  fun _ _ _ _ E _ fo => ⟨80, fun x w h => does1_c E (fo ⟨kb, 0, none⟩ hk.1 hk.2.1 hk.2.2) k x w (same_cell h hk.1 hk.2.1 hc)⟩
theorem old_all {ib : Nat} {iv : Value} {φ : Int → Bool} (hc : w₀.cell? ⟨ib, 0, none⟩ = some iv) (hi : ib < w₀.heap.size ∧ ib ≠ Mk ∧ ¬ Z ib) (hv : OldFun w₀ Z Mk iv (fun x => .bool (φ x))) :
    OldFun w₀ Z Mk (.func (.func 33) #[] #[.pointer (some ⟨ib, 0, none⟩)]) (fun x => .bool (!φ x)) := fun _ _ _ _ E hJ fo => by
  obtain ⟨n, hf⟩ := hv _ _ _ _ E hJ fo
  exact ⟨n + 40, fun x w h => all1_c E hJ (fo ⟨ib, 0, none⟩ hi.1 hi.2.1 hi.2.2) hf x w ⟨h, same_cell h hi.1 hi.2.1 hc⟩⟩
end
end Go.Proofs.Ytbckmkppmdfnnaa.Crew
