/- crew: Each's job: what it has made stands in one block. -/
import Derived.Test.YtbckmkppmdfnnaaCrAm
namespace Go.Proofs.Ytbckmkppmdfnnaa.Crew
open Go.Conc Go.RowKit Go.Conc.Lib Go.ConcR.Gen
def QE (Mk len : Nat) (w : World) : Prop := ∃ arr : Array Value, w.heap[Mk]? = some (.cells arr 2) ∧ arr.size = len
def DE (Mk : Nat) (g : Nat → Int) (p : Nat) (w : World) : Prop := w.cell? ⟨Mk, p, none⟩ = some (.int .i64 (g p))
theorem qe_of (Mk len : Nat) (w w' : World) (h : w'.heap[Mk]? = w.heap[Mk]?) : QE Mk len w → QE Mk len w' := fun ⟨arr, h1, h2⟩ => ⟨arr, h.trans h1, h2⟩
theorem de_of (Mk : Nat) (g : Nat → Int) (p : Nat) (w w' : World) (h : w'.heap[Mk]? = w.heap[Mk]?) : DE Mk g p w → DE Mk g p w' := fun x => (World.cell?_of_block h).trans x
theorem qe_cell {Mk len p : Nat} {w : World} (h : QE Mk len w) (hp : p < len) : ∃ u, w.cell? ⟨Mk, p, none⟩ = some u ∧ w.frozen? ⟨Mk, p, none⟩ = false := by
  obtain ⟨arr, h1, h2⟩ := h
  exact ⟨arr[p]'(by omega), by simp [World.cell?, h1, h2, hp], by simp [World.frozen?, h1]⟩
theorem set_row {Mk len p : Nat} {w : World} {v : Value} (h : QE Mk len w) : ∃ arr : Array Value, arr.size = len ∧ w.heap[Mk]? = some (.cells arr 2) ∧ (w.setCell ⟨Mk, p, none⟩ v).heap[Mk]? = some (.cells (arr.setIfInBounds p v) 2) := by
  obtain ⟨arr, h1, h2⟩ := h
  refine ⟨arr, h2, h1, ?_⟩
  rw [setCell_eq_setRow w Mk p arr 2 (0, 0) v h1, setRow_heap w Mk _ _ 2 _ h1]
theorem set_de {Mk len p : Nat} {w : World} {g : Nat → Int} (h : QE Mk len w) (hp : p < len) : QE Mk len (w.setCell ⟨Mk, p, none⟩ (.int .i64 (g p))) ∧ DE Mk g p (w.setCell ⟨Mk, p, none⟩ (.int .i64 (g p))) ∧ ∀ q, DE Mk g q w → DE Mk g q (w.setCell ⟨Mk, p, none⟩ (.int .i64 (g p))) := by
  obtain ⟨arr, h1, h2, h3⟩ := set_row (p := p) (v := .int .i64 (g p)) h
  refine ⟨⟨_, h3, by simpa using h1⟩, ?_, fun q hq => ?_⟩
  · simp [DE, World.cell?, h3, h1, hp]
  · unfold DE at hq ⊢
    simp only [World.cell?, h2] at hq
    simp only [World.cell?, h3]
    by_cases hpq : p = q
    · subst hpq
      simp [h1, hp]
    · rw [Array.getElem?_setIfInBounds_ne hpq]
      exact hq
section
variable {w₁ w₀ : World} {Z : Nat → Prop} {n Mk : Nat} {b : Nat → Bool} {Wg Cp Cs Cf : Nat}
set_option maxHeartbeats 400000 in
/-- Each's job. -/
theorem job_each {ib tb mb : Nat} {iv : Value} {oa : Option Addr} {len cap : Nat} {xs : Nat → Int} {ψ : Int → Int} (hL : Lists w₀ Z oa len xs) (hLM : ∀ a0 p, oa = some a0 → p < len → (a0.add p).block ≠ Mk) (hi : w₀.cell? ⟨ib, 0, none⟩ = some iv) (ht : w₀.cell? ⟨tb, 0, none⟩ = some (.slice oa len cap))
    (hm : w₀.cell? ⟨mb, 0, none⟩ = some (.slice (some ⟨Mk, 0, none⟩) len len)) (hib : ib < w₀.heap.size ∧ ib ≠ Mk ∧ ¬ Z ib) (htb : tb < w₀.heap.size ∧ tb ≠ Mk ∧ ¬ Z tb) (hmb : mb < w₀.heap.size ∧ mb ≠ Mk ∧ ¬ Z mb) (hv : OldFun w₀ Z Mk iv (fun x => .int .i64 (ψ x)))
    (new : w₀.heap.size ≤ Wg ∧ w₀.heap.size ≤ Cp ∧ w₀.heap.size ≤ Cs ∧ w₀.heap.size ≤ Cf) (N : Nums Z Mk Wg Cp Cs Cf) (F : Field (mkB w₁ Z len n Mk b (QE Mk len) (DE Mk fun p => ψ (xs p)) Wg Cp Cs Cf)) (hb : ∀ p, p < len → b p = false) (p : Nat) (hp : p < len) :
    ∃ k, ∀ w, Same w₀ Mk w ∧ QE Mk len w → CallsV Try.prog false (K (mkB w₁ Z len n Mk b (QE Mk len) (DE Mk fun p => ψ (xs p)) Wg Cp Cs Cf)) (DWp (mkB w₁ Z len n Mk b (QE Mk len) (DE Mk fun p => ψ (xs p)) Wg Cp Cs Cf) p)
      (.func (.func 34) #[] #[.pointer (some ⟨ib, 0, none⟩), .pointer (some ⟨tb, 0, none⟩), .pointer (some ⟨mb, 0, none⟩)]) #[.int .i64 (p : Nat)] k w (fun v w' => v = .bool (b p) ∧ K (mkB w₁ Z len n Mk b (QE Mk len) (DE Mk fun p => ψ (xs p)) Wg Cp Cs Cf) w w' ∧ DE Mk (fun p => ψ (xs p)) p w') := by
  obtain ⟨a0, rfl⟩ := hL.one (by omega)
  obtain ⟨e1, e2, e3⟩ := hL.el a0 p rfl hp
  have e4 := hLM a0 p rfl hp
  have E := env_of F p
  obtain ⟨B, hB⟩ : ∃ B, B = mkB w₁ Z len n Mk b (QE Mk len) (DE Mk fun p => ψ (xs p)) Wg Cp Cs Cf := ⟨_, rfl⟩
  have fo : ∀ a : Addr, a.block < w₀.heap.size → a.block ≠ Mk → ¬ Z a.block → Fast (K B) (fun a => B.L.Rd (.cell a)) a := fun a h1 h2 h3 => by rw [hB]; exact fast_old new h1 h2 h3
  have hJ : ∀ w w', K B w w' → Same w₀ Mk w → Same w₀ Mk w' := fun w w' k h c hc hm => by
    obtain ⟨n1, n2, n3, n4⟩ := new
    rw [hB] at k
    exact (k.block c (show c ≠ Wg by omega) (show c ≠ Cp by omega) (show c ≠ Cs by omega) (show c ≠ Cf by omega) hm).trans (h c hc hm)
  have hadd : (⟨Mk, 0, none⟩ : Addr).add p = ⟨Mk, p, none⟩ := by simp [Addr.add]; exact fun h => h.symm
  have hset : ∀ w, QE Mk len w → K B w (w.setCell ((⟨Mk, 0, none⟩ : Addr).add p) (.int .i64 (ψ (xs p)))) ∧ DWp B p w (w.setCell ((⟨Mk, 0, none⟩ : Addr).add p) (.int .i64 (ψ (xs p)))) #[⟨.cell ((⟨Mk, 0, none⟩ : Addr).add p), true, false⟩] ∧ DE Mk (fun p => ψ (xs p)) p (w.setCell ((⟨Mk, 0, none⟩ : Addr).add p) (.int .i64 (ψ (xs p)))) := by
    intro w hw
    rw [hadd]
    obtain ⟨s1, s2, s3⟩ := set_de (g := fun p => ψ (xs p)) hw hp
    have hA := aside_setCell w ⟨Mk, p, none⟩ (.int .i64 (ψ (xs p)))
    have hput : Put B p w (w.setCell ⟨Mk, p, none⟩ (.int .i64 (ψ (xs p)))) := by
      rw [hB]
      exact ⟨hA.tape, hA.os, hA.output, hA.size, fun c hc => hA.block c hc, fun _ => s1, s3⟩
    refine ⟨?_, ⟨hput, fun e he => ?_⟩, s2⟩
    · rw [hB] at hput ⊢
      exact ⟨hput.tape, hput.os, hput.output, hput.size, fun c _ _ _ _ hm => hput.block c hm, fun ⟨st, sm, x⟩ => ⟨st, sm, x.of_block (hput.block _ (Ne.symm N.m1))⟩, hput.q, hput.done⟩
    · simp at he
      subst he
      rw [hB]
      exact ⟨_, true, rfl, .inl ⟨p, rfl, rfl⟩⟩
  rw [← hB] at E ⊢
  obtain ⟨nf, hf⟩ := hv _ _ _ false E hJ fo
  refine ⟨(nf + 3) * 10 + 30, fun w hw => ?_⟩
  have := each1_c (cap := cap) (MC := QE Mk len) (DN := DE Mk (fun p => ψ (xs p)) p) E hJ (fo ⟨ib, 0, none⟩ hib.1 hib.2.1 hib.2.2) (fo ⟨tb, 0, none⟩ htb.1 htb.2.1 htb.2.2) (fo ⟨mb, 0, none⟩ hmb.1 hmb.2.1 hmb.2.2) hf (ma := ⟨Mk, 0, none⟩) (x := xs p) rfl (fo _ e2 e4 e3) hp
    (fun w w' k h => by rw [hB] at k; exact k.q h) (fun w w' k h => by rw [hB] at k; exact k.done p h) (fun w h => by rw [hadd]; exact qe_cell h hp) hset w
    ⟨hw.1, same_cell hw.1 hib.1 hib.2.1 hi, same_cell hw.1 htb.1 htb.2.1 ht, same_cell hw.1 hmb.1 hmb.2.1 hm, same_cell hw.1 e2 e4 e1, hw.2⟩
  obtain ⟨f, cp, h1, h2⟩ := this
  exact ⟨f, cp, h1, h2.mono fun v w' h => ⟨by rw [hb p hp]; exact h.1, h.2.1, h.2.2⟩⟩
end
end Go.Proofs.Ytbckmkppmdfnnaa.Crew
