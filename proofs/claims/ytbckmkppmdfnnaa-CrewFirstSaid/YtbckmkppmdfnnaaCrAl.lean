/- crew: first as what goroutine 0 reaches: whatever it is handed, beside goroutines that only leave. -/
import Derived.Test.YtbckmkppmdfnnaaCrAk
namespace Go.Proofs.Ytbckmkppmdfnnaa.Crew
open Go.Conc Go.RowKit Go.Conc.Lib Go.ConcR.Gen
open Go.ConcN (WgLive)
open Go.ConcR (wgBlock WgAt)
theorem foldl_min (fb : List Nat) : ∀ l : Nat, fb.foldl min l ≤ l ∧ (∀ p ∈ fb, fb.foldl min l ≤ p) ∧ (fb.foldl min l = l ∨ fb.foldl min l ∈ fb) := by
  induction fb with
  | nil => intro l; simp
  | cons x fb ih =>
    intro l
    obtain ⟨h1, h2, h3⟩ := ih (min l x)
    simp only [List.foldl_cons]
    refine ⟨by omega, fun p hp => ?_, ?_⟩
    · rcases List.mem_cons.1 hp with rfl | hp
      · omega
      · exact h2 p hp
    · rcases h3 with e | e
      · rcases Nat.le_total l x with hle | hle
        · left; rw [e]; omega
        · right; rw [e, Nat.min_eq_right hle]; simp
      · right; exact List.mem_cons_of_mem _ e
theorem Olds.trans {a b c : World} (h : Olds a b) (h' : Olds b c) : Olds a c :=
  ⟨Nat.le_trans h.size h'.size, fun x hx => (h'.block x (by have := h.size; omega)).trans (h.block x hx), h'.tape.trans h.tape, h'.os.trans h.os, h'.output.trans h.output⟩
/-- What first has come to. -/
structure Came (w₀ w' : World) (mk : World → Nat) (M : Nat) (b : Nat → Bool) (Q : World → Prop) (Done : Nat → World → Prop) (Wg r : Nat) : Prop where
  wg : w₀.heap.size ≤ Wg
  wgs : Wg < w'.heap.size
  le : r ≤ M
  hit : r < M → b r = true
  miss : ∀ p, p < r → b p = false
  done : ∀ p, p < M → p ≤ r → Done p w'
  q : Q w'
  size : w₀.heap.size ≤ w'.heap.size
  block : ∀ c, c < w₀.heap.size → (∀ w₁, Olds w₀ w₁ → c ≠ mk w₁) → w'.heap[c]? = w₀.heap[c]?
  tape : w'.tape = w₀.tape
  os : w'.os = w₀.os
  output : w'.output = w₀.output
section
variable {Z : Nat → Prop} {M : Nat} {wk : Int} {fv : Fn} {cap : Array Value} {b : Nat → Bool} {Q : World → Prop} {Done : Nat → World → Prop} {cs : List Frame} {Stop : (Nat → Prop) → Goroutine → World → Prop}
theorem first_br {w₀ : World} (hZ : ∀ c, Z c → c < w₀.heap.size) (hM : M ≤ 9223372036854775807) (mk : World → Nat) (hmk : ∀ w₁, Olds w₀ w₁ → (mk w₁ < w₀.heap.size ∧ ¬ Z (mk w₁)) ∨ mk w₁ = w₁.heap.size)
    (hq : ∀ w₁, Olds w₀ w₁ → Q w₁) (qOf : ∀ w₁, Olds w₀ w₁ → ∀ w w' : World, w'.heap[mk w₁]? = w.heap[mk w₁]? → Q w → Q w') (doneOf : ∀ w₁, Olds w₀ w₁ → ∀ p (w w' : World), w'.heap[mk w₁]? = w.heap[mk w₁]? → Done p w → Done p w')
    (job : ∀ (w₁ : World) (Wg Cp Cs Cf : Nat), Olds w₀ w₁ → w₀.heap.size ≤ Wg ∧ w₀.heap.size ≤ Cp ∧ w₀.heap.size ≤ Cs ∧ w₀.heap.size ≤ Cf → Nums Z (mk w₁) Wg Cp Cs Cf → ∀ p, p < M → ∃ k, ∀ w, Same w₀ (mk w₁) w ∧ Q w →
      CallsV Try.prog false (K (mkB w₁ Z M (crewN M wk) (mk w₁) b Q Done Wg Cp Cs Cf)) (DWp (mkB w₁ Z M (crewN M wk) (mk w₁) b Q Done Wg Cp Cs Cf) p) (.func fv #[] cap) #[.int .i64 p] k w
        (fun v w' => v = .bool (b p) ∧ K (mkB w₁ Z M (crewN M wk) (mk w₁) b Q Done Wg Cp Cs Cf) w w' ∧ Done p w'))
    (hS : ∀ (Wg r : Nat) (w' : World), Came w₀ w' mk M b Q Done Wg r → ∀ (W : Array Value) (todo : List Item), W.getD 6 undef = res M r → BR Try.prog Stop (fun x => Z x ∨ x = Wg) (G { (base 29).at ⟨W, []⟩ todo with mode := .returning } cs) w') :
    BR Try.prog Stop Z (G ((base 29).at ⟨#[.int .i64 (M : Nat), .int .i64 wk, .func fv #[] cap, undef, undef, undef, undef, undef, undef, undef, undef, undef, undef, undef, undef, undef, undef, undef, undef, undef, undef, undef, undef, undef, undef, undef, undef, undef, undef, undef, undef, undef, undef, undef, undef, undef, undef, undef, undef, undef, undef, undef, undef, undef, undef], []⟩ [.code body29]) cs) w₀ := by
  have hn : crewN M wk ≤ 16 := by unfold crewN; omega
  refine BR.of_goes (first_a (m := 30) M wk fv cap w₀ hZ fun a w1 w' vP vS Cp Cs hbx hag h7 h8 hne g1 g2 g3 g4 h10 h11 h12 h13 ho => ?_)
  have hs1 := hbx.size
  have hb0 : Built w₀ [(w₀.heap.size, .cells #[.func fv #[] cap] 50), (Cp, emptyChan), (Cs, emptyChan), (vP, .cells #[.chan (some Cp)] 55), (vS, .cells #[.chan (some Cs)] 56)] w' := by
    refine ⟨hbx.olds.trans ho, fun p hp => ?_⟩
    simp only [List.mem_cons, List.not_mem_nil, or_false] at hp
    rcases hp with rfl | rfl | rfl | rfl | rfl
    · exact (ho.block _ (by omega)).trans hbx.box
    · exact h10
    · exact h11
    · exact h12
    · exact h13
  refine first_b hn hZ hb0 hag h7 h8 fun w2 vF Cf Wg u2 u3 u4 u6 u11 u12 u13 u14 u15 u16 u17 u18 u19 u20 u23 u24 u25 u26 u27 u28 u29 u30 u31 u32 u33 u34 u35 u36 u37 u38 u39 u40 u41 u42 u43 u44 z1 z2 z3 l1 l2 l3 hbt => ?_
  have hCp : Cp < Cf := l1 (Cp, emptyChan) (by simp)
  have hCs : Cs < Cf := l1 (Cs, emptyChan) (by simp)
  have hvP : vP < Cf := l1 (vP, .cells #[.chan (some Cp)] 55) (by simp)
  have hvS : vS < Cf := l1 (vS, .cells #[.chan (some Cs)] 56) (by simp)
  have hvI : w₀.heap.size < Cf := l1 (w₀.heap.size, .cells #[.func fv #[] cap] 50) (by simp)
  have hWg : Wg < w2.heap.size := hbt.lt (Wg, wgBlock 66 0 0) (by simp)
  have oW := hbt.has (Wg, wgBlock 66 0 0) (by simp)
  have oF := hbt.has (vF, .cells #[.chan (some Cf)] 55) (by simp)
  have oCf := hbt.has (Cf, .chan (crewN M wk) #[] false 0 0 false) (by simp)
  have oI := hbt.has (w₀.heap.size, .cells #[.func fv #[] cap] 50) (by simp)
  have oCp := hbt.has (Cp, emptyChan) (by simp)
  have oCs := hbt.has (Cs, emptyChan) (by simp)
  have oP := hbt.has (vP, .cells #[.chan (some Cp)] 55) (by simp)
  have oS := hbt.has (vS, .cells #[.chan (some Cs)] 56) (by simp)
  dsimp only at oW oF oCf oI oCp oCs oP oS
  have hol := hbt.olds
  have hsz := hol.size
  have hm := hmk w2 hol
  have hNums : Nums Z (mk w2) Wg Cp Cs Cf := by
    refine ⟨by omega, by omega, by omega, hne, by omega, by omega, ?_, ?_, ?_, ?_, fun h => by have := hZ _ h; omega, fun h => ?_⟩
    · rcases hm with ⟨h, _⟩ | h <;> omega
    · rcases hm with ⟨h, _⟩ | h <;> omega
    · rcases hm with ⟨h, _⟩ | h <;> omega
    · rcases hm with ⟨h, _⟩ | h <;> omega
    · rcases hm with ⟨_, h'⟩ | h'
      · exact h' h
      · have := hZ _ h; omega
  have kind : ∀ (v c : Nat) (u : Value) (ty : TypeId), w2.heap[v]? = some (Obj.cells #[u] ty) → w2.heap[c]? = some emptyChan → v ≠ c := fun v c u ty h1 h2 e => by
    rw [e, h2] at h1
    simp [emptyChan] at h1
  have hcalm : ∀ v, v = vP ∨ v = vS ∨ v = vF ∨ v = w₀.heap.size → (mkB w2 Z M (crewN M wk) (mk w2) b Q Done Wg Cp Cs Cf).Calm v ∧ ¬ Z v := by
    have gen : ∀ v, w₀.heap.size ≤ v → v < Wg → v ≠ Cp → v ≠ Cs → v ≠ Cf → (mkB w2 Z M (crewN M wk) (mk w2) b Q Done Wg Cp Cs Cf).Calm v ∧ ¬ Z v := fun v a1 a2 a3 a4 a5 =>
      ⟨⟨show v ≠ Wg by omega, a3, a4, a5, show v ≠ mk w2 by rcases hm with ⟨h, _⟩ | h <;> omega⟩, fun h => by have := hZ _ h; omega⟩
    intro v hv
    rcases hv with rfl | rfl | rfl | rfl
    · exact gen _ (by omega) (by omega) (kind _ _ _ _ oP oCp) (kind _ _ _ _ oP oCs) (by omega)
    · exact gen _ (by omega) (by omega) (kind _ _ _ _ oS oCp) (kind _ _ _ _ oS oCs) (by omega)
    · exact gen _ (by omega) (by omega) (by omega) (by omega) (by omega)
    · exact gen _ (by omega) (by omega) (kind _ _ _ _ oI oCp) (kind _ _ _ _ oI oCs) (by omega)
  have hnew : w₀.heap.size ≤ Wg ∧ w₀.heap.size ≤ Cp ∧ w₀.heap.size ≤ Cs ∧ w₀.heap.size ≤ Cf := ⟨by omega, by omega, by omega, by omega⟩
  have S := mkB_seat (w₁ := w2) (vI := w₀.heap.size) (isV := .func fv #[] cap) hcalm hnew hNums (qOf w2 hol) (job w2 Wg Cp Cs Cf hol hnew hNums)
  have F := mkB_field (w₁ := w2) (M := M) (b := b) hNums (qOf w2 hol) (doneOf w2 hol) hn (fun h => by unfold crewN; omega) hM
  have cellOf : ∀ (v : Nat) (u : Value) (ty : TypeId), w2.heap[v]? = some (Obj.cells #[u] ty) → w2.cell? ⟨v, 0, none⟩ = some u := fun v u ty h => by simp [World.cell?, h]
  refine crew_br (cs := cs) F S rfl oW ⟨0, 0, oCp⟩ ⟨0, 0, oCs⟩ ⟨0, 0, oCf⟩ (hq w2 hol) ⟨cellOf _ _ _ oP, cellOf _ _ _ oS, cellOf _ _ _ oF, cellOf _ _ _ oI, ⟨0, 0, oW⟩, fun c hc _ => hol.block c hc, hq w2 hol⟩
    u2 u3 u4 u6 u11 u12 u13 u14 u15 u16 u17 u18 u19 u20 u23 u24 u25 u26 u27 u28 u29 u30 u31 u32 u33 u34 u35 u36 u37 u38 u39 u40 u41 u42 u43 u44 fun l next fb g w3 hfin had => ?_
  refine fin_tail (show vF ≠ Cf by omega) (fun h => h.elim (fun h => by have := hZ _ h; omega) fun h => by have : vF = Wg := h; omega) hfin had.cf fun W w4 hbut hW todo => ?_
  obtain ⟨r1, r2, r3⟩ := foldl_min fb l
  have hlM : l ≤ M := by
    have h1 : next ≤ M := had.nextM
    rcases had.least with ⟨h, _⟩ | ⟨h, _⟩
    · exact Nat.le_of_eq h
    · omega
  have hnx : ∀ p, p < M → p ≤ fb.foldl min l → p < next := fun p hp hle => by
    rcases had.least with ⟨_, h⟩ | ⟨h, _⟩
    · have : next = M := h
      omega
    · omega
  have mkc : mk w2 ≠ Cf := hNums.m4
  have hk := had.base
  refine hS Wg _ w4 ⟨by omega, ?_, by omega, fun h => ?_, fun p hp => ?_, fun p hp hle => ?_, ?_, ?_, fun c hc hcm => ?_, hbut.tape.trans (hk.tape.trans hol.tape), hbut.os.trans (hk.os.trans hol.os), hbut.output.trans (hk.output.trans hol.output)⟩ W todo hW
  · rw [hbut.size, hk.size]; exact hWg
  · rcases r3 with e | e
    · rcases had.least with ⟨h1, _⟩ | ⟨_, h2⟩
      · have : l = M := h1
        omega
      · rw [e]; exact h2
    · exact (had.fbok _ e).2
  · cases hb : b p with
    | false => rfl
    | true =>
      exfalso
      rcases (had.fin p (hnx p (by omega) (by omega))).2 hb with h | h
      · have := r2 p h; omega
      · omega
  · exact doneOf w2 hol p w3 w4 (hbut.block _ mkc) (had.fin p (hnx p hp hle)).1
  · exact qOf w2 hol w3 w4 (hbut.block _ mkc) had.q
  · rw [hbut.size, hk.size]; exact hsz
  · rw [hbut.block c (show c ≠ Cf by omega), hk.block c (show c ≠ Wg by omega) (show c ≠ Cp by omega) (show c ≠ Cs by omega) (show c ≠ Cf by omega) (hcm w2 hol)]
    exact hol.block c hc
end
end Go.Proofs.Ytbckmkppmdfnnaa.Crew
