/- crew: First, whole. Made by wip/tools/crew/mkAq.py. -/
import Derived.Test.YtbckmkppmdfnnaaCrAp
namespace Go.Proofs.Ytbckmkppmdfnnaa.Crew
open Go.Conc Go.RowKit Go.Conc.Lib Go.ConcR.Gen
section
variable {Z : Nat → Prop} {cs : List Frame} {Stop : (Nat → Prop) → Goroutine → World → Prop}
set_option maxRecDepth 100000 in
theorem First_br {oa : Option Addr} {len cap f : Nat} {wk : Int} {cp : Array Value} {xs : Nat → Int} {φ : Int → Bool} {w0 : World} (hZ : ∀ c, Z c → c < w0.heap.size) (hM : len ≤ 9223372036854775807) (hL : Lists w0 Z oa len xs)
    (hv : ∀ w Mk, Olds w0 w → w.heap.size ≤ Mk → OldFun w Z Mk (.func (.func f) #[] cp) (fun x => .bool (φ x)))
    (hS : ∀ (Wg r : Nat) (w' : World), Least (fun p => φ (xs p)) len r → w0.heap.size ≤ Wg → Wg < w'.heap.size → Olds w0 w' → ∀ (W : Array Value) (todo : List Item), W.getD 6 undef = res len r → BR Try.prog Stop (fun x => Z x ∨ x = Wg) (G { (base 13).at ⟨W, []⟩ todo with mode := .returning } cs) w') :
    BR Try.prog Stop Z (G ((base 13).at ⟨#[.slice oa len cap, .int .i64 wk, .func (.func f) #[] cp, undef, undef, undef, undef, undef, undef, undef, undef, undef, undef, undef], []⟩ [.code body13]) cs) w0 := by
  refine BR.of_goes (first13_a (Stop := fun g w => BR Try.prog Stop Z g w) hZ fun w tb ib u0 u1 u2 u4 u7 u8 u9 u10 u11 u12 u13 z1 z2 hbt => ?_)
  have hol := hbt.olds
  have lib := hbt.lt (ib, .cells #[.func (.func f) #[] cp] 30) (by simp)
  have ltb := hbt.lt (tb, .cells #[.slice oa len cap] 29) (by simp)
  dsimp only at lib ltb
  refine first_called (fun c h => Nat.lt_of_lt_of_le (hZ c h) hol.size) hM (hL.olds hol) (hbt.cell (c := ib) (u := .func (.func f) #[] cp) (ty := 30) (by simp)) (hbt.cell (c := tb) (u := .slice oa len cap) (ty := 29) (by simp)) ⟨lib, fun h => by have := hZ _ h; omega⟩ ⟨ltb, fun h => by have := hZ _ h; omega⟩ (fun Mk hMk => hv w Mk hol hMk) fun Wg r w' hle g1 g2 ho W todo hW => ?_
  have T := termsZ (fun x => Z x ∨ x = Wg)
  have hsz := hol.size
  have hF : Olds w0 w' ∧ Wg < w'.heap.size := ⟨hol.trans ho, g2⟩
  have st : ∀ {x y : World}, Olds w0 x ∧ Wg < x.heap.size → AtRel x y → Olds w0 y ∧ Wg < y.heap.size := fun h k => ⟨h.1.at k, by obtain ⟨d, rfl⟩ := k; exact h.2⟩
  refine BR.of_goes (n := 8) ?_
  simp only [ops13, body13, Try.f13, Option.getD_some]
  refine Goes.step rfl (fun _ h₁ => ?_)
  replace hF := st hF h₁
  clear h₁
  refine goes_leave1 rfl rfl Try.func29 rfl ⟨T.idle _, ?_⟩
  rw [hW]
  walk_nrm
  refine Goes.step rfl (fun _ h₁ => ?_)
  replace hF := st hF h₁
  clear h₁
  refine goes_oper_k rfl rfl (by k_ne) (fun κ hκ => ?_)
  go_simp
  refine hκ _ _ ⟨idle_of T (fun e he => ?_), ?_⟩
  · have hm := mem_listed he
    simp [go_sem] at hm
  clear hκ κ
  refine Goes.step rfl (fun _ h₁ => ?_)
  replace hF := st hF h₁
  clear h₁
  rw [stepG_region_end]
  simp only [goes_go]
  refine ⟨T.idle _, ?_⟩
  refine Goes.step rfl (fun _ h₁ => ?_)
  replace hF := st hF h₁
  clear h₁
  rw [stepG_ret']
  simp only [goes_go]
  refine ⟨T.idle _, ?_⟩
  exact Goes.stop fun w₁ h₁ => hS Wg r w₁ hle (by omega) (st hF h₁).2 (st hF h₁).1 _ _ (by simp)
end
end Go.Proofs.Ytbckmkppmdfnnaa.Crew
