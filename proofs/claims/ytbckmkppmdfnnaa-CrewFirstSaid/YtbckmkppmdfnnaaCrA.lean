/- crew: calls of closures in company; what a worker sees. -/
import Derived.Test.YtbckmkppmdfnnaaCrS
import Derived.Test.YtbckmkppmdfnnaaCrL
import Derived.Conc.CompanyWords
namespace Go.Proofs.Ytbckmkppmdfnnaa.Crew
open Go.Conc Go.RowKit Go.Conc.Lib

section
variable {P : Program} {main : Bool} {R : World → World → Prop} {D : World → World → Array Event → Prop}
theorem run_callF {a : Act} {w : World} {o : Oper} {x : Operand} {f : FuncId} {cap : Array Value} {fn : Func} {args : Array Operand} {ats : Array TypeId} (hop : o.op = .call { callee := .value x, args, argTypes := ats }) (hx : a.eval x = .func (.func f) #[] cap)
    (hf : P.funcs[f]? = some fn) (hname : (fn.name == "runtime.NumGoroutine") = false) (hb : fn.body.isNone = false) : (execOp a.eval o).run P w = .ok (.enter f (args.map a.eval ++ cap)) w ∧ (execOp a.eval o).events P w #[] = #[] := by
  have h1 : ¬ fn.name = "runtime.NumGoroutine" := by simpa using hname
  have h2 : ¬ fn.body = none := by cases hx : fn.body <;> simp_all
  unfold execOp
  constructor <;> simp [hop, resolve, Deferred.ofValue, invoke, callFunc, hf, h1, h2, hx]

/-- A function value's contract in company. -/
def CallsV (P : Program) (main : Bool) (R : World → World → Prop) (D : World → World → Array Event → Prop) (v : Value) (args : Array Value) (n : Nat) (w : World) (Post : Value → World → Prop) : Prop :=
  ∃ f cap, v = .func (.func f) #[] cap ∧ CallsC P main R D f (args ++ cap) n w Post

theorem Goes.callV (T : Terms R D) {b : Frame} {a : Act} {k : List Item} {cs : List Frame} {w : World} {ops : Array Oper} {i : Nat} {rest : List Nat} {o : Oper} {x : Operand} {args : Array Operand} {ats : Array TypeId}
    {nf m : Nat} {Post : Value → World → Prop} {Stop : Goroutine → World → Prop}
    (ho : ops[i]? = some o) (hw : Region.wanted o (yielded ops a.tmps) = true) (hk : b.kind ≠ .early) (hop : o.op = .call { callee := .value x, args, argTypes := ats })
    (hcall : CallsV P main R D (a.eval x) (args.map a.eval) nf w Post)
    (hnext : ∀ v w', Post v w' → Goes P main R D Stop m (G (b.at (a.put o.dst v) (.inRegion ops rest :: k)) cs) w') :
    Goes P main R D Stop (m + nf + 3) (G (b.at a (.inRegion ops (i :: rest) :: k)) cs) w := by
  obtain ⟨f, cap, hx, fn, c, hf, hname, hbody, hwp⟩ := hcall
  have hb' : fn.body.isNone = false := by rw [hbody]; rfl
  have hfin : ∀ v, (b.at a (.inRegion ops (i :: rest) :: k)).finish v = b.at (a.put o.dst v) (.inRegion ops rest :: k) := fun v => by rw [Frame.finish_at, ho]; rfl
  have hleave : ∀ (a' : Act) (w' : World) (todo : List Item), (a'.defers = [] ∧ ∃ v, ResultsC P fn a'.tmps v ∧ Post v w') →
      Goes P main R D Stop (m + 1) (G { (base f).at a' todo with mode := .returning } (b.at a (.inRegion ops (i :: rest) :: k) :: cs)) w' := by
    rintro a' w' todo ⟨hd, v, hr, hp⟩
    refine Goes.step rfl fun w₁ h₁ => ?_
    rw [stepG_leave (b := base f) rfl hd hf (hr w₁).1 (hr w₁).2, hfin]
    exact ⟨T.idle _, (hnext v w' hp).rely T.trans h₁⟩
  have hbodyG : Goes P main R D Stop (m + 2 + nf) (G ((base f).at { tmps := (args.map a.eval ++ cap) ++ Array.replicate (fn.ntmps - (args.map a.eval ++ cap).size) undef, defers := [] } [.code c]) (b.at a (.inRegion ops (i :: rest) :: k) :: cs)) w := by
    refine hwp (base f) [] _ Stop (m + 2) rfl (by simp [base]) fun e a' w' q => ?_
    cases e with
    | normal => exact Goes.step rfl fun w₁ h₁ => by rw [stepG_end]; exact ⟨T.idle _, (hleave a' w' [] q).rely T.trans h₁⟩
    | ret => exact fun todo => (hleave a' w' todo q).more
    | exit id => exact q.elim
    | goto l => exact q.elim
    | panic ch => exact q.elim
    | outgrown => exact q.elim
  have e : m + nf + 3 = (m + 2 + nf) + 1 := by omega
  rw [e]
  refine Goes.step rfl fun w₁ h₁ => ?_
  have hr := run_callF (P := P) (a := a) (w := w₁) hop hx hf hname hb'
  rw [stepG_enter ho hw hk hr.1, enter_at _ hf hbody]
  have : listed P b.fn a o w₁ = #[] := by unfold listed; rw [hr.2]; exact seen_none P _
  rw [this]
  exact ⟨T.idle _, hbodyG.rely T.trans h₁⟩

theorem opsC_callV (T : Terms R D) {fn : FuncId} {Q : Exit → Act → World → Prop} {a : Act} {w : World} {ops : Array Oper} {i : Nat} {rest : List Nat} {o : Oper} {x : Operand} {args : Array Operand} {ats : Array TypeId} {nf n : Nat} {Post : Value → World → Prop}
    (ho : ops[i]? = some o) (hw : Region.wanted o (yielded ops a.tmps) = true) (hop : o.op = .call { callee := .value x, args, argTypes := ats })
    (hcall : CallsV P main R D (a.eval x) (args.map a.eval) nf w Post) (hnext : ∀ v w', Post v w' → OpsC P main R D fn ops rest n Q (a.put o.dst v) w') : OpsC P main R D fn ops (i :: rest) (n + nf + 3) Q a w := by
  intro b k cs Stop m hb hk hc
  have := Goes.callV (Stop := Stop) (m := m + n) (b := b) (k := k) (cs := cs) T ho hw hk hop hcall fun v w' hp => hnext v w' hp b k cs Stop m hb hk hc
  exact this.mono (by omega)
end

section
variable {X : Base}
theorem Put.refl (X : Base) (p : Nat) (w : World) : Put X p w w := ⟨rfl, rfl, rfl, rfl, fun _ _ => rfl, id, fun _ => id⟩
theorem terms0 (X : Base) : Terms (K X) (DW0 X) := ⟨K.tr, fun _ => ⟨rfl, by simp⟩⟩
theorem termsP (X : Base) (p : Nat) : Terms (K X) (DWp X p) := ⟨K.tr, fun w => ⟨Put.refl X p w, by simp⟩⟩
theorem termsM (X : Base) : Terms (K X) (DM X) := ⟨K.tr, fun _ => ⟨rfl, by simp⟩⟩
/-- A block that nobody turns in this phase. -/
def Base.Calm (X : Base) (b : Nat) : Prop := b ≠ X.Wg ∧ b ≠ X.Cp ∧ b ≠ X.Cs ∧ b ≠ X.Cf ∧ b ≠ X.Mk
theorem K.cell {w w₁ : World} (k : K X w w₁) {a : Addr} {v : Value} (hb : X.Calm a.block) (h : w.cell? a = some v) : w₁.cell? a = some v :=
  (World.cell?_of_block (k.block _ hb.1 hb.2.1 hb.2.2.1 hb.2.2.2.1 hb.2.2.2.2)).trans h
end
end Go.Proofs.Ytbckmkppmdfnnaa.Crew
