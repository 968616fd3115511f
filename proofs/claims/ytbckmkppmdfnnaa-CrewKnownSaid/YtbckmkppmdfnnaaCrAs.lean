/- crew: walking beside goroutines that only leave, in whatever world they leave it: moves of control, operations, calls. -/
import Derived.Test.YtbckmkppmdfnnaaCrAr
namespace Go.Proofs.Ytbckmkppmdfnnaa.Crew
open Go.Conc Go.RowKit Go.Conc.Lib Go.ConcR.Gen
/-- As BR, from whatever world the others' steps make of it. -/
def BA (Stop : (Nat → Prop) → Goroutine → World → Prop) (Z : Nat → Prop) (a : Goroutine) (w : World) : Prop := ∀ w₁, AtRel w w₁ → BR Try.prog Stop Z a w₁
section
variable {Stop : (Nat → Prop) → Goroutine → World → Prop} {Z : Nat → Prop} {g : Goroutine} {w : World} {b : Frame} {a : Act} {k : List Item} {cs : List Frame}
theorem BA.br (h : BA Stop Z g w) : BR Try.prog Stop Z g w := h w (atRel_refl w)
theorem BA.at {w₁ : World} (h : BA Stop Z g w) (r : AtRel w w₁) : BA Stop Z g w₁ := fun w₂ r' => h w₂ (atRel_trans _ _ _ r r')
theorem BA.stop (h : ∀ w₁, AtRel w w₁ → Stop Z g w₁) : BA Stop Z g w := fun w₁ r => .stop (h w₁ r)
theorem BA.goes {n : Nat} (h : ∀ w₁, AtRel w w₁ → Goes Try.prog true AtRel (DZ Z) (fun g w => BR Try.prog Stop Z g w) n g w₁) : BA Stop Z g w := fun w₁ r => BR.of_goes (h w₁ r)
theorem BA.step (hrun : g.status = .running) (h : ∀ w₁, AtRel w w₁ → (stepG Try.prog true g w₁).goes fun g' w' es => (∀ e ∈ es, EvC Z e) ∧ BA Stop Z g' w') : BA Stop Z g w :=
  fun w₁ r => BR.step hrun fun w₂ r' => by
    have := h w₂ (atRel_trans _ _ _ r r')
    revert this
    cases stepG Try.prog true g w₂ with
    | go g' w' es => exact fun ⟨d, x⟩ => ⟨d, x.br⟩
    | _ => exact id
theorem BA.ctl {g' : Goroutine} (hrun : g.status = .running) (h : BA Stop Z g' w) (hs : ∀ w₁, stepG Try.prog true g w₁ = .go g' w₁ #[]) : BA Stop Z g w :=
  BA.step hrun fun w₁ r => by
    rw [hs w₁]
    exact ⟨by simp, h.at r⟩
theorem BA.seq {x y : Code} (h : BA Stop Z (G (b.at a (.code x :: .code y :: k)) cs) w) : BA Stop Z (G (b.at a (.code (.seq x y) :: k)) cs) w := BA.ctl rfl h fun _ => stepG_seq
theorem BA.skip (h : BA Stop Z (G (b.at a k) cs) w) : BA Stop Z (G (b.at a (.code .skip :: k)) cs) w := BA.ctl rfl h fun _ => stepG_skip
theorem BA.block {id : Nat} {c : Code} (h : BA Stop Z (G (b.at a (.code c :: .inBlock id :: k)) cs) w) : BA Stop Z (G (b.at a (.code (.block id c) :: k)) cs) w := BA.ctl rfl h fun _ => stepG_block
theorem BA.inBlock {id : Nat} (h : BA Stop Z (G (b.at a k) cs) w) : BA Stop Z (G (b.at a (.inBlock id :: k)) cs) w := BA.ctl rfl h fun _ => stepG_inBlock
theorem BA.loop {c : Code} (h : BA Stop Z (G (b.at a (.code c :: .inLoop c :: k)) cs) w) : BA Stop Z (G (b.at a (.code (.loop c) :: k)) cs) w := BA.ctl rfl h fun _ => stepG_loop
theorem BA.inLoop {c : Code} (h : BA Stop Z (G (b.at a (.code c :: .inLoop c :: k)) cs) w) : BA Stop Z (G (b.at a (.inLoop c :: k)) cs) w := BA.ctl rfl h fun _ => stepG_inLoop
theorem BA.exit {id : Nat} {k' : List Item} (he : exitTo id k = some k') (h : BA Stop Z (G (b.at a k') cs) w) : BA Stop Z (G (b.at a (.code (.exit id) :: k)) cs) w := BA.ctl rfl h fun _ => stepG_exit he
theorem BA.ret (h : BA Stop Z (G { b.at a (.code .ret :: k) with mode := .returning } cs) w) : BA Stop Z (G (b.at a (.code .ret :: k)) cs) w := BA.ctl rfl h fun _ => stepG_ret'
theorem BA.reg {id : Nat} {ops : Array Oper} (h : BA Stop Z (G (b.at a (.inRegion ops (List.range ops.size) :: k)) cs) w) : BA Stop Z (G (b.at a (.code (.region id ops false) :: k)) cs) w := BA.ctl rfl h fun _ => stepG_region
theorem BA.regEnd {ops : Array Oper} (h : BA Stop Z (G (b.at a k) cs) w) : BA Stop Z (G (b.at a (.inRegion ops [] :: k)) cs) w := BA.ctl rfl h fun _ => stepG_region_end
theorem BA.condT {c : Operand} {x y : Code} (hc : a.eval c = .bool true) (h : BA Stop Z (G (b.at a (.code x :: k)) cs) w) : BA Stop Z (G (b.at a (.code (.cond c x y) :: k)) cs) w := BA.ctl rfl h fun _ => by rw [stepG_cond (t := true) hc]; rfl
theorem BA.condF {c : Operand} {x y : Code} (hc : a.eval c = .bool false) (h : BA Stop Z (G (b.at a (.code y :: k)) cs) w) : BA Stop Z (G (b.at a (.code (.cond c x y) :: k)) cs) w := BA.ctl rfl h fun _ => by rw [stepG_cond (t := false) hc]; rfl
theorem BA.unwanted {ops : Array Oper} {i : Nat} {rest : List Nat} {o : Oper} (ho : ops[i]? = some o) (hw : Region.wanted o (yielded ops a.tmps) = false) (h : BA Stop Z (G (b.at (a.put o.dst undef) (.inRegion ops rest :: k)) cs) w) :
    BA Stop Z (G (b.at a (.inRegion ops (i :: rest) :: k)) cs) w := BA.ctl rfl h fun _ => stepG_unwanted ho hw
/-- An operation that turns nothing. -/
theorem BA.op {ops : Array Oper} {i : Nat} {rest : List Nat} {o : Oper} (ho : ops[i]? = some o) (hw : Region.wanted o (yielded ops a.tmps) = true) (hk : b.kind ≠ .early)
    (h : ∀ w₁, AtRel w w₁ → ∀ K : Act → World → Prop, (∀ a₁, (∀ e ∈ listed Try.prog b.fn a o w₁, EvC Z e) → BA Stop Z (G (b.at a₁ (.inRegion ops rest :: k)) cs) w → K a₁ w₁) → uponK o a K ((execOp a.eval o).run Try.prog w₁)) :
    BA Stop Z (G (b.at a (.inRegion ops (i :: rest) :: k)) cs) w :=
  BA.step rfl fun w₁ r => goes_oper_k ho hw hk fun K hK => h w₁ r K fun _ he hb => hK _ _ ⟨he, hb.at r⟩
/-- An operation that turns the world into another one. -/
theorem BA.value {ops : Array Oper} {i : Nat} {rest : List Nat} {o : Oper} {v : Value} {w' : World} (ho : ops[i]? = some o) (hw : Region.wanted o (yielded ops a.tmps) = true) (hk : b.kind ≠ .early)
    (hr : ∀ d, (execOp a.eval o).run Try.prog (w.at d) = .ok (.value v) (w'.at d)) (he : ∀ d, ∀ e ∈ (execOp a.eval o).events Try.prog (w.at d) #[], EvC Z e)
    (h : BA Stop Z (G (b.at (a.put o.dst v) (.inRegion ops rest :: k)) cs) w') : BA Stop Z (G (b.at a (.inRegion ops (i :: rest) :: k)) cs) w :=
  BA.step rfl fun w₁ r => by
    obtain ⟨d, rfl⟩ := r
    rw [stepG_value ho hw hk (hr d)]
    exact ⟨fun e h => he d e (mem_listed h), h.at ⟨d, rfl⟩⟩
theorem BA.skips {ops : Array Oper} {i : Nat} {rest : List Nat} {o : Oper} {w' : World} (ho : ops[i]? = some o) (hw : Region.wanted o (yielded ops a.tmps) = true) (hk : b.kind ≠ .early)
    (hr : ∀ d, (execOp a.eval o).run Try.prog (w.at d) = .ok .skip (w'.at d)) (he : ∀ d, ∀ e ∈ (execOp a.eval o).events Try.prog (w.at d) #[], EvC Z e)
    (h : BA Stop Z (G (b.at (a.put o.dst undef) (.inRegion ops rest :: k)) cs) w') : BA Stop Z (G (b.at a (.inRegion ops (i :: rest) :: k)) cs) w :=
  BA.step rfl fun w₁ r => by
    obtain ⟨d, rfl⟩ := r
    rw [stepG_none ho hw hk (hr d)]
    exact ⟨fun e h => he d e (mem_listed h), h.at ⟨d, rfl⟩⟩
/-- A call's contract: beside goroutines that only leave it comes back, with this answer and world, and these blocks shunned. -/
def CB (f : FuncId) (args : Array Value) (Z : Nat → Prop) (w : World) (Post : (Nat → Prop) → Value → World → Prop) : Prop :=
  ∃ fn c, Try.prog.funcs[f]? = some fn ∧ (fn.name == "runtime.NumGoroutine") = false ∧ fn.body = some c ∧ ∀ (Stop : (Nat → Prop) → Goroutine → World → Prop) (b₀ : Frame) (a₀ : Act) (ops : Array Oper) (i : Nat) (rest : List Nat) (k : List Item) (cs : List Frame),
    (∀ Z' v w', Post Z' v w' → BA Stop Z' (G (b₀.at (a₀.put ((ops[i]?).bind (·.dst)) v) (.inRegion ops rest :: k)) cs) w') →
    BA Stop Z (G ((base f).at ⟨args ++ Array.replicate (fn.ntmps - args.size) undef, []⟩ [.code c]) (b₀.at a₀ (.inRegion ops (i :: rest) :: k) :: cs)) w
theorem CB.mono {f : FuncId} {args : Array Value} {Post Post' : (Nat → Prop) → Value → World → Prop} (h : CB f args Z w Post) (hp : ∀ Z' v w', Post Z' v w' → Post' Z' v w') : CB f args Z w Post' := by
  obtain ⟨fn, c, h1, h2, h3, h4⟩ := h
  exact ⟨fn, c, h1, h2, h3, fun Stop b₀ a₀ ops i rest k cs hn => h4 Stop b₀ a₀ ops i rest k cs fun Z' v w' p => hn Z' v w' (hp _ _ _ p)⟩
theorem BA.call {ops : Array Oper} {i : Nat} {rest : List Nat} {o : Oper} {f : FuncId} {args : Array Operand} {ats : Array TypeId} {Post : (Nat → Prop) → Value → World → Prop} (ho : ops[i]? = some o) (hw : Region.wanted o (yielded ops a.tmps) = true) (hk : b.kind ≠ .early)
    (hop : o.op = .call { callee := .value (.func f), args, argTypes := ats }) (hc : CB f (args.map a.eval) Z w Post) (hn : ∀ Z' v w', Post Z' v w' → BA Stop Z' (G (b.at (a.put o.dst v) (.inRegion ops rest :: k)) cs) w') :
    BA Stop Z (G (b.at a (.inRegion ops (i :: rest) :: k)) cs) w := by
  obtain ⟨fn, c, h1, h2, h3, h4⟩ := hc
  refine BA.step rfl fun w₁ r => goes_call ho hw hk hop h1 h2 h3 ⟨by simp, ?_⟩
  refine (h4 Stop b a ops i rest k cs fun Z' v w' p => ?_).at r
  rw [ho]
  exact hn Z' v w' p
theorem BA.callV {ops : Array Oper} {i : Nat} {rest : List Nat} {o : Oper} {x : Operand} {f : FuncId} {cap : Array Value} {args : Array Operand} {ats : Array TypeId} {Post : (Nat → Prop) → Value → World → Prop} (ho : ops[i]? = some o) (hw : Region.wanted o (yielded ops a.tmps) = true) (hk : b.kind ≠ .early)
    (hop : o.op = .call { callee := .value x, args, argTypes := ats }) (hx : a.eval x = .func (.func f) #[] cap) (hc : CB f (args.map a.eval ++ cap) Z w Post) (hn : ∀ Z' v w', Post Z' v w' → BA Stop Z' (G (b.at (a.put o.dst v) (.inRegion ops rest :: k)) cs) w') :
    BA Stop Z (G (b.at a (.inRegion ops (i :: rest) :: k)) cs) w := by
  obtain ⟨fn, c, h1, h2, h3, h4⟩ := hc
  refine BA.step rfl fun w₁ r => ?_
  have hb' : fn.body.isNone = false := by rw [h3]; rfl
  have hr := run_callF (P := Try.prog) (a := a) (w := w₁) hop hx h1 h2 hb'
  rw [stepG_enter ho hw hk hr.1, enter_at _ h1 h3]
  have : listed Try.prog b.fn a o w₁ = #[] := by unfold listed; rw [hr.2]; exact seen_none _ _
  rw [this]
  refine ⟨by simp, (h4 Stop b a ops i rest k cs fun Z' v w' p => ?_).at r⟩
  rw [ho]
  exact hn Z' v w' p
/-- The return of one value. -/
theorem BA.leave1 {f : FuncId} {fn : Func} {t : Tmp} {W : Array Value} {todo : List Item} {b₀ : Frame} {a₀ : Act} {ops : Array Oper} {i : Nat} {rest : List Nat} (hf : Try.prog.funcs[f]? = some fn) (hr : fn.results = #[.tmp t])
    (h : BA Stop Z (G (b₀.at (a₀.put ((ops[i]?).bind (·.dst)) (W.getD t undef)) (.inRegion ops rest :: k)) cs) w) : BA Stop Z (G { (base f).at ⟨W, []⟩ todo with mode := .returning } (b₀.at a₀ (.inRegion ops (i :: rest) :: k) :: cs)) w :=
  BA.step rfl fun w₁ r => goes_leave1 rfl rfl hf hr ⟨by simp, h.at r⟩
theorem BA.leave2 {f : FuncId} {fn : Func} {t u : Tmp} {W : Array Value} {todo : List Item} {b₀ : Frame} {a₀ : Act} {ops : Array Oper} {i : Nat} {rest : List Nat} (hf : Try.prog.funcs[f]? = some fn) (hr : fn.results = #[.tmp t, .tmp u])
    (h : BA Stop Z (G (b₀.at (a₀.put ((ops[i]?).bind (·.dst)) (.tuple #[W.getD t undef, W.getD u undef])) (.inRegion ops rest :: k)) cs) w) : BA Stop Z (G { (base f).at ⟨W, []⟩ todo with mode := .returning } (b₀.at a₀ (.inRegion ops (i :: rest) :: k) :: cs)) w :=
  BA.step rfl fun w₁ r => goes_leave2 rfl rfl hf hr ⟨by simp, h.at r⟩
/-- A contract in company of nobody who turns anything. -/
theorem CB.ofC {f : FuncId} {args : Array Value} {n : Nat} {Post : Value → World → Prop} (h : ∀ w₁, AtRel w w₁ → CallsC Try.prog true AtRel (DZ Z) f args n w₁ (fun v w' => Post v w' ∧ AtRel w₁ w')) : CB f args Z w (fun Z' v w' => Z' = Z ∧ Post v w' ∧ AtRel w w') := by
  obtain ⟨fn, c, h1, h2, h3, _⟩ := h w (atRel_refl w)
  refine ⟨fn, c, h1, h2, h3, fun Stop b₀ a₀ ops i rest k cs hn => BA.goes (n := 2 + n) fun w₁ r => ?_⟩
  obtain ⟨fn', c', e1, e2, e3, hwp⟩ := h w₁ r
  obtain rfl : fn = fn' := Option.some.inj (h1.symm.trans e1)
  obtain rfl : c = c' := Option.some.inj (h3.symm.trans e3)
  have T := termsZ Z
  have hleave : ∀ (a' : Act) (w' : World) (todo : List Item), (a'.defers = [] ∧ ∃ v, ResultsC Try.prog fn a'.tmps v ∧ Post v w' ∧ AtRel w₁ w') →
      Goes Try.prog true AtRel (DZ Z) (fun g w => BR Try.prog Stop Z g w) 1 (G { (base f).at a' todo with mode := .returning } (b₀.at a₀ (.inRegion ops (i :: rest) :: k) :: cs)) w' := by
    rintro a' w' todo ⟨hd, v, hr, hp, hq⟩
    refine Goes.step rfl fun w₂ h₂ => ?_
    rw [stepG_leave (b := base f) rfl hd h1 (hr w₂).1 (hr w₂).2, Frame.finish_at]
    refine ⟨T.idle _, Goes.stop fun w₃ h₃ => ?_⟩
    exact hn Z v w' ⟨rfl, hp, atRel_trans _ _ _ r hq⟩ w₃ (atRel_trans _ _ _ h₂ h₃)
  refine hwp (base f) [] _ _ 2 rfl (by simp [base]) fun e a' w' q => ?_
  cases e with
  | normal => exact Goes.step rfl fun w₁ h₁ => by rw [stepG_end]; exact ⟨T.idle _, (hleave a' w' [] q).rely T.trans h₁⟩
  | ret => exact fun todo => (hleave a' w' todo q).more
  | exit id => exact q.elim
  | goto l => exact q.elim
  | panic ch => exact q.elim
  | outgrown => exact q.elim
end
theorem cell_atR {w w₁ : World} (r : AtRel w w₁) {a : Addr} {v : Value} (h : w.cell? a = some v) : w₁.cell? a = some v := by obtain ⟨d, rfl⟩ := r; exact h
/-- What a call leaves: old blocks as they were; of old blocks no more are shunned. -/
structure Ext (Z Z' : Nat → Prop) (w w' : World) : Prop where
  olds : Olds w w'
  zlt : ∀ c, Z' c → c < w'.heap.size
  znew : ∀ c, c < w.heap.size → Z' c → Z c
theorem Ext.refl {Z : Nat → Prop} {w : World} (hZ : ∀ c, Z c → c < w.heap.size) : Ext Z Z w w := ⟨Olds.refl w, hZ, fun _ _ h => h⟩
theorem Ext.trans {Z Z' Z'' : Nat → Prop} {w w' w'' : World} (h : Ext Z Z' w w') (k : Ext Z' Z'' w' w'') : Ext Z Z'' w w'' :=
  ⟨h.olds.trans k.olds, k.zlt, fun c hc hz => h.znew c hc (k.znew c (Nat.lt_of_lt_of_le hc h.olds.size) hz)⟩
theorem Ext.alloc {Z Z' : Nat → Prop} {w w' : World} (h : Ext Z Z' w w') (o : Obj) : Ext Z Z' w (w'.alloc o) :=
  ⟨h.olds.alloc, fun c hc => by have := h.zlt c hc; rw [heap_al, Array.size_push]; omega, h.znew⟩
theorem Ext.at {Z Z' : Nat → Prop} {w w' w'' : World} (h : Ext Z Z' w w') (r : AtRel w' w'') : Ext Z Z' w w'' :=
  ⟨h.olds.at r, fun c hc => by obtain ⟨d, rfl⟩ := r; exact h.zlt c hc, h.znew⟩
theorem Ext.wg {Z : Nat → Prop} {w w' : World} {Wg : Nat} (hZ : ∀ c, Z c → c < w.heap.size) (ho : Olds w w') (h1 : w.heap.size ≤ Wg) (h2 : Wg < w'.heap.size) : Ext Z (fun x => Z x ∨ x = Wg) w w' :=
  ⟨ho, fun c hc => hc.elim (fun h => Nat.lt_of_lt_of_le (hZ c h) ho.size) (fun h => h ▸ h2), fun c hc hz => hz.elim id fun h => by omega⟩
/-- What is held of a world: these blocks, none of them shunned. -/
structure Held (Z : Nat → Prop) (l : List (Nat × Obj)) (w : World) : Prop where
  has : ∀ p ∈ l, w.heap[p.1]? = some p.2
  clean : ∀ p ∈ l, ¬ Z p.1
  zlt : ∀ c, Z c → c < w.heap.size
theorem Held.start {Z : Nat → Prop} {w : World} (hZ : ∀ c, Z c → c < w.heap.size) : Held Z [] w := ⟨by simp, by simp, hZ⟩
theorem Held.lt {Z : Nat → Prop} {l : List (Nat × Obj)} {w : World} (h : Held Z l w) : ∀ p ∈ l, p.1 < w.heap.size := fun p hp => lt_of (h.has p hp)
theorem Held.alloc {Z : Nat → Prop} {l : List (Nat × Obj)} {w : World} (h : Held Z l w) (o : Obj) : Held Z ((w.heap.size, o) :: l) (w.alloc o) :=
  ⟨fun p hp => (List.mem_cons.1 hp).elim (fun e => by rw [e]; exact new_alloc _ _) fun hp => keep_alloc (h.has p hp),
   fun p hp hz => (List.mem_cons.1 hp).elim (fun e => by rw [e] at hz; have := h.zlt _ hz; dsimp only at this; omega) fun hp => h.clean p hp hz,
   fun c hc => by have := h.zlt c hc; rw [heap_al, Array.size_push]; omega⟩
theorem Held.ext {Z Z' : Nat → Prop} {l : List (Nat × Obj)} {w w' : World} (h : Held Z l w) (k : Ext Z Z' w w') : Held Z' l w' :=
  ⟨fun p hp => (k.olds.block p.1 (h.lt p hp)).trans (h.has p hp), fun p hp hz => h.clean p hp (k.znew _ (h.lt p hp) hz), k.zlt⟩
theorem Held.cell {Z : Nat → Prop} {l : List (Nat × Obj)} {w : World} (h : Held Z l w) {c : Nat} {u : Value} {ty : TypeId} (hm : (c, Obj.cells #[u] ty) ∈ l) : w.cell? ⟨c, 0, none⟩ = some u := by
  have := h.has _ hm
  simp [World.cell?, this]
theorem Held.drop {Z : Nat → Prop} {p : Nat × Obj} {l : List (Nat × Obj)} {w : World} (h : Held Z (p :: l) w) : Held Z l w := ⟨fun q hq => h.has q (List.mem_cons_of_mem _ hq), fun q hq => h.clean q (List.mem_cons_of_mem _ hq), h.zlt⟩
theorem Lists.ext {Z Z' : Nat → Prop} {w w' : World} {oa : Option Addr} {len : Nat} {xs : Nat → Int} (h : Lists w Z oa len xs) (k : Ext Z Z' w w') : Lists w' Z' oa len xs :=
  ⟨h.one, fun a0 p e hp => let ⟨h1, h2, h3⟩ := h.el a0 p e hp; ⟨olds_cell k.olds h2 h1, Nat.lt_of_lt_of_le h2 k.olds.size, fun hz => h3 (k.znew _ h2 hz)⟩⟩
/-- A function value over one captured cell. -/
structure FunAt (w : World) (Z : Nat → Prop) (f : FuncId) (kb : Nat) (u : Value) : Prop where
  cell : w.cell? ⟨kb, 0, none⟩ = some u
  lt : kb < w.heap.size
  clean : ¬ Z kb
theorem FunAt.ext {Z Z' : Nat → Prop} {w w' : World} {f : FuncId} {kb : Nat} {u : Value} (h : FunAt w Z f kb u) (k : Ext Z Z' w w') : FunAt w' Z' f kb u :=
  ⟨olds_cell k.olds h.lt h.cell, Nat.lt_of_lt_of_le h.lt k.olds.size, fun hz => h.clean (k.znew _ h.lt hz)⟩
end Go.Proofs.Ytbckmkppmdfnnaa.Crew
