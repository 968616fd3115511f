/- crew: a crew at work: what is asked of the starter and of each worker, and who may stand where. -/
import Derived.Test.YtbckmkppmdfnnaaCrX
import Derived.Test.YtbckmkppmdfnnaaCrT
import Derived.Conc.CrowdSel
namespace Go.Proofs.Ytbckmkppmdfnnaa.Crew
open Go.Conc Go.RowKit Go.Conc.Lib
open Go.ConcN (WgLive WD Mode CTag)
open Go.ConcR (KK wgBlock WgAt stA smA rd wr mk Payload DC0)

structure Base where
  P : Program
  ty : TypeId
  Wg : Nat
  Cp : Nat
  Cs : Nat
  Cf : Nat
  Mk : Nat
  n : Nat
  M : Nat
  zs : Value
  L : Lands
  b : Nat → Bool
  Q : World → Prop
  Done : Nat → World → Prop
  w0 : World
structure Cfg extends Base where
  Sel : Goroutine → World → Prop
  Hand : Nat → Goroutine → World → Prop
  Shut : Nat → Goroutine → World → Prop
  Anch : Nat → Goroutine → World → Prop
  Fin : Nat → Goroutine → World → Prop
instance : Coe Cfg Base := ⟨Cfg.toBase⟩

section
variable (X : Base)
/-- What anybody suffers of the others. -/
structure K (w w₁ : World) : Prop where
  tape : w₁.tape = w.tape
  os : w₁.os = w.os
  output : w₁.output = w.output
  size : w₁.heap.size = w.heap.size
  block : ∀ b, b ≠ X.Wg → b ≠ X.Cp → b ≠ X.Cs → b ≠ X.Cf → b ≠ X.Mk → w₁.heap[b]? = w.heap[b]?
  live : WgLive X.ty X.Wg w → WgLive X.ty X.Wg w₁
  q : X.Q w → X.Q w₁
  done : ∀ p, X.Done p w → X.Done p w₁
/-- What a worker that looks at place p may do to the world. -/
structure Put (p : Nat) (w w' : World) : Prop where
  tape : w'.tape = w.tape
  os : w'.os = w.os
  output : w'.output = w.output
  size : w'.heap.size = w.heap.size
  block : ∀ b, b ≠ X.Mk → w'.heap[b]? = w.heap[b]?
  q : X.Q w → X.Q w'
  done : ∀ p', X.Done p' w → X.Done p' w'

def EvW (o : Option Nat) (ev : Event) : Prop := ∃ a wr, ev = ⟨.cell a, wr, false⟩ ∧ ((∃ p, o = some p ∧ X.L.Own p (.cell a)) ∨ (X.L.Rd (.cell a) ∧ wr = false))
def DW0 (w w' : World) (es : Array Event) : Prop := w' = w ∧ ∀ ev ∈ es, EvW X none ev
def DWp (p : Nat) (w w' : World) (es : Array Event) : Prop := Put X p w w' ∧ ∀ ev ∈ es, EvW X (some p) ev
def EvM (ev : Event) : Prop := ∃ a, ev = ⟨.cell a, false, false⟩ ∧ ¬ X.L.Sh (.cell a) ∧ ¬ X.L.Shun (.cell a) ∧ ∀ p, ¬ X.L.Own p (.cell a)
def DM (w w' : World) (es : Array Event) : Prop := w' = w ∧ ∀ ev ∈ es, EvM X ev

def pc : Array CommCase := #[rcase X.Cp (.int .i64 0), rcase X.Cs X.zs]
def hc (i : Nat) : Array CommCase := #[scase X.Cp (.int .i64 i) (.int .i64 0), rcase X.Cf (.int .i64 0)]
def sc (p : Nat) : Array CommCase := #[scase X.Cf (.int .i64 p) (.tuple #[])]

def AtSnd (p : Nat) (g : Goroutine) (w : World) : Prop :=
  g.status = .running ∧ ∃ g₂, stepG X.P false g w = .comm g₂ (sc X p) true .send w #[] ∧ ∀ w₁, K X w w₁ → ∃ m, Goes X.P false (K X) (DW0 X) (DRel X.P X.ty X.Wg) m (g₂.finishComm X.P (sc X p) .send 0 undef false) w₁
end
section
variable (X : Cfg)
def AtEnd (p : Nat) (g : Goroutine) (w : World) : Prop := X.Done p w ∧ ((X.b p = false ∧ X.Sel g w) ∨ (X.b p = true ∧ AtSnd X p g w))
def HandOr (i : Nat) (g : Goroutine) (w : World) : Prop := (i < X.M ∧ X.Hand i g w) ∨ (X.M ≤ i ∧ X.Shut X.M g w)
/-- r workers are still to be started. -/
def Spawns : Nat → Goroutine → World → Prop
  | 0, g, w => ∃ m, Goes X.P true (K X) (DM X) (HandOr X 0) m g w
  | r + 1, g, w => ∃ m, Goes X.P true (K X) (DM X) (PDis X.P X.ty X.Wg (K X) fun g w => g.status = .running ∧ ∃ g' child, stepG X.P true g w = .spawn g' child w #[] ∧ child.status = .running ∧ (∃ m, Goes X.P false (K X) (DW0 X) X.Sel m child w) ∧ Spawns r g' w) m g w
def AtGo (r : Nat) (g : Goroutine) (w : World) : Prop :=
  g.status = .running ∧ ∃ g' child, stepG X.P true g w = .spawn g' child w #[] ∧ child.status = .running ∧ (∃ m, Goes X.P false (K X) (DW0 X) X.Sel m child w) ∧ Spawns X r g' w
theorem spawns_succ (r : Nat) (g : Goroutine) (w : World) : Spawns X (r + 1) g w = ∃ m, Goes X.P true (K X) (DM X) (PDis X.P X.ty X.Wg (K X) (AtGo X r)) m g w := rfl

structure Laws : Prop where
  apart : X.L.Apart
  shWg : ∀ l, X.L.Sh l ↔ ∃ a, l = .cell a ∧ a.block = X.Wg
  ownCell : ∀ p l, X.L.Own p l → ∃ a, l = .cell a
  shunCell : ∀ l, X.L.Shun l → ∃ a, l = .cell a
  d1 : X.Cp ≠ X.Wg
  d2 : X.Cs ≠ X.Wg
  d3 : X.Cf ≠ X.Wg
  d4 : X.Cp ≠ X.Cs
  d5 : X.Cp ≠ X.Cf
  d6 : X.Cs ≠ X.Cf
  m1 : X.Mk ≠ X.Wg
  m2 : X.Mk ≠ X.Cp
  m3 : X.Mk ≠ X.Cs
  m4 : X.Mk ≠ X.Cf
  qOf : ∀ w w' : World, w'.heap[X.Mk]? = w.heap[X.Mk]? → X.Q w → X.Q w'
  doneOf : ∀ p (w w' : World), w'.heap[X.Mk]? = w.heap[X.Mk]? → X.Done p w → X.Done p w'
  few : X.n < 2147483647
  some1 : 0 < X.M → 0 < X.n
  selRely : ∀ g w w₁, X.Sel g w → K X w w₁ → X.Sel g w₁
  selStep : ∀ g w, X.Sel g w → g.status = .running ∧ g.offers = none ∧ stepG X.P false g w = .comm g (pc X) true .select w #[]
  selTake : ∀ g w p, X.Sel g w → p < X.M → ∃ m, Goes X.P false (K X) (DWp X p) (AtEnd X p) m (g.finishComm X.P (pc X) .select ((0 : Nat) : Int) (.int .i64 p) true) w
  selStop : ∀ g w, X.Sel g w → ∃ m, Goes X.P false (K X) (DW0 X) (DRel X.P X.ty X.Wg) m (g.finishComm X.P (pc X) .select ((1 : Nat) : Int) X.zs false) w
  handRely : ∀ i g w w₁, X.Hand i g w → K X w w₁ → X.Hand i g w₁
  handStep : ∀ i g w, X.Hand i g w → g.status = .running ∧ g.offers = none ∧ stepG X.P true g w = .comm g (hc X i) true .select w #[]
  handSent : ∀ i g w, X.Hand i g w → ∃ m, Goes X.P true (K X) (DM X) (HandOr X (i + 1)) m (g.finishComm X.P (hc X i) .select ((0 : Nat) : Int) undef false) w
  handGot : ∀ i g w p, X.Hand i g w → p < X.M → ∃ m, Goes X.P true (K X) (DM X) (X.Shut p) m (g.finishComm X.P (hc X i) .select ((1 : Nat) : Int) (.int .i64 p) true) w
  shut : ∀ l g w s r, X.Shut l g w → w.heap[X.Cs]? = some (.chan 0 #[] false s r false) → g.status = .running ∧ mayWake X.P g = true ∧
    ∃ g', g'.status = .running ∧ stepG X.P true g w = .go g' (w.setChan X.Cs 0 #[] true s r false) #[⟨.obj X.Cs, false, true⟩, ⟨.obj X.Cs, true, true⟩] ∧
      ∃ m, Goes X.P true (K X) (DM X) (WDis X.P (K X) (X.Anch l)) m g' (w.setChan X.Cs 0 #[] true s r false)
  shutRun : ∀ l g w, X.Shut l g w → g.status = .running
  anch : ∀ l g w, X.Anch l g w → g.status = .running ∧ ∃ m, Goes X.P true (K X) DC0 (WLoa X.P X.ty X.Wg (K X) (X.Fin l) (X.Anch l)) m g w

inductive WTag where
  | sel | prk | at (p : Nat) | lib (s : Nat)
def WTag.rank : WTag → Nat
  | .sel | .prk => 8
  | .at _ => 10
  | .lib s => s
def WTag.stage : WTag → Nat
  | .lib s => s
  | _ => 7
def WTag.isLib : WTag → Nat
  | .lib _ => 1
  | _ => 0
structure WDat where
  tag : WTag
  fuel : Nat
  deaf : Nat
def WDat.wd (d : WDat) : WD := ⟨d.tag.stage, d.fuel, d.deaf⟩

inductive WS : WTag → Nat → Nat → Goroutine → World → Prop
  | sel {m : Nat} {g : Goroutine} {w : World} : Goes X.P false (K X) (DW0 X) X.Sel m g w → WS .sel (m + 1) 0 g w
  | woke {g : Goroutine} {w : World} : X.Sel g w → WS .sel 1 0 { parked g (pc X) .select with status := .running } w
  | prk {g : Goroutine} {w : World} : X.Sel g w → WS .prk 0 0 (parked g (pc X) .select) w
  | at {p m : Nat} {g : Goroutine} {w : World} : Goes X.P false (K X) (DWp X p) (AtEnd X p) m g w → WS (.at p) m 0 g w
  | r0 {m : Nat} {g : Goroutine} {w : World} : Goes X.P false (K X) (DW0 X) (DRel X.P X.ty X.Wg) m g w → WS (.lib 7) m 0 g w
  | k1 {m : Nat} {g : Goroutine} {w : World} : Goes X.P false (RL X.ty X.Wg) DC0 (DDis X.P X.ty X.Wg) m g w → WS (.lib 6) m 0 g w
  | d1 {m : Nat} {g : Goroutine} {w : World} : Goes X.P false (RL X.ty X.Wg) DC0 (DSub X.P X.ty X.Wg) m g w → WS (.lib 5) m 1 g w
  | d2 {m : Nat} {g : Goroutine} {w : World} : Goes X.P false (RL X.ty X.Wg) DC0 (DLoa X.P X.ty X.Wg) m g w → WS (.lib 4) m 1 g w
  | d3 {m : Nat} {g : Goroutine} {w : World} : Goes X.P false (RL X.ty X.Wg) DC0 (DSto X.P X.ty X.Wg) m g w → WS (.lib 3) m 1 g w
  | d4 {m : Nat} {g : Goroutine} {w : World} : Goes X.P false (RL X.ty X.Wg) DC0 (DSem X.P X.ty X.Wg) m g w → WS (.lib 2) m 1 g w
  | quit {q d : Nat} {g : Goroutine} {w : World} : QuitsD X.P q d g → WS (.lib 1) q d g w

inductive MTag where
  | sd (r : Nat) | sa (r : Nat) | sr (r : Nat) | se (r : Nat) | sg (r : Nat) | hand (i : Nat) | hblk (i : Nat) | shut (l : Nat)
  | kd (l : Nat) | anch (l : Nat) | w1 (l : Nat) | w2 (l vs : Nat) | wr (l : Nat) | w3 (l : Nat) | blk (l : Nat) | w4 (l : Nat) | ke (l : Nat) | acq (l : Nat)
def MTag.c : MTag → CTag
  | .sd r => .sp r 5
  | .sa r => .sp r 4
  | .sr r | .se r => .sp r 3
  | .sg r => .sp r 2
  | .hand _ | .hblk _ | .shut _ | .kd _ => .kd
  | .anch _ => .anch
  | .w1 _ => .w1
  | .w2 _ vs => .w2 vs
  | .wr _ | .w3 _ => .w3
  | .blk _ => .blk
  | .w4 _ => .w4
  | .ke _ => .ke
  | .acq _ => .acq
def MTag.left : MTag → Nat
  | .sd r | .sa r | .sr r | .se r | .sg r => r + 1
  | _ => 0
def MTag.least : MTag → Option Nat
  | .shut l | .kd l | .anch l | .w1 l | .w2 l _ | .wr l | .w3 l | .blk l | .w4 l | .ke l | .acq l => some l
  | _ => none
def MTag.closed : MTag → Bool
  | .kd _ | .anch _ | .w1 _ | .w2 _ _ | .wr _ | .w3 _ | .blk _ | .w4 _ | .ke _ | .acq _ => true
  | _ => false
def MTag.phi (n v : Nat) : MTag → Nat
  | .sd r => 8 * n + 30 + 16 * r
  | .sa r => 8 * n + 29 + 16 * r
  | .sr r => 8 * n + 28 + 16 * r
  | .se r => 8 * n + 27 + 16 * r
  | .sg r => 8 * n + 26 + 16 * r
  | .hand _ | .hblk _ => 8 * n + 10
  | .shut _ => 8 * n + 9
  | .kd _ => 8 * n + 8
  | .anch _ => 8 * v + 7
  | .w1 _ => 8 * v + 6
  | .w2 _ vs => 8 * vs + 5
  | .wr _ => 6
  | .w3 _ | .blk _ => 5
  | .w4 _ => 4
  | .ke _ => 3
  | .acq _ => 2

inductive MS : MTag → Nat → Nat → Goroutine → World → Prop
  | sd {r m : Nat} {g : Goroutine} {w : World} : Goes X.P true (K X) (DM X) (PDis X.P X.ty X.Wg (K X) (AtGo X r)) m g w → MS (.sd r) m 0 g w
  | sa {r m : Nat} {g : Goroutine} {w : World} : Goes X.P true (K X) DC0 (PAdd X.P X.ty X.Wg (K X) (AtGo X r)) m g w → MS (.sa r) m 1 g w
  | sr {r m : Nat} {g : Goroutine} {w : World} : Goes X.P true (K X) DC0 (PRd X.P X.Wg (K X) (AtGo X r)) m g w → MS (.sr r) m 1 g w
  | se {r m : Nat} {g : Goroutine} {w : World} : Goes X.P true (K X) DC0 (PEn X.P (K X) (AtGo X r)) m g w → MS (.se r) m 1 g w
  | sg {r m : Nat} {g : Goroutine} {w : World} : Goes X.P true (K X) DC0 (AtGo X r) m g w → MS (.sg r) m 0 g w
  | hand {i m : Nat} {g : Goroutine} {w : World} : Goes X.P true (K X) (DM X) (HandOr X i) m g w → MS (.hand i) (m + 1) 0 g w
  | hblk {i : Nat} {g : Goroutine} {w : World} : X.Hand i g w → MS (.hblk i) 0 0 (parked g (hc X i) .select) w
  | shut {l m : Nat} {g : Goroutine} {w : World} : Goes X.P true (K X) (DM X) (X.Shut l) m g w → MS (.shut l) m 0 g w
  | kd {l m : Nat} {g : Goroutine} {w : World} : Goes X.P true (K X) (DM X) (WDis X.P (K X) (X.Anch l)) m g w → MS (.kd l) m 0 g w
  | anch {l m : Nat} {g : Goroutine} {w : World} : Goes X.P true (K X) DC0 (X.Anch l) m g w → MS (.anch l) m 1 g w
  | w1 {l m : Nat} {g : Goroutine} {w : World} : Goes X.P true (K X) DC0 (WLoa X.P X.ty X.Wg (K X) (X.Fin l) (X.Anch l)) m g w → MS (.w1 l) m 1 g w
  | w2 {l vs m : Nat} {g : Goroutine} {w : World} : Goes X.P true (K X) DC0 (WCas X.P X.ty X.Wg (K X) (X.Fin l) (X.Anch l) vs) m g w → MS (.w2 l vs) m 1 g w
  | wr {l m : Nat} {g : Goroutine} {w : World} : Goes X.P true (K X) DC0 (WWr X.P X.ty X.Wg (K X) (X.Fin l)) m g w → MS (.wr l) m 1 g w
  | w3 {l m : Nat} {g : Goroutine} {w : World} : Goes X.P true (K X) DC0 (WSem X.P X.ty X.Wg (K X) (X.Fin l)) m g w → MS (.w3 l) (m + 1) 1 g w
  | blk {l : Nat} {g : Goroutine} {w : World} : (∀ w₁, K X w w₁ → WSem X.P X.ty X.Wg (K X) (X.Fin l) g w₁) → MS (.blk l) 0 1 { g with status := .blocked } w
  | w4 {l m : Nat} {g : Goroutine} {w : World} : Goes X.P true (K X) DC0 (WChk X.P X.ty X.Wg (K X) (X.Fin l)) m g w → MS (.w4 l) m 1 g w
  | ke {l m : Nat} {g : Goroutine} {w : World} : Goes X.P true (K X) DC0 (WEn X.P X.Wg (K X) (X.Fin l)) m g w → MS (.ke l) m 1 g w
  | acq {l m : Nat} {g : Goroutine} {w : World} : Goes X.P true (K X) DC0 (WAcq X.P X.Wg (K X) (X.Fin l)) m g w → MS (.acq l) m 0 g w
end

section
variable {X : Base} {w w₁ w₂ : World}
theorem K.refl (w : World) : K X w w := ⟨rfl, rfl, rfl, rfl, fun _ _ _ _ _ _ => rfl, id, id, fun _ => id⟩
theorem K.trans (h : K X w w₁) (h' : K X w₁ w₂) : K X w w₂ :=
  ⟨h'.tape.trans h.tape, h'.os.trans h.os, h'.output.trans h.output, h'.size.trans h.size, fun b a1 a2 a3 a4 a5 => (h'.block b a1 a2 a3 a4 a5).trans (h.block b a1 a2 a3 a4 a5), h'.live ∘ h.live, h'.q ∘ h.q, fun p => h'.done p ∘ h.done p⟩
theorem K.tr : ∀ a b c : World, K X a b → K X b c → K X a c := fun _ _ _ => K.trans
end
section
variable {X : Cfg} {w w₁ w₂ : World}
theorem K.at (w : World) (d : Nat) (hx : Laws X) : K X w (w.at d) := ⟨rfl, rfl, rfl, rfl, fun _ _ _ _ _ _ => rfl, id, hx.qOf _ _ rfl, fun p => hx.doneOf p _ _ rfl⟩
theorem Put.k {p : Nat} (hx : Laws X) (h : Put X p w w₁) : K X w w₁ :=
  ⟨h.tape, h.os, h.output, h.size, fun b _ _ _ _ a5 => h.block b a5, fun ⟨st, sm, hw⟩ => ⟨st, sm, hw.of_block (h.block _ (Ne.symm hx.m1))⟩, h.q, h.done⟩
/-- A turn of one of the phase's own blocks but the places'. -/
theorem K.turn (hx : Laws X) (h1 : w₁.tape = w.tape) (h2 : w₁.os = w.os) (h3 : w₁.output = w.output) (h4 : w₁.heap.size = w.heap.size) {c : Nat} (hc : c = X.Wg ∨ c = X.Cp ∨ c = X.Cs ∨ c = X.Cf)
    (h5 : ∀ b, b ≠ c → w₁.heap[b]? = w.heap[b]?) (hl : WgLive X.ty X.Wg w → WgLive X.ty X.Wg w₁) : K X w w₁ :=
  have hm : X.Mk ≠ c := by
    rcases hc with rfl | rfl | rfl | rfl
    · exact hx.m1
    · exact hx.m2
    · exact hx.m3
    · exact hx.m4
  ⟨h1, h2, h3, h4, fun b a1 a2 a3 a4 _ => h5 b (by rcases hc with rfl | rfl | rfl | rfl <;> assumption), hl, hx.qOf _ _ (h5 _ hm), fun p => hx.doneOf p _ _ (h5 _ hm)⟩
theorem rl_of_k {X : Base} (h : K X w w₁) : RL X.ty X.Wg w w₁ := h.live
theorem rl_tr {ty : TypeId} {Wg : Nat} : ∀ a b c : World, RL ty Wg a b → RL ty Wg b c → RL ty Wg a c := fun _ _ _ h h' x => h' (h x)

theorem WS.rely {tag : WTag} {f d : Nat} {g : Goroutine} (hx : Laws X) (h : WS X tag f d g w) (k : K X w w₁) : WS X tag f d g w₁ := by
  cases h with
  | sel h => exact .sel (Goes.rely K.tr h k)
  | woke h => exact .woke (hx.selRely _ _ _ h k)
  | prk h => exact .prk (hx.selRely _ _ _ h k)
  | «at» h => exact .at (Goes.rely K.tr h k)
  | r0 h => exact .r0 (Goes.rely K.tr h k)
  | k1 h => exact .k1 (Goes.rely rl_tr h (rl_of_k k))
  | d1 h => exact .d1 (Goes.rely rl_tr h (rl_of_k k))
  | d2 h => exact .d2 (Goes.rely rl_tr h (rl_of_k k))
  | d3 h => exact .d3 (Goes.rely rl_tr h (rl_of_k k))
  | d4 h => exact .d4 (Goes.rely rl_tr h (rl_of_k k))
  | quit h => exact .quit h
theorem MS.rely {tag : MTag} {f d : Nat} {g : Goroutine} (hx : Laws X) (h : MS X tag f d g w) (k : K X w w₁) : MS X tag f d g w₁ := by
  cases h with
  | sd h => exact .sd (Goes.rely K.tr h k)
  | sa h => exact .sa (Goes.rely K.tr h k)
  | sr h => exact .sr (Goes.rely K.tr h k)
  | se h => exact .se (Goes.rely K.tr h k)
  | sg h => exact .sg (Goes.rely K.tr h k)
  | hand h => exact .hand (Goes.rely K.tr h k)
  | hblk h => exact .hblk (hx.handRely _ _ _ _ h k)
  | shut h => exact .shut (Goes.rely K.tr h k)
  | kd h => exact .kd (Goes.rely K.tr h k)
  | anch h => exact .anch (Goes.rely K.tr h k)
  | w1 h => exact .w1 (Goes.rely K.tr h k)
  | w2 h => exact .w2 (Goes.rely K.tr h k)
  | wr h => exact .wr (Goes.rely K.tr h k)
  | w3 h => exact .w3 (Goes.rely K.tr h k)
  | blk h => exact .blk fun w₂ k₂ => h w₂ (k.trans k₂)
  | w4 h => exact .w4 (Goes.rely K.tr h k)
  | ke h => exact .ke (Goes.rely K.tr h k)
  | acq h => exact .acq (Goes.rely K.tr h k)

theorem WS.status {tag : WTag} {f d : Nat} {g : Goroutine} (hx : Laws X) (h : WS X tag f d g w) : (g.status = .running ∧ tag ≠ .prk) ∨ (g.status = .finished ∧ tag = .lib 1) ∨ (tag = .prk ∧ ∃ g₀, g = parked g₀ (pc X) .select ∧ X.Sel g₀ w) := by
  cases h with
  | sel h => exact .inl ⟨Goes.running (fun _ _ x => (hx.selStep _ _ x).1) w (.refl w) h, by simp⟩
  | woke h => exact .inl ⟨rfl, by simp⟩
  | prk h => exact .inr (.inr ⟨rfl, _, rfl, h⟩)
  | «at» h => exact .inl ⟨Goes.running (fun _ _ x => x.2.elim (fun y => (hx.selStep _ _ y.2).1) fun y => y.2.1) w (.refl w) h, by simp⟩
  | r0 h => exact .inl ⟨Goes.running (fun _ _ x => x.1) w (.refl w) h, by simp⟩
  | k1 h => exact .inl ⟨Goes.running (fun _ _ x => x.1) w id h, by simp⟩
  | d1 h => exact .inl ⟨Goes.running (fun _ _ x => x.1) w id h, by simp⟩
  | d2 h => exact .inl ⟨Goes.running (fun _ _ x => x.1) w id h, by simp⟩
  | d3 h => exact .inl ⟨Goes.running (fun _ _ x => x.1) w id h, by simp⟩
  | d4 h => exact .inl ⟨Goes.running (fun _ _ x => x.1) w id h, by simp⟩
  | quit h => rcases h.status with h' | h'
              · exact .inl ⟨h', by simp⟩
              · exact .inr (.inl ⟨h', rfl⟩)

def MTag.blocked : MTag → Prop
  | .hblk _ | .blk _ => True
  | _ => False
theorem MS.status {tag : MTag} {f d : Nat} {g : Goroutine} (hx : Laws X) (h : MS X tag f d g w) : (g.status = .running ∧ ¬ tag.blocked) ∨ (g.status = .blocked ∧ tag.blocked) := by
  have hh : ∀ i g w, HandOr X i g w → g.status = .running := fun i g w h => h.elim (fun x => (hx.handStep _ _ _ x.2).1) fun x => hx.shutRun _ _ _ x.2
  cases h with
  | sd h => exact .inl ⟨Goes.running (fun _ _ x => x.1) w (.refl w) h, id⟩
  | sa h => exact .inl ⟨Goes.running (fun _ _ x => x.1) w (.refl w) h, id⟩
  | sr h => exact .inl ⟨Goes.running (fun _ _ x => x.1) w (.refl w) h, id⟩
  | se h => exact .inl ⟨Goes.running (fun _ _ x => x.1) w (.refl w) h, id⟩
  | sg h => exact .inl ⟨Goes.running (fun _ _ x => x.1) w (.refl w) h, id⟩
  | hand h => exact .inl ⟨Goes.running (fun _ _ x => hh _ _ _ x) w (.refl w) h, id⟩
  | hblk h => exact .inr ⟨rfl, trivial⟩
  | shut h => exact .inl ⟨Goes.running (fun _ _ x => hx.shutRun _ _ _ x) w (.refl w) h, id⟩
  | kd h => exact .inl ⟨Goes.running (fun _ _ x => x.1) w (.refl w) h, id⟩
  | anch h => exact .inl ⟨Goes.running (fun _ _ x => (hx.anch _ _ _ x).1) w (.refl w) h, id⟩
  | w1 h => exact .inl ⟨Goes.running (fun _ _ x => x.1) w (.refl w) h, id⟩
  | w2 h => exact .inl ⟨Goes.running (fun _ _ x => x.1) w (.refl w) h, id⟩
  | wr h => exact .inl ⟨Goes.running (fun _ _ x => x.1) w (.refl w) h, id⟩
  | w3 h => exact .inl ⟨Goes.running (fun _ _ x => x.1) w (.refl w) h, id⟩
  | blk h => exact .inr ⟨rfl, trivial⟩
  | w4 h => exact .inl ⟨Goes.running (fun _ _ x => x.1) w (.refl w) h, id⟩
  | ke h => exact .inl ⟨Goes.running (fun _ _ x => x.1) w (.refl w) h, id⟩
  | acq h => exact .inl ⟨Goes.running (fun _ _ x => x.1) w (.refl w) h, id⟩
end
end Go.Proofs.Ytbckmkppmdfnnaa.Crew
