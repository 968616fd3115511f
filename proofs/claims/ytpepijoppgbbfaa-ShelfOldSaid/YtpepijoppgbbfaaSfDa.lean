/- shelf: a shelf as a tree of nodes: what it is; how heavy a node is; how keys compare. -/
import Derived.Test.YtpepijoppgbbfaaSfN
import Derived.Test.YtpepijoppgbbfaaQFt
import Derived.Test.YtpepijoppgbbfaaShelf
import Derived.RangeFuncNested
import Derived.RangeFuncBound
import Derived.RangeFuncCalls
import Derived.RangeFuncLeaves
import Derived.Shelf.Abstract
import Derived.Shelf.RegionOpen
import Derived.OwnWalkIn
import Derived.TacticsInMore
import Derived.LoopNIn
import Derived.LoopIn
namespace Go.Proofs.Ytpepijoppgbbfaa.Shf
open Go.RowKit Go.Proofs.Ytpepijoppgbbfaa.Gr

/-- A round keeps the cells that lie below n₀, and those from n₁ on. -/
structure KeepC (n₀ n₁ : Nat) (A B : World) : Prop where
  size : A.heap.size ≤ B.heap.size
  same : ∀ (k : Nat) (cs : Array Value) (t : TypeId) (fr : Nat × Nat), (k < n₀ ∨ n₁ ≤ k) → A.heap[k]? = some (.cells cs t fr) → B.heap[k]? = some (.cells cs t fr)
theorem KeepC.trans {n₀ n₁ : Nat} {A B C : World} (h : KeepC n₀ n₁ A B) (k : KeepC n₀ n₁ B C) : KeepC n₀ n₁ A C :=
  ⟨Nat.le_trans h.size k.size, fun i cs t fr hi h1 => k.same i cs t fr hi (h.same i cs t fr hi h1)⟩
theorem KeepC.putObj {n₀ n₁ : Nat} (W : World) (l : Nat) (o o' : Obj) (hl : W.heap[l]? = some o) (ho : o.isCells = false) : KeepC n₀ n₁ W (W.putObj l o') :=
  ⟨by simp [World.putObj], fun k cs t fr _ h => by
    rw [World.putObj_heap_other (fun e => by subst e; rw [hl] at h; injection h with h; subst h; cases ho)]
    exact h⟩

/-- The tree of a shelf. -/
inductive Tr where
  | leaf
  | node (k : ByteArray) (z : Nat) (lo hi : Tr)
def Tr.list : Tr → List Th
  | .leaf => []
  | .node k z lo hi => lo.list ++ (k, z) :: hi.list
def Tr.many (T : Tr) : Nat := T.list.length
theorem many_leaf : Tr.leaf.many = 0 := rfl
theorem many_node (k : ByteArray) (z : Nat) (lo hi : Tr) : (Tr.node k z lo hi).many = lo.many + hi.many + 1 := by
  simp [Tr.many, Tr.list]
  omega
def IsTr (n₀ : Nat) (W : World) : Option Addr → Tr → Prop
  | p, .leaf => p = none
  | p, .node k z lo hi => ∃ (g : Nat) (pl pr : Option Addr), p = some ⟨g, 0, none⟩ ∧ g < n₀ ∧ W.heap[g]? = some (.cells #[.string k, .int .u64 z, .pointer pl, .pointer pr, .int .i64 ((lo.many : Int) + (hi.many : Int) + 1)] 59 (0, 0)) ∧ IsTr n₀ W pl lo ∧ IsTr n₀ W pr hi

/-- A shelf that has these things, in blocks below n₀. -/
def ShelfAt (n₀ : Nat) (w : World) (S : Array Value) (l : List Th) : Prop :=
  ∃ p T, S = #[.pointer p] ∧ IsTr n₀ w p T ∧ T.list = l ∧ SortedL l

theorem IsTr.kept {n₀ : Nat} {A B : World} (h : ∀ k, k < n₀ → ∀ cs t fr, A.heap[k]? = some (.cells cs t fr) → B.heap[k]? = some (.cells cs t fr)) : ∀ {p : Option Addr} {T : Tr}, IsTr n₀ A p T → IsTr n₀ B p T
  | _, .leaf, ht => ht
  | _, .node _ _ _ _, ⟨g, pl, pr, hp, hg, hc, hl, hr⟩ => ⟨g, pl, pr, hp, hg, h g hg _ _ _ hc, IsTr.kept h hl, IsTr.kept h hr⟩
theorem IsTr.mono {n₀ n₁ : Nat} (h : n₀ ≤ n₁) {W : World} : ∀ {p : Option Addr} {T : Tr}, IsTr n₀ W p T → IsTr n₁ W p T
  | _, .leaf, ht => ht
  | _, .node _ _ _ _, ⟨g, pl, pr, hp, hg, hc, hl, hr⟩ => ⟨g, pl, pr, hp, by omega, hc, IsTr.mono h hl, IsTr.mono h hr⟩
theorem IsTr.below {n₀ n₁ : Nat} {A B : World} {p : Option Addr} {T : Tr} (h : IsTr n₀ A p T) (hb : Below n₀ A B) (hn : n₀ ≤ n₁) : IsTr n₁ B p T :=
  (h.kept fun k hk _ _ _ hc => (hb.block k hk).trans hc).mono hn
theorem IsTr.go {A B : World} {p : Option Addr} {T : Tr} (h : IsTr A.heap.size A p T) (hb : Below A.heap.size A B) : IsTr B.heap.size B p T := h.below hb hb.size
theorem ShelfAt.keptC {n₀ : Nat} {A B : World} {S : Array Value} {l : List Th} (h : ShelfAt n₀ A S l) (hk : ∀ k, k < n₀ → ∀ cs t fr, A.heap[k]? = some (.cells cs t fr) → B.heap[k]? = some (.cells cs t fr)) : ShelfAt n₀ B S l := by
  obtain ⟨p, T, hS, hT, hl, hs⟩ := h
  exact ⟨p, T, hS, hT.kept hk, hl, hs⟩
theorem ShelfAt.below {n₀ n₁ : Nat} {A B : World} {S : Array Value} {l : List Th} (h : ShelfAt n₀ A S l) (hb : Below n₀ A B) (hn : n₀ ≤ n₁) : ShelfAt n₁ B S l := by
  obtain ⟨p, T, hS, hT, hl, hs⟩ := h
  exact ⟨p, T, hS, hT.below hb hn, hl, hs⟩
theorem ShelfAt.sorted {n₀ : Nat} {w : World} {S : Array Value} {l : List Th} (h : ShelfAt n₀ w S l) : SortedL l := by
  obtain ⟨_, _, _, _, _, hs⟩ := h
  exact hs

/-- A store into a block of another type leaves every shelf what it was. -/
theorem IsTr.storeT {n₀ g : Nat} {W : World} {old C : Array Value} {t : TypeId} {fr : Nat × Nat} (hg : W.heap[g]? = some (.cells old t fr)) (ht : t ≠ 59) : ∀ {p : Option Addr} {T : Tr}, IsTr n₀ W p T → IsTr n₀ (W.setRow g C) p T
  | _, .leaf, hp => hp
  | _, .node _ _ _ _, ⟨k, pl, pr, hp, hk, hc, hl, hr⟩ => ⟨k, pl, pr, hp, hk, (setRow_other _ _ _ _ (fun e => by
      subst e
      rw [hg] at hc
      simp at hc
      exact ht hc.2.1)).trans hc, IsTr.storeT hg ht hl, IsTr.storeT hg ht hr⟩
theorem ShelfAt.storeT {n₀ g : Nat} {W : World} {S : Array Value} {l : List Th} {old C : Array Value} {t : TypeId} {fr : Nat × Nat} (h : ShelfAt n₀ W S l) (hg : W.heap[g]? = some (.cells old t fr)) (ht : t ≠ 59) : ShelfAt n₀ (W.setRow g C) S l := by
  obtain ⟨p, T, hS, hT, hl, hs⟩ := h
  exact ⟨p, T, hS, hT.storeT hg ht, hl, hs⟩
theorem ShelfAt.store {n₀ g : Nat} {W : World} {S : Array Value} {l : List Th} {old C : Array Value} {fr : Nat × Nat} (h : ShelfAt n₀ W S l) (hg : W.heap[g]? = some (.cells old 24 fr)) : ShelfAt n₀ (W.setRow g C) S l := h.storeT hg (by decide)
theorem ShelfAt.storeL {n₀ g : Nat} {W : World} {S : Array Value} {l : List Th} {old C : Array Value} {fr : Nat × Nat} (h : ShelfAt n₀ W S l) (hg : W.heap[g]? = some (.cells old 37 fr)) : ShelfAt n₀ (W.setRow g C) S l := h.storeT hg (by decide)

/-- What the walks ask of a shelf's cells. -/
structure ShelfRow (S : Array Value) : Prop where
  info : (Try.prog.info? 24).map (·.size) = some S.size
  one : S.all (·.oneCell') = true
theorem shelf_info : (Try.prog.info? 24).map (·.size) = some 1 := by kernel_rfl
/-- A shelf's cells before anything is stored. -/
abbrev zeroS : Array Value := #[.pointer none]
theorem ShelfRow.size {S : Array Value} (h : ShelfRow S) : S.size = zeroS.size := by
  have := h.info
  rw [shelf_info] at this
  injection this with this
  exact this.symm
theorem ShelfAt.row {n₀ : Nat} {w : World} {S : Array Value} {l : List Th} (h : ShelfAt n₀ w S l) : ShelfRow S := by
  obtain ⟨p, T, rfl, _⟩ := h
  exact ⟨shelf_info, by simp [Value.oneCell']⟩

/-- A tree of these things. -/
def TreeOf (w : World) (p : Option Addr) (l : List Th) : Prop := ∃ T, IsTr w.heap.size w p T ∧ T.list = l
theorem TreeOf.go {A B : World} {p : Option Addr} {l : List Th} (h : TreeOf A p l) (hb : Below A.heap.size A B) : TreeOf B p l := by
  obtain ⟨T, hT, hl⟩ := h
  exact ⟨T, hT.go hb, hl⟩
theorem TreeOf.leaf (w : World) : TreeOf w none [] := ⟨.leaf, rfl, rfl⟩

/-- What an operation over nodes leaves. -/
inductive FactN where
  | val (v : Value)
  | tree (l : List Th)
def FactN.holds : FactN → Value → World → Prop
  | .val v0, v, _ => v = v0
  | .tree l, v, w => ∃ p, v = .pointer p ∧ TreeOf w p l
theorem FactN.kept (f : FactN) (v : Value) (w w' : World) (h : f.holds v w) (hb : Below w.heap.size w w') : f.holds v w' := by
  cases f with
  | val v0 => exact h
  | tree l =>
    obtain ⟨p, hv, hp⟩ := h
    exact ⟨p, hv, hp.go hb⟩
theorem wp_to {P : Program} {o : Oper} {a : Act} {w : World} {K : Act → World → Prop} {Q : Exit → Act → World → Prop} {f : FuncId} {args : Array Value} {R : Value → World → Prop} (h : (execOp a.eval o).run P w = .ok (.enter f args) w) (hc : Calls P f args w fun e w' => ∃ v, e = .returned v ∧ R v w') (hk : ∀ v w', R v w' → K (a.put o.dst v) w') : o.wp P a w K Q := by
  unfold Oper.wp
  rw [h]
  exact hc.mono fun e w' ⟨v, he, hr⟩ => by subst he; exact hk v w' hr

theorem wrap_in (i : Int) (h0 : 0 ≤ i) (h1 : i ≤ 1000000000000) : IntKind.i64.wrap i = i := by
  unfold IntKind.wrap
  simp [IntKind.bits, IntKind.signed]
  omega

set_option maxHeartbeats 1600000 in
theorem code_weight (p : Option Addr) (l : List Th) (w : World) (hT : TreeOf w p l) (hl : l.length ≤ 100000000000) :
    Calls Try.prog 26 #[.pointer p] w fun e w' => e = .returned (.int .i64 ((l.length : Int) + 1)) ∧ Below w.heap.size w w' := by
  obtain ⟨T, hT, rfl⟩ := hT
  rw [show T.list.length = T.many from rfl] at hl ⊢
  cases T with
  | leaf =>
    obtain rfl : p = none := hT
    go_enter Try.func26, Try.ntmps26
    go_wp2_with fail
    go_ret
    exact ⟨rfl, Below.refl _ _⟩
  | node k z lo hi =>
    obtain ⟨g, pl, pr, rfl, _, hc, _, _⟩ := hT
    rw [many_node] at hl
    have c4 : w.cell? ⟨g, 4, none⟩ = some (.int .i64 ((lo.many : Int) + (hi.many : Int) + 1)) := by rw [Lib.cell_of_heap hc]; rfl
    have hwr := wrap_in ((lo.many : Int) + (hi.many : Int) + 1 + 1) (by omega) (by omega)
    have he : (((Tr.node k z lo hi).many : Nat) : Int) + 1 = (lo.many : Int) + (hi.many : Int) + 1 + 1 := by rw [many_node]; omega
    rw [he]
    clear he hc hl
    go_enter Try.func26, Try.ntmps26
    go_wp2_with fail
    go_ret
    exact ⟨rfl, Below.refl _ _⟩

theorem cmp_self : ∀ (x : List UInt8), Lib.compareBytes x x = 0
  | [] => rfl
  | a :: x => by
    unfold Lib.compareBytes
    rw [if_neg (UInt8.lt_irrefl a), if_neg (UInt8.lt_irrefl a)]
    exact cmp_self x
theorem cmp_less : ∀ (x y : List UInt8), x < y → Lib.compareBytes x y = -1
  | [], [], h => absurd h (List.lt_irrefl [])
  | [], _ :: _, _ => rfl
  | _ :: _, [], h => absurd h (List.not_lt_nil _)
  | a :: x, b :: y, h => by
    unfold Lib.compareBytes
    rcases List.cons_lt_cons_iff.1 h with h2 | ⟨rfl, h2⟩
    · rw [if_pos h2]
    · rw [if_neg (UInt8.lt_irrefl a), if_neg (UInt8.lt_irrefl a)]
      exact cmp_less x y h2
theorem cmp_more : ∀ (x y : List UInt8), y < x → Lib.compareBytes x y = 1
  | [], [], h => absurd h (List.lt_irrefl [])
  | [], _ :: _, h => absurd h (List.not_lt_nil _)
  | _ :: _, [], _ => rfl
  | a :: x, b :: y, h => by
    unfold Lib.compareBytes
    rcases List.cons_lt_cons_iff.1 h with h2 | ⟨rfl, h2⟩
    · rw [if_neg (UInt8.lt_asymm h2), if_pos h2]
    · rw [if_neg (UInt8.lt_irrefl b), if_neg (UInt8.lt_irrefl b)]
      exact cmp_more x y h2
/-- How keys compare: a number that is less than, more than or just none. -/
def cmpK (a b : ByteArray) : Int := Lib.compareBytes a.data.toList b.data.toList
theorem cmpK_less {a b : ByteArray} (h : ltK a b = true) : cmpK a b = -1 := cmp_less _ _ (by simpa [ltK] using h)
theorem cmpK_more {a b : ByteArray} (h : ltK b a = true) : cmpK a b = 1 := cmp_more _ _ (by simpa [ltK] using h)
theorem cmpK_self (a : ByteArray) : cmpK a a = 0 := cmp_self _
theorem key_cases (a b : ByteArray) : ltK a b = true ∨ ltK b a = true ∨ a = b := by
  by_cases h : a = b
  · exact Or.inr (Or.inr h)
  · cases h1 : ltK a b with
    | true => exact Or.inl rfl
    | false => exact Or.inr (Or.inl (ltK_total h1 h))
theorem code_compare (a b : ByteArray) (w : World) : Calls Try.prog 29 #[.string a, .string b] w fun e w' => e = .returned (.int .i64 (cmpK a b)) ∧ Below w.heap.size w w' :=
  (Try.strings_Compare a b w).mono fun _ _ ⟨he, hw⟩ => ⟨he, by subst hw; exact Below.refl _ _⟩

end Go.Proofs.Ytpepijoppgbbfaa.Shf
