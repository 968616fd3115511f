/- disk: the document's own disk in memory, by the blocks that it touches. -/
import Derived.Test.YtepcfmigkhacgaaDoorDkK
import Derived.Laws.OwnMore
import Derived.StillTailTactics
import Derived.Deep.Cut
import Derived.Deep.RegionHeld3
import Derived.Deep.AppendLies
namespace Go.Proofs.YtepcfmigkhacgaaDoor.Dk
open Go.RowKit Go.Proofs.YtepcfmigkhacgaaDoor.Gr

/-- A change, as the document keeps it. -/
def KR : Kind Tryd.prog Ch where
  T := 104
  size := 4
  bytes := 40
  zero := .agg #[.int .i64 0, .int .i64 0, .string ⟨#[]⟩, .bool false]
  enc c := [.int .i64 c.file, .int .i64 c.at_, .string c.s, .bool c.cut]
  info := by kernel_rfl
  zsize := rfl
  pos := by decide
  len _ := rfl
  one x u hu := by simp at hu; rcases hu with rfl | rfl | rfl | rfl <;> rfl
/-- Texts among others. -/
def KS : Kind Tryd.prog ByteArray where
  T := 9
  size := 1
  bytes := 16
  zero := .string ⟨#[]⟩
  enc s := [.string s]
  info := by kernel_rfl
  zsize := rfl
  pos := by decide
  len _ := rfl
  one x u hu := by simp at hu; subst hu; rfl

/-- What is there of old, but for what is of some types and lies from B on, is as it was. -/
structure Kp (B : Nat) (T : Nat → TypeId → Prop) (a b : World) : Prop where
  os : b.os = a.os
  tape : b.tape = a.tape
  output : b.output = a.output
  size : a.heap.size ≤ b.heap.size
  block : ∀ (k : Nat) (o : Obj), a.heap[k]? = some o → (k < B ∨ ∀ cs t fz, o = .cells cs t fz → ¬ T k t) → b.heap[k]? = some o
section
variable {B : Nat} {T : Nat → TypeId → Prop} {a b c : World}
theorem Kp.refl : Kp B T a a := ⟨rfl, rfl, rfl, Nat.le_refl _, fun _ _ h _ => h⟩
theorem Kp.trans (h : Kp B T a b) (k : Kp B T b c) : Kp B T a c :=
  ⟨k.os.trans h.os, k.tape.trans h.tape, k.output.trans h.output, Nat.le_trans h.size k.size, fun i o hi hn => k.block i o (h.block i o hi hn) hn⟩
theorem Kp.of_below (h : Below a.heap.size a b) : Kp B T a b :=
  ⟨h.os, h.tape, h.output, h.size, fun k _ hk _ => (h.block k (Array.getElem?_eq_some_iff.1 hk).1).trans hk⟩
theorem Kp.alloc (h : Kp B T a b) (o : Obj) : Kp B T a (b.alloc o) := h.trans (Kp.of_below ((Below.refl _ _).alloc (Nat.le_refl _) _))
theorem Kp.drew (h : Kp B T a b) : Kp B T a b.drew := ⟨h.os, h.tape, h.output, h.size, h.block⟩
theorem Kp.setCell (h : Kp B T a b) {g i : Nat} {cs : Array Value} {t : TypeId} {fz : Nat × Nat} (hg : b.heap[g]? = some (.cells cs t fz)) (hn : a.heap.size ≤ g ∨ (B ≤ g ∧ T g t)) (v : Value) : Kp B T a (b.setCell ⟨g, i, none⟩ v) := by
  refine ⟨h.os, h.tape, h.output, by simp [World.setCell]; exact h.size, fun k o hk hc => ?_⟩
  rw [Below.heap_setCell _ _ _ _ (fun e => ?_)]
  · exact h.block k o hk hc
  · have e2 : k = g := e
    subst e2
    have h1 := h.block k o hk hc
    rw [hg] at h1
    rcases hn with hn | ⟨h2, h3⟩
    · have := (Array.getElem?_eq_some_iff.1 hk).1
      omega
    · rcases hc with hc | hc
      · omega
      · exact hc _ _ _ (Option.some.inj h1).symm h3
theorem Kp.grown {row : Option Nat} (h : Kp B T a b) (hg : b.grownBy c row) (hr : ∀ k, row = some k → ∃ cs t fz, b.heap[k]? = some (.cells cs t fz) ∧ (a.heap.size ≤ k ∨ (B ≤ k ∧ T k t))) : Kp B T a c := by
  refine ⟨hg.os.trans h.os, hg.tape.trans h.tape, hg.output.trans h.output, Nat.le_trans h.size hg.size, fun k o hk hc => ?_⟩
  have h1 := h.block k o hk hc
  rw [hg.block k (Array.getElem?_eq_some_iff.1 h1).1 (fun e => ?_)]
  · exact h1
  · obtain ⟨cs, t, fz, h2, h3⟩ := hr k e.symm
    rw [h1] at h2
    rcases h3 with h3 | ⟨h3, h4⟩
    · have := (Array.getElem?_eq_some_iff.1 hk).1
      omega
    · rcases hc with hc | hc
      · omega
      · exact hc _ _ _ (Option.some.inj h2) h4
theorem Kp.below (h : Kp B T a b) (hB : B ≤ a.heap.size) : Below B a b :=
  ⟨h.os, h.tape, h.output, h.size, fun k hk => by
    have hlt : k < a.heap.size := by omega
    rw [Array.getElem?_eq_getElem hlt]
    exact h.block k _ (Array.getElem?_eq_getElem hlt) (Or.inl hk)⟩
end

/-- A row of 64 texts. -/
structure SRow (w : World) (g cap : Nat) (N : List ByteArray) : Prop where
  heap : ∃ X : List Value, w.heap[g]? = some (.cells (N.map Value.string ++ X).toArray 9 (0, 0))
  len : N.length = 64
  cap : 64 ≤ cap
section
variable {w w' : World} {g cap : Nat} {N : List ByteArray}
theorem SRow.file (h : SRow w g cap N) {f : Nat} (hf : f < 64) : w.cell? ⟨g, f, none⟩ = some (.string (N.getD f ⟨#[]⟩)) := by
  obtain ⟨X, hX⟩ := h.heap
  refine cell_row hX ?_
  rw [List.getElem?_append_left (by rw [List.length_map, h.len]; exact hf), List.getElem?_map, List.getD_eq_getElem?_getD, List.getElem?_eq_getElem (by rw [h.len]; exact hf)]
  rfl
theorem SRow.fz (h : SRow w g cap N) (i : Nat) : w.frozen? ⟨g, i, none⟩ = false := by
  obtain ⟨X, hX⟩ := h.heap
  simp [World.frozen?, hX]
theorem SRow.lt (h : SRow w g cap N) : g < w.heap.size := by
  obtain ⟨X, hX⟩ := h.heap
  exact (Array.getElem?_eq_some_iff.1 hX).1
theorem SRow.put (h : SRow w g cap N) {f : Nat} (hf : f < 64) (s : ByteArray) : SRow (w.setCell ⟨g, f, none⟩ (.string s)) g cap (N.set f s) := by
  obtain ⟨X, hX⟩ := h.heap
  refine ⟨⟨X, ?_⟩, by rw [List.length_set]; exact h.len, h.cap⟩
  rw [setCell_eq_setRow w g f _ _ _ _ hX, setRow_heap _ _ _ _ _ _ hX, List.setIfInBounds_toArray, List.set_append_left _ _ (by rw [List.length_map, h.len]; exact hf), List.map_set]
theorem SRow.other (h : SRow w g cap N) {a : Addr} (ha : g ≠ a.block) (v : Value) : SRow (w.setCell a v) g cap N := by
  obtain ⟨X, hX⟩ := h.heap
  exact ⟨⟨X, (Below.heap_setCell _ _ _ _ ha).trans hX⟩, h.len, h.cap⟩
theorem SRow.at_ (h : SRow w g cap N) : KS.At w (.slice (some ⟨g, 0, none⟩) 64 cap) N := by
  obtain ⟨X, hX⟩ := h.heap
  refine Or.inr ⟨g, 0, cap, by rw [h.len], by rw [h.len]; decide, by rw [h.len]; exact h.cap, fun j u hj => ?_⟩
  rw [Nat.zero_add]
  refine cell_row hX ?_
  have e : KS.flat N = N.map Value.string := by
    unfold Kind.flat
    rw [← List.flatMap_singleton' (N.map Value.string), List.flatMap_map]
    rfl
  rw [e] at hj
  rw [List.getElem?_append_left (List.getElem?_eq_some_iff.1 hj).1]
  exact hj
end

/-- The blocks that a disk touches: its own, its changes, and of texts its two rows alone. -/
def RefT (na sa k : Nat) (t : TypeId) : Prop := t = 57 ∨ (t = 9 ∧ (k = na ∨ k = sa)) ∨ t = 104
/-- The document's disk in block r, its rows from block B on. -/
structure RAt (B : Nat) (w : World) (r na nc sa sc : Nat) (lv : Value) (goes : Int) (S : St) : Prop where
  heap : w.heap[r]? = some (.cells #[.slice (some ⟨na, 0, none⟩) 64 nc, .slice (some ⟨sa, 0, none⟩) 64 sc, lv, .int .i64 S.ops, .int .i64 goes, .bool (!S.on)] 57 (0, 0))
  now : SRow w na nc S.now
  sure : SRow w sa sc S.sure
  loose : KR.Own B lv S.loose w
  ne : na ≠ sa
  bR : B ≤ r
  bN : B ≤ na
  bS : B ≤ sa
/-- When the power goes. -/
def GoesOk (S : St) (goes : Int) : Prop := S.on = true → (S.lasts = -1 ∧ -1 ≤ goes ∧ goes < S.ops) ∨ (0 ≤ S.lasts ∧ goes = S.ops + S.lasts)
section
variable {B r na nc sa sc : Nat} {w w' : World} {lv : Value} {goes : Int} {S : St}
theorem RAt.cNow (h : RAt B w r na nc sa sc lv goes S) : w.cell? ⟨r, 0, none⟩ = some (.slice (some ⟨na, 0, none⟩) 64 nc) := by rw [Lib.cell_of_heap h.heap]; rfl
theorem RAt.cSure (h : RAt B w r na nc sa sc lv goes S) : w.cell? ⟨r, 1, none⟩ = some (.slice (some ⟨sa, 0, none⟩) 64 sc) := by rw [Lib.cell_of_heap h.heap]; rfl
theorem RAt.cLoose (h : RAt B w r na nc sa sc lv goes S) : w.cell? ⟨r, 2, none⟩ = some lv := by rw [Lib.cell_of_heap h.heap]; rfl
theorem RAt.cOps (h : RAt B w r na nc sa sc lv goes S) : w.cell? ⟨r, 3, none⟩ = some (.int .i64 S.ops) := by rw [Lib.cell_of_heap h.heap]; rfl
theorem RAt.cGoes (h : RAt B w r na nc sa sc lv goes S) : w.cell? ⟨r, 4, none⟩ = some (.int .i64 goes) := by rw [Lib.cell_of_heap h.heap]; rfl
theorem RAt.cOff (h : RAt B w r na nc sa sc lv goes S) : w.cell? ⟨r, 5, none⟩ = some (.bool (!S.on)) := by rw [Lib.cell_of_heap h.heap]; rfl
theorem RAt.fz (h : RAt B w r na nc sa sc lv goes S) (i : Nat) : w.frozen? ⟨r, i, none⟩ = false := by simp [World.frozen?, h.heap]
theorem own_kp {T : Nat → TypeId → Prop} {α : Type} {K : Kind Tryd.prog α} {L : List α} (h : K.Own B lv L w) (hk : Kp B T w w') (hT : ∀ k, lv.ownBlock = some k → ¬ T k K.T) : K.Own B lv L w' := by
  rcases h.2 with ⟨rfl, e⟩ | ⟨b, cp, cur, rfl, hb, hc, r⟩
  · exact ⟨h.1, Or.inl ⟨rfl, e⟩⟩
  · exact ⟨h.1, Or.inr ⟨b, cp, cur, rfl, hb, hk.block b _ hc (Or.inr fun cs t fz e => by cases e; exact hT b rfl), r⟩⟩
theorem SRow.kp {T : Nat → TypeId → Prop} {g cap : Nat} {N : List ByteArray} (h : SRow w g cap N) (hk : Kp B T w w') (hT : ¬ T g 9) : SRow w' g cap N := by
  obtain ⟨X, hX⟩ := h.heap
  exact ⟨⟨X, hk.block g _ hX (Or.inr fun cs t fz e => by cases e; exact hT)⟩, h.len, h.cap⟩
/-- It stays what it is where none of its types are touched. -/
theorem RAt.kp {T : Nat → TypeId → Prop} (h : RAt B w r na nc sa sc lv goes S) (hk : Kp B T w w') (hT : ∀ k t, RefT na sa k t → ¬ T k t) : RAt B w' r na nc sa sc lv goes S :=
  { h with heap := hk.block r _ h.heap (Or.inr fun cs t fz e => by cases e; exact hT _ _ (Or.inl rfl)), now := h.now.kp hk (hT _ _ (Or.inr (Or.inl ⟨rfl, Or.inl rfl⟩))), sure := h.sure.kp hk (hT _ _ (Or.inr (Or.inl ⟨rfl, Or.inr rfl⟩))), loose := own_kp h.loose hk fun k _ => hT _ _ (Or.inr (Or.inr rfl)) }
theorem RAt.below (h : RAt B w r na nc sa sc lv goes S) (hb : Below w.heap.size w w') : RAt B w' r na nc sa sc lv goes S := h.kp (T := fun _ _ => False) (Kp.of_below hb) (fun _ _ _ => id)
theorem own_setc {α : Type} {K : Kind Tryd.prog α} {L : List α} (h : K.Own B lv L w) {a : Addr} (ha : lv.ownBlock ≠ some a.block) (v : Value) : K.Own B lv L (w.setCell a v) := by
  rcases h.2 with ⟨rfl, e⟩ | ⟨b, cp, cur, rfl, hb, hc, r⟩
  · exact ⟨h.1, Or.inl ⟨rfl, e⟩⟩
  · exact ⟨h.1, Or.inr ⟨b, cp, cur, rfl, hb, (Below.heap_setCell _ _ _ _ (fun e => ha (by rw [← e]; rfl))).trans hc, r⟩⟩
theorem own_ne {α : Type} {K : Kind Tryd.prog α} {L : List α} (h : K.Own B lv L w) {g : Nat} {cs : Array Value} {t : TypeId} {fz : Nat × Nat} (hg : w.heap[g]? = some (.cells cs t fz)) (ht : K.T ≠ t) : lv.ownBlock ≠ some g := fun e => by
  obtain ⟨c, hc⟩ := own_type h g e
  rw [hg] at hc
  simp at hc
  exact ht hc.2.1.symm
theorem SRow.ne (h : SRow w na nc S.now) {g : Nat} {cs : Array Value} {t : TypeId} {fz : Nat × Nat} (hg : w.heap[g]? = some (.cells cs t fz)) (ht : t ≠ 9) : na ≠ g := fun e => by
  obtain ⟨X, hX⟩ := h.heap
  rw [e, hg] at hX
  simp at hX
  exact ht hX.2.1
/-- A field is set. -/
theorem RAt.field (h : RAt B w r na nc sa sc lv goes S) {i : Nat} {u : Value} {na' nc' sa' sc' : Nat} {lv' : Value} {goes' : Int} {S' : St}
    (hc : (#[.slice (some ⟨na, 0, none⟩) 64 nc, .slice (some ⟨sa, 0, none⟩) 64 sc, lv, .int .i64 S.ops, .int .i64 goes, .bool (!S.on)] : Array Value).setIfInBounds i u = #[.slice (some ⟨na', 0, none⟩) 64 nc', .slice (some ⟨sa', 0, none⟩) 64 sc', lv', .int .i64 S'.ops, .int .i64 goes', .bool (!S'.on)])
    (hn : SRow w na' nc' S'.now) (hs : SRow w sa' sc' S'.sure) (hl : KR.Own B lv' S'.loose w) (hne : na' ≠ sa') (hbN : B ≤ na') (hbS : B ≤ sa') : RAt B (w.setCell ⟨r, i, none⟩ u) r na' nc' sa' sc' lv' goes' S' := by
  obtain ⟨X, hX⟩ := hn.heap
  obtain ⟨Y, hY⟩ := hs.heap
  refine ⟨?_, hn.other (fun e => ?_) u, hs.other (fun e => ?_) u, own_setc hl (own_ne hl h.heap (by decide)) u, hne, h.bR, hbN, hbS⟩
  · rw [setCell_eq_setRow w r i _ _ _ _ h.heap, setRow_heap _ _ _ _ _ _ h.heap, hc]
  · have e2 : na' = r := e
    rw [e2, h.heap] at hX
    simp at hX
  · have e2 : sa' = r := e
    rw [e2, h.heap] at hY
    simp at hY
theorem RAt.putNow (h : RAt B w r na nc sa sc lv goes S) {f : Nat} (hf : f < 64) (s : ByteArray) : RAt B (w.setCell ⟨na, f, none⟩ (.string s)) r na nc sa sc lv goes { S with now := S.now.set f s } := by
  obtain ⟨X, hX⟩ := h.now.heap
  refine ⟨(Below.heap_setCell _ _ _ _ (fun e => ?_)).trans h.heap, h.now.put hf s, h.sure.other (fun e => h.ne e.symm) _, own_setc h.loose (own_ne h.loose hX (by decide)) _, h.ne, h.bR, h.bN, h.bS⟩
  have e2 : r = na := e
  rw [← e2, h.heap] at hX
  simp at hX
theorem RAt.putSure (h : RAt B w r na nc sa sc lv goes S) {f : Nat} (hf : f < 64) (s : ByteArray) : RAt B (w.setCell ⟨sa, f, none⟩ (.string s)) r na nc sa sc lv goes { S with sure := S.sure.set f s } := by
  obtain ⟨X, hX⟩ := h.sure.heap
  refine ⟨(Below.heap_setCell _ _ _ _ (fun e => ?_)).trans h.heap, h.now.other (fun e => h.ne e) _, h.sure.put hf s, own_setc h.loose (own_ne h.loose hX (by decide)) _, h.ne, h.bR, h.bN, h.bS⟩
  have e2 : r = sa := e
  rw [← e2, h.heap] at hX
  simp at hX
theorem RAt.lasts (h : RAt B w r na nc sa sc lv goes S) (l : Int) : RAt B w r na nc sa sc lv goes { S with lasts := l } := ⟨h.heap, h.now, h.sure, h.loose, h.ne, h.bR, h.bN, h.bS⟩
end

/-- The document's disk, wherever its rows lie. -/
def RefAt (B : Nat) (w : World) (r : Nat) (S : St) : Prop := ∃ na nc sa sc lv goes, RAt B w r na nc sa sc lv goes S ∧ GoesOk S goes
/-- What a call of the document's leaves. -/
def RPost (B : Nat) (w : World) (r na sa : Nat) (v : Value) (T : St) (e : Ending) (w' : World) : Prop :=
  e = .returned v ∧ Kp B (RefT na sa) w w' ∧ ∃ na' nc' sa' sc' lv' goes', RAt B w' r na' nc' sa' sc' lv' goes' T ∧ GoesOk T goes' ∧ (na' = na ∨ w.heap.size ≤ na') ∧ (sa' = sa ∨ w.heap.size ≤ sa')
end Go.Proofs.YtepcfmigkhacgaaDoor.Dk

namespace Go.Proofs.YtepcfmigkhacgaaDoor.Dk
open Go.RowKit Go.Proofs.YtepcfmigkhacgaaDoor.Gr
section
variable {B r na nc sa sc : Nat} {lv : Value} {goes : Int} {S : St}

theorem ref_file (w : World) (f : Int) (h : RAt B w r na nc sa sc lv goes S) : Calls Tryd.prog 59 #[.pointer (some ⟨r, 0, none⟩), .int .i64 f] w fun e w' => e = .returned (.int .i64 (errF S.on f)) ∧ w = w' := by
  have hc := h.cOff
  clear h
  generalize S.on = b at hc ⊢
  cases b
  · go_enter Tryd.func59, Tryd.ntmps59
    go_wp2_with fail
    go_ret
    exact ⟨rfl, rfl⟩
  · unfold errF
    rw [if_pos rfl]
    by_cases h1 : f < 0
    · rw [if_pos (Or.inl h1)]
      go_enter Tryd.func59, Tryd.ntmps59
      go_wp2_with fail
      go_ret
      exact ⟨rfl, rfl⟩
    · by_cases h2 : 64 ≤ f
      · rw [if_pos (Or.inr h2)]
        have h3 : 0 ≤ f := by omega
        go_enter Tryd.func59, Tryd.ntmps59
        go_wp2_with fail
        go_ret
        exact ⟨rfl, rfl⟩
      · rw [if_neg (by omega)]
        have h3 : 0 ≤ f := by omega
        have h4 : f < 64 := by omega
        go_enter Tryd.func59, Tryd.ntmps59
        go_wp2_with fail
        go_ret
        exact ⟨rfl, rfl⟩
end
/-- The power goes with an operation. -/
def offS (S : St) (goes : Int) : St := { S with ops := S.ops + 1, on := !(decide ((S.ops : Int) = goes)) }
theorem off_op {S : St} {goes : Int} (h : GoesOk S goes) (hon : S.on = true) : { offS S goes with lasts := (opS S).2.lasts } = (opS S).2 ∧ (offS S goes).on = decide ((opS S).1 = 0) ∧ GoesOk (opS S).2 goes := by
  rcases h hon with ⟨h1, h2, h3⟩ | ⟨h1, h2⟩
  · have e : ¬ (S.ops : Int) = goes := by omega
    unfold opS offS
    rw [if_neg (by omega), if_neg (by omega)]
    simp only [e, decide_false, Bool.not_false]
    refine ⟨by rw [hon], by simp, fun _ => Or.inl ⟨h1, h2, by show goes < ((S.ops + 1 : Nat) : Int); omega⟩⟩
  · by_cases h0 : S.lasts = 0
    · have e : (S.ops : Int) = goes := by omega
      unfold opS offS
      rw [if_pos h0]
      simp only [e, decide_true, Bool.not_true]
      exact ⟨trivial, by simp, fun h => by cases h⟩
    · have e : ¬ (S.ops : Int) = goes := by omega
      unfold opS offS
      rw [if_neg h0, if_pos (by omega)]
      simp only [e, decide_false, Bool.not_false]
      exact ⟨by rw [hon], by simp, fun _ => Or.inr ⟨by show 0 ≤ S.lasts - 1; omega, by show goes = ((S.ops + 1 : Nat) : Int) + (S.lasts - 1); omega⟩⟩
section
variable {B r na nc sa sc : Nat} {lv : Value} {goes : Int} {S : St}
theorem RAt.ops (w : World) (h : RAt B w r na nc sa sc lv goes S) : RAt B (w.setCell ⟨r, 3, none⟩ (.int .i64 (S.ops + 1 : Nat))) r na nc sa sc lv goes { S with ops := S.ops + 1 } :=
  h.field (by simp) h.now h.sure h.loose h.ne h.bN h.bS
theorem RAt.off (w : World) (h : RAt B w r na nc sa sc lv goes S) (b : Bool) : RAt B (w.setCell ⟨r, 5, none⟩ (.bool b)) r na nc sa sc lv goes { S with on := !b } :=
  h.field (by simp) h.now h.sure h.loose h.ne h.bN h.bS
theorem RAt.goesTo (w : World) (h : RAt B w r na nc sa sc lv goes S) (n : Int) : RAt B (w.setCell ⟨r, 4, none⟩ (.int .i64 n)) r na nc sa sc lv n S :=
  h.field (by simp) h.now h.sure h.loose h.ne h.bN h.bS
theorem RAt.kSet {w0 w : World} {na0 sa0 : Nat} (h : RAt B w r na nc sa sc lv goes S) (hk : Kp B (RefT na0 sa0) w0 w) (i : Nat) (v : Value) : Kp B (RefT na0 sa0) w0 (w.setCell ⟨r, i, none⟩ v) := hk.setCell h.heap (Or.inr ⟨h.bR, Or.inl rfl⟩) v
theorem SRow.kSet {w0 w : World} {g cap : Nat} {N : List ByteArray} (h : SRow w g cap N) (hs : g = na ∨ g = sa) (hb : B ≤ g) (hk : Kp B (RefT na sa) w0 w) (i : Nat) (v : Value) : Kp B (RefT na sa) w0 (w.setCell ⟨g, i, none⟩ v) := by
  obtain ⟨X, hX⟩ := h.heap
  exact hk.setCell hX (Or.inr ⟨hb, Or.inr (Or.inl ⟨rfl, hs⟩)⟩) v

set_option maxRecDepth 100000 in
theorem ref_step (w : World) (h : RAt B w r na nc sa sc lv goes S) (hn : S.ops ≤ 1000000000) (hon : S.on = true) (hg : GoesOk S goes) : Calls Tryd.prog 60 #[.pointer (some ⟨r, 0, none⟩)] w fun e w' => e = .returned (.bool (decide ((opS S).1 = 0))) ∧ RAt B w' r na nc sa sc lv goes (opS S).2 ∧ Kp B (RefT na sa) w w' := by
  obtain ⟨h1, h2, h3⟩ := off_op hg hon
  rw [← h1, ← h2]
  have hc3 := h.cOps
  have hf := h.fz
  have HA := Lib.hid (h.ops w)
  have HKA := Lib.hid (h.kSet (Kp.refl (T := RefT na sa) (a := w)) 3 (.int .i64 (S.ops + 1 : Nat)))
  obtain ⟨n, hn1⟩ : ∃ n : Int, (S.ops : Int) = n := ⟨_, rfl⟩
  have hn2 : ((S.ops + 1 : Nat) : Int) = n + 1 := by omega
  have hn0 : 0 ≤ n := by omega
  have hn3 : n ≤ 1000000000 := by omega
  rw [hn2] at HA HKA
  rw [hn1] at hc3
  unfold offS
  obtain ⟨q, hq⟩ : ∃ q, (n == goes) = q := ⟨_, rfl⟩
  rw [hn1, show decide (n = goes) = (n == goes) by rfl, hq]
  have HQ := Lib.hid hq
  clear hq
  obtain ⟨on, hon2⟩ : ∃ b, S.on = b := ⟨_, rfl⟩
  obtain ⟨la, hla⟩ : ∃ b, (opS S).2.lasts = b := ⟨_, rfl⟩
  rw [hla]
  clear h1 h2 h3 h hg hon hn
  go_enter Tryd.func60, Tryd.ntmps60
  go_upto_region 2 with (fail)
  generalize w.setCell ⟨r, 3, none⟩ (.int .i64 (n + 1)) = w1 at HA HKA ⊢
  clear hc3 hf
  refine wp_region_still_tail 11 (by kernel_rfl) (by kernel_rfl) ?_
  simp only [List.take_succ_cons, List.take_zero, List.drop_succ_cons, List.drop_zero]
  have ha : RAt B w1.drew r na nc sa sc lv goes { S with ops := S.ops + 1 } := HA.out.below (Below.refl _ _).drew
  have HKA2 := Lib.hid (HKA.out.drew)
  show wpStill _ _ w1.drew (fun a' => wpList _ _ _ _ a' w1.drew) _ _
  generalize w1.drew = w2 at ha HKA2 ⊢
  have hc3 := ha.cOps
  have hc4 := ha.cGoes
  have hc5 := ha.cOff
  have hf := ha.fz
  simp only [hn2, hon2] at hc3 hc5
  have HB := Lib.hid ((ha.off _ q).lasts la)
  have HKB := Lib.hid (ha.kSet HKA2.out 5 (.bool q))
  have he : (n + 1 - 1 : Int) = n := by omega
  have hw : IntKind.i64.wrap n = n := wrap_in _ (by omega) (by omega)
  clear ha HA HKA HKA2
  repeat still_step
  refine wpStill_nil ?_
  go_upto_region 3 with (fail)
  rw [HQ.out]
  generalize w2.setCell ⟨r, 5, none⟩ (.bool q) = w3 at HB HKB ⊢
  clear hc3 hc4 hc5 hf
  have hc5 := HB.out.cOff
  simp only [Bool.not_not] at hc5
  go_wp2_with fail
  go_ret
  exact ⟨rfl, HB.out, HKB.out⟩

theorem ref_Power (w : World) (h : RAt B w r na nc sa sc lv goes S) (hg : GoesOk S goes) (hn : S.ops ≤ 1000000000) (m : Int) : Calls Tryd.prog 26 #[.pointer (some ⟨r, 0, none⟩), .int .i64 m] w (RPost B w r na sa (.int .i64 (powerS S m).1) (powerS S m).2) := by
  have hc := h.cOff
  have hc3 := h.cOps
  have hf := h.fz
  have HR := Lib.hid h
  have HG := Lib.hid hg
  unfold powerS RPost
  by_cases hon : S.on = true
  · rw [if_pos hon]
    rw [hon] at hc
    by_cases h1 : m < 0
    · rw [if_pos (Or.inl h1)]
      clear h hg
      go_enter Tryd.func26, Tryd.ntmps26
      go_wp2_with fail
      go_ret
      exact ⟨rfl, Kp.refl, _, _, _, _, _, _, HR.out, HG.out, Or.inl rfl, Or.inl rfl⟩
    · have h1' : 0 ≤ m := by omega
      by_cases h2 : 1099511627776 < m
      · rw [if_pos (Or.inr h2)]
        clear h hg
        go_enter Tryd.func26, Tryd.ntmps26
        go_wp2_with fail
        go_ret
        exact ⟨rfl, Kp.refl, _, _, _, _, _, _, HR.out, HG.out, Or.inl rfl, Or.inl rfl⟩
      · rw [if_neg (by omega)]
        have h2' : m ≤ 1099511627776 := by omega
        obtain ⟨n, hn1⟩ : ∃ n : Int, (S.ops : Int) = n := ⟨_, rfl⟩
        have hn0 : 0 ≤ n := by omega
        have hn3 : n ≤ 1000000000 := by omega
        rw [hn1] at hc3
        have hc4 := h.cGoes
        have HT := Lib.hid ((h.goesTo w (n + m)).lasts m)
        have HK := Lib.hid (h.kSet (Kp.refl (T := RefT na sa) (a := w)) 4 (.int .i64 (n + m)))
        have HO := Lib.hid (show GoesOk { S with lasts := m } (n + m) from fun _ => Or.inr ⟨h1', by show n + m = S.ops + m; omega⟩)
        clear h hg hn hn1 hon
        go_enter Tryd.func26, Tryd.ntmps26
        go_wp2_with fail
        go_ret
        exact ⟨rfl, HK.out, _, _, _, _, _, _, HT.out, HO.out, Or.inl rfl, Or.inl rfl⟩
  · rw [if_neg hon]
    rw [show S.on = false by simpa using hon] at hc
    clear h hg
    go_enter Tryd.func26, Tryd.ntmps26
    go_wp2_with fail
    go_ret
    exact ⟨rfl, Kp.refl, _, _, _, _, _, _, HR.out, HG.out, Or.inl rfl, Or.inl rfl⟩

end
end Go.Proofs.YtepcfmigkhacgaaDoor.Dk

namespace Go.Proofs.YtepcfmigkhacgaaDoor.Dk
open Go.RowKit Go.Proofs.YtepcfmigkhacgaaDoor.Gr
theorem kr_info : (Tryd.prog.info? 104).map (fun i => (i.zero, i.size, i.bytes)) = some (some (.agg #[.int .i64 0, .int .i64 0, .string ⟨#[]⟩, .bool false]), 4, 40) := by kernel_rfl
section
variable {B r na nc sa sc : Nat} {lv : Value} {goes : Int} {S : St}
/-- A field is set. -/
theorem ref_field {w : World} {A : Array Value} {i : Nat} {u : Value} (hh : w.heap[r]? = some (.cells A 57 (0, 0)))
    (hc : A.setIfInBounds i u = #[.slice (some ⟨na, 0, none⟩) 64 nc, .slice (some ⟨sa, 0, none⟩) 64 sc, lv, .int .i64 S.ops, .int .i64 goes, .bool (!S.on)])
    (hn : SRow w na nc S.now) (hs : SRow w sa sc S.sure) (hl : KR.Own B lv S.loose w) (hne : na ≠ sa) (hbR : B ≤ r) (hbN : B ≤ na) (hbS : B ≤ sa) : RAt B (w.setCell ⟨r, i, none⟩ u) r na nc sa sc lv goes S := by
  obtain ⟨X, hX⟩ := hn.heap
  obtain ⟨Y, hY⟩ := hs.heap
  refine ⟨?_, hn.other (fun e => ?_) u, hs.other (fun e => ?_) u, own_setc hl (own_ne hl hh (by decide)) u, hne, hbR, hbN, hbS⟩
  · rw [setCell_eq_setRow w r i _ _ _ _ hh, setRow_heap _ _ _ _ _ _ hh, hc]
  · have e2 : na = r := e
    rw [e2, hh] at hX
    simp at hX
  · have e2 : sa = r := e
    rw [e2, hh] at hY
    simp at hY
theorem row_grown {w w2 : World} {L : List Ch} (hl : KR.Own B lv L w) (hg : w.grownBy w2 lv.ownBlock) {k : Nat} {cs : Array Value} {t : TypeId} {fz : Nat × Nat} (hk : w.heap[k]? = some (.cells cs t fz)) (ht : KR.T ≠ t) : w2.heap[k]? = some (.cells cs t fz) := by
  rw [hg.block k (Array.getElem?_eq_some_iff.1 hk).1 (fun e => own_ne hl hk ht e.symm)]
  exact hk
theorem srow_grown {w w2 : World} {L : List Ch} (hl : KR.Own B lv L w) (hg : w.grownBy w2 lv.ownBlock) {g cap : Nat} {N : List ByteArray} (h : SRow w g cap N) : SRow w2 g cap N := by
  obtain ⟨X, hX⟩ := h.heap
  exact ⟨⟨X, row_grown hl hg hX (by decide)⟩, h.len, h.cap⟩
/-- The row of loose changes has grown, and is laid. -/
theorem RAt.grow {w w2 : World} (h : RAt B w r na nc sa sc lv goes S) (hg : w.grownBy w2 lv.ownBlock) {x : Ch} {k cap m : Nat} (hown : KR.Own B (.slice (some ⟨k, 0, none⟩) m cap) (S.loose ++ [x]) w2) :
    RAt B (w2.setCell ⟨r, 2, none⟩ (.slice (some ⟨k, 0, none⟩) m cap)) r na nc sa sc (.slice (some ⟨k, 0, none⟩) m cap) goes { S with loose := S.loose ++ [x] } ∧ Kp B (RefT na sa) w (w2.setCell ⟨r, 2, none⟩ (.slice (some ⟨k, 0, none⟩) m cap)) ∧
    w2.cell? ⟨r, 2, none⟩ = some lv ∧ w2.frozen? ⟨r, 2, none⟩ = false := by
  have hh := row_grown h.loose hg h.heap (by decide)
  refine ⟨ref_field hh (by simp) (srow_grown h.loose hg h.now) (srow_grown h.loose hg h.sure) hown h.ne h.bR h.bN h.bS, ?_, by rw [Lib.cell_of_heap hh]; rfl, by simp [World.frozen?, hh]⟩
  refine Kp.setCell (Kp.grown Kp.refl hg fun i hi => ?_) hh (Or.inr ⟨h.bR, Or.inl rfl⟩) _
  obtain ⟨cs, hc⟩ := own_type h.loose i hi
  exact ⟨_, _, _, hc, Or.inr ⟨h.loose.base i hi, Or.inr (Or.inr rfl)⟩⟩

theorem RAt.grow2 {w w2 : World} (h : RAt B w r na nc sa sc lv goes S) {o : Obj} (hg : (w.alloc o).drew.grownBy w2 lv.ownBlock) {x : Ch} {k cap : Nat} (hown : w2.ownsRow B 104 4 (.slice (some ⟨k, 0, none⟩) (S.loose.length + 1) cap) (S.loose.length + 1) (KR.flat S.loose ++ KR.flat [x])) :
    RAt B (w2.setCell ⟨r, 2, none⟩ (.slice (some ⟨k, 0, none⟩) (S.loose.length + 1) cap)) r na nc sa sc (.slice (some ⟨k, 0, none⟩) (S.loose.length + 1) cap) goes { S with loose := S.loose ++ [x] } ∧ Kp B (RefT na sa) w (w2.setCell ⟨r, 2, none⟩ (.slice (some ⟨k, 0, none⟩) (S.loose.length + 1) cap)) ∧
    w2.cell? ⟨r, 2, none⟩ = some lv ∧ w2.frozen? ⟨r, 2, none⟩ = false ∧ w2.cell? ⟨r, 0, none⟩ = some (.slice (some ⟨na, 0, none⟩) 64 nc) ∧ SRow w2 na nc S.now := by
  have hb : Below w.heap.size w (w.alloc o).drew := ((Below.refl _ _).alloc (Nat.le_refl _) _).drew
  obtain ⟨h1, h2, h3, h4⟩ := (h.below hb).grow hg (x := x) (k := k) (cap := cap) (m := S.loose.length + 1) (by
    unfold Kind.Own
    rw [KR.flat_append, List.length_append]
    exact hown)
  refine ⟨h1, (Kp.of_below hb).trans h2, h3, h4, ?_, srow_grown (h.below hb).loose hg (h.below hb).now⟩
  rw [Lib.cell_of_heap (row_grown (h.below hb).loose hg (h.below hb).heap (by decide))]
  rfl

/-- One change in a slice of one. -/
theorem ref_one {w : World} {x : Ch} : ∀ (j : Nat) (u : Value), (KR.flat [x])[j]? = some u → (w.alloc (.cells #[.int .i64 x.file, .int .i64 x.at_, .string x.s, .bool x.cut] 104)).cell? ((⟨w.heap.size, 0, none⟩ : Addr).add j) = some u := fun j u hj => by
  rw [Addr.add_mid, Nat.zero_add, Lib.cell_of_heap (heap_alloc_new w _)]
  simp only [Kind.flat, KR, List.flatMap_cons, List.flatMap_nil, List.append_nil] at hj
  rw [← hj]
  simp

/-- What an operation leaves. -/
inductive FactR where
  | val (v : Value)
  | one (x : Ch) (H : Nat)
  | own (B n : Nat) (L : List Ch)
def FactR.holds : FactR → Value → World → Prop
  | .val v0, v, _ => v = v0
  | .one x H, v, w => ∃ g, v = .slice (some ⟨g, 0, none⟩) 1 1 ∧ (H ≤ g ∧ g < w.heap.size) ∧ KR.At w v [x]
  | .own B n L, v, w => KR.Own B v L w ∧ ∃ k cap, v = .slice (some ⟨k, 0, none⟩) n cap
theorem FactR.kept (f : FactR) (v : Value) (w w' : World) (h : f.holds v w) (hb : Below w.heap.size w w') : f.holds v w' := by
  cases f with
  | val v0 => exact h
  | one x H => obtain ⟨g, h1, h2, h3⟩ := h; exact ⟨g, h1, ⟨h2.1, Nat.lt_of_lt_of_le h2.2 hb.size⟩, h3.kept hb⟩
  | own B n L => exact ⟨h.1.kept hb, h.2⟩
/-- All but the row of loose changes is as it was. -/
structure RHalf (B : Nat) (w w' : World) (r na nc sa sc : Nat) (lv : Value) (goes : Int) (S : St) : Prop where
  kp : Kp B (RefT na sa) w w'
  heap : w'.heap[r]? = some (.cells #[.slice (some ⟨na, 0, none⟩) 64 nc, .slice (some ⟨sa, 0, none⟩) 64 sc, lv, .int .i64 S.ops, .int .i64 goes, .bool (!S.on)] 57 (0, 0))
  now : SRow w' na nc S.now
  sure : SRow w' sa sc S.sure
theorem RAt.half {w w' : World} (h : RAt B w r na nc sa sc lv goes S) (hb : Below w.heap.size w w') : RHalf B w w' r na nc sa sc lv goes S :=
  ⟨Kp.of_below hb, (h.below hb).heap, (h.below hb).now, (h.below hb).sure⟩
theorem RHalf.below {w w' w2 : World} (h : RHalf B w w' r na nc sa sc lv goes S) (hb : Below w'.heap.size w' w2) : RHalf B w w2 r na nc sa sc lv goes S :=
  ⟨h.kp.trans (Kp.of_below hb), (hb.block r (Array.getElem?_eq_some_iff.1 h.heap).1).trans h.heap, h.now.kp (B := B) (T := fun _ _ => False) (Kp.of_below hb) id, h.sure.kp (B := B) (T := fun _ _ => False) (Kp.of_below hb) id⟩
theorem RAt.halfGrown {w w' w2 : World} (h : RAt B w r na nc sa sc lv goes S) (hb : Below w.heap.size w w') (hg : w'.grownBy w2 lv.ownBlock) : RHalf B w w2 r na nc sa sc lv goes S := by
  have h' := h.below hb
  refine ⟨(Kp.of_below hb).trans (Kp.grown Kp.refl hg fun i hi => ?_), row_grown h'.loose hg h'.heap (by decide), srow_grown h'.loose hg h'.now, srow_grown h'.loose hg h'.sure⟩
  obtain ⟨cs, hc⟩ := own_type h'.loose i hi
  exact ⟨_, _, _, hc, Or.inr ⟨h'.loose.base i hi, Or.inr (Or.inr rfl)⟩⟩
theorem at_grown {w w2 : World} {row : Option Nat} {g : Nat} {v : Value} {L : List Ch} (h : KR.At w v L) (hg : w.grownBy w2 row) (hv : ∃ n c, v = .slice (some ⟨g, 0, none⟩) n c) (hr : row ≠ some g) : KR.At w2 v L := by
  obtain ⟨n, c, rfl⟩ := hv
  rcases h with ⟨a, cap, h1, h2⟩ | ⟨g', o, cap, h1, h0, hc, hx⟩
  · exact Or.inl ⟨a, cap, h1, h2⟩
  · refine Or.inr ⟨g', o, cap, h1, h0, hc, fun j u hj => ?_⟩
    have hcell := hx j u hj
    cases h1
    rw [World.cell?_of_block (hg.block g (World.block_lt_of_cell? _ _ hcell) (Ne.symm hr))]
    exact hcell
theorem RHalf.lay {w w2 : World} (h : RHalf B w w2 r na nc sa sc lv goes S) (h0 : RAt B w r na nc sa sc lv goes S) {lu : Value} {L : List Ch} (hown : KR.Own B lu L w2) :
    RAt B (w2.setCell ⟨r, 2, none⟩ lu) r na nc sa sc lu goes { S with loose := L } ∧ Kp B (RefT na sa) w (w2.setCell ⟨r, 2, none⟩ lu) ∧ w2.cell? ⟨r, 2, none⟩ = some lv ∧ w2.frozen? ⟨r, 2, none⟩ = false :=
  ⟨ref_field h.heap (by simp) h.now h.sure hown h0.ne h0.bR h0.bN h0.bS, h.kp.setCell h.heap (Or.inr ⟨h0.bR, Or.inl rfl⟩) _, by rw [Lib.cell_of_heap h.heap]; rfl, by simp [World.frozen?, h.heap]⟩

set_option maxRecDepth 100000 in
set_option maxHeartbeats 3200000 in
theorem ref_Append (w : World) (h : RAt B w r na nc sa sc lv goes S) (hg : GoesOk S goes) (hn : S.ops ≤ 1000000000) (hL : S.loose.length ≤ 1000000000) (hz : ∀ s ∈ S.now, s.size ≤ 1048576) (hB : B ≤ w.heap.size) (f : Int) (s : ByteArray) (hs : s.size ≤ 16777216) :
    Calls Tryd.prog 28 #[.pointer (some ⟨r, 0, none⟩), .int .i64 f, .string s] w (RPost B w r na sa (.int .i64 (appendS S f s).1) (appendS S f s).2) := by
  have HF := Lib.hid (ref_file w f h)
  have HR := Lib.hid h
  have HG := Lib.hid hg
  have hc := h.cNow
  by_cases he : errF S.on f = 0
  · obtain ⟨hon, hf⟩ := errF_zero he
    obtain ⟨k, rfl⟩ : ∃ k : Nat, f = k := ⟨f.toNat, by omega⟩
    have hk : k < 64 := by omega
    have hc2 := h.now.file hk
    have hsz := getD_size hz k
    unfold appendS RPost
    rw [if_neg (fun x => x he), Int.toNat_natCast]
    rw [he] at HF
    have HO := Lib.hid (ref_step w h hn hon hg)
    have HGO := Lib.hid (off_op hg hon).2.2
    obtain ⟨t, ht⟩ : ∃ t, S.now.getD k ⟨#[]⟩ = t := ⟨_, rfl⟩
    rw [ht] at hc2 hsz ⊢
    have hi : (k : Int) < 64 := by omega
    have hi0 : (0 : Int) ≤ k := by omega
    have hadd : IntKind.i64.wrap ((t.size : Int) + s.size) = t.size + s.size := wrap_in _ (by omega) (by omega)
    by_cases hl : 1048576 - (t.size : Int) < s.size
    · rw [if_pos hl]
      have hl2 : (1048576 : Int) < (t.size : Int) + s.size := by omega
      clear h hg hz hf hon he hk ht hl hL hn hB
      go_enter Tryd.func28, Tryd.ntmps28
      go_wp2_with fail
      refine HF.out.mono ?_
      rintro e w' ⟨rfl, rfl⟩
      go_wp2_with fail
      go_ret
      exact ⟨rfl, Kp.refl, _, _, _, _, _, _, HR.out, HG.out, Or.inl rfl, Or.inl rfl⟩
    rw [if_neg hl]
    have hl2 : (t.size : Int) + s.size ≤ 1048576 := by omega
    rcases opS_two S with ho | ho
    · have hn1 := opS_now S
      have hl1 := opS_loose S
      rw [if_neg (fun x => x ho)]
      rw [ho] at HO
      generalize (opS S).2 = S1 at HO hn1 hl1 HGO ⊢
      rw [← hl1] at hL
      rw [← hn1] at ht
      unfold putS
      rw [ht]
      have HT := Lib.hid ht
      have HK := Lib.hid hk
      have HL := Lib.hid hL
      have HBB := Lib.hid hB
      clear h hg hz hf hon he hk ht hl hL hn hB ho hn1 hl1
      go_enter Tryd.func28, Tryd.ntmps28
      go_wp2_with fail
      refine HF.out.mono ?_
      rintro e w' ⟨rfl, rfl⟩
      go_wp2_with fail
      refine HO.out.mono ?_
      rintro e w1 ⟨rfl, hr1, hk1⟩
      have HR1 := Lib.hid hr1
      have HK1 := Lib.hid hk1
      have HB1 := Lib.hid (Nat.le_trans HBB.out hk1.size)
      clear hc hc2 hr1 hk1 HF HO HR HG
      have hc := HR1.out.cNow
      have hcl := HR1.out.cLoose
      have hc2 := HR1.out.now.file HK.out
      rw [HT.out] at hc2
      go_upto_region 8 with (fail)
      refine QT.wp_region_facts_one 18 17 (by decide) (by kernel_rfl) (fun w' => Below w1.heap.size w1 w') (fun w' => RHalf B w1 w' r na nc sa sc lv goes S1) (fun n v w' => (([.val (.pointer (some ⟨r, 0, none⟩)), .val (.pointer (some ⟨r, 0, none⟩)), .val (.pointer (some ⟨r, 0, none⟩)), .val (.pointer (some ⟨r, 2, none⟩)), .val (lv), .val (.int .i64 k), .val (.pointer (some ⟨r, 0, none⟩)), .val (.pointer (some ⟨r, 0, none⟩)), .val (.pointer (some ⟨r, 0, none⟩)), .val (.slice (some ⟨na, 0, none⟩) 64 nc), .val (.int .i64 k), .val (.pointer (some ⟨na, k, none⟩)), .val (.string t), .val (.int .i64 t.size), .val (.string s), .val (.agg #[.int .i64 k, .int .i64 t.size, .string s, .bool false]), .one ⟨k, t.size, false, s⟩ w1.heap.size, .own B (S1.loose.length + 1) (S1.loose ++ [⟨k, t.size, false, s⟩])] : List FactR).getD n (.val undef) : FactR).holds v w') (by kernel_rfl) (by kernel_rfl) (Below.refl _ _).drew (fun w1 w2 h1 hb => h1.trans (hb.mono h1.size)) (fun w1 w2 h1 hb => h1.below hb) (fun n v w1 w2 h hb => FactR.kept _ v w1 w2 h hb) (fun o ho a wz hI hag hdep => ?_) (fun n o hn hnd ho a wz hI hag hdep => ?_) (fun a wz hI hag hf => ?_)
      · have t0 : a.eval (.tmp 0) = .pointer (some ⟨r, 0, none⟩) := hag.old 0 _ (by kernel_rfl) rfl
        have t1 : a.eval (.tmp 1) = .int .i64 k := hag.old 1 _ (by kernel_rfl) rfl
        have t2 : a.eval (.tmp 2) = .string s := hag.old 2 _ (by kernel_rfl) rfl
        obtain rfl := (Option.some.inj ho).symm
        have d33 : a.eval (.tmp 33) = lv := hdep _ (Array.mem_of_getElem? (i := 0) rfl) rfl _ _ rfl rfl
        have d45 : ((.one ⟨k, t.size, false, s⟩ w1.heap.size) : FactR).holds (a.eval (.tmp 45)) wz := hdep _ (Array.mem_of_getElem? (i := 1) rfl) rfl _ _ rfl rfl
        obtain ⟨g1, e1, hg1, hat1⟩ := d45
        obtain ⟨g2, o2, cap2, e2, _, hr2⟩ := hat1.some (by simp)
        obtain ⟨i0, hi0, hz0, hz1, hz2⟩ := info_parts kr_info
        rw [e1] at e2
        cases e2
        have hBz : B ≤ wz.heap.size := Nat.le_trans HB1.out hI.size
        have hLn := HL.out
        refine ⟨rfl, wp_append_lies wz (.tmp 33) (.tmp 45) 55 rfl B 104 i0 _ 4 40 Tryd.underlying55 hi0 hz0 hz1 hz2 rfl (by omega) lv S1.loose.length (KR.flat S1.loose) d33 (HR1.out.below hI).loose ⟨g1, 0, none⟩ 1 1 (KR.flat [⟨k, t.size, false, s⟩]) e1 rfl (fun j u hj => by rw [Addr.add_mid]; exact hr2 j u hj) (KR.flat_one _) (by omega) (by unfold maxLen; omega) (by omega) hBz _ rfl ?_⟩
        intro gg cap w2 hown2 hgrow hat2 hlt2
        refine ⟨_, rfl, ⟨?_, gg, cap, rfl⟩, HR1.out.halfGrown hI hgrow, fun j u hj hu => ?_⟩
        · show KR.Own B _ _ w2
          unfold Kind.Own
          rw [KR.flat_append, List.length_append]
          exact hown2
        · match j, hj, hu with
          | 0, _, hu => exact hu
          | 1, _, hu => exact hu
          | 2, _, hu => exact hu
          | 3, _, hu => exact hu
          | 4, _, hu => exact hu
          | 5, _, hu => exact hu
          | 6, _, hu => exact hu
          | 7, _, hu => exact hu
          | 8, _, hu => exact hu
          | 9, _, hu => exact hu
          | 10, _, hu => exact hu
          | 11, _, hu => exact hu
          | 12, _, hu => exact hu
          | 13, _, hu => exact hu
          | 14, _, hu => exact hu
          | 15, _, hu => exact hu
          | 16, _, hu =>
            obtain ⟨g3, h1, h2, h3⟩ := hu
            have hlt : ∀ i, lv.ownBlock = some i → i < w1.heap.size := fun i hi => by
              obtain ⟨cs, hc⟩ := own_type HR1.out.loose i hi
              exact (Array.getElem?_eq_some_iff.1 hc).1
            exact ⟨g3, h1, ⟨h2.1, Nat.lt_of_lt_of_le h2.2 hgrow.size⟩, at_grown h3 hgrow ⟨1, 1, h1⟩ (fun e => by have := hlt g3 e; have := h2.1; omega)⟩
          | 17, hj, _ => exact absurd rfl hj
          | j + 18, _, hu => exact hu
      · have t0 : a.eval (.tmp 0) = .pointer (some ⟨r, 0, none⟩) := hag.old 0 _ (by kernel_rfl) rfl
        have t1 : a.eval (.tmp 1) = .int .i64 k := hag.old 1 _ (by kernel_rfl) rfl
        have t2 : a.eval (.tmp 2) = .string s := hag.old 2 _ (by kernel_rfl) rfl
        have hsz : w1.heap.size ≤ wz.heap.size := hI.elim (fun h => h.size) (fun h => h.kp.size)
        have hh : RHalf B w1 wz r na nc sa sc lv goes S1 := hI.elim (fun h => HR1.out.half h) id
        have c0 : wz.cell? ⟨r, 0, none⟩ = some (.slice (some ⟨na, 0, none⟩) 64 nc) := by rw [Lib.cell_of_heap hh.heap]; rfl
        have c2 : wz.cell? ⟨r, 2, none⟩ = some lv := by rw [Lib.cell_of_heap hh.heap]; rfl
        have cs : wz.cell? ⟨na, k, none⟩ = some (.string t) := by rw [hh.now.file HK.out, HT.out]
        match n, ho with
        | 0, ho =>
          obtain rfl := (Option.some.inj ho).symm
          exact ⟨rfl, QT.wp_value (BigFrame.run_move (.tmp 0) rfl wz) ⟨_, rfl, t0, Below.refl _ _⟩⟩
        | 1, ho =>
          obtain rfl := (Option.some.inj ho).symm
          exact ⟨rfl, QT.wp_value (BigFrame.run_move (.tmp 0) rfl wz) ⟨_, rfl, t0, Below.refl _ _⟩⟩
        | 2, ho =>
          obtain rfl := (Option.some.inj ho).symm
          have d30 : a.eval (.tmp 30) = .pointer (some ⟨r, 0, none⟩) := hdep _ (Array.mem_of_getElem? (i := 0) rfl) rfl _ _ rfl rfl
          exact ⟨rfl, QT.wp_value (v := .pointer (some ⟨r, 0, none⟩)) (by simp [go_sem, QT.nf d30]) ⟨_, rfl, rfl, Below.refl _ _⟩⟩
        | 3, ho =>
          obtain rfl := (Option.some.inj ho).symm
          have d31 : a.eval (.tmp 31) = .pointer (some ⟨r, 0, none⟩) := hdep _ (Array.mem_of_getElem? (i := 0) rfl) rfl _ _ rfl rfl
          exact ⟨rfl, QT.wp_value (v := .pointer (some ⟨r, 2, none⟩)) (by simp [go_sem, QT.nf d31]) ⟨_, rfl, rfl, Below.refl _ _⟩⟩
        | 4, ho =>
          obtain rfl := (Option.some.inj ho).symm
          have d32 : a.eval (.tmp 32) = .pointer (some ⟨r, 2, none⟩) := hdep _ (Array.mem_of_getElem? (i := 0) rfl) rfl _ _ rfl rfl
          exact ⟨rfl, QT.wp_value (v := lv) (by simp [go_sem, QT.nf d32, c2]) ⟨_, rfl, rfl, Below.refl _ _⟩⟩
        | 5, ho =>
          obtain rfl := (Option.some.inj ho).symm
          exact ⟨rfl, QT.wp_value (BigFrame.run_move (.tmp 1) rfl wz) ⟨_, rfl, t1, Below.refl _ _⟩⟩
        | 6, ho =>
          obtain rfl := (Option.some.inj ho).symm
          exact ⟨rfl, QT.wp_value (BigFrame.run_move (.tmp 0) rfl wz) ⟨_, rfl, t0, Below.refl _ _⟩⟩
        | 7, ho =>
          obtain rfl := (Option.some.inj ho).symm
          have d35 : a.eval (.tmp 35) = .pointer (some ⟨r, 0, none⟩) := hdep _ (Array.mem_of_getElem? (i := 0) rfl) rfl _ _ rfl rfl
          exact ⟨rfl, QT.wp_value (v := .pointer (some ⟨r, 0, none⟩)) (by simp [go_sem, QT.nf d35]) ⟨_, rfl, rfl, Below.refl _ _⟩⟩
        | 8, ho =>
          obtain rfl := (Option.some.inj ho).symm
          have d36 : a.eval (.tmp 36) = .pointer (some ⟨r, 0, none⟩) := hdep _ (Array.mem_of_getElem? (i := 0) rfl) rfl _ _ rfl rfl
          exact ⟨rfl, QT.wp_value (v := .pointer (some ⟨r, 0, none⟩)) (by simp [go_sem, QT.nf d36]) ⟨_, rfl, rfl, Below.refl _ _⟩⟩
        | 9, ho =>
          obtain rfl := (Option.some.inj ho).symm
          have d37 : a.eval (.tmp 37) = .pointer (some ⟨r, 0, none⟩) := hdep _ (Array.mem_of_getElem? (i := 0) rfl) rfl _ _ rfl rfl
          exact ⟨rfl, QT.wp_value (v := .slice (some ⟨na, 0, none⟩) 64 nc) (by simp [go_sem, QT.nf d37, c0]) ⟨_, rfl, rfl, Below.refl _ _⟩⟩
        | 10, ho =>
          obtain rfl := (Option.some.inj ho).symm
          exact ⟨rfl, QT.wp_value (BigFrame.run_move (.tmp 1) rfl wz) ⟨_, rfl, t1, Below.refl _ _⟩⟩
        | 11, ho =>
          obtain rfl := (Option.some.inj ho).symm
          have d38 : a.eval (.tmp 38) = .slice (some ⟨na, 0, none⟩) 64 nc := hdep _ (Array.mem_of_getElem? (i := 0) rfl) rfl _ _ rfl rfl
          have d39 : a.eval (.tmp 39) = .int .i64 k := hdep _ (Array.mem_of_getElem? (i := 1) rfl) rfl _ _ rfl rfl
          exact ⟨rfl, QT.wp_value (v := .pointer (some ⟨na, k, none⟩)) (by simp [go_sem, QT.nf d38, QT.nf d39, hi, hi0]) ⟨_, rfl, rfl, Below.refl _ _⟩⟩
        | 12, ho =>
          obtain rfl := (Option.some.inj ho).symm
          have d40 : a.eval (.tmp 40) = .pointer (some ⟨na, k, none⟩) := hdep _ (Array.mem_of_getElem? (i := 0) rfl) rfl _ _ rfl rfl
          exact ⟨rfl, QT.wp_value (v := .string t) (by simp [go_sem, QT.nf d40, cs]) ⟨_, rfl, rfl, Below.refl _ _⟩⟩
        | 13, ho =>
          obtain rfl := (Option.some.inj ho).symm
          have d41 : a.eval (.tmp 41) = .string t := hdep _ (Array.mem_of_getElem? (i := 0) rfl) rfl _ _ rfl rfl
          exact ⟨rfl, QT.wp_value (v := .int .i64 t.size) (by simp [go_sem, QT.nf d41]) ⟨_, rfl, rfl, Below.refl _ _⟩⟩
        | 14, ho =>
          obtain rfl := (Option.some.inj ho).symm
          exact ⟨rfl, QT.wp_value (BigFrame.run_move (.tmp 2) rfl wz) ⟨_, rfl, t2, Below.refl _ _⟩⟩
        | 15, ho =>
          obtain rfl := (Option.some.inj ho).symm
          have d34 : a.eval (.tmp 34) = .int .i64 k := hdep _ (Array.mem_of_getElem? (i := 0) rfl) rfl _ _ rfl rfl
          have d42 : a.eval (.tmp 42) = .int .i64 t.size := hdep _ (Array.mem_of_getElem? (i := 1) rfl) rfl _ _ rfl rfl
          have d43 : a.eval (.tmp 43) = .string s := hdep _ (Array.mem_of_getElem? (i := 2) rfl) rfl _ _ rfl rfl
          exact ⟨rfl, QT.wp_value (v := .agg #[.int .i64 k, .int .i64 t.size, .string s, .bool false]) (by simp [go_sem, QT.nf d34, QT.nf d42, QT.nf d43]) ⟨_, rfl, rfl, Below.refl _ _⟩⟩
        | 16, ho =>
          obtain rfl := (Option.some.inj ho).symm
          have d44 : a.eval (.tmp 44) = .agg #[.int .i64 k, .int .i64 t.size, .string s, .bool false] := hdep _ (Array.mem_of_getElem? (i := 0) rfl) rfl _ _ rfl rfl
          exact ⟨rfl, wp_build_at (K := KR) 55 1 _ rfl Tryd.underlying55 [⟨k, t.size, false, s⟩] rfl (by decide) (by decide) (by simp [d44, KR]) (fun w' hat hnew hb => ⟨_, rfl, ⟨_, rfl, ⟨hsz, (Array.getElem?_eq_some_iff.1 hnew).1⟩, hat⟩, hb⟩)⟩
        | 17, ho =>
          exact absurd rfl hnd
        | n + 18, ho => omega
      · have f0 : a.eval (.tmp 29) = .pointer (some ⟨r, 0, none⟩) := hf 0 _ _ (by omega) rfl rfl
        have f1 : a.eval (.tmp 30) = .pointer (some ⟨r, 0, none⟩) := hf 1 _ _ (by omega) rfl rfl
        have f2 : a.eval (.tmp 31) = .pointer (some ⟨r, 0, none⟩) := hf 2 _ _ (by omega) rfl rfl
        have f3 : a.eval (.tmp 32) = .pointer (some ⟨r, 2, none⟩) := hf 3 _ _ (by omega) rfl rfl
        have f4 : a.eval (.tmp 33) = lv := hf 4 _ _ (by omega) rfl rfl
        have f5 : a.eval (.tmp 34) = .int .i64 k := hf 5 _ _ (by omega) rfl rfl
        have f6 : a.eval (.tmp 35) = .pointer (some ⟨r, 0, none⟩) := hf 6 _ _ (by omega) rfl rfl
        have f7 : a.eval (.tmp 36) = .pointer (some ⟨r, 0, none⟩) := hf 7 _ _ (by omega) rfl rfl
        have f8 : a.eval (.tmp 37) = .pointer (some ⟨r, 0, none⟩) := hf 8 _ _ (by omega) rfl rfl
        have f9 : a.eval (.tmp 38) = .slice (some ⟨na, 0, none⟩) 64 nc := hf 9 _ _ (by omega) rfl rfl
        have f10 : a.eval (.tmp 39) = .int .i64 k := hf 10 _ _ (by omega) rfl rfl
        have f11 : a.eval (.tmp 40) = .pointer (some ⟨na, k, none⟩) := hf 11 _ _ (by omega) rfl rfl
        have f12 : a.eval (.tmp 41) = .string t := hf 12 _ _ (by omega) rfl rfl
        have f13 : a.eval (.tmp 42) = .int .i64 t.size := hf 13 _ _ (by omega) rfl rfl
        have f14 : a.eval (.tmp 43) = .string s := hf 14 _ _ (by omega) rfl rfl
        have f15 : a.eval (.tmp 44) = .agg #[.int .i64 k, .int .i64 t.size, .string s, .bool false] := hf 15 _ _ (by omega) rfl rfl
        obtain ⟨u16, f16⟩ : ∃ u, a.eval (.tmp 45) = u := ⟨_, rfl⟩
        have y16 : ((.one ⟨k, t.size, false, s⟩ w1.heap.size) : FactR).holds (a.eval (.tmp 45)) wz := hf 16 _ _ (by omega) rfl rfl
        rw [f16] at y16
        obtain ⟨u17, f17⟩ : ∃ u, a.eval (.tmp 46) = u := ⟨_, rfl⟩
        have y17 : ((.own B (S1.loose.length + 1) (S1.loose ++ [⟨k, t.size, false, s⟩])) : FactR).holds (a.eval (.tmp 46)) wz := hf 17 _ _ (by omega) rfl rfl
        rw [f17] at y17
        have ha := hag.puts [(29, .pointer (some ⟨r, 0, none⟩)), (30, .pointer (some ⟨r, 0, none⟩)), (31, .pointer (some ⟨r, 0, none⟩)), (32, .pointer (some ⟨r, 2, none⟩)), (33, lv), (34, .int .i64 k), (35, .pointer (some ⟨r, 0, none⟩)), (36, .pointer (some ⟨r, 0, none⟩)), (37, .pointer (some ⟨r, 0, none⟩)), (38, .slice (some ⟨na, 0, none⟩) 64 nc), (39, .int .i64 k), (40, .pointer (some ⟨na, k, none⟩)), (41, .string t), (42, .int .i64 t.size), (43, .string s), (44, .agg #[.int .i64 k, .int .i64 t.size, .string s, .bool false]), (45, u16), (46, u17)] rfl (by simp) (by simp only [List.forall_mem_cons, List.not_mem_nil, false_implies, implies_true, and_true]; exact ⟨f0, f1, f2, f3, f4, f5, f6, f7, f8, f9, f10, f11, f12, f13, f14, f15, f16, f17⟩)
        subst ha
        clear hag hf f0 f1 f2 f3 f4 f5 f6 f7 f8 f9 f10 f11 f12 f13 f14 f15 f16 f17
        simp only [List.foldl_cons, List.foldl_nil, Act.put, List.drop_succ_cons, List.drop_zero, List.setIfInBounds_toArray, List.set_cons_succ, List.set_cons_zero]
        obtain ⟨hown17, k17, cap17, rfl⟩ := y17
        obtain ⟨hR2, hK2, hq2, hf2⟩ := hI.lay HR1.out hown17
        have HR2 := Lib.hid hR2
        have HK2 := Lib.hid (HK1.out.trans hK2)
        clear hR2 hK2 hown17 y16 hI hc hc2 hcl
        go_upto_region 9 with (fail)
        generalize wz.setCell ⟨r, 2, none⟩ _ = w2 at HR2 HK2 ⊢
        clear hq2 hf2
        refine wp_region_still_tail 14 (by kernel_rfl) (by kernel_rfl) ?_
        simp only [List.take_succ_cons, List.take_zero, List.drop_succ_cons, List.drop_zero]
        have hr3 := HR2.out.below (Below.refl _ _).drew
        have HK3 := Lib.hid (HK2.out.drew)
        show wpStill _ _ w2.drew (fun a' => wpList _ _ _ _ a' w2.drew) _ _
        generalize w2.drew = w3 at hr3 HK3 ⊢
        have hc := hr3.cNow
        have hc2 := hr3.now.file HK.out
        have hfz := hr3.now.fz
        simp only at hc2
        rw [HT.out] at hc2
        have HR4 := Lib.hid (hr3.putNow HK.out (t ++ s))
        have HK4 := Lib.hid (hr3.now.kSet (Or.inl rfl) hr3.bN HK3.out k (.string (t ++ s)))
        clear hr3 HR2 HK2
        have hns : ¬ 9223372036854775807 < t.size + s.size := by omega
        repeat still_step
        refine wpStill_nil ?_
        go_wp2_with fail
        go_ret
        exact ⟨rfl, HK4.out, _, _, _, _, _, _, HR4.out, HGO.out, Or.inl rfl, Or.inl rfl⟩
    · have hr : (opS S).1 ≠ 0 := by rw [ho]; decide
      rw [if_pos hr]
      rw [ho] at HO ⊢
      generalize (opS S).2 = S1 at HO HGO ⊢
      clear h hg hz hf hon he hk ht hl hL hn hB ho hr
      go_enter Tryd.func28, Tryd.ntmps28
      go_wp2_with fail
      refine HF.out.mono ?_
      rintro e w' ⟨rfl, rfl⟩
      go_wp2_with fail
      refine HO.out.mono ?_
      rintro e w1 ⟨rfl, hr1, hk1⟩
      have HR1 := Lib.hid hr1
      have HK1 := Lib.hid hk1
      clear hr1 hk1
      go_wp2_with fail
      go_ret
      exact ⟨rfl, HK1.out, _, _, _, _, _, _, HR1.out, HGO.out, Or.inl rfl, Or.inl rfl⟩
  · unfold appendS RPost
    rw [if_pos he]
    generalize errF S.on f = x at HF he ⊢
    have he2 : (x == 0) = false := by simpa using he
    have he3 : (x != 0) = true := by simpa using he
    clear h hg
    go_enter Tryd.func28, Tryd.ntmps28
    go_wp2_with fail
    refine HF.out.mono ?_
    rintro e w' ⟨rfl, rfl⟩
    go_wp2_with fail
    go_ret
    exact ⟨rfl, Kp.refl, _, _, _, _, _, _, HR.out, HG.out, Or.inl rfl, Or.inl rfl⟩
end
end Go.Proofs.YtepcfmigkhacgaaDoor.Dk

namespace Go.Proofs.YtepcfmigkhacgaaDoor.Dk
open Go.RowKit Go.Proofs.YtepcfmigkhacgaaDoor.Gr
theorem kr_one (w : World) (x : Ch) : KR.At (w.alloc (.cells #[.int .i64 x.file, .int .i64 x.at_, .string x.s, .bool x.cut] 104)) (.slice (some ⟨w.heap.size, 0, none⟩) 1 1) [x] :=
  Or.inr ⟨w.heap.size, 0, 1, rfl, by simp, Nat.le_refl _, fun j u hj => by
    rw [Nat.zero_add, Lib.cell_of_heap (heap_alloc_new w _)]
    simp only [Kind.flat, KR, List.flatMap_cons, List.flatMap_nil, List.append_nil] at hj
    rw [← hj]
    simp⟩
theorem at_kr {w : World} {g o : Nat} {L : List Ch} (hr : w.rangeAt g o (KR.flat L)) {i : Nat} {x : Ch} (hi : L[i]? = some x) : w.rangeAt g (o + i * 4) [.int .i64 x.file, .int .i64 x.at_, .string x.s, .bool x.cut] := fun j u hj => by
  have := range_thing (K := KR) hr hi (j := j) (u := u) hj
  rw [show o + i * 4 + j = o + (i * 4 + j) by omega]
  exact this
section
variable {B r na nc sa sc : Nat} {lv : Value} {goes : Int} {S : St}
theorem RAt.layGrown {w w' w2 : World} (h : RAt B w r na nc sa sc lv goes S) (hb : Below w.heap.size w w') (hg : w'.grownBy w2 lv.ownBlock) {lu : Value} {L : List Ch} (hown : KR.Own B lu L w2) :
    RAt B (w2.setCell ⟨r, 2, none⟩ lu) r na nc sa sc lu goes { S with loose := L } ∧ Kp B (RefT na sa) w (w2.setCell ⟨r, 2, none⟩ lu) ∧ w2.cell? ⟨r, 2, none⟩ = some lv ∧ w2.frozen? ⟨r, 2, none⟩ = false := (h.halfGrown hb hg).lay h hown

set_option maxRecDepth 100000 in
set_option maxHeartbeats 3200000 in
theorem ref_Cut (w : World) (h : RAt B w r na nc sa sc lv goes S) (hg : GoesOk S goes) (hn : S.ops ≤ 1000000000) (hL : S.loose.length ≤ 1000000000) (hz : ∀ s ∈ S.now, s.size ≤ 1048576) (hB : B ≤ w.heap.size) (f n : Int) :
    Calls Tryd.prog 53 #[.pointer (some ⟨r, 0, none⟩), .int .i64 f, .int .i64 n] w (RPost B w r na sa (.int .i64 (cutterS S f n).1) (cutterS S f n).2) := by
  have HF := Lib.hid (ref_file w f h)
  have HR := Lib.hid h
  have HG := Lib.hid hg
  have hc := h.cNow
  by_cases he : errF S.on f = 0
  · obtain ⟨hon, hf⟩ := errF_zero he
    obtain ⟨k, rfl⟩ : ∃ k : Nat, f = k := ⟨f.toNat, by omega⟩
    have hk : k < 64 := by omega
    have hc2 := h.now.file hk
    have hsz := getD_size hz k
    unfold cutterS RPost
    rw [if_neg (fun x => x he), Int.toNat_natCast]
    rw [he] at HF
    have HO := Lib.hid (ref_step w h hn hon hg)
    have HGO := Lib.hid (off_op hg hon).2.2
    obtain ⟨t, ht⟩ : ∃ t, S.now.getD k ⟨#[]⟩ = t := ⟨_, rfl⟩
    rw [ht] at hc2 hsz ⊢
    have hi : (k : Int) < 64 := by omega
    have hi0 : (0 : Int) ≤ k := by omega
    by_cases hl : n < 0
    · rw [if_pos (Or.inl hl)]
      clear h hg hz hf hon he hk ht hL hn hB
      go_enter Tryd.func53, Tryd.ntmps53
      go_wp2_with fail
      refine HF.out.mono ?_
      rintro e w' ⟨rfl, rfl⟩
      go_wp2_with fail
      go_ret
      exact ⟨rfl, Kp.refl, _, _, _, _, _, _, HR.out, HG.out, Or.inl rfl, Or.inl rfl⟩
    obtain ⟨m, rfl⟩ : ∃ m : Nat, n = m := ⟨n.toNat, by omega⟩
    have hm0 : (0 : Int) ≤ (m : Int) := by omega
    by_cases hl : t.size < m
    · rw [if_pos (Or.inr (by omega))]
      clear h hg hz hf hon he hk ht hL hn hB
      go_enter Tryd.func53, Tryd.ntmps53
      go_wp2_with fail
      refine HF.out.mono ?_
      rintro e w' ⟨rfl, rfl⟩
      go_wp2_with fail
      go_ret
      exact ⟨rfl, Kp.refl, _, _, _, _, _, _, HR.out, HG.out, Or.inl rfl, Or.inl rfl⟩
    rw [if_neg (by omega), Int.toNat_natCast]
    have hl2 : (m : Int) ≤ t.size := by omega
    rcases opS_two S with ho | ho
    · have hn1 := opS_now S
      have hl1 := opS_loose S
      rw [if_neg (fun x => x ho)]
      rw [ho] at HO
      generalize (opS S).2 = S1 at HO hn1 hl1 HGO ⊢
      rw [← hl1] at hL
      rw [← hn1] at ht
      unfold cutS
      rw [ht]
      have HT := Lib.hid ht
      have HK := Lib.hid hk
      have HL := Lib.hid hL
      have HBB := Lib.hid hB
      clear h hg hz hf hon he hk ht hl hL hn hB ho hn1 hl1
      go_enter Tryd.func53, Tryd.ntmps53
      go_wp2_with fail
      refine HF.out.mono ?_
      rintro e w' ⟨rfl, rfl⟩
      go_wp2_with fail
      refine HO.out.mono ?_
      rintro e w1 ⟨rfl, hr1, hk1⟩
      have HR1 := Lib.hid hr1
      have HK1 := Lib.hid hk1
      have HB1 := Lib.hid (Nat.le_trans HBB.out hk1.size)
      clear hc hc2 hr1 hk1 HF HO HR HG
      have hcl := HR1.out.cLoose
      have hown := HR1.out.loose
      have hb1 : Below w1.heap.size w1 (w1.alloc (.cells #[.int .i64 k, .int .i64 m, .string ⟨#[]⟩, .bool true] 104)) := (Below.refl _ _).alloc (Nat.le_refl _) _
      have HBA := Lib.hid hb1
      have hbl : ((S1.loose.length) + 1) * (KR.bytes + 1) ≤ 1099511627776 := by have := HL.out; simp [KR]; omega
      have HO2 := Lib.hid (HR1.out.below hb1).loose
      have HAT := Lib.hid (kr_one w1 ⟨k, m, true, ⟨#[]⟩⟩)
      have HBL := Lib.hid hbl
      have HB2 := Lib.hid (Nat.le_trans HB1.out hb1.size)
      clear hown hbl hb1
      go_upto_region 9 with (refine wpList_append_grow (K := KR) rfl (.tmp 35) (.tmp 39) 55 rfl Tryd.underlying55 B rfl HO2.out _ [⟨k, m, true, ⟨#[]⟩⟩] rfl HAT.out (by simp) (S1.loose.length + 1) rfl HBL.out HB2.out ?_; intro g5 cap5 w5 hown5 hgr5 hk5 hlt5; obtain ⟨hR5, hK5, hc5, hf5⟩ := HR1.out.layGrown HBA.out hgr5 hown5; have HR5 := Lib.hid hR5; have HK5 := Lib.hid (HK1.out.trans hK5); clear hown5 hgr5 hk5 hlt5 hR5 hK5)
      generalize w5.setCell ⟨r, 2, none⟩ _ = w2 at HR5 HK5 ⊢
      clear hc5 hf5 hcl
      refine wp_region_still_tail 14 (by kernel_rfl) (by kernel_rfl) ?_
      simp only [List.take_succ_cons, List.take_zero, List.drop_succ_cons, List.drop_zero]
      have hr3 := HR5.out.below (Below.refl _ _).drew
      have HK3 := Lib.hid (HK5.out.drew)
      show wpStill _ _ w2.drew (fun a' => wpList _ _ _ _ a' w2.drew) _ _
      generalize w2.drew = w3 at hr3 HK3 ⊢
      have hc := hr3.cNow
      have hc2 := hr3.now.file HK.out
      have hfz := hr3.now.fz
      simp only at hc2
      rw [HT.out] at hc2
      have HR4 := Lib.hid (hr3.putNow HK.out (t.extract 0 m))
      have HK4 := Lib.hid (hr3.now.kSet (Or.inl rfl) hr3.bN HK3.out k (.string (t.extract 0 m)))
      clear hr3 HR5 HK5
      repeat still_step
      refine wpStill_nil ?_
      go_wp2_with fail
      go_ret
      exact ⟨rfl, HK4.out, _, _, _, _, _, _, HR4.out, HGO.out, Or.inl rfl, Or.inl rfl⟩
    · have hr : (opS S).1 ≠ 0 := by rw [ho]; decide
      rw [if_pos hr]
      rw [ho] at HO ⊢
      generalize (opS S).2 = S1 at HO HGO ⊢
      clear h hg hz hf hon he hk ht hl hL hn hB ho hr
      go_enter Tryd.func53, Tryd.ntmps53
      go_wp2_with fail
      refine HF.out.mono ?_
      rintro e w' ⟨rfl, rfl⟩
      go_wp2_with fail
      refine HO.out.mono ?_
      rintro e w1 ⟨rfl, hr1, hk1⟩
      have HR1 := Lib.hid hr1
      have HK1 := Lib.hid hk1
      clear hr1 hk1
      go_wp2_with fail
      go_ret
      exact ⟨rfl, HK1.out, _, _, _, _, _, _, HR1.out, HGO.out, Or.inl rfl, Or.inl rfl⟩
  · unfold cutterS RPost
    rw [if_pos he]
    generalize errF S.on f = x at HF he ⊢
    have he2 : (x == 0) = false := by simpa using he
    have he3 : (x != 0) = true := by simpa using he
    clear h hg
    go_enter Tryd.func53, Tryd.ntmps53
    go_wp2_with fail
    refine HF.out.mono ?_
    rintro e w' ⟨rfl, rfl⟩
    go_wp2_with fail
    go_ret
    exact ⟨rfl, Kp.refl, _, _, _, _, _, _, HR.out, HG.out, Or.inl rfl, Or.inl rfl⟩
end
end Go.Proofs.YtepcfmigkhacgaaDoor.Dk

namespace Go.Proofs.YtepcfmigkhacgaaDoor.Dk
open Go.RowKit Go.Proofs.YtepcfmigkhacgaaDoor.Gr
theorem keepF_take {k : Nat} {L : List Ch} {i : Nat} {x : Ch} (h : L[i]? = some x) : keepF k (L.take (i + 1)) = keepF k (L.take i) ++ (if x.file = k then [] else [x]) := by
  rw [List.take_add_one, h]
  unfold keepF
  rw [List.filter_append]
  congr 1
  by_cases e : x.file = k
  · rw [if_pos e]; simp [e]
  · rw [if_neg e]; simp [e]
theorem own_base {α : Type} {P : Program} {K : Kind P α} {B C : Nat} {w : World} {v : Value} {L : List α} (h : K.Own C v L w) (hB : B ≤ C) : K.Own B v L w := by
  rcases h.2 with ⟨rfl, e⟩ | ⟨b, cp, cur, rfl, hb, hc, r⟩
  · exact ⟨h.1, Or.inl ⟨rfl, e⟩⟩
  · exact ⟨h.1, Or.inr ⟨b, cp, cur, rfl, Nat.le_trans hB hb, hc, r⟩⟩
section
variable {B r na nc sa sc : Nat} {lv : Value} {goes : Int} {S : St}
set_option maxRecDepth 100000 in
set_option maxHeartbeats 3200000 in
theorem ref_Sync (w : World) (h : RAt B w r na nc sa sc lv goes S) (hg : GoesOk S goes) (hn : S.ops ≤ 1000000000) (hL : S.loose.length ≤ 1000000000) (hB : B ≤ w.heap.size) (f : Int) :
    Calls Tryd.prog 54 #[.pointer (some ⟨r, 0, none⟩), .int .i64 f] w (RPost B w r na sa (.int .i64 (syncerS S f).1) (syncerS S f).2) := by
  have HF := Lib.hid (ref_file w f h)
  have HR := Lib.hid h
  have HG := Lib.hid hg
  by_cases he : errF S.on f = 0
  · obtain ⟨hon, hf⟩ := errF_zero he
    obtain ⟨k, rfl⟩ : ∃ k : Nat, f = k := ⟨f.toNat, by omega⟩
    have hk : k < 64 := by omega
    unfold syncerS RPost
    rw [if_neg (fun x => x he), Int.toNat_natCast]
    rw [he] at HF
    have HO := Lib.hid (ref_step w h hn hon hg)
    have HGO := Lib.hid (off_op hg hon).2.2
    have hi : (k : Int) < 64 := by omega
    have hi0 : (0 : Int) ≤ k := by omega
    rcases opS_two S with ho | ho
    · have hl1 := opS_loose S
      rw [if_neg (fun x => x ho)]
      rw [ho] at HO
      generalize (opS S).2 = S1 at HO hl1 HGO ⊢
      rw [← hl1] at hL
      obtain ⟨t, ht⟩ : ∃ t, S1.now.getD k ⟨#[]⟩ = t := ⟨_, rfl⟩
      unfold syncS
      rw [ht]
      have HT := Lib.hid ht
      have HK := Lib.hid hk
      have HL := Lib.hid hL
      have HBB := Lib.hid hB
      clear h hg hf hon he hk ht hL hn hB ho hl1
      go_enter Tryd.func54, Tryd.ntmps54
      go_wp2_with fail
      refine HF.out.mono ?_
      rintro e w' ⟨rfl, rfl⟩
      go_wp2_with fail
      refine HO.out.mono ?_
      rintro e w1 ⟨rfl, hr1, hk1⟩
      have HR1 := Lib.hid hr1
      have HK1 := Lib.hid hk1
      have HB1 := Lib.hid (Nat.le_trans HBB.out hk1.size)
      obtain ⟨la, lc, hlv, hlc⟩ := hr1.loose.reads.form
      subst hlv
      have HRD := Lib.hid hr1.loose.reads
      obtain ⟨m, hm⟩ : ∃ m, S1.loose.length = m := ⟨_, rfl⟩
      rw [hm] at HR1 HRD HL hlc
      have HM := Lib.hid hm
      clear hr1 hk1 HF HO HR HG hm
      go_wp2_with fail
      go_loopw [6, 7] (fun lf iv wr => ∃ (i : Nat) (lfa : Option Addr) (lfn lfc : Nat), i ≤ m ∧ lf = .slice lfa lfn lfc ∧ iv = .int .i64 i ∧ KR.Own w1.heap.size (.slice lfa lfn lfc) (keepF k (S1.loose.take i)) wr ∧ Below w1.heap.size w1 wr) (fun _ iv _ => m - (intOf iv).toNat)
      case atStart => exact ⟨0, none, 0, 0, Nat.zero_le _, rfl, rfl, Kind.Own.nil _ _, Below.refl _ _⟩
      case round =>
        obtain ⟨i, lfa, lfn, lfc, hi, rfl, rfl, hown, hbl⟩ := hrel
        have hrw := HR1.out.below hbl
        have hcl := hrw.cLoose
        by_cases hlt : i < m
        · have hlt2 : (i : Int) < (m : Int) := by omega
          obtain ⟨g, o, cap', hav, _, hr⟩ := (HRD.out.kept hbl).some (by rw [HM.out]; omega)
          rw [HM.out] at hav
          injection hav with hav1 hav2 hav3
          subst hav1 hav3
          have hx := List.getElem?_eq_getElem (show i < S1.loose.length by rw [HM.out]; exact hlt)
          obtain ⟨x, hxx⟩ : ∃ x, S1.loose[i]'(by rw [HM.out]; exact hlt) = x := ⟨_, rfl⟩
          rw [hxx] at hx
          have HX := Lib.hid (at_kr hr hx)
          have hxf : wr.cell? ⟨g, o + i * 4, none⟩ = some (.int .i64 x.file) := HX.out 0 _ rfl
          have HTK := Lib.hid (keepF_take (k := k) hx)
          have HBL := Lib.hid hbl
          have HOW := Lib.hid hown
          have hlen : (keepF k (S1.loose.take i)).length ≤ m := by
            refine Nat.le_trans (List.length_filter_le _ _) ?_
            rw [List.length_take, HM.out]
            exact Nat.min_le_right _ _
          have HLE := Lib.hid hlen
          have hi0 : (0 : Int) ≤ i := by omega
          have hmb : m ≤ 1000000000 := HL.out
          clear hr hx hxx hbl hown hlen hrw hav2
          by_cases hf : x.file = k
          · have hf2 : (x.file : Int) = (k : Int) := by rw [hf]
            rw [if_pos hf, List.append_nil] at HTK
            clear hf
            go_wp2_with fail
            go_roundw
            case rel => exact ⟨i + 1, _, _, _, by omega, rfl, by go_num, by rw [HTK.out]; exact HOW.out, HBL.out⟩
            case measure => simp [intOf]; omega
          · have hf2 : ¬ (x.file : Int) = (k : Int) := fun e => hf (Int.ofNat.inj e)
            have hf3 : ((x.file : Int) == (k : Int)) = false := by simpa using hf2
            have hf4 : ((x.file : Int) != (k : Int)) = true := by simpa using hf2
            rw [if_neg hf] at HTK
            clear hf
            have hHS := HBL.out.size
            have HA0 := Lib.hid ((Below.refl _ _).alloc (Nat.le_refl _) _ : Below wr.heap.size wr (wr.alloc (.cells #[.int .i64 x.file, .int .i64 x.at_, .string x.s, .bool x.cut] 104)))
            have HOA := Lib.hid (HOW.out.kept HA0.out)
            have HON := Lib.hid (kr_one wr x)
            have HSZ := Lib.hid (show w1.heap.size ≤ (wr.alloc (.cells #[.int .i64 x.file, .int .i64 x.at_, .string x.s, .bool x.cut] 104)).heap.size from Nat.le_trans hHS HA0.out.size)
            have HBY := Lib.hid (show ((keepF k (S1.loose.take i)).length + [x].length) * (KR.bytes + 1) ≤ 1099511627776 by have := HLE.out; simp [KR]; omega)
            have HBA := Lib.hid (HBL.out.trans (HA0.out.mono hHS))
            clear hHS
            go_wp2_with (first
              | (refine wpList_load_mid rfl 104 (.tmp 42) rfl g (o + i * 4) rfl [.int .i64 x.file, .int .i64 x.at_, .string x.s, .bool x.cut] _ HX.out Tryd.underlying104 rfl (by kernel_rfl) ?_)
              | (refine wpList_append_at (K := KR) rfl (.tmp 36) (.tmp 44) 55 rfl Tryd.underlying55 w1.heap.size rfl HOA.out _ [x] rfl HON.out HBY.out HSZ.out ?_; intro v5 w5 hown5 hb5; obtain ⟨la5, lc5, rfl, _⟩ := hown5.reads.form; have HOW5 := Lib.hid hown5; have HB5 := Lib.hid (HBA.out.trans hb5); clear hown5 hb5))
            go_roundw
            case rel => exact ⟨i + 1, _, _, _, by omega, rfl, by go_num, by rw [HTK.out]; have e5 := HOW5.out; rw [List.length_append, List.length_singleton] at e5; exact e5, HB5.out⟩
            case measure => simp [intOf]; omega
        · obtain rfl : i = m := by omega
          rw [List.take_of_length_le (by have := HM.out; omega)] at hown
          obtain ⟨hR5, hK5, hc5, hf5⟩ := (HR1.out.half hbl).lay HR1.out (own_base hown HB1.out)
          have HR5 := Lib.hid hR5
          have HK5 := Lib.hid (HK1.out.trans hK5)
          clear hown hbl hrw hR5 hK5 hcl
          go_upto_region 13 with (fail)
          generalize wr.setCell ⟨r, 2, none⟩ _ = w2 at HR5 HK5 ⊢
          clear hc5 hf5
          refine wp_region_still_tail 12 (by kernel_rfl) (by kernel_rfl) ?_
          simp only [List.take_succ_cons, List.take_zero, List.drop_succ_cons, List.drop_zero]
          have hr3 := HR5.out.below (Below.refl _ _).drew
          have HK3 := Lib.hid (HK5.out.drew)
          show wpStill _ _ w2.drew (fun a' => wpList _ _ _ _ a' w2.drew) _ _
          generalize w2.drew = w3 at hr3 HK3 ⊢
          have hc := hr3.cNow
          have hcs := hr3.cSure
          have hc2 := hr3.now.file HK.out
          have hc3 := hr3.sure.file HK.out
          have hfz := hr3.sure.fz
          simp only at hc2 hc3
          rw [HT.out] at hc2
          have HR4 := Lib.hid (hr3.putSure HK.out t)
          have HK4 := Lib.hid (hr3.sure.kSet (Or.inr rfl) hr3.bS HK3.out k (.string t))
          clear hr3 HR5 HK5
          repeat still_step
          refine wpStill_nil ?_
          go_wp2_with fail
          go_ret
          exact ⟨rfl, HK4.out, _, _, _, _, _, _, HR4.out, HGO.out, Or.inl rfl, Or.inl rfl⟩
    · have hr : (opS S).1 ≠ 0 := by rw [ho]; decide
      rw [if_pos hr]
      rw [ho] at HO ⊢
      generalize (opS S).2 = S1 at HO HGO ⊢
      clear h hg hf hon he hk hL hn hB ho hr
      go_enter Tryd.func54, Tryd.ntmps54
      go_wp2_with fail
      refine HF.out.mono ?_
      rintro e w' ⟨rfl, rfl⟩
      go_wp2_with fail
      refine HO.out.mono ?_
      rintro e w1 ⟨rfl, hr1, hk1⟩
      have HR1 := Lib.hid hr1
      have HK1 := Lib.hid hk1
      clear hr1 hk1
      go_wp2_with fail
      go_ret
      exact ⟨rfl, HK1.out, _, _, _, _, _, _, HR1.out, HGO.out, Or.inl rfl, Or.inl rfl⟩
  · unfold syncerS RPost
    rw [if_pos he]
    generalize errF S.on f = x at HF he ⊢
    have he2 : (x == 0) = false := by simpa using he
    have he3 : (x != 0) = true := by simpa using he
    clear h hg
    go_enter Tryd.func54, Tryd.ntmps54
    go_wp2_with fail
    refine HF.out.mono ?_
    rintro e w' ⟨rfl, rfl⟩
    go_wp2_with fail
    go_ret
    exact ⟨rfl, Kp.refl, _, _, _, _, _, _, HR.out, HG.out, Or.inl rfl, Or.inl rfl⟩
end
end Go.Proofs.YtepcfmigkhacgaaDoor.Dk

namespace Go.Proofs.YtepcfmigkhacgaaDoor.Dk
open Go.RowKit Go.Proofs.YtepcfmigkhacgaaDoor.Gr
theorem ks_info : (Tryd.prog.info? 9).map (fun i => (i.zero, i.size, i.bytes)) = some (some (.string ⟨#[]⟩), 1, 16) := by kernel_rfl
def blank : List Value := List.replicate 64 (.string ⟨#[]⟩)
theorem run_make_texts (w : World) : (Instr.makeSlice 54 (.int .i64 64) (.int .i64 64)).run Tryd.prog w = .ok (.slice (some ⟨w.heap.size, 0, none⟩) 64 64) (w.alloc (.cells blank.toArray 9)) := by
  obtain ⟨i0, hi0, hz0, hz1, hz2⟩ := info_parts ks_info
  have h := run_make (P := Tryd.prog) w 54 9 i0 _ Tryd.underlying54 hi0 hz0 .i64 .i64 64 64 (by omega) (Int.le_refl _) (by rw [hz2]; omega) (by omega)
  rw [hz1] at h
  have e : madeCells (Value.string ⟨#[]⟩).cells (Int.toNat 64 * 1) = blank.toArray := by kernel_rfl
  rw [e] at h
  exact h
theorem blank_row {w : World} {g : Nat} (h : w.heap[g]? = some (.cells blank.toArray 9 (0, 0))) : SRow w g 64 newS.now := ⟨⟨[], h.trans (by rfl)⟩, rfl, Nat.le_refl _⟩
theorem new_world (w : World) (B : Nat) (hB : B ≤ w.heap.size) (na sa : Nat) (h1 : na = w.heap.size ∨ na = w.heap.size + 1) (h2 : sa = w.heap.size ∨ sa = w.heap.size + 1) (h3 : na ≠ sa) {W : World}
    (hW : W = (((w.alloc (.cells blank.toArray 9)).alloc (.cells blank.toArray 9)).alloc (.cells #[.slice (some ⟨na, 0, none⟩) 64 64, .slice (some ⟨sa, 0, none⟩) 64 64, .slice none 0 0, .int .i64 0, .int .i64 (-1), .bool false] 57)).drew) :
    RefAt B W (w.heap.size + 1 + 1) newS ∧ Below w.heap.size w W := by
  subst hW
  have b1 : Below w.heap.size w (w.alloc (.cells blank.toArray 9)) := (Below.refl _ _).alloc (Nat.le_refl _) _
  have b2 : Below w.heap.size w ((w.alloc (.cells blank.toArray 9)).alloc (.cells blank.toArray 9)) := b1.trans (((Below.refl _ _).alloc (Nat.le_refl _) _).mono b1.size)
  have hb := b2.trans (((Below.refl _ _).alloc (Nat.le_refl _) (.cells #[.slice (some ⟨na, 0, none⟩) 64 64, .slice (some ⟨sa, 0, none⟩) 64 64, .slice none 0 0, .int .i64 0, .int .i64 (-1), .bool false] 57)).mono b2.size)
  have hrow : ∀ g, g = w.heap.size ∨ g = w.heap.size + 1 → ((((w.alloc (.cells blank.toArray 9)).alloc (.cells blank.toArray 9)).alloc (.cells #[.slice (some ⟨na, 0, none⟩) 64 64, .slice (some ⟨sa, 0, none⟩) 64 64, .slice none 0 0, .int .i64 0, .int .i64 (-1), .bool false] 57)).drew).heap[g]? = some (.cells blank.toArray 9 (0, 0)) := fun g hg => by
    show (((w.alloc (.cells blank.toArray 9)).alloc (.cells blank.toArray 9)).alloc _).heap[g]? = _
    rw [heap_alloc_old _ _ (by simp; omega)]
    rcases hg with rfl | rfl
    · rw [heap_alloc_old _ _ (by simp)]
      exact heap_alloc_new w _
    · have := heap_alloc_new (w.alloc (.cells blank.toArray 9)) (.cells blank.toArray 9)
      simpa using this
  refine ⟨⟨na, 64, sa, 64, .slice none 0 0, -1, ⟨?_, blank_row (hrow na h1), blank_row (hrow sa h2), Kind.Own.nil _ _, h3, by omega, by omega, by omega⟩, fun _ => Or.inl ⟨rfl, by decide, by decide⟩⟩, hb.drew⟩
  have := heap_alloc_new ((w.alloc (.cells blank.toArray 9)).alloc (.cells blank.toArray 9)) (.cells #[.slice (some ⟨na, 0, none⟩) 64 64, .slice (some ⟨sa, 0, none⟩) 64 64, .slice none 0 0, .int .i64 0, .int .i64 (-1), .bool false] 57)
  rw [show ((w.alloc (.cells blank.toArray 9)).alloc (.cells blank.toArray 9)).heap.size = w.heap.size + 1 + 1 by simp] at this
  exact this
set_option maxRecDepth 100000 in
theorem ref_New (w : World) (B : Nat) (hB : B ≤ w.heap.size) : Calls Tryd.prog 20 #[] w fun e w' => ∃ r, e = .returned (.pointer (some ⟨r, 0, none⟩)) ∧ RefAt B w' r newS ∧ Below w.heap.size w w' := by
  have hmk := run_make_texts
  have HB := Lib.hid hB
  clear hB
  go_enter Tryd.func20, Tryd.ntmps20
  go_upto_region 1 with (fail)
  go_region
  all_goals
    go_wp2_with fail
    go_ret
    first
      | exact ⟨_, rfl, new_world w B HB.out _ _ (Or.inl rfl) (Or.inr rfl) (by omega) rfl⟩
      | exact ⟨_, rfl, new_world w B HB.out _ _ (Or.inr rfl) (Or.inl rfl) (by omega) rfl⟩
end Go.Proofs.YtepcfmigkhacgaaDoor.Dk
