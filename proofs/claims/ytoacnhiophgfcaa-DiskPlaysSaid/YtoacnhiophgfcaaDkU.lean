/- disk: the document's own disk in memory. -/
import Derived.Test.YtoacnhiophgfcaaDkK
import Derived.Laws.OwnMore
namespace Go.Proofs.Ytoacnhiophgfcaa.Dk
open Go.RowKit Go.Proofs.Ytoacnhiophgfcaa.Gr

/-- A change, as the document keeps it. -/
def KR : Kind Try.prog Ch where
  T := 89
  size := 4
  bytes := 40
  zero := .agg #[.int .i64 0, .int .i64 0, .string ⟨#[]⟩, .bool false]
  enc c := [.int .i64 c.file, .int .i64 c.at_, .string c.s, .bool c.cut]
  info := by kernel_rfl
  zsize := rfl
  pos := by decide
  len _ := rfl
  one x u hu := by simp at hu; rcases hu with rfl | rfl | rfl | rfl <;> rfl
/-- Texts among others. -/
def KS : Kind Try.prog ByteArray where
  T := 9
  size := 1
  bytes := 16
  zero := .string ⟨#[]⟩
  enc s := [.string s]
  info := by kernel_rfl
  zsize := rfl
  pos := by decide
  len _ := rfl
  one x u hu := by simp at hu; subst hu; rfl

/-- What is there of old, but for what is of some types and lies from B on, is as it was. -/
structure Kp (B : Nat) (T : TypeId → Prop) (a b : World) : Prop where
  os : b.os = a.os
  tape : b.tape = a.tape
  output : b.output = a.output
  size : a.heap.size ≤ b.heap.size
  block : ∀ (k : Nat) (o : Obj), a.heap[k]? = some o → (k < B ∨ ∀ cs t fz, o = .cells cs t fz → ¬ T t) → b.heap[k]? = some o
section
variable {B : Nat} {T : TypeId → Prop} {a b c : World}
theorem Kp.refl : Kp B T a a := ⟨rfl, rfl, rfl, Nat.le_refl _, fun _ _ h _ => h⟩
theorem Kp.trans (h : Kp B T a b) (k : Kp B T b c) : Kp B T a c :=
  ⟨k.os.trans h.os, k.tape.trans h.tape, k.output.trans h.output, Nat.le_trans h.size k.size, fun i o hi hn => k.block i o (h.block i o hi hn) hn⟩
theorem Kp.of_below (h : Below a.heap.size a b) : Kp B T a b :=
  ⟨h.os, h.tape, h.output, h.size, fun k _ hk _ => (h.block k (Array.getElem?_eq_some_iff.1 hk).1).trans hk⟩
theorem Kp.alloc (h : Kp B T a b) (o : Obj) : Kp B T a (b.alloc o) := h.trans (Kp.of_below ((Below.refl _ _).alloc (Nat.le_refl _) _))
theorem Kp.drew (h : Kp B T a b) : Kp B T a b.drew := ⟨h.os, h.tape, h.output, h.size, h.block⟩
theorem Kp.setCell (h : Kp B T a b) {g i : Nat} {cs : Array Value} {t : TypeId} {fz : Nat × Nat} (hg : b.heap[g]? = some (.cells cs t fz)) (hn : a.heap.size ≤ g ∨ (B ≤ g ∧ T t)) (v : Value) : Kp B T a (b.setCell ⟨g, i, none⟩ v) := by
  refine ⟨h.os, h.tape, h.output, by simp [World.setCell]; exact h.size, fun k o hk hc => ?_⟩
  rw [Below.heap_setCell _ _ _ _ (fun e => ?_)]
  · exact h.block k o hk hc
  · have e2 : k = g := e
    subst e2
    have h1 := h.block k o hk hc
    rw [hg] at h1
    rcases hn with hn | ⟨h2, h3⟩
    · have := (Array.getElem?_eq_some_iff.1 hk).1
      omega
    · rcases hc with hc | hc
      · omega
      · exact hc _ _ _ (Option.some.inj h1).symm h3
theorem Kp.grown {row : Option Nat} (h : Kp B T a b) (hg : b.grownBy c row) (hr : ∀ k, row = some k → ∃ cs t fz, b.heap[k]? = some (.cells cs t fz) ∧ (a.heap.size ≤ k ∨ (B ≤ k ∧ T t))) : Kp B T a c := by
  refine ⟨hg.os.trans h.os, hg.tape.trans h.tape, hg.output.trans h.output, Nat.le_trans h.size hg.size, fun k o hk hc => ?_⟩
  have h1 := h.block k o hk hc
  rw [hg.block k (Array.getElem?_eq_some_iff.1 h1).1 (fun e => ?_)]
  · exact h1
  · obtain ⟨cs, t, fz, h2, h3⟩ := hr k e.symm
    rw [h1] at h2
    rcases h3 with h3 | ⟨h3, h4⟩
    · have := (Array.getElem?_eq_some_iff.1 hk).1
      omega
    · rcases hc with hc | hc
      · omega
      · exact hc _ _ _ (Option.some.inj h2) h4
theorem Kp.below (h : Kp B T a b) (hB : B ≤ a.heap.size) : Below B a b :=
  ⟨h.os, h.tape, h.output, h.size, fun k hk => by
    have hlt : k < a.heap.size := by omega
    rw [Array.getElem?_eq_getElem hlt]
    exact h.block k _ (Array.getElem?_eq_getElem hlt) (Or.inl hk)⟩
end

/-- A row of 64 texts. -/
structure SRow (w : World) (g cap : Nat) (N : List ByteArray) : Prop where
  heap : ∃ X : List Value, w.heap[g]? = some (.cells (N.map Value.string ++ X).toArray 9 (0, 0))
  len : N.length = 64
  cap : 64 ≤ cap
section
variable {w w' : World} {g cap : Nat} {N : List ByteArray}
theorem SRow.file (h : SRow w g cap N) {f : Nat} (hf : f < 64) : w.cell? ⟨g, f, none⟩ = some (.string (N.getD f ⟨#[]⟩)) := by
  obtain ⟨X, hX⟩ := h.heap
  refine cell_row hX ?_
  rw [List.getElem?_append_left (by rw [List.length_map, h.len]; exact hf), List.getElem?_map, List.getD_eq_getElem?_getD, List.getElem?_eq_getElem (by rw [h.len]; exact hf)]
  rfl
theorem SRow.fz (h : SRow w g cap N) (i : Nat) : w.frozen? ⟨g, i, none⟩ = false := by
  obtain ⟨X, hX⟩ := h.heap
  simp [World.frozen?, hX]
theorem SRow.lt (h : SRow w g cap N) : g < w.heap.size := by
  obtain ⟨X, hX⟩ := h.heap
  exact (Array.getElem?_eq_some_iff.1 hX).1
theorem SRow.put (h : SRow w g cap N) {f : Nat} (hf : f < 64) (s : ByteArray) : SRow (w.setCell ⟨g, f, none⟩ (.string s)) g cap (N.set f s) := by
  obtain ⟨X, hX⟩ := h.heap
  refine ⟨⟨X, ?_⟩, by rw [List.length_set]; exact h.len, h.cap⟩
  rw [setCell_eq_setRow w g f _ _ _ _ hX, setRow_heap _ _ _ _ _ _ hX, List.setIfInBounds_toArray, List.set_append_left _ _ (by rw [List.length_map, h.len]; exact hf), List.map_set]
theorem SRow.other (h : SRow w g cap N) {a : Addr} (ha : g ≠ a.block) (v : Value) : SRow (w.setCell a v) g cap N := by
  obtain ⟨X, hX⟩ := h.heap
  exact ⟨⟨X, (Below.heap_setCell _ _ _ _ ha).trans hX⟩, h.len, h.cap⟩
theorem SRow.at_ (h : SRow w g cap N) : KS.At w (.slice (some ⟨g, 0, none⟩) 64 cap) N := by
  obtain ⟨X, hX⟩ := h.heap
  refine Or.inr ⟨g, 0, cap, by rw [h.len], by rw [h.len]; decide, by rw [h.len]; exact h.cap, fun j u hj => ?_⟩
  rw [Nat.zero_add]
  refine cell_row hX ?_
  have e : KS.flat N = N.map Value.string := by
    unfold Kind.flat
    rw [← List.flatMap_singleton' (N.map Value.string), List.flatMap_map]
    rfl
  rw [e] at hj
  rw [List.getElem?_append_left (List.getElem?_eq_some_iff.1 hj).1]
  exact hj
end

def RefTy (t : TypeId) : Prop := t = 47 ∨ t = 9 ∨ t = 89
/-- The document's disk in block r, its rows from block B on. -/
structure RAt (B : Nat) (w : World) (r na nc sa sc : Nat) (lv : Value) (goes : Int) (S : St) : Prop where
  heap : w.heap[r]? = some (.cells #[.slice (some ⟨na, 0, none⟩) 64 nc, .slice (some ⟨sa, 0, none⟩) 64 sc, lv, .int .i64 S.ops, .int .i64 goes, .bool (!S.on)] 47 (0, 0))
  now : SRow w na nc S.now
  sure : SRow w sa sc S.sure
  loose : KR.Own B lv S.loose w
  ne : na ≠ sa
  bR : B ≤ r
  bN : B ≤ na
  bS : B ≤ sa
/-- When the power goes. -/
def GoesOk (S : St) (goes : Int) : Prop := S.on = true → (S.lasts = -1 ∧ -1 ≤ goes ∧ goes < S.ops) ∨ (0 ≤ S.lasts ∧ goes = S.ops + S.lasts)
section
variable {B r na nc sa sc : Nat} {w w' : World} {lv : Value} {goes : Int} {S : St}
theorem RAt.cNow (h : RAt B w r na nc sa sc lv goes S) : w.cell? ⟨r, 0, none⟩ = some (.slice (some ⟨na, 0, none⟩) 64 nc) := by rw [Lib.cell_of_heap h.heap]; rfl
theorem RAt.cSure (h : RAt B w r na nc sa sc lv goes S) : w.cell? ⟨r, 1, none⟩ = some (.slice (some ⟨sa, 0, none⟩) 64 sc) := by rw [Lib.cell_of_heap h.heap]; rfl
theorem RAt.cLoose (h : RAt B w r na nc sa sc lv goes S) : w.cell? ⟨r, 2, none⟩ = some lv := by rw [Lib.cell_of_heap h.heap]; rfl
theorem RAt.cOps (h : RAt B w r na nc sa sc lv goes S) : w.cell? ⟨r, 3, none⟩ = some (.int .i64 S.ops) := by rw [Lib.cell_of_heap h.heap]; rfl
theorem RAt.cGoes (h : RAt B w r na nc sa sc lv goes S) : w.cell? ⟨r, 4, none⟩ = some (.int .i64 goes) := by rw [Lib.cell_of_heap h.heap]; rfl
theorem RAt.cOff (h : RAt B w r na nc sa sc lv goes S) : w.cell? ⟨r, 5, none⟩ = some (.bool (!S.on)) := by rw [Lib.cell_of_heap h.heap]; rfl
theorem RAt.fz (h : RAt B w r na nc sa sc lv goes S) (i : Nat) : w.frozen? ⟨r, i, none⟩ = false := by simp [World.frozen?, h.heap]
theorem own_kp {T : TypeId → Prop} {α : Type} {K : Kind Try.prog α} {L : List α} (h : K.Own B lv L w) (hk : Kp B T w w') (hT : ¬ T K.T) : K.Own B lv L w' := by
  rcases h.2 with ⟨rfl, e⟩ | ⟨b, cp, cur, rfl, hb, hc, r⟩
  · exact ⟨h.1, Or.inl ⟨rfl, e⟩⟩
  · exact ⟨h.1, Or.inr ⟨b, cp, cur, rfl, hb, hk.block b _ hc (Or.inr fun cs t fz e => by cases e; exact hT), r⟩⟩
theorem SRow.kp {T : TypeId → Prop} {g cap : Nat} {N : List ByteArray} (h : SRow w g cap N) (hk : Kp B T w w') (hT : ¬ T 9) : SRow w' g cap N := by
  obtain ⟨X, hX⟩ := h.heap
  exact ⟨⟨X, hk.block g _ hX (Or.inr fun cs t fz e => by cases e; exact hT)⟩, h.len, h.cap⟩
/-- It stays what it is where none of its types are touched. -/
theorem RAt.kp {T : TypeId → Prop} (h : RAt B w r na nc sa sc lv goes S) (hk : Kp B T w w') (hT : ∀ t, RefTy t → ¬ T t) : RAt B w' r na nc sa sc lv goes S :=
  { h with heap := hk.block r _ h.heap (Or.inr fun cs t fz e => by cases e; exact hT _ (Or.inl rfl)), now := h.now.kp hk (hT _ (Or.inr (Or.inl rfl))), sure := h.sure.kp hk (hT _ (Or.inr (Or.inl rfl))), loose := own_kp h.loose hk (hT _ (Or.inr (Or.inr rfl))) }
theorem RAt.below (h : RAt B w r na nc sa sc lv goes S) (hb : Below w.heap.size w w') : RAt B w' r na nc sa sc lv goes S := h.kp (T := fun _ => False) (Kp.of_below hb) (fun _ _ => id)
theorem own_setc {α : Type} {K : Kind Try.prog α} {L : List α} (h : K.Own B lv L w) {a : Addr} (ha : lv.ownBlock ≠ some a.block) (v : Value) : K.Own B lv L (w.setCell a v) := by
  rcases h.2 with ⟨rfl, e⟩ | ⟨b, cp, cur, rfl, hb, hc, r⟩
  · exact ⟨h.1, Or.inl ⟨rfl, e⟩⟩
  · exact ⟨h.1, Or.inr ⟨b, cp, cur, rfl, hb, (Below.heap_setCell _ _ _ _ (fun e => ha (by rw [← e]; rfl))).trans hc, r⟩⟩
theorem own_ne {α : Type} {K : Kind Try.prog α} {L : List α} (h : K.Own B lv L w) {g : Nat} {cs : Array Value} {t : TypeId} {fz : Nat × Nat} (hg : w.heap[g]? = some (.cells cs t fz)) (ht : K.T ≠ t) : lv.ownBlock ≠ some g := fun e => by
  obtain ⟨c, hc⟩ := own_type h g e
  rw [hg] at hc
  simp at hc
  exact ht hc.2.1.symm
theorem SRow.ne (h : SRow w na nc S.now) {g : Nat} {cs : Array Value} {t : TypeId} {fz : Nat × Nat} (hg : w.heap[g]? = some (.cells cs t fz)) (ht : t ≠ 9) : na ≠ g := fun e => by
  obtain ⟨X, hX⟩ := h.heap
  rw [e, hg] at hX
  simp at hX
  exact ht hX.2.1
/-- A field is set. -/
theorem RAt.field (h : RAt B w r na nc sa sc lv goes S) {i : Nat} {u : Value} {na' nc' sa' sc' : Nat} {lv' : Value} {goes' : Int} {S' : St}
    (hc : (#[.slice (some ⟨na, 0, none⟩) 64 nc, .slice (some ⟨sa, 0, none⟩) 64 sc, lv, .int .i64 S.ops, .int .i64 goes, .bool (!S.on)] : Array Value).setIfInBounds i u = #[.slice (some ⟨na', 0, none⟩) 64 nc', .slice (some ⟨sa', 0, none⟩) 64 sc', lv', .int .i64 S'.ops, .int .i64 goes', .bool (!S'.on)])
    (hn : SRow w na' nc' S'.now) (hs : SRow w sa' sc' S'.sure) (hl : KR.Own B lv' S'.loose w) (hne : na' ≠ sa') (hbN : B ≤ na') (hbS : B ≤ sa') : RAt B (w.setCell ⟨r, i, none⟩ u) r na' nc' sa' sc' lv' goes' S' := by
  obtain ⟨X, hX⟩ := hn.heap
  obtain ⟨Y, hY⟩ := hs.heap
  refine ⟨?_, hn.other (fun e => ?_) u, hs.other (fun e => ?_) u, own_setc hl (own_ne hl h.heap (by decide)) u, hne, h.bR, hbN, hbS⟩
  · rw [setCell_eq_setRow w r i _ _ _ _ h.heap, setRow_heap _ _ _ _ _ _ h.heap, hc]
  · have e2 : na' = r := e
    rw [e2, h.heap] at hX
    simp at hX
  · have e2 : sa' = r := e
    rw [e2, h.heap] at hY
    simp at hY
theorem RAt.putNow (h : RAt B w r na nc sa sc lv goes S) {f : Nat} (hf : f < 64) (s : ByteArray) : RAt B (w.setCell ⟨na, f, none⟩ (.string s)) r na nc sa sc lv goes { S with now := S.now.set f s } := by
  obtain ⟨X, hX⟩ := h.now.heap
  refine ⟨(Below.heap_setCell _ _ _ _ (fun e => ?_)).trans h.heap, h.now.put hf s, h.sure.other (fun e => h.ne e.symm) _, own_setc h.loose (own_ne h.loose hX (by decide)) _, h.ne, h.bR, h.bN, h.bS⟩
  have e2 : r = na := e
  rw [← e2, h.heap] at hX
  simp at hX
theorem RAt.putSure (h : RAt B w r na nc sa sc lv goes S) {f : Nat} (hf : f < 64) (s : ByteArray) : RAt B (w.setCell ⟨sa, f, none⟩ (.string s)) r na nc sa sc lv goes { S with sure := S.sure.set f s } := by
  obtain ⟨X, hX⟩ := h.sure.heap
  refine ⟨(Below.heap_setCell _ _ _ _ (fun e => ?_)).trans h.heap, h.now.other (fun e => h.ne e) _, h.sure.put hf s, own_setc h.loose (own_ne h.loose hX (by decide)) _, h.ne, h.bR, h.bN, h.bS⟩
  have e2 : r = sa := e
  rw [← e2, h.heap] at hX
  simp at hX
theorem RAt.lasts (h : RAt B w r na nc sa sc lv goes S) (l : Int) : RAt B w r na nc sa sc lv goes { S with lasts := l } := ⟨h.heap, h.now, h.sure, h.loose, h.ne, h.bR, h.bN, h.bS⟩
end

/-- The document's disk, wherever its rows lie. -/
def RefAt (B : Nat) (w : World) (r : Nat) (S : St) : Prop := ∃ na nc sa sc lv goes, RAt B w r na nc sa sc lv goes S ∧ GoesOk S goes
/-- What a call of the document's leaves. -/
def RPost (B : Nat) (w : World) (r : Nat) (v : Value) (T : St) (e : Ending) (w' : World) : Prop := e = .returned v ∧ Kp B RefTy w w' ∧ RefAt B w' r T
end Go.Proofs.Ytoacnhiophgfcaa.Dk
