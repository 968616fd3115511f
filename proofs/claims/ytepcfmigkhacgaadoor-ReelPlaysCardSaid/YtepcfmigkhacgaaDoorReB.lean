/- reel: the document's reel in memory; its Get, its Sync. -/
import Derived.Test.YtepcfmigkhacgaaDoorReA
import Derived.Test.YtepcfmigkhacgaaDoorG7
import Derived.Test.YtepcfmigkhacgaaDoorG1
namespace Go.Proofs.YtepcfmigkhacgaaDoor.Rl
open Go.RowKit Go.Proofs.YtepcfmigkhacgaaDoor.Gr Go.Proofs.YtepcfmigkhacgaaDoor.Frame Go.Proofs.YtepcfmigkhacgaaDoor.Dk

/-- What a reel's call touches: its disk's, and its own cells. -/
def RelT (na sa k : Nat) (t : TypeId) : Prop := RefT na sa k t ∨ t = 59
/-- The document's reel in block q, on its disk in block r. -/
structure EAt (B : Nat) (w : World) (q r na nc sa sc : Nat) (lv : Value) (goes : Int) (S : St) (tv : Value) (all : List Tx) (rs : Nat) : Prop where
  heap : w.heap[q]? = some (.cells #[.pointer (some ⟨r, 0, none⟩), tv, .int .i64 rs] 59 (0, 0))
  row : KT.Own 0 tv (tx all) w
  off : tv.ownBlock ≠ some na ∧ tv.ownBlock ≠ some sa
  disk : RAt B w r na nc sa sc lv goes S
  bQ : B ≤ q
/-- From one world to another: what a reel and its disk may have touched. -/
structure Trail (B : Nat) (w w' : World) (na sa na' sa' : Nat) : Prop where
  kp : Kp B (RelT na sa) w w'
  now : na' = na ∨ w.heap.size ≤ na'
  sure : sa' = sa ∨ w.heap.size ≤ sa'
theorem Kp.more {B : Nat} {T U : Nat → TypeId → Prop} {a b : World} (h : Kp B T a b) (hT : ∀ k t, k < a.heap.size → T k t → U k t) : Kp B U a b :=
  ⟨h.os, h.tape, h.output, h.size, fun k o hk hc => h.block k o hk (hc.imp id fun h1 cs t fz e hT1 => h1 cs t fz e (hT k t (Array.getElem?_eq_some_iff.1 hk).1 hT1))⟩
section
variable {B : Nat} {w w1 w2 : World} {q r na nc sa sc na1 sa1 na2 sa2 : Nat} {lv tv : Value} {goes : Int} {S : St} {all : List Tx} {rs : Nat}
theorem Trail.refl : Trail B w w na sa na sa := ⟨Kp.refl, Or.inl rfl, Or.inl rfl⟩
theorem Trail.step (h : Trail B w w1 na sa na1 sa1) (hk : Kp B (RelT na1 sa1) w1 w2) (hn : na2 = na1 ∨ w1.heap.size ≤ na2) (hs : sa2 = sa1 ∨ w1.heap.size ≤ sa2) : Trail B w w2 na sa na2 sa2 := by
  have h1 := h.now
  have h2 := h.sure
  have h3 := h.kp.size
  refine ⟨⟨hk.os.trans h.kp.os, hk.tape.trans h.kp.tape, hk.output.trans h.kp.output, Nat.le_trans h3 hk.size, fun k o hko hc => hk.block k o (h.kp.block k o hko hc) (hc.imp id fun hc cs t fz e ht => hc cs t fz e ?_)⟩, by omega, by omega⟩
  have hlt := (Array.getElem?_eq_some_iff.1 hko).1
  rcases ht with (ht | ⟨ht, hka⟩ | ht) | ht
  · exact Or.inl (Or.inl ht)
  · exact Or.inl (Or.inr (Or.inl ⟨ht, by omega⟩))
  · exact Or.inl (Or.inr (Or.inr ht))
  · exact Or.inr ht
theorem Trail.below (h : Trail B w w1 na sa na1 sa1) (hb : Below w1.heap.size w1 w2) : Trail B w w2 na sa na1 sa1 := h.step (Kp.of_below hb) (Or.inl rfl) (Or.inl rfl)
theorem EAt.cDisk (h : EAt B w q r na nc sa sc lv goes S tv all rs) : w.cell? ⟨q, 0, none⟩ = some (.pointer (some ⟨r, 0, none⟩)) := by rw [Lib.cell_of_heap h.heap]; rfl
theorem EAt.cRow (h : EAt B w q r na nc sa sc lv goes S tv all rs) : w.cell? ⟨q, 1, none⟩ = some tv := by rw [Lib.cell_of_heap h.heap]; rfl
theorem EAt.cSure (h : EAt B w q r na nc sa sc lv goes S tv all rs) : w.cell? ⟨q, 2, none⟩ = some (.int .i64 rs) := by rw [Lib.cell_of_heap h.heap]; rfl
theorem EAt.fz (h : EAt B w q r na nc sa sc lv goes S tv all rs) (i : Nat) : w.frozen? ⟨q, i, none⟩ = false := by simp [World.frozen?, h.heap]
/-- The reel stays where others write, be it its disk. -/
theorem EAt.kp {T : Nat → TypeId → Prop} (h : EAt B w q r na nc sa sc lv goes S tv all rs) (hk : Kp B T w w1) (hT : ∀ k t, RelT na sa k t ∨ (t = 9 ∧ tv.ownBlock = some k) → ¬ T k t) : EAt B w1 q r na nc sa sc lv goes S tv all rs :=
  { h with
    heap := hk.block q _ h.heap (Or.inr fun cs t fz e => by cases e; exact hT _ _ (Or.inl (Or.inr rfl)))
    row := by
      rcases h.row.2 with ⟨rfl, e⟩ | ⟨b, cp, cur, rfl, hb, hc, rr⟩
      · exact ⟨h.row.1, Or.inl ⟨rfl, e⟩⟩
      · exact ⟨h.row.1, Or.inr ⟨b, cp, cur, rfl, hb, hk.block b _ hc (Or.inr fun cs t fz e => by cases e; exact hT _ _ (Or.inr ⟨rfl, rfl⟩)), rr⟩⟩
    disk := h.disk.kp hk fun k t ht => hT k t (Or.inl (Or.inl ht)) }
theorem EAt.below (h : EAt B w q r na nc sa sc lv goes S tv all rs) (hb : Below w.heap.size w w1) : EAt B w1 q r na nc sa sc lv goes S tv all rs := h.kp (T := fun _ _ => False) (Kp.of_below hb) (fun _ _ _ => id)
theorem own_kp2 {α : Type} {K : Kind Tryd.prog α} {L : List α} {C : Nat} {T : Nat → TypeId → Prop} (h : K.Own C tv L w) (hk : Kp B T w w1) (hT : ∀ k, tv.ownBlock = some k → ¬ T k K.T) : K.Own C tv L w1 := by
  rcases h.2 with ⟨rfl, e⟩ | ⟨b, cp, cur, rfl, hb, hc, r⟩
  · exact ⟨h.1, Or.inl ⟨rfl, e⟩⟩
  · exact ⟨h.1, Or.inr ⟨b, cp, cur, rfl, hb, hk.block b _ hc (Or.inr fun cs t fz e => by cases e; exact hT b rfl), r⟩⟩
/-- Behind a call of the disk's. -/
theorem EAt.disked (h : EAt B w q r na nc sa sc lv goes S tv all rs) (hk : Kp B (RefT na sa) w w1) {nc1 sc1 : Nat} {lv1 : Value} {goes1 : Int} {S1 : St} (hd : RAt B w1 r na1 nc1 sa1 sc1 lv1 goes1 S1) (hn : na1 = na ∨ w.heap.size ≤ na1) (hs : sa1 = sa ∨ w.heap.size ≤ sa1) :
    EAt B w1 q r na1 nc1 sa1 sc1 lv1 goes1 S1 tv all rs := by
  have hq : w1.heap[q]? = _ := hk.block q _ h.heap (Or.inr fun cs t fz e => by cases e; rintro (h1 | ⟨h1, _⟩ | h1) <;> exact absurd h1 (by decide))
  have hrow : KT.Own 0 tv (tx all) w1 := own_kp2 h.row hk fun k hk1 => by
    rintro (h1 | ⟨_, h1 | h1⟩ | h1)
    · exact absurd h1 (by decide)
    · exact h.off.1 (by rw [hk1, h1])
    · exact h.off.2 (by rw [hk1, h1])
    · exact absurd h1 (by decide)
  have hlt : ∀ k, tv.ownBlock = some k → k < w.heap.size := fun k hk1 => by
    obtain ⟨c, hc⟩ := own_type h.row k hk1
    exact (Array.getElem?_eq_some_iff.1 hc).1
  refine ⟨hq, hrow, ⟨fun e => ?_, fun e => ?_⟩, hd, h.bQ⟩
  · rcases hn with rfl | hn
    · exact h.off.1 e
    · have := hlt _ e; omega
  · rcases hs with rfl | hs
    · exact h.off.2 e
    · have := hlt _ e; omega
theorem EAt.ne (h : EAt B w q r na nc sa sc lv goes S tv all rs) : na ≠ q ∧ sa ≠ q ∧ r ≠ q ∧ tv.ownBlock ≠ some q := by
  obtain ⟨X, hX⟩ := h.disk.now.heap
  obtain ⟨Y, hY⟩ := h.disk.sure.heap
  have hR := h.disk.heap
  refine ⟨fun e => ?_, fun e => ?_, fun e => ?_, own_ne h.row h.heap (by decide)⟩
  · rw [e, h.heap] at hX; simp at hX
  · rw [e, h.heap] at hY; simp at hY
  · rw [e, h.heap] at hR; simp at hR
/-- A field of the reel's own is set. -/
theorem EAt.field (h : EAt B w q r na nc sa sc lv goes S tv all rs) {i : Nat} {u tv1 : Value} {all1 : List Tx} {rs1 : Nat}
    (hc : (#[.pointer (some ⟨r, 0, none⟩), tv, .int .i64 rs] : Array Value).setIfInBounds i u = #[.pointer (some ⟨r, 0, none⟩), tv1, .int .i64 rs1])
    (hrow : KT.Own 0 tv1 (tx all1) w) (hoff : tv1.ownBlock ≠ some na ∧ tv1.ownBlock ≠ some sa) : EAt B (w.setCell ⟨q, i, none⟩ u) q r na nc sa sc lv goes S tv1 all1 rs1 := by
  obtain ⟨n1, n2, n3, _⟩ := h.ne
  refine ⟨?_, own_setc hrow (own_ne hrow h.heap (by decide)) u, hoff, ?_, h.bQ⟩
  · rw [setCell_eq_setRow w q i _ _ _ _ h.heap, setRow_heap _ _ _ _ _ _ h.heap, hc]
  · have hd := h.disk
    exact ⟨(Below.heap_setCell _ _ _ _ (fun e => n3 e)).trans hd.heap, hd.now.other (fun e => n1 e) u, hd.sure.other (fun e => n2 e) u, own_setc hd.loose (own_ne hd.loose h.heap (by decide)) u, hd.ne, hd.bR, hd.bN, hd.bS⟩
theorem EAt.kSet {na0 sa0 : Nat} {w0 : World} (h : EAt B w q r na nc sa sc lv goes S tv all rs) (hk : Kp B (RelT na0 sa0) w0 w) (i : Nat) (v : Value) : Kp B (RelT na0 sa0) w0 (w.setCell ⟨q, i, none⟩ v) := hk.setCell h.heap (Or.inr ⟨h.bQ, Or.inr rfl⟩) v
theorem Kp.rel (h : Kp B (RefT na sa) w w1) : Kp B (RelT na sa) w w1 := Kp.more h fun _ _ _ => Or.inl
theorem EAt.text (h : EAt B w q r na nc sa sc lv goes S tv all rs) {i : Nat} (hi : i < all.length) : ∃ g c, tv = .slice (some ⟨g, 0, none⟩) all.length c ∧ all.length ≤ c ∧ w.cell? ⟨g, i, none⟩ = some (.string (bs (all.getD i []))) := by
  have hat := h.row.reads
  rcases h.row.form with ⟨rfl, e⟩ | ⟨g, c, rfl, _, _, hc⟩
  · have := congrArg List.length e
    simp at this
    subst this
    simp at hi
  · rw [tx_len] at hat hc ⊢
    refine ⟨g, c, rfl, hc, ?_⟩
    rcases hat with ⟨_, _, e, e2⟩ | ⟨g', o, c', e, _, _, hr⟩
    · have := congrArg List.length e2
      rw [tx_len] at this
      simp at this
      subst this
      simp at hi
    · simp only [Value.slice.injEq, Option.some.injEq, Addr.mk.injEq] at e
      obtain ⟨⟨rfl, rfl, _⟩, _, rfl⟩ := e
      have := text_cell hr (i := i) (x := bs (all.getD i [])) (by rw [tx, List.getElem?_map, List.getD_eq_getElem?_getD, List.getElem?_eq_getElem hi]; rfl)
      rwa [Nat.zero_add] at this
end

/-- What a reel's call leaves. -/
def EPost (B : Nat) (w : World) (q r na sa : Nat) (tv v : Value) (S : St) (all : List Tx) (rs : Nat) (e : Ending) (w' : World) : Prop :=
  e = .returned v ∧ ∃ na' nc' sa' sc' lv' goes' tv', EAt B w' q r na' nc' sa' sc' lv' goes' S tv' all rs ∧ GoesOk S goes' ∧ Trail B w w' na sa na' sa' ∧ ∀ k, tv'.ownBlock = some k → tv.ownBlock = some k ∨ w.heap.size ≤ k

/-- Get, in plain words. -/
def getR (S : St) (all : List Tx) (i : Int) : Tx × Int :=
  if i < 0 ∨ (all.length : Int) ≤ i then ([], 5) else if S.on = true then (all.getD i.toNat [], 0) else ([], 100)
section
variable {B q r na nc sa sc : Nat} {lv tv : Value} {goes : Int} {S : St} {all : List Tx} {rs : Nat}
set_option maxRecDepth 100000 in
theorem ref_Get (w : World) (h : EAt B w q r na nc sa sc lv goes S tv all rs) (i : Int) :
    Calls Tryd.prog 24 #[.pointer (some ⟨q, 0, none⟩), .int .i64 i] w fun e w' => e = .returned (.tuple #[.string (bs (getR S all i).1), .int .i64 (getR S all i).2]) ∧ w' = w := by
  have hc0 := h.cDisk
  have hc1 := h.cRow
  have hoff := h.disk.cOff
  have HT := Lib.hid (fun (j : Nat) (hj : j < all.length) => h.text hj)
  obtain ⟨a, n, c, rfl, hn⟩ : ∃ a n c, tv = .slice a n c ∧ n = all.length := by
    obtain ⟨a, c, e, _⟩ := h.row.reads.form
    exact ⟨a, _, c, e, tx_len all⟩
  unfold getR
  rw [← hn] at HT ⊢
  have HG := Lib.hid (show ∀ k : Nat, k < n → ∃ g, a = some ⟨g, 0, none⟩ ∧ n ≤ c ∧ w.cell? ⟨g, k, none⟩ = some (.string (bs (all.getD k []))) from fun k hk => by
    obtain ⟨g, c', e, hc', hcell⟩ := HT.out k (by omega)
    cases e
    exact ⟨g, rfl, hc', hcell⟩)
  clear h HT hn
  by_cases h0 : i < 0
  · rw [if_pos (Or.inl h0)]
    go_enter Tryd.func24, Tryd.ntmps24
    go_wp2
    go_ret2
    exact ⟨rfl, rfl⟩
  by_cases h1 : (n : Int) ≤ i
  · rw [if_pos (Or.inr h1)]
    go_enter Tryd.func24, Tryd.ntmps24
    go_wp2
    go_ret2
    exact ⟨rfl, rfl⟩
  obtain ⟨k, rfl⟩ : ∃ k : Nat, i = k := ⟨i.toNat, by omega⟩
  obtain ⟨g, rfl, hnc, hcell⟩ := HG.out k (by omega)
  rw [if_neg (by omega), Int.toNat_natCast]
  cases hon : S.on with
  | true =>
    rw [hon] at hoff
    go_enter Tryd.func24, Tryd.ntmps24
    go_wp2
    go_ret2
    exact ⟨rfl, rfl⟩
  | false =>
    rw [hon] at hoff
    go_enter Tryd.func24, Tryd.ntmps24
    go_wp2
    go_ret2
    exact ⟨rfl, rfl⟩
end
end Go.Proofs.YtepcfmigkhacgaaDoor.Rl
