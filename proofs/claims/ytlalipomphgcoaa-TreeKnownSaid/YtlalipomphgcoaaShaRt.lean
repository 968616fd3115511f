/- The document's own Sum: its state, its words. -/
import Derived.Test.YtlalipomphgcoaaOwnB
import Derived.Test.YtlalipomphgcoaaShaL2
import Derived.Deep.Draws
namespace Go.Proofs.Ytlalipomphgcoaa.Sha
open Go.RowKit

/-- The blocks of the state apart from one another. -/
structure Apart (gb gv gk gw : Nat) : Prop where
  vw : gv ≠ gw
  bv : gb ≠ gv
  bw : gb ≠ gw
  kv : gk ≠ gv
  kw : gk ≠ gw

/-- The state: the bytes made whole, the eight words, the roots' words, a block's words. -/
structure RS (w0 : World) (B gb gv gk gw : Nat) (D : List UInt8) (vs X : List Nat) (w : World) : Prop where
  bytes : ∀ (i : Nat) (b : UInt8), D[i]? = some b → w.cell? ⟨gb, i, none⟩ = some (.int .u8 (b.toNat : Int))
  v : w.heap[gv]? = some (.cells (vals32 vs).toArray 45 (0, 0))
  k : Dig32 w gk kL
  x : w.heap[gw]? = some (.cells (vals32 X).toArray 45 (0, 0))
  below : Below B w0 w
  vl : vs.length = 8
  xl : X.length = 64
  vb : B ≤ gv
  xb : B ≤ gw

section
variable {w0 : World} {B gb gv gk gw : Nat} {D : List UInt8} {vs X : List Nat} {w : World}

theorem RS.drew (h : RS w0 B gb gv gk gw D vs X w) : RS w0 B gb gv gk gw D vs X w.drew := ⟨h.bytes, h.v, h.k, h.x, h.below.drew, h.vl, h.xl, h.vb, h.xb⟩
theorem RS.drewN (h : RS w0 B gb gv gk gw D vs X w) (n : Nat) : RS w0 B gb gv gk gw D vs X (w.drewN n) := ⟨h.bytes, h.v, h.k, h.x, bdrewN h.below n, h.vl, h.xl, h.vb, h.xb⟩
theorem RS.kept (h : RS w0 B gb gv gk gw D vs X w) {w' : World} (hb : Below w.heap.size w w') (hB : B ≤ w.heap.size) : RS w0 B gb gv gk gw D vs X w' :=
  ⟨fun i b hi => Sha.kept hb (h.bytes i b hi), (hb.block gv (Array.getElem?_eq_some_iff.1 h.v).1).trans h.v, fun i x hx => Sha.kept hb (h.k i x hx), (hb.block gw (Array.getElem?_eq_some_iff.1 h.x).1).trans h.x, h.below.trans (hb.mono hB), h.vl, h.xl, h.vb, h.xb⟩
theorem RS.cellV (h : RS w0 B gb gv gk gw D vs X w) (i x : Nat) (hx : vs[i]? = some x) : w.cell? ⟨gv, i, none⟩ = some (.int .u32 x) := by
  rw [cell_of_row w gv i _ _ _ h.v]
  simp [vals32, hx]
theorem RS.cellX (h : RS w0 B gb gv gk gw D vs X w) (i x : Nat) (hx : X[i]? = some x) : w.cell? ⟨gw, i, none⟩ = some (.int .u32 x) := by
  rw [cell_of_row w gw i _ _ _ h.x]
  simp [vals32, hx]
theorem RS.frozV (h : RS w0 B gb gv gk gw D vs X w) (i : Nat) : w.frozen? ⟨gv, i, none⟩ = false := frozen_of_row w gv i _ _ h.v
theorem RS.frozX (h : RS w0 B gb gv gk gw D vs X w) (i : Nat) : w.frozen? ⟨gw, i, none⟩ = false := frozen_of_row w gw i _ _ h.x
theorem vals_set (vs : List Nat) (i x : Nat) : (vals32 vs).toArray.setIfInBounds i (.int .u32 (x : Int)) = (vals32 (vs.set i x)).toArray := by
  simp [vals32, List.map_set]
theorem cell_setCell_far (w : World) (a b : Addr) (u : Value) (h : b.block ≠ a.block) : (w.setCell a u).cell? b = w.cell? b := by
  have := heap_setCell_other w a b.block u h
  simp only [World.cell?, this]
theorem RS.setV (h : RS w0 B gb gv gk gw D vs X w) (A : Apart gb gv gk gw) (i x : Nat) : RS w0 B gb gv gk gw D (vs.set i x) X (w.setCell ⟨gv, i, none⟩ (.int .u32 x)) :=
  ⟨fun j b hj => (cell_setCell_far w _ _ _ A.bv).trans (h.bytes j b hj), by rw [heap_setCell_same w gv i _ _ _ h.v, vals_set], fun j y hy => (cell_setCell_far w _ _ _ A.kv).trans (h.k j y hy),
    (heap_setCell_other w _ gw _ A.vw.symm).trans h.x, h.below.setCell (p := ⟨gv, i, none⟩) h.vb _, by simp [h.vl], h.xl, h.vb, h.xb⟩
theorem RS.setX (h : RS w0 B gb gv gk gw D vs X w) (A : Apart gb gv gk gw) (i x : Nat) : RS w0 B gb gv gk gw D vs (X.set i x) (w.setCell ⟨gw, i, none⟩ (.int .u32 x)) :=
  ⟨fun j b hj => (cell_setCell_far w _ _ _ A.bw).trans (h.bytes j b hj), (heap_setCell_other w _ gv _ A.vw).trans h.v, fun j y hy => (cell_setCell_far w _ _ _ A.kw).trans (h.k j y hy),
    by rw [heap_setCell_same w gw i _ _ _ h.x, vals_set], h.below.setCell (p := ⟨gw, i, none⟩) h.xb _, h.vl, by simp [h.xl], h.vb, h.xb⟩
end

theorem growW_add (n m : Nat) : ∀ W : List Nat, growW (n + m) W = growW m (growW n W) := by
  induction n with
  | zero => intro W; rw [Nat.zero_add]; rfl
  | succ n ih => intro W; rw [show n + 1 + m = (n + m) + 1 by omega, growW, ih, growW]
theorem growW_pre (m : Nat) : ∀ (W : List Nat) (i : Nat), i < W.length → (growW m W)[i]? = W[i]? := by
  induction m with
  | zero => intro W i _; rfl
  | succ m ih =>
    intro W i hi
    rw [growW, ih _ _ (by simp; omega), List.getElem?_append_left hi]

/-- A block's 64 words. -/
def wsL (l : List Nat) : List Nat := growW 48 (wordsL l)
theorem wsL_first (l : List Nat) (hl : l.length = 64) (t : Nat) (ht : t < 16) : (wsL l)[t]? = some (l.getD (4 * t) 0 * 16777216 + l.getD (4 * t + 1) 0 * 65536 + l.getD (4 * t + 2) 0 * 256 + l.getD (4 * t + 3) 0) := by
  unfold wsL
  rw [growW_pre 48 _ t (by rw [wordsL_length 16 l (by omega)]; exact ht)]
  exact wordsL_get l t (by omega)
theorem wsL_length (l : List Nat) (hl : l.length = 64) : (wsL l).length = 64 := by
  unfold wsL
  rw [growW_length, wordsL_length 16 l (by omega)]
theorem wsL_low (l : List Nat) (h : ∀ x ∈ l, x < 256) : Low (wsL l) := growW_low 48 _ (wordsL_low l h)
theorem wsL_next (l : List Nat) (hl : l.length = 64) (t x2 x7 x15 x16 : Nat) (h16 : 16 ≤ t) (ht : t < 64) (h2 : (wsL l)[t - 2]? = some x2) (h7 : (wsL l)[t - 7]? = some x7) (h15 : (wsL l)[t - 15]? = some x15) (hx16 : (wsL l)[t - 16]? = some x16) :
    (wsL l)[t]? = some ((s1 x2 + x7 + s0 x15 + x16) % 4294967296) := by
  obtain ⟨n, rfl⟩ : ∃ n, t = 16 + n := ⟨t - 16, by omega⟩
  have hw : (wordsL l).length = 16 := wordsL_length 16 l (by omega)
  have hg : (growW n (wordsL l)).length = 16 + n := by rw [growW_length, hw]
  have hall : wsL l = growW (48 - (n + 1)) (growW (n + 1) (wordsL l)) := by
    unfold wsL
    rw [← growW_add, show n + 1 + (48 - (n + 1)) = 48 by omega]
  have hpre : ∀ i, i < 16 + n + 1 → (wsL l)[i]? = (growW (n + 1) (wordsL l))[i]? := fun i hi => by
    rw [hall, growW_pre _ _ i (by rw [growW_length, hw]; omega)]
  have hlow : ∀ i, i < 16 + n → (wsL l)[i]? = (growW n (wordsL l))[i]? := fun i hi => by
    rw [hpre i (by omega), growW_succ, List.getElem?_append_left (by omega)]
  rw [hpre _ (by omega), growW_succ, List.getElem?_append_right (by omega), hg, Nat.sub_self, List.getElem?_cons_zero]
  rw [hlow _ (by omega)] at h2 h7 h15 hx16
  simp only [nextW, List.getD, h2, h7, h15, hx16, Option.getD_some]

/-- A word turned, the world told exactly. -/
theorem turn_drew (x n : Nat) (z : Int) (w : World) (hz : z = (n : Int)) (hx : x < 4294967296) (hn : n ≤ 31) :
    Calls Try.prog 91 #[.int .u32 x, .int .i64 z] w fun e w' => e = .returned (.int .u32 (turnN x n)) ∧ w' = w.drew := by
  subst hz
  have ho := turn_or x n hx hn
  have hs : IntKind.i64.wrap (32 - (n : Int)) = ((32 - n : Nat) : Int) := by rw [IntWalk.i64_in _ ⟨by omega, by omega⟩]; omega
  obtain ⟨m, hm⟩ : ∃ m, 32 - n = m := ⟨_, rfl⟩
  rw [hm] at ho hs
  have hn0 : (0 : Int) ≤ (n : Int) := by omega
  have hm0 : (0 : Int) ≤ (m : Int) := by omega
  have hm32 : m ≤ 32 := by omega
  have hn32 : n ≤ 32 := by omega
  clear hm
  go_enter Try.func91, Try.ntmps91
  go_wp2
  go_region
  all_goals
    go_wp2
    go_ret
    exact ⟨rfl, rfl⟩

end Go.Proofs.Ytlalipomphgcoaa.Sha
