/- WideProducts. -/
import Derived.Test.YtjfanlajoedfbaaWideQ
import Derived.Test.YtjfanlajoedfbaaWideL2
import Derived.Lib.QuietBelow
namespace Go.Proofs.Ytjfanlajoedfbaa.Wide
open Go.RowKit

theorem Quad.alloc {w : World} {n : Nat} {a b c d : Value} (q : Quad w n a b c d) (o : Obj) : Quad (w.alloc o) n a b c d :=
  ⟨keep_alloc q.k0, keep_alloc q.k1, keep_alloc q.z0, keep_alloc q.z1, keep_allocF q.z0 q.f0, keep_allocF q.z1 q.f1⟩

/-- A variable of two cells that may be written. -/
structure Pair (w : World) (n : Nat) (a b : Value) : Prop where
  k0 : w.cell? ⟨n, 0, none⟩ = some a
  k1 : w.cell? ⟨n, 1, none⟩ = some b
  f0 : w.frozen? ⟨n, 0, none⟩ = false
  f1 : w.frozen? ⟨n, 1, none⟩ = false
theorem Pair.kept {w w' : World} {n : Nat} {a b : Value} (q : Pair w n a b) (h : Below w.heap.size w w') : Pair w' n a b :=
  ⟨Wide.kept h q.k0, Wide.kept h q.k1, keptF h q.k0 q.f0, keptF h q.k1 q.f1⟩
theorem Pair.alloc {w : World} {n : Nat} {a b : Value} (q : Pair w n a b) (o : Obj) : Pair (w.alloc o) n a b :=
  ⟨keep_alloc q.k0, keep_alloc q.k1, keep_allocF q.k0 q.f0, keep_allocF q.k1 q.f1⟩
theorem pair_new (w : World) (a b : Value) (t : TypeId) : Pair (w.alloc (.cells #[a, b] t)) w.heap.size a b := by
  refine ⟨?_, ?_, ?_, ?_⟩ <;> go_simp
theorem Pair.set {w : World} {n : Nat} {a b : Value} (q : Pair w n a b) (x y : Value) : Pair ((w.setCell ⟨n, 0, none⟩ x).setCell ⟨n, 1, none⟩ y) n x y :=
  ⟨(two_set x y q.k0 q.k1).1, (two_set x y q.k0 q.k1).2, by simp [q.f0], by simp [q.f1]⟩
theorem Pair.far {w : World} {n m : Nat} {a b : Value} (q : Pair w n a b) (x y : Value) (h : m ≠ n) : Pair ((w.setCell ⟨m, 0, none⟩ x).setCell ⟨m, 1, none⟩ y) n a b :=
  ⟨two_far x y h q.k0, two_far x y h q.k1, by simp [q.f0], by simp [q.f1]⟩
theorem Pair.lt {w : World} {n : Nat} {a b : Value} (q : Pair w n a b) : n < w.heap.size := World.block_lt_of_cell? _ _ q.k0
theorem Quad.far {w : World} {n m : Nat} {a b c d : Value} (q : Quad w n a b c d) (x y : Value) (h : n + 1 < m) : Quad ((w.setCell ⟨m, 0, none⟩ x).setCell ⟨m, 1, none⟩ y) n a b c d :=
  ⟨two_far x y (by omega) q.k0, two_far x y (by omega) q.k1, two_far x y (by omega) q.z0, two_far x y (by omega) q.z1, by simp [q.f0], by simp [q.f1]⟩
theorem Quad.lt {w : World} {n : Nat} {a b c d : Value} (q : Quad w n a b c d) : n + 1 < w.heap.size := World.block_lt_of_cell? _ _ q.z0
theorem below_pair {B : Nat} {a w : World} (h : Below B a w) (n : Nat) (hn : B ≤ n) (x y : Value) : Below B a ((w.setCell ⟨n, 0, none⟩ x).setCell ⟨n, 1, none⟩ y) := (h.setCell (p := ⟨n, 0, none⟩) hn x).setCell (p := ⟨n, 1, none⟩) hn y

set_option maxRecDepth 100000 in
set_option maxHeartbeats 4000000 in
theorem products_true (ah al bh bl m : Nat) (w : World) (h1 : ah < 18446744073709551616) (h2 : al < 18446744073709551616) (h3 : bh < 18446744073709551616) (h4 : bl < 18446744073709551616) (h5 : m < 18446744073709551616) :
    Calls Try.prog 5 #[.agg #[.int .u64 ah, .int .u64 al], .agg #[.int .u64 bh, .int .u64 bl], .int .u64 m] w fun e w' => e = .returned (.bool true) ∧ Below w.heap.size w w' := by
  have hb := below_alloc (below_alloc (Below.refl w.heap.size w) (.cells #[.int .u64 ah, .int .u64 al] 28)) (.cells #[.int .u64 bh, .int .u64 bl] 28)
  have q0 := quad_new w (.int .u64 ah) (.int .u64 al) (.int .u64 bh) (.int .u64 bl) 28
  have hP1 := fun w => plus_any ah al bh bl w h1 h2 h3 h4
  have hP2 := fun w => refPlus_any ah al bh bl w h1 h2 h3 h4
  have hT1 := fun w => times_any ah al m w h1 h2 h5
  have hT2 := fun w => refTimes_any ah al m w h1 h2 h5
  have hM1 := fun w => mul_any al m w h2 h5
  have hM2 := fun w => refMul_any al m w h2 h5
  have hC1 := fun w => compare_any ah al bh bl w h1 h2 h3 h4
  have hC2 := fun w => refCompare_any ah al bh bl w h1 h2 h3 h4
  obtain ⟨⟨X, e⟩, hX⟩ : ∃ t, plusN (ah * 18446744073709551616 + al) (bh * 18446744073709551616 + bl) = t := ⟨_, rfl⟩
  obtain ⟨⟨Y, g⟩, hY⟩ : ∃ t, timesN (ah * 18446744073709551616 + al) m = t := ⟨_, rfl⟩
  obtain ⟨c, hc⟩ : ∃ t, cmpN (ah * 18446744073709551616 + al) (bh * 18446744073709551616 + bl) = t := ⟨_, rfl⟩
  rw [hX] at hP1 hP2
  rw [hY] at hT1 hT2
  rw [hc] at hC1 hC2
  dsimp only at hP1 hP2 hT1 hT2
  clear hX hY hc
  generalize hiN X = x0 at hP1 hP2
  generalize loN X = x1 at hP1 hP2
  generalize hiN Y = y0 at hT1 hT2
  generalize loN Y = y1 at hT1 hT2
  generalize hiN (al * m) = m0 at hM1 hM2
  generalize loN (al * m) = m1 at hM1 hM2
  have HM1 := Lib.hid hM1
  have HM2 := Lib.hid hM2
  have HC1 := Lib.hid hC1
  have HC2 := Lib.hid hC2
  clear hM1 hM2 hC1 hC2
  go_enter Try.func5, Try.ntmps5
  go_wp2_with fail
  refine (hP1 _).mono ?_
  rintro r w1 ⟨rfl, hb1⟩
  have q1 := q0.kept hb1
  have hb1' := hb.trans (hb1.mono hb.size)
  have p1 := pair_new w1 (.int .u64 x0) (.int .u64 x1) 28
  have t0 := q1.k0; have t1 := q1.k1; have t2 := q1.z0; have t3 := q1.z1
  have hsz := q1.lt
  have hsz0 : w.heap.size < w1.heap.size := by omega
  clear q0 hb hb1 hP1
  go_wp2_with fail
  refine (hP2 _).mono ?_
  rintro r w2 ⟨rfl, hb2⟩
  have q2 := (q1.alloc (.cells #[.int .u64 x0, .int .u64 x1] 28)).kept hb2
  have p2 := p1.kept hb2
  have hb2' := (below_alloc hb1' (.cells #[.int .u64 x0, .int .u64 x1] 28)).trans (hb2.mono (below_alloc hb1' _).size)
  clear t0 t1 t2 t3 q1 p1 hb1' hb2 hP2
  have q3 := q2.alloc (.cells #[.int .u64 x0, .int .u64 x1] 28)
  have p3 := p2.alloc (.cells #[.int .u64 x0, .int .u64 x1] 28)
  have o3 := pair_new w2 (.int .u64 x0) (.int .u64 x1) 28
  have hb3 := below_alloc hb2' (.cells #[.int .u64 x0, .int .u64 x1] 28)
  have t0 := q2.k0; have t1 := q2.k1; have p0 := p2.k0; have p1 := p2.k1
  have hszp := p2.lt
  have hsz2 := q2.lt
  have hsz3 : w.heap.size < w2.heap.size := by omega
  go_wp2_with fail
  refine (hT1 _).mono ?_
  rintro r w4 ⟨rfl, hb4⟩
  have q4 := q3.kept hb4
  have p4 := p3.kept hb4
  have o4 := o3.kept hb4
  have hb4' := hb3.trans (hb4.mono hb3.size)
  clear t0 t1 p0 p1 q2 p2 hb2' q3 p3 o3 hb3 hb4 hT1
  have q5 := q4.far (.int .u64 y0) (.int .u64 y1) hsz
  have p5 := p4.set (.int .u64 y0) (.int .u64 y1)
  have o5 := o4.far (.int .u64 y0) (.int .u64 y1) (Nat.ne_of_lt hszp)
  have hb5 := below_pair hb4' w1.heap.size (by omega) (.int .u64 y0) (.int .u64 y1)
  have t0 := q5.k0; have t1 := q5.k1; have v0 := p4.k0; have v1 := p4.k1; have v2 := p4.f0; have v3 := p4.f1
  go_wp2_with fail
  clear q4 p4 o4 hb4' t0 t1 v0 v1 v2 v3
  generalize (w4.setCell ⟨w1.heap.size, 0, none⟩ (.int .u64 y0)).setCell ⟨w1.heap.size, 1, none⟩ (.int .u64 y1) = W5 at q5 p5 o5 hb5 ⊢
  refine (hT2 _).mono ?_
  rintro r w6 ⟨rfl, hb6⟩
  have q6 := q5.kept hb6
  have p6 := p5.kept hb6
  have o6 := o5.kept hb6
  have hb6' := hb5.trans (hb6.mono hb5.size)
  have q7 := q6.far (.int .u64 y0) (.int .u64 y1) hsz2
  have p7 := p6.far (.int .u64 y0) (.int .u64 y1) (Nat.ne_of_gt hszp)
  have o7 := o6.set (.int .u64 y0) (.int .u64 y1)
  have hb7 := below_pair hb6' w2.heap.size (by omega) (.int .u64 y0) (.int .u64 y1)
  have v0 := o6.k0; have v1 := o6.k1; have v2 := o6.f0; have v3 := o6.f1
  clear q5 p5 o5 hb5 hb6 hT2
  go_wp2_with fail
  clear q6 p6 o6 hb6' v0 v1 v2 v3
  generalize (w6.setCell ⟨w2.heap.size, 0, none⟩ (.int .u64 y0)).setCell ⟨w2.heap.size, 1, none⟩ (.int .u64 y1) = W at q7 p7 o7 hb7 ⊢
  have r0 : ∀ d os, (Sort.grow (redrawn W d) os).cell? ⟨w.heap.size, 0, none⟩ = some (.int .u64 ah) := fun d os => cell_regrown q7.k0 d os
  have r1 : ∀ d os, (Sort.grow (redrawn W d) os).cell? ⟨w.heap.size, 1, none⟩ = some (.int .u64 al) := fun d os => cell_regrown q7.k1 d os
  have r2 : ∀ d os, (Sort.grow (redrawn W d) os).cell? ⟨w.heap.size + 1, 0, none⟩ = some (.int .u64 bh) := fun d os => cell_regrown q7.z0 d os
  have r3 : ∀ d os, (Sort.grow (redrawn W d) os).cell? ⟨w.heap.size + 1, 1, none⟩ = some (.int .u64 bl) := fun d os => cell_regrown q7.z1 d os
  have r4 : ∀ d os, (Sort.grow (redrawn W d) os).cell? ⟨w1.heap.size, 0, none⟩ = some (.int .u64 y0) := fun d os => cell_regrown p7.k0 d os
  have r5 : ∀ d os, (Sort.grow (redrawn W d) os).cell? ⟨w1.heap.size, 1, none⟩ = some (.int .u64 y1) := fun d os => cell_regrown p7.k1 d os
  have r6 : ∀ d os, (Sort.grow (redrawn W d) os).cell? ⟨w2.heap.size, 0, none⟩ = some (.int .u64 y0) := fun d os => cell_regrown o7.k0 d os
  have r7 : ∀ d os, (Sort.grow (redrawn W d) os).cell? ⟨w2.heap.size, 1, none⟩ = some (.int .u64 y1) := fun d os => cell_regrown o7.k1 d os
  clear q7 p7 o7
  refine wp_region_quiet_below (by kernel_rfl) (by kernel_rfl) ?_
  repeat (quiet_step (first
    | (go_at_call 22; exact Calls.regrown_of (HM1.out _))
    | (go_at_call 23; exact Calls.regrown_of (HM2.out _))
    | (go_at_call 24; exact Calls.regrown_of (HC1.out _))
    | (go_at_call 25; exact Calls.regrown_of (HC2.out _))
    | (go_at_call 14; exact Calls.regrown_of (works_any _))))
  refine wpQuiet_nil ?_
  intro _ hw'
  obtain ⟨⟨dq, osq⟩, hw''⟩ := hw'
  subst hw''
  have hb8 := hb7.trans ((below_regrown W dq osq).mono hb7.size)
  dsimp only
  go_wp2_with fail
  go_ret
  exact ⟨rfl, hb8⟩

theorem law_WideProducts (a0 b0 a1 b1 a2 : Int) (w0 : (Lit.int .u64 a0).wf = true) (x0 : (Lit.int .u64 b0).wf = true) (w1 : (Lit.int .u64 a1).wf = true) (x1 : (Lit.int .u64 b1).wf = true) (w2 : (Lit.int .u64 a2).wf = true) (w : World) :
    Calls Try.prog 5 #[.agg #[.int .u64 a0, .int .u64 b0], .agg #[.int .u64 a1, .int .u64 b1], .int .u64 a2] w fun e w' => e = .returned (.bool true) ∧ Below w.heap.size w w' := by
  obtain ⟨ah, rfl, h0⟩ := nat_of w0
  obtain ⟨al, rfl, h1⟩ := nat_of x0
  obtain ⟨bh, rfl, h2⟩ := nat_of w1
  obtain ⟨bl, rfl, h3⟩ := nat_of x1
  obtain ⟨m, rfl, h4⟩ := nat_of w2
  exact products_true ah al bh bl m w h0 h1 h2 h3 h4

end Go.Proofs.Ytjfanlajoedfbaa.Wide
