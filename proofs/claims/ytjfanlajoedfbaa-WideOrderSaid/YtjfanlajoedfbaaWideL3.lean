/- WideOrder. -/
import Derived.Test.YtjfanlajoedfbaaWideL2
import Derived.Lib.QuietBelow
namespace Go.Proofs.Ytjfanlajoedfbaa.Wide
open Go.RowKit

theorem cmp_turned (a b : Nat) : IntKind.i64.wrap (-(cmpN b a)) = cmpN a b := by
  unfold cmpN
  rcases Nat.lt_trichotomy a b with h | h | h
  · rw [if_neg (by omega), if_neg (by omega), if_pos h]
    rfl
  · subst h
    rw [if_neg (by omega), if_pos rfl]
    rfl
  · rw [if_pos h, if_neg (by omega), if_neg (by omega)]
    rfl

theorem plusN_comm (a b : Nat) : plusN b a = plusN a b := by
  unfold plusN
  rw [Nat.add_comm]

theorem plusN_ok (a b : Nat) (h : (plusN a b).2 = 0) : plusN a b = (a + b, 0) ∧ a + b < 340282366920938463463374607431768211456 := by
  unfold plusN at h ⊢
  split at h
  · rename_i hlt
    rw [if_pos hlt]
    exact ⟨rfl, hlt⟩
  · simp at h

theorem plusN_fst (a b : Nat) : (plusN a b).1 < 340282366920938463463374607431768211456 := by
  unfold plusN
  split
  · assumption
  · show (0 : Nat) < _
    omega

set_option maxRecDepth 100000 in
set_option maxHeartbeats 4000000 in
theorem order_true (ah al bh bl ch cl : Nat) (w : World) (h1 : ah < 18446744073709551616) (h2 : al < 18446744073709551616) (h3 : bh < 18446744073709551616) (h4 : bl < 18446744073709551616) (h5 : ch < 18446744073709551616) (h6 : cl < 18446744073709551616) :
    Calls Try.prog 9 #[.agg #[.int .u64 ah, .int .u64 al], .agg #[.int .u64 bh, .int .u64 bl], .agg #[.int .u64 ch, .int .u64 cl]] w fun e w' => e = .returned (.bool true) ∧ Below w.heap.size w w' := by
  have hb := below_alloc (below_alloc (below_alloc (Below.refl w.heap.size w) (.cells #[.int .u64 ah, .int .u64 al] 28)) (.cells #[.int .u64 bh, .int .u64 bl] 28)) (.cells #[.int .u64 ch, .int .u64 cl] 28)
  have s0 : Six (((w.alloc (.cells #[.int .u64 ah, .int .u64 al] 28)).alloc (.cells #[.int .u64 bh, .int .u64 bl] 28)).alloc (.cells #[.int .u64 ch, .int .u64 cl] 28)) w.heap.size (.int .u64 ah) (.int .u64 al) (.int .u64 bh) (.int .u64 bl) (.int .u64 ch) (.int .u64 cl) := by
    obtain ⟨a, b, c, d, e, f⟩ := six_cells w (.int .u64 ah) (.int .u64 al) (.int .u64 bh) (.int .u64 bl) (.int .u64 ch) (.int .u64 cl) 28
    exact ⟨a, b, c, d, e, f⟩
  have hP1 := fun w => plus_any ah al bh bl w h1 h2 h3 h4
  have hP2 := fun w => plus_any bh bl ah al w h3 h4 h1 h2
  have hP3 := fun w => plus_any bh bl ch cl w h3 h4 h5 h6
  obtain ⟨G, hG⟩ : ∃ G : Nat → Nat → Nat, ∀ x y, G x y = hiN (x * y) := ⟨_, fun _ _ => rfl⟩
  obtain ⟨H, hH⟩ : ∃ H : Nat → Nat → Nat, ∀ x y, H x y = loN (x * y) := ⟨_, fun _ _ => rfl⟩
  obtain ⟨F, hF⟩ : ∃ F : Nat → Nat → Nat → Nat → Int, ∀ a b c d, F a b c d = cmpN (a * 18446744073709551616 + b) (c * 18446744073709551616 + d) := ⟨_, fun _ _ _ _ => rfl⟩
  have hM : ∀ (x y : Nat) (w : World), x < 18446744073709551616 → y < 18446744073709551616 → Calls Try.prog 22 #[.int .u64 x, .int .u64 y] w fun e w' => e = .returned (.agg #[.int .u64 (G x y), .int .u64 (H x y)]) ∧ Below w.heap.size w w' := by
    intro x y w hx hy
    rw [hG, hH]
    exact mul_any x y w hx hy
  have hC : ∀ (a b c d : Nat) (w : World), a < 18446744073709551616 → b < 18446744073709551616 → c < 18446744073709551616 → d < 18446744073709551616 →
      Calls Try.prog 24 #[.agg #[.int .u64 a, .int .u64 b], .agg #[.int .u64 c, .int .u64 d]] w fun e w' => e = .returned (.int .i64 (F a b c d)) ∧ Below w.heap.size w w' := by
    intro a b c d w ha hb hc hd
    rw [hF]
    exact compare_any a b c d w ha hb hc hd
  have hneg : IntKind.i64.wrap (-(F bh bl ah al)) = F ah al bh bl := by
    rw [hF, hF]
    exact cmp_turned _ _
  have hGG : G bh al = G al bh := by rw [hG, hG, Nat.mul_comm]
  have hHH : H bh al = H al bh := by rw [hH, hH, Nat.mul_comm]
  clear hF hG hH
  have hP4 := fun w => plus_any (hiN (plusN (ah * 18446744073709551616 + al) (bh * 18446744073709551616 + bl)).1) (loN (plusN (ah * 18446744073709551616 + al) (bh * 18446744073709551616 + bl)).1) ch cl w (hiN_lt (plusN_fst _ _)) (loN_lt _) h5 h6
  have hP5 := fun w => plus_any ah al (hiN (plusN (bh * 18446744073709551616 + bl) (ch * 18446744073709551616 + cl)).1) (loN (plusN (bh * 18446744073709551616 + bl) (ch * 18446744073709551616 + cl)).1) w h1 h2 (hiN_lt (plusN_fst _ _)) (loN_lt _)
  rw [plusN_comm] at hP2
  rw [join_N] at hP4 hP5
  have hassoc : (plusN (ah * 18446744073709551616 + al) (bh * 18446744073709551616 + bl)).2 = 0 → (plusN (bh * 18446744073709551616 + bl) (ch * 18446744073709551616 + cl)).2 = 0 →
      plusN (ah * 18446744073709551616 + al) (plusN (bh * 18446744073709551616 + bl) (ch * 18446744073709551616 + cl)).1 = plusN (plusN (ah * 18446744073709551616 + al) (bh * 18446744073709551616 + bl)).1 (ch * 18446744073709551616 + cl) := by
    intro ha hc
    rw [(plusN_ok _ _ ha).1, (plusN_ok _ _ hc).1]
    unfold plusN
    dsimp only
    rw [Nat.add_assoc (ah * 18446744073709551616 + al) (bh * 18446744073709551616 + bl)]
  obtain ⟨A, hA⟩ : ∃ t, ah * 18446744073709551616 + al = t := ⟨_, rfl⟩
  simp only [hA] at hP1 hP2 hP4 hP5 hassoc
  clear hA
  obtain ⟨B, hB⟩ : ∃ t, bh * 18446744073709551616 + bl = t := ⟨_, rfl⟩
  simp only [hB] at hP1 hP2 hP3 hP4 hP5 hassoc
  clear hB
  obtain ⟨C, hC⟩ : ∃ t, ch * 18446744073709551616 + cl = t := ⟨_, rfl⟩
  simp only [hC] at hP3 hP4 hP5 hassoc
  clear hC
  obtain ⟨⟨X, e⟩, hX⟩ : ∃ t, plusN A B = t := ⟨_, rfl⟩
  obtain ⟨⟨Z, g⟩, hZ⟩ : ∃ t, plusN B C = t := ⟨_, rfl⟩
  rw [hX, hZ] at hassoc
  rw [hX] at hP1 hP2 hP4
  rw [hZ] at hP3 hP5
  dsimp only at hP1 hP2 hP3 hP4 hP5 hassoc
  clear hX hZ
  generalize hiN X = x0 at hP1 hP2 hP4
  generalize loN X = x1 at hP1 hP2 hP4
  generalize hiN Z = z0 at hP3 hP5
  generalize loN Z = z1 at hP3 hP5
  go_enter Try.func9, Try.ntmps9
  go_wp2_with fail
  have t0 := s0.k0; have t1 := s0.k1; have t2 := s0.k2; have t3 := s0.k3
  refine (hP1 _).mono ?_
  rintro r w1 ⟨rfl, hb1⟩
  have s1 := s0.kept hb1
  have hb1' := hb.trans (hb1.mono hb.size)
  clear s0 hb hb1 t0 t1 t2 t3
  have s1' := s1.alloc (.cells #[.int .u64 x0, .int .u64 x1] 28)
  have p1 := one_cells w1 (.int .u64 x0) (.int .u64 x1) 28
  have pf0 : (w1.alloc (.cells #[.int .u64 x0, .int .u64 x1] 28)).frozen? ⟨w1.heap.size, 0, none⟩ = false := by go_simp
  have pf1 : (w1.alloc (.cells #[.int .u64 x0, .int .u64 x1] 28)).frozen? ⟨w1.heap.size, 1, none⟩ = false := by go_simp
  have t0 := s1.k0; have t1 := s1.k1; have t2 := s1.k2; have t3 := s1.k3; have hsz := s1.size
  have hsz1 : w.heap.size + 1 < w1.heap.size := by omega
  have hsz0 : w.heap.size < w1.heap.size := by omega
  go_wp2_with fail
  refine (hP2 _).mono ?_
  rintro r w2 ⟨rfl, hb2⟩
  have s2 := s1'.kept hb2
  have p2 := kept hb2 p1.1
  have p2' := kept hb2 p1.2
  have pf2 := keptF hb2 p1.1 pf0
  have pf3 := keptF hb2 p1.2 pf1
  have hb2' := (below_alloc hb1' _).trans (hb2.mono (below_alloc hb1' _).size)
  clear s1 s1' hb1' hb2 t0 t1 t2 t3 p1 pf0 pf1
  have s3 := s2.alloc (.cells #[.int .u64 x0, .int .u64 x1] 28)
  have q0 := keep_alloc (o := .cells #[.int .u64 x0, .int .u64 x1] 28) p2
  have q1 := keep_alloc (o := .cells #[.int .u64 x0, .int .u64 x1] 28) p2'
  have qf0 := keep_allocF (o := .cells #[.int .u64 x0, .int .u64 x1] 28) p2 pf2
  have qf1 := keep_allocF (o := .cells #[.int .u64 x0, .int .u64 x1] 28) p2' pf3
  have o := one_cells w2 (.int .u64 x0) (.int .u64 x1) 28
  have hb3 := below_alloc hb2' (.cells #[.int .u64 x0, .int .u64 x1] 28)
  go_wp2_with fail
  generalize w2.alloc (.cells #[.int .u64 x0, .int .u64 x1] 28) = W at s3 q0 q1 qf0 qf1 o hb3 ⊢
  have r0 : ∀ d os, (Sort.grow (redrawn W d) os).cell? ⟨w.heap.size, 0, none⟩ = some (.int .u64 ah) := fun d os => cell_regrown s3.k0 d os
  have r1 : ∀ d os, (Sort.grow (redrawn W d) os).cell? ⟨w.heap.size, 1, none⟩ = some (.int .u64 al) := fun d os => cell_regrown s3.k1 d os
  have r2 : ∀ d os, (Sort.grow (redrawn W d) os).cell? ⟨w.heap.size + 1, 0, none⟩ = some (.int .u64 bh) := fun d os => cell_regrown s3.k2 d os
  have r3 : ∀ d os, (Sort.grow (redrawn W d) os).cell? ⟨w.heap.size + 1, 1, none⟩ = some (.int .u64 bl) := fun d os => cell_regrown s3.k3 d os
  have r4 : ∀ d os, (Sort.grow (redrawn W d) os).cell? ⟨w1.heap.size, 0, none⟩ = some (.int .u64 x0) := fun d os => cell_regrown q0 d os
  have r5 : ∀ d os, (Sort.grow (redrawn W d) os).cell? ⟨w1.heap.size, 1, none⟩ = some (.int .u64 x1) := fun d os => cell_regrown q1 d os
  have r6 : ∀ d os, (Sort.grow (redrawn W d) os).cell? ⟨w2.heap.size, 0, none⟩ = some (.int .u64 x0) := fun d os => cell_regrown o.1 d os
  have r7 : ∀ d os, (Sort.grow (redrawn W d) os).cell? ⟨w2.heap.size, 1, none⟩ = some (.int .u64 x1) := fun d os => cell_regrown o.2 d os
  refine wp_region_quiet_below (by kernel_rfl) (by kernel_rfl) ?_
  repeat (quiet_step (first | (go_at_call 22; exact Calls.regrown_of (hM _ _ _ (by assumption) (by assumption))) | (go_at_call 24; exact Calls.regrown_of (hC _ _ _ _ _ (by assumption) (by assumption) (by assumption) (by assumption)))))
  refine wpQuiet_nil ?_
  intro _ hw'
  obtain ⟨⟨dq, osq⟩, hw''⟩ := hw'
  subst hw''
  have hbq := below_regrown W dq osq
  have s4 := s3.kept hbq
  have q2 := kept hbq q0
  have q3 := kept hbq q1
  have qf2 := keptF hbq q0 qf0
  have qf3 := keptF hbq q1 qf1
  have hb4 := hb3.trans (hbq.mono hb3.size)
  dsimp only
  generalize Sort.grow (redrawn W dq) osq = W4 at s4 q2 q3 qf2 qf3 hb4 ⊢
  clear r0 r1 r2 r3 r4 r5 r6 r7 hbq s3 q0 q1 qf0 qf1 o hb3 hM hC hneg hGG hHH
  have t2 := s4.k2; have t3 := s4.k3; have t4 := s4.k4; have t5 := s4.k5
  have hsz4 := s4.size
  clear s2 p2 p2' pf2 pf3 hb2'
  go_wp2_with fail
  refine (hP3 _).mono ?_
  rintro r w5 ⟨rfl, hb5⟩
  have s5 := s4.kept hb5
  have q4 := kept hb5 q2
  have q5 := kept hb5 q3
  have qf4 := keptF hb5 q2 qf2
  have qf5 := keptF hb5 q3 qf3
  have hb5' := hb4.trans (hb5.mono hb4.size)
  clear t2 t3 t4 t5 s4 q2 q3 qf2 qf3 hb4 hb5
  by_cases hcase : e = 0 ∧ g = 0
  · obtain ⟨rfl, rfl⟩ := hcase
    have has := hassoc rfl rfl
    rw [has] at hP5
    clear hassoc has
    obtain ⟨⟨U, e3⟩, hU⟩ : ∃ t, plusN X C = t := ⟨_, rfl⟩
    rw [hU] at hP4 hP5
    dsimp only at hP4 hP5
    clear hU
    generalize hiN U = u0 at hP4 hP5
    generalize loN U = u1 at hP4 hP5
    have t4 := s5.k4; have t5 := s5.k5
    have hsz5 := s5.size
    have hp7 := World.block_lt_of_cell? _ _ q4
    simp only at hp7
    go_wp2_with fail
    have o5 := one_cells w5 (.int .u64 z0) (.int .u64 z1) 28
    have of0 : (w5.alloc (.cells #[.int .u64 z0, .int .u64 z1] 28)).frozen? ⟨w5.heap.size, 0, none⟩ = false := by go_simp
    have of1 : (w5.alloc (.cells #[.int .u64 z0, .int .u64 z1] 28)).frozen? ⟨w5.heap.size, 1, none⟩ = false := by go_simp
    refine (hP4 _).mono ?_
    rintro r w6 ⟨rfl, hb6⟩
    have s6 := (s5.alloc (.cells #[.int .u64 z0, .int .u64 z1] 28)).kept hb6
    have q6 := kept hb6 (keep_alloc q4)
    have q7 := kept hb6 (keep_alloc q5)
    have qf6 := keptF hb6 (keep_alloc q4) (keep_allocF q4 qf4)
    have qf7 := keptF hb6 (keep_alloc q5) (keep_allocF q5 qf5)
    have o6 := kept hb6 o5.1
    have o7 := kept hb6 o5.2
    have of2 := keptF hb6 o5.1 of0
    have of3 := keptF hb6 o5.2 of1
    have hb6' := (below_alloc hb5' (.cells #[.int .u64 z0, .int .u64 z1] 28)).trans (hb6.mono (below_alloc hb5' _).size)
    have hne1 : w1.heap.size ≠ w.heap.size := by omega
    have hne2 : w1.heap.size ≠ w5.heap.size := by omega
    have j0 := two_far (.int .u64 u0) (.int .u64 u1) hne1 s6.k0
    have j1 := two_far (.int .u64 u0) (.int .u64 u1) hne1 s6.k1
    have j2 := two_far (.int .u64 u0) (.int .u64 u1) hne2 o6
    have j3 := two_far (.int .u64 u0) (.int .u64 u1) hne2 o7
    have j4 := two_set (.int .u64 u0) (.int .u64 u1) q6 q7
    have jf0 : ((w6.setCell ⟨w1.heap.size, 0, none⟩ (.int .u64 u0)).setCell ⟨w1.heap.size, 1, none⟩ (.int .u64 u1)).frozen? ⟨w5.heap.size, 0, none⟩ = false := by simp [of2]
    have jf1 : ((w6.setCell ⟨w1.heap.size, 0, none⟩ (.int .u64 u0)).setCell ⟨w1.heap.size, 1, none⟩ (.int .u64 u1)).frozen? ⟨w5.heap.size, 1, none⟩ = false := by simp [of3]
    have hb7 := (hb6'.setCell (p := ⟨w1.heap.size, 0, none⟩) (Nat.le_of_lt hsz0) (.int .u64 u0)).setCell (p := ⟨w1.heap.size, 1, none⟩) (Nat.le_of_lt hsz0) (.int .u64 u1)
    clear t4 t5 s5 q4 q5 qf4 qf5 hb5' o5 of0 of1 hb6 s6 o6 o7 of2 of3
    go_wp2_with fail
    generalize (w6.setCell ⟨w1.heap.size, 0, none⟩ (.int .u64 u0)).setCell ⟨w1.heap.size, 1, none⟩ (.int .u64 u1) = W7 at j0 j1 j2 j3 j4 jf0 jf1 hb7 ⊢
    refine (hP5 _).mono ?_
    rintro r w8 ⟨rfl, hb8⟩
    have m0 := kept hb8 j2
    have m1 := kept hb8 j3
    have mf0 := keptF hb8 j2 jf0
    have mf1 := keptF hb8 j3 jf1
    have m2 := kept hb8 j4.1
    have m3 := kept hb8 j4.2
    have hb8' := hb7.trans (hb8.mono hb7.size)
    have n0 := two_far (.int .u64 u0) (.int .u64 u1) (Ne.symm hne2) m2
    have n1 := two_far (.int .u64 u0) (.int .u64 u1) (Ne.symm hne2) m3
    have n2 := two_set (.int .u64 u0) (.int .u64 u1) m0 m1
    have hb9 := (hb8'.setCell (p := ⟨w5.heap.size, 0, none⟩) (show w.heap.size ≤ w5.heap.size by omega) (.int .u64 u0)).setCell (p := ⟨w5.heap.size, 1, none⟩) (show w.heap.size ≤ w5.heap.size by omega) (.int .u64 u1)
    clear q6 q7 qf6 qf7 hb6' j0 j1 j2 j3 j4 jf0 jf1 hb7 hb8 m2 m3 hb8'
    go_wp2_with fail
    refine (carry (w0 := w) (works_any _) hb9).mono ?_
    rintro r w9 ⟨rfl, hb10⟩
    go_wp2_with fail
    go_ret
    exact ⟨rfl, hb10⟩
  · have hsplit : ¬ e = 0 ∨ e = 0 ∧ ¬ g = 0 := by omega
    rcases hsplit with he | ⟨rfl, hg⟩
    · have hne : ((e : Int) != 0) = true := by simp; omega
      clear hassoc hcase
      go_wp2_with fail
      refine (carry (w0 := w) (works_any _) (below_alloc hb5' _)).mono ?_
      rintro r w9 ⟨rfl, hb10⟩
      go_wp2_with fail
      go_ret
      exact ⟨rfl, hb10⟩
    · have hne : ((g : Int) != 0) = true := by simp; omega
      clear hassoc hcase
      go_wp2_with fail
      refine (carry (w0 := w) (works_any _) (below_alloc hb5' _)).mono ?_
      rintro r w9 ⟨rfl, hb10⟩
      go_wp2_with fail
      go_ret
      exact ⟨rfl, hb10⟩

theorem law_WideOrder (a0 b0 a1 b1 a2 b2 : Int) (w0 : (Lit.int .u64 a0).wf = true) (x0 : (Lit.int .u64 b0).wf = true) (w1 : (Lit.int .u64 a1).wf = true) (x1 : (Lit.int .u64 b1).wf = true) (w2 : (Lit.int .u64 a2).wf = true) (x2 : (Lit.int .u64 b2).wf = true) (w : World) :
    Calls Try.prog 9 #[.agg #[.int .u64 a0, .int .u64 b0], .agg #[.int .u64 a1, .int .u64 b1], .agg #[.int .u64 a2, .int .u64 b2]] w fun e w' => e = .returned (.bool true) ∧ Below w.heap.size w w' := by
  obtain ⟨ah, rfl, h0⟩ := nat_of w0
  obtain ⟨al, rfl, h1⟩ := nat_of x0
  obtain ⟨bh, rfl, h2⟩ := nat_of w1
  obtain ⟨bl, rfl, h3⟩ := nat_of x1
  obtain ⟨ch, rfl, h4⟩ := nat_of w2
  obtain ⟨cl, rfl, h5⟩ := nat_of x2
  exact order_true ah al bh bl ch cl w h0 h1 h2 h3 h4 h5

end Go.Proofs.Ytjfanlajoedfbaa.Wide
