/- evolve: the code's way to a period: whether there is one, and where it goes. -/
import Derived.Test.YtpifjeghoapjbaaM1
import Derived.Lib.QuietBelow
import Derived.Deep.Cut
import Derived.Lib.Buffer
namespace Go.Proofs.Ytpifjeghoapjbaa.Evolve
open Go.RowKit Go.Proofs.Ytpifjeghoapjbaa.Sha

def depthP (d : Int) : Prop := 0 ≤ d ∧ d ≤ 4
instance (d : Int) : Decidable (depthP d) := by unfold depthP; infer_instance
def wayP (d p : Int) : Prop := depthP d ∧ 0 ≤ p ∧ p < 2 ^ d.toNat
instance (d p : Int) : Decidable (wayP d p) := by unfold wayP; infer_instance

theorem code_isDepth (d : Int) (w : World) :
    Calls Try.prog 27 #[.int .i64 d] w fun e w' => e = .returned (.bool (decide (depthP d))) ∧ w' = w := by
  unfold depthP
  go_enter Try.func27, Try.ntmps27
  by_cases h : 0 ≤ d
  · go_wp2_with fail
    go_ret
    refine ⟨?_, rfl⟩
    simp [h]
  · have h2 : decide (0 ≤ d ∧ d ≤ 4) = false := by simp; omega
    rw [h2]
    go_wp2_with fail
    go_ret
    exact ⟨rfl, rfl⟩

theorem code_isDepthB (d : Int) (w : World) :
    Calls Try.prog 27 #[.int .i64 d] w fun e w' => e = .returned (.bool (decide (depthP d))) ∧ Below w.heap.size w w' := by
  refine (code_isDepth d w).mono ?_
  rintro e w' ⟨rfl, rfl⟩
  exact ⟨rfl, Below.refl _ _⟩

theorem bits_one : ∀ q : Nat, q < 16 → (bits BinOp.and IntKind.i64 (q : Int) 1 == 1) = (q % 2 == 1) := by decide

theorem code_goesRight (d p row : Nat) (hr : row < d) (hd : d ≤ 4) (hp : p < 16) (w : World) :
    Calls Try.prog 41 #[.agg #[.int .i64 d, .int .i64 p], .int .i64 row] w fun e w' => e = .returned (.bool (p / 2 ^ (d - 1 - row) % 2 == 1)) ∧ Below w.heap.size w w' := by
  go_enter Try.func41, Try.ntmps41
  obtain ⟨k, hk⟩ : ∃ k, d - 1 - row = k := ⟨_, rfl⟩
  have hki : (d : Int) - 1 - (row : Int) = (k : Int) := by omega
  rw [hk]
  have hq : p / 2 ^ k < 16 := Nat.lt_of_le_of_lt (Nat.div_le_self _ _) hp
  have h1 := bits_one _ hq
  have h2 : ((p / 2 ^ k : Nat) : Int) = (p : Int) / 2 ^ k := by simp
  rw [h2] at h1
  go_wp2_with fail
  go_ret
  exact ⟨rfl, (Below.refl _ _).alloc (Nat.le_refl _) _⟩

theorem way_cell0 (w : World) (d p : Int) : (w.alloc (.cells #[.int .i64 d, .int .i64 p] 49)).cell? ⟨w.heap.size, 0, none⟩ = some (.int .i64 d) := by
  rw [Lib.cell_of_heap (heap_alloc_new w _)]
  rfl
theorem way_cell1 (w : World) (d p : Int) : (w.alloc (.cells #[.int .i64 d, .int .i64 p] 49)).cell? ⟨w.heap.size, 1, none⟩ = some (.int .i64 p) := by
  rw [Lib.cell_of_heap (heap_alloc_new w _)]
  rfl
theorem way_below (w : World) (d p : Int) : Below w.heap.size w (w.alloc (.cells #[.int .i64 d, .int .i64 p] 49)) := (Below.refl _ _).alloc (Nat.le_refl _) _

set_option maxHeartbeats 1600000 in
theorem code_exists (d p : Int) (w : World) :
    Calls Try.prog 40 #[.agg #[.int .i64 d, .int .i64 p]] w fun e w' => e = .returned (.bool (decide (wayP d p))) ∧ Below w.heap.size w w' := by
  have HI := Lib.hid (fun w => code_isDepthB d w)
  by_cases hd : depthP d
  · have hd1 : decide (depthP d) = true := by simp [hd]
    simp only [hd1] at HI
    by_cases hp : 0 ≤ p
    · have hd5 : d = 0 ∨ d = 1 ∨ d = 2 ∨ d = 3 ∨ d = 4 := by unfold depthP at hd; omega
      have hw : decide (wayP d p) = decide (p < 2 ^ d.toNat) := by simp [wayP, hd, hp]
      rw [hw]
      clear hw hd hd1
      have hp1 : decide (0 ≤ p) = true := by simp [hp]
      rcases hd5 with rfl | rfl | rfl | rfl | rfl
      · go_enter Try.func40, Try.ntmps40
        go_upto_region 1 with (fail)
        have c0 := way_cell0 w 0 p
        have c1 := way_cell1 w 0 p
        have hb := way_below w 0 p
        generalize w.alloc (.cells #[.int .i64 0, .int .i64 p] 49) = W at c0 c1 hb ⊢
        have r0 := cell_regrown c0
        have r1 := cell_regrown c1
        refine wp_region_quiet_below (by kernel_rfl) (by kernel_rfl) ?_
        repeat (quiet_step (with_reducible exact Calls.regrown_of (HI.out _)))
        refine wpQuiet_nil ?_
        intro _ hw'
        obtain ⟨⟨dq, osq⟩, hw''⟩ := hw'
        subst hw''
        have hq := below_regrown W dq osq
        dsimp only
        go_wp2_with fail
        go_ret
        exact ⟨rfl, hb.trans (hq.mono hb.size)⟩
      · go_enter Try.func40, Try.ntmps40
        go_upto_region 1 with (fail)
        have c0 := way_cell0 w 1 p
        have c1 := way_cell1 w 1 p
        have hb := way_below w 1 p
        generalize w.alloc (.cells #[.int .i64 1, .int .i64 p] 49) = W at c0 c1 hb ⊢
        have r0 := cell_regrown c0
        have r1 := cell_regrown c1
        refine wp_region_quiet_below (by kernel_rfl) (by kernel_rfl) ?_
        repeat (quiet_step (with_reducible exact Calls.regrown_of (HI.out _)))
        refine wpQuiet_nil ?_
        intro _ hw'
        obtain ⟨⟨dq, osq⟩, hw''⟩ := hw'
        subst hw''
        have hq := below_regrown W dq osq
        dsimp only
        go_wp2_with fail
        go_ret
        exact ⟨rfl, hb.trans (hq.mono hb.size)⟩
      · go_enter Try.func40, Try.ntmps40
        go_upto_region 1 with (fail)
        have c0 := way_cell0 w 2 p
        have c1 := way_cell1 w 2 p
        have hb := way_below w 2 p
        generalize w.alloc (.cells #[.int .i64 2, .int .i64 p] 49) = W at c0 c1 hb ⊢
        have r0 := cell_regrown c0
        have r1 := cell_regrown c1
        refine wp_region_quiet_below (by kernel_rfl) (by kernel_rfl) ?_
        repeat (quiet_step (with_reducible exact Calls.regrown_of (HI.out _)))
        refine wpQuiet_nil ?_
        intro _ hw'
        obtain ⟨⟨dq, osq⟩, hw''⟩ := hw'
        subst hw''
        have hq := below_regrown W dq osq
        dsimp only
        go_wp2_with fail
        go_ret
        exact ⟨rfl, hb.trans (hq.mono hb.size)⟩
      · go_enter Try.func40, Try.ntmps40
        go_upto_region 1 with (fail)
        have c0 := way_cell0 w 3 p
        have c1 := way_cell1 w 3 p
        have hb := way_below w 3 p
        generalize w.alloc (.cells #[.int .i64 3, .int .i64 p] 49) = W at c0 c1 hb ⊢
        have r0 := cell_regrown c0
        have r1 := cell_regrown c1
        refine wp_region_quiet_below (by kernel_rfl) (by kernel_rfl) ?_
        repeat (quiet_step (with_reducible exact Calls.regrown_of (HI.out _)))
        refine wpQuiet_nil ?_
        intro _ hw'
        obtain ⟨⟨dq, osq⟩, hw''⟩ := hw'
        subst hw''
        have hq := below_regrown W dq osq
        dsimp only
        go_wp2_with fail
        go_ret
        exact ⟨rfl, hb.trans (hq.mono hb.size)⟩
      · go_enter Try.func40, Try.ntmps40
        go_upto_region 1 with (fail)
        have c0 := way_cell0 w 4 p
        have c1 := way_cell1 w 4 p
        have hb := way_below w 4 p
        generalize w.alloc (.cells #[.int .i64 4, .int .i64 p] 49) = W at c0 c1 hb ⊢
        have r0 := cell_regrown c0
        have r1 := cell_regrown c1
        refine wp_region_quiet_below (by kernel_rfl) (by kernel_rfl) ?_
        repeat (quiet_step (with_reducible exact Calls.regrown_of (HI.out _)))
        refine wpQuiet_nil ?_
        intro _ hw'
        obtain ⟨⟨dq, osq⟩, hw''⟩ := hw'
        subst hw''
        have hq := below_regrown W dq osq
        dsimp only
        go_wp2_with fail
        go_ret
        exact ⟨rfl, hb.trans (hq.mono hb.size)⟩
    · have hw : decide (wayP d p) = false := by simp [wayP, hp]
      rw [hw]
      have hp1 : decide (0 ≤ p) = false := by simp [hp]
      go_enter Try.func40, Try.ntmps40
      go_upto_region 1 with (fail)
      have c0 := way_cell0 w d p
      have c1 := way_cell1 w d p
      have hb := way_below w d p
      generalize w.alloc (.cells #[.int .i64 d, .int .i64 p] 49) = W at c0 c1 hb ⊢
      have r0 := cell_regrown c0
      have r1 := cell_regrown c1
      refine wp_region_quiet_below (by kernel_rfl) (by kernel_rfl) ?_
      repeat (quiet_step (with_reducible exact Calls.regrown_of (HI.out _)))
      refine wpQuiet_nil ?_
      intro _ hw'
      obtain ⟨⟨dq, osq⟩, hw''⟩ := hw'
      subst hw''
      have hq := below_regrown W dq osq
      dsimp only
      go_wp2_with fail
      go_ret
      exact ⟨rfl, hb.trans (hq.mono hb.size)⟩
  · have hd1 : decide (depthP d) = false := by simp [hd]
    simp only [hd1] at HI
    have hw : decide (wayP d p) = false := by simp [wayP, hd]
    rw [hw]
    go_enter Try.func40, Try.ntmps40
    go_upto_region 1 with (fail)
    have c0 := way_cell0 w d p
    have c1 := way_cell1 w d p
    have hb := way_below w d p
    generalize w.alloc (.cells #[.int .i64 d, .int .i64 p] 49) = W at c0 c1 hb ⊢
    have r0 := cell_regrown c0
    have r1 := cell_regrown c1
    refine wp_region_quiet_below (by kernel_rfl) (by kernel_rfl) ?_
    repeat (quiet_step (with_reducible exact Calls.regrown_of (HI.out _)))
    refine wpQuiet_nil ?_
    intro _ hw'
    obtain ⟨⟨dq, osq⟩, hw''⟩ := hw'
    subst hw''
    have hq := below_regrown W dq osq
    dsimp only
    go_wp2_with fail
    go_ret
    exact ⟨rfl, hb.trans (hq.mono hb.size)⟩

end Go.Proofs.Ytpifjeghoapjbaa.Evolve
