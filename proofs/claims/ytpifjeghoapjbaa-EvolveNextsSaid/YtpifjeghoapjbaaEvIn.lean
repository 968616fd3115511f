/- evolve: the document's May: may a key be? -/
import Derived.Test.YtpifjeghoapjbaaEvH
namespace Go.Proofs.Ytpifjeghoapjbaa.Evolve
open Go.RowKit Go.Proofs.Ytpifjeghoapjbaa.Sha Go.Proofs.Ytpifjeghoapjbaa.Tree Go.Proofs.Ytpifjeghoapjbaa.Once

set_option maxRecDepth 100000 in
set_option maxHeartbeats 6400000 in
theorem ref_May_no (d p : Int) (leaf : List UInt8) (hl : leaf.length = 32) (ar as_ : Option Addr) (nr cr ns cs : Nat) (R : List (List UInt8)) (w : World) (hR : Hashes w (.slice ar nr cr) R) (hno : ¬ (wayP d p ∧ R.length = d.toNat ∧ ns = d.toNat)) :
    Calls Try.prog 19 #[.agg (evRow d p leaf (.slice ar nr cr) (.slice as_ ns cs))] w fun e w' => e = .returned (.bool false) ∧ Below w.heap.size w w' := by
  have hRL := hashes_form hR
  by_cases h0 : d < 0
  · skip
    have g1 : decide (d < 0) = true := by simp [h0]
    go_enter Try.func19, Try.ntmps19
    go_upto_region 1 with (fail)
    have hE := ev_new w d p leaf (.slice ar nr cr) (.slice as_ ns cs) hl
    have hb : Below w.heap.size w (w.alloc (.cells (evRow d p leaf (.slice ar nr cr) (.slice as_ ns cs)) 26)) := (Below.refl _ _).alloc (Nat.le_refl _) _
    generalize w.alloc (.cells (evRow d p leaf (.slice ar nr cr) (.slice as_ ns cs)) 26) = W at hE hb ⊢
    have c0 := hE.c0
    have c1 := hE.c1
    have c34 := hE.c34
    have c35 := hE.c35
    have r0 := cell_regrown c0
    have r1 := cell_regrown c1
    have r34 := cell_regrown c34
    have r35 := cell_regrown c35
    generalize evRow d p leaf (.slice ar nr cr) (.slice as_ ns cs) = E
    refine wp_region_quiet_below (by kernel_rfl) (by kernel_rfl) ?_
    repeat (quiet_step (fail))
    refine wpQuiet_nil ?_
    intro _ hw'
    obtain ⟨⟨dq, osq⟩, hw''⟩ := hw'
    subst hw''
    have hbq := below_regrown W dq osq
    clear r0 r1 r34 r35
    dsimp only
    generalize Sort.grow (redrawn W dq) osq = w3 at hbq ⊢
    go_wp2_with fail
    go_ret
    exact ⟨rfl, hb.trans (hbq.mono hb.size)⟩
  obtain ⟨d, rfl⟩ : ∃ dn : Nat, d = dn := ⟨d.toNat, by omega⟩
  have g1 : decide ((d : Int) < 0) = false := by simp
  by_cases h4 : 4 < d
  · skip
    have g2 : decide ((4 : Int) < (d : Int)) = true := by simp; omega
    go_enter Try.func19, Try.ntmps19
    go_upto_region 1 with (fail)
    have hE := ev_new w d p leaf (.slice ar nr cr) (.slice as_ ns cs) hl
    have hb : Below w.heap.size w (w.alloc (.cells (evRow d p leaf (.slice ar nr cr) (.slice as_ ns cs)) 26)) := (Below.refl _ _).alloc (Nat.le_refl _) _
    generalize w.alloc (.cells (evRow d p leaf (.slice ar nr cr) (.slice as_ ns cs)) 26) = W at hE hb ⊢
    have c0 := hE.c0
    have c1 := hE.c1
    have c34 := hE.c34
    have c35 := hE.c35
    have r0 := cell_regrown c0
    have r1 := cell_regrown c1
    have r34 := cell_regrown c34
    have r35 := cell_regrown c35
    generalize evRow d p leaf (.slice ar nr cr) (.slice as_ ns cs) = E
    refine wp_region_quiet_below (by kernel_rfl) (by kernel_rfl) ?_
    repeat (quiet_step (fail))
    refine wpQuiet_nil ?_
    intro _ hw'
    obtain ⟨⟨dq, osq⟩, hw''⟩ := hw'
    subst hw''
    have hbq := below_regrown W dq osq
    clear r0 r1 r34 r35
    dsimp only
    generalize Sort.grow (redrawn W dq) osq = w3 at hbq ⊢
    go_wp2_with fail
    go_ret
    exact ⟨rfl, hb.trans (hbq.mono hb.size)⟩
  have g2 : decide ((4 : Int) < (d : Int)) = false := by simp; omega
  by_cases hp : p < 0
  · skip
    have g3 : decide (p < 0) = true := by simp [hp]
    go_enter Try.func19, Try.ntmps19
    go_upto_region 1 with (fail)
    have hE := ev_new w d p leaf (.slice ar nr cr) (.slice as_ ns cs) hl
    have hb : Below w.heap.size w (w.alloc (.cells (evRow d p leaf (.slice ar nr cr) (.slice as_ ns cs)) 26)) := (Below.refl _ _).alloc (Nat.le_refl _) _
    generalize w.alloc (.cells (evRow d p leaf (.slice ar nr cr) (.slice as_ ns cs)) 26) = W at hE hb ⊢
    have c0 := hE.c0
    have c1 := hE.c1
    have c34 := hE.c34
    have c35 := hE.c35
    have r0 := cell_regrown c0
    have r1 := cell_regrown c1
    have r34 := cell_regrown c34
    have r35 := cell_regrown c35
    generalize evRow d p leaf (.slice ar nr cr) (.slice as_ ns cs) = E
    refine wp_region_quiet_below (by kernel_rfl) (by kernel_rfl) ?_
    repeat (quiet_step (fail))
    refine wpQuiet_nil ?_
    intro _ hw'
    obtain ⟨⟨dq, osq⟩, hw''⟩ := hw'
    subst hw''
    have hbq := below_regrown W dq osq
    clear r0 r1 r34 r35
    dsimp only
    generalize Sort.grow (redrawn W dq) osq = w3 at hbq ⊢
    go_wp2_with fail
    go_ret
    exact ⟨rfl, hb.trans (hbq.mono hb.size)⟩
  obtain ⟨p, rfl⟩ : ∃ pn : Nat, p = pn := ⟨p.toNat, by omega⟩
  have g3 : decide ((p : Int) < 0) = false := by simp
  obtain ⟨q, hq⟩ : ∃ q : Nat, 2 ^ d = q := ⟨_, rfl⟩
  have hq16 : q ≤ 16 := by rw [← hq]; exact Nat.le_trans (Nat.pow_le_pow_right (by omega) (show d ≤ 4 by omega)) (by decide)
  have hqi : IntKind.i64.wrap ((2 : Int) ^ d) = (q : Int) := by
    rw [show ((2 : Int) ^ d) = (q : Int) by rw [← hq]; push_cast; rfl]
    unfold IntKind.wrap
    simp [IntKind.bits, IntKind.signed]
    omega
  by_cases hpq : q ≤ p
  · skip
    have g4 : decide (q ≤ p) = true := by simp [hpq]
    have g5 : decide ((q : Int) ≤ (p : Int)) = true := by simp [hpq]
    clear hq
    go_enter Try.func19, Try.ntmps19
    go_upto_region 1 with (fail)
    have hE := ev_new w d p leaf (.slice ar nr cr) (.slice as_ ns cs) hl
    have hb : Below w.heap.size w (w.alloc (.cells (evRow d p leaf (.slice ar nr cr) (.slice as_ ns cs)) 26)) := (Below.refl _ _).alloc (Nat.le_refl _) _
    generalize w.alloc (.cells (evRow d p leaf (.slice ar nr cr) (.slice as_ ns cs)) 26) = W at hE hb ⊢
    have c0 := hE.c0
    have c1 := hE.c1
    have c34 := hE.c34
    have c35 := hE.c35
    have r0 := cell_regrown c0
    have r1 := cell_regrown c1
    have r34 := cell_regrown c34
    have r35 := cell_regrown c35
    generalize evRow d p leaf (.slice ar nr cr) (.slice as_ ns cs) = E
    refine wp_region_quiet_below (by kernel_rfl) (by kernel_rfl) ?_
    repeat (quiet_step (fail))
    refine wpQuiet_nil ?_
    intro _ hw'
    obtain ⟨⟨dq, osq⟩, hw''⟩ := hw'
    subst hw''
    have hbq := below_regrown W dq osq
    clear r0 r1 r34 r35
    dsimp only
    generalize Sort.grow (redrawn W dq) osq = w3 at hbq ⊢
    go_wp2_with fail
    go_ret
    exact ⟨rfl, hb.trans (hbq.mono hb.size)⟩
  have g4 : decide (q ≤ p) = false := by simp; omega
  have g5 : decide ((q : Int) ≤ (p : Int)) = false := by simp; omega
  by_cases hn : ¬ nr = d
  · skip
    have g6 : ((nr : Int) != (d : Int)) = true := by simp; omega
    have g7 : (nr == d) = false := by simp [hn]
    clear hq
    go_enter Try.func19, Try.ntmps19
    go_upto_region 1 with (fail)
    have hE := ev_new w d p leaf (.slice ar nr cr) (.slice as_ ns cs) hl
    have hb : Below w.heap.size w (w.alloc (.cells (evRow d p leaf (.slice ar nr cr) (.slice as_ ns cs)) 26)) := (Below.refl _ _).alloc (Nat.le_refl _) _
    generalize w.alloc (.cells (evRow d p leaf (.slice ar nr cr) (.slice as_ ns cs)) 26) = W at hE hb ⊢
    have c0 := hE.c0
    have c1 := hE.c1
    have c34 := hE.c34
    have c35 := hE.c35
    have r0 := cell_regrown c0
    have r1 := cell_regrown c1
    have r34 := cell_regrown c34
    have r35 := cell_regrown c35
    generalize evRow d p leaf (.slice ar nr cr) (.slice as_ ns cs) = E
    refine wp_region_quiet_below (by kernel_rfl) (by kernel_rfl) ?_
    repeat (quiet_step (fail))
    refine wpQuiet_nil ?_
    intro _ hw'
    obtain ⟨⟨dq, osq⟩, hw''⟩ := hw'
    subst hw''
    have hbq := below_regrown W dq osq
    clear r0 r1 r34 r35
    dsimp only
    generalize Sort.grow (redrawn W dq) osq = w3 at hbq ⊢
    go_wp2_with fail
    go_ret
    exact ⟨rfl, hb.trans (hbq.mono hb.size)⟩
  have hn := Decidable.not_not.1 hn
  subst hn
  by_cases hn : ¬ ns = nr
  · skip
    have g6 : ((ns : Int) != (nr : Int)) = true := by simp; omega
    have g7 : (ns == nr) = false := by simp [hn]
    clear hq
    go_enter Try.func19, Try.ntmps19
    go_upto_region 1 with (fail)
    have hE := ev_new w nr p leaf (.slice ar nr cr) (.slice as_ ns cs) hl
    have hb : Below w.heap.size w (w.alloc (.cells (evRow nr p leaf (.slice ar nr cr) (.slice as_ ns cs)) 26)) := (Below.refl _ _).alloc (Nat.le_refl _) _
    generalize w.alloc (.cells (evRow nr p leaf (.slice ar nr cr) (.slice as_ ns cs)) 26) = W at hE hb ⊢
    have c0 := hE.c0
    have c1 := hE.c1
    have c34 := hE.c34
    have c35 := hE.c35
    have r0 := cell_regrown c0
    have r1 := cell_regrown c1
    have r34 := cell_regrown c34
    have r35 := cell_regrown c35
    generalize evRow nr p leaf (.slice ar nr cr) (.slice as_ ns cs) = E
    refine wp_region_quiet_below (by kernel_rfl) (by kernel_rfl) ?_
    repeat (quiet_step (fail))
    refine wpQuiet_nil ?_
    intro _ hw'
    obtain ⟨⟨dq, osq⟩, hw''⟩ := hw'
    subst hw''
    have hbq := below_regrown W dq osq
    clear r0 r1 r34 r35
    dsimp only
    generalize Sort.grow (redrawn W dq) osq = w3 at hbq ⊢
    go_wp2_with fail
    go_ret
    exact ⟨rfl, hb.trans (hbq.mono hb.size)⟩
  have hn := Decidable.not_not.1 hn
  subst hn
  exact absurd ⟨⟨⟨by omega, by omega⟩, by omega, by
    have : (p : Int) < ((2 ^ ns : Nat) : Int) := by omega
    rw [Int.toNat_natCast]; push_cast at this; exact this⟩, hRL, rfl⟩ hno

end Go.Proofs.Ytpifjeghoapjbaa.Evolve
