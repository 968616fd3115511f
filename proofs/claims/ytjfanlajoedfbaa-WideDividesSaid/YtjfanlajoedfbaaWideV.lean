/- wide.Div, wide.Part. -/
import Derived.Test.YtjfanlajoedfbaaWideD
import Derived.Test.YtjfanlajoedfbaaWideT
namespace Go.Proofs.Ytjfanlajoedfbaa.Wide
open Go.RowKit

/-- A cell that was there reads on as it did. -/
theorem kept {w w' : World} (h : Below w.heap.size w w') {p : Addr} {v : Value} (hc : w.cell? p = some v) : w'.cell? p = some v := by
  rw [h.cell (World.block_lt_of_cell? w p hc)]
  exact hc
theorem keptF {w w' : World} (h : Below w.heap.size w w') {p : Addr} {v : Value} (hc : w.cell? p = some v) (hf : w.frozen? p = false) : w'.frozen? p = false := by
  rw [h.frozen (World.block_lt_of_cell? w p hc)]
  exact hf

theorem div_digits (ah al b : Nat) (hb : 0 < b) :
    (ah * 18446744073709551616 + al) / b = ah / b * 18446744073709551616 + (ah % b * 18446744073709551616 + al) / b ∧ (ah * 18446744073709551616 + al) % b = (ah % b * 18446744073709551616 + al) % b := by
  have hd := Nat.div_add_mod ah b
  have e : ah * 18446744073709551616 + al = ah % b * 18446744073709551616 + al + b * (ah / b * 18446744073709551616) := by
    rw [← Nat.mul_assoc]
    omega
  refine ⟨?_, ?_⟩
  · rw [e, Nat.add_mul_div_left _ _ hb, Nat.add_comm]
  · rw [e, Nat.add_mul_mod_self_left]

theorem div_small (r al b : Nat) (hb : r < b) (hl : al < 18446744073709551616) : (r * 18446744073709551616 + al) / b < 18446744073709551616 := by
  rw [Nat.div_lt_iff_lt_mul (by omega)]
  omega

set_option maxRecDepth 100000 in
set_option maxHeartbeats 800000 in
theorem div_zero (ah al : Nat) (w : World) :
    Calls Try.prog 13 #[.agg #[.int .u64 ah, .int .u64 al], .int .u64 0] w fun e w' =>
      e = .returned (.tuple #[.agg #[.int .u64 0, .int .u64 0], .int .u64 0, .int .i64 2]) ∧ Below w.heap.size w w' := by
  go_enter Try.func13, Try.ntmps13
  go_wp2
  refine bodyPost_ret (v := .tuple #[.agg #[.int .u64 0, .int .u64 0], .int .u64 0, .int .i64 2]) (by simp [results, Try.results13, go_sem]) rfl ⟨rfl, below_alloc (below_alloc (Below.refl _ _) _) _⟩

set_option maxRecDepth 100000 in
set_option maxHeartbeats 4000000 in
theorem div_any (ah al b : Nat) (w : World) (h1 : ah < 18446744073709551616) (h2 : al < 18446744073709551616) (h3 : b < 18446744073709551616) (h0 : 0 < b) :
    Calls Try.prog 13 #[.agg #[.int .u64 ah, .int .u64 al], .int .u64 b] w fun e w' =>
      e = .returned (.tuple #[.agg #[.int .u64 (hiN ((ah * 18446744073709551616 + al) / b)), .int .u64 (loN ((ah * 18446744073709551616 + al) / b))], .int .u64 ((ah * 18446744073709551616 + al) % b : Nat), .int .i64 0]) ∧ Below w.heap.size w w' := by
  have hd := div_digits ah al b h0
  have hs := div_small (ah % b) al b (Nat.mod_lt _ h0) h2
  have hD := fun w => div64_any (ah % b) al b w (Nat.mod_lt _ h0) h2 h3
  have e1 : hiN ((ah * 18446744073709551616 + al) / b) = ah / b := by rw [hd.1, hiN_join _ _ hs]
  have e2 : loN ((ah * 18446744073709551616 + al) / b) = (ah % b * 18446744073709551616 + al) / b := by rw [hd.1, loN_join _ _ hs]
  rw [e1, e2, hd.2]
  clear e1 e2 hd
  generalize (ah % b * 18446744073709551616 + al) / b = Q at hD hs ⊢
  generalize (ah % b * 18446744073709551616 + al) % b = R at hD ⊢
  have m1 := first_wrap ah b h1
  have m2 : (ah : Int) % (b : Int) = ((ah % b : Nat) : Int) := (Int.natCast_emod ah b).symm
  obtain ⟨H, hH⟩ : ∃ H, ah / b = H := ⟨_, rfl⟩
  rw [hH] at m1 ⊢
  rw [← m2] at hD
  clear hH m2
  have hne : ¬ b = 0 := by omega
  have hne2 : ((b : Int) == 0) = false := by rw [beq_eq_false_iff_ne]; omega
  have hb0 : Below w.heap.size w ((w.alloc (.cells #[.int .u64 ah, .int .u64 al] 28)).alloc (.cells #[.int .u64 H, .int .u64 0] 28)) := below_alloc (below_alloc (Below.refl _ _) _) _
  obtain ⟨c0, c1⟩ := two_cells w (.int .u64 ah) (.int .u64 al) 28 (.cells #[.int .u64 H, .int .u64 0] 28)
  have z0 : ((w.alloc (.cells #[.int .u64 ah, .int .u64 al] 28)).alloc (.cells #[.int .u64 H, .int .u64 0] 28)).cell? ⟨w.heap.size + 1, 0, none⟩ = some (.int .u64 H) := by go_simp
  have z1 : ((w.alloc (.cells #[.int .u64 ah, .int .u64 al] 28)).alloc (.cells #[.int .u64 H, .int .u64 0] 28)).cell? ⟨w.heap.size + 1, 1, none⟩ = some (.int .u64 0) := by go_simp
  have f0 : ((w.alloc (.cells #[.int .u64 ah, .int .u64 al] 28)).alloc (.cells #[.int .u64 H, .int .u64 0] 28)).frozen? ⟨w.heap.size + 1, 0, none⟩ = false := by go_simp
  have f1 : ((w.alloc (.cells #[.int .u64 ah, .int .u64 al] 28)).alloc (.cells #[.int .u64 H, .int .u64 0] 28)).frozen? ⟨w.heap.size + 1, 1, none⟩ = false := by go_simp
  have hsz : w.heap.size ≤ ((w.alloc (.cells #[.int .u64 ah, .int .u64 al] 28)).alloc (.cells #[.int .u64 H, .int .u64 0] 28)).heap.size := by simp; omega
  go_enter Try.func13, Try.ntmps13
  go_wp2
  generalize (w.alloc (.cells #[.int .u64 ah, .int .u64 al] 28)).alloc (.cells #[.int .u64 H, .int .u64 0] 28) = W at *
  generalize hn : w.heap.size = n at *
  go_region_held3 (fun w' => w'.cell? ⟨n, 0, none⟩ = some (.int .u64 ah) ∧ w'.cell? ⟨n, 1, none⟩ = some (.int .u64 al)) (refine ⟨?_, ?_⟩ <;> (first | assumption | (refine keep_drew ?_; assumption) | (rw [World.cell?_setCell_far _ _ _ _ (by simp)]; assumption))) (first
    | (go_at_call 29; refine (hD _).mono ?_; rintro e w' ⟨rfl, hb⟩; have k0 := kept hb c0; have k1 := kept hb c1; have k2 := kept hb z0; have k3 := kept hb z1; have k4 := keptF hb z0 f0; have k5 := keptF hb z1 f1))
  have k6 : (w'.setCell ⟨n + 1, 1, none⟩ (.int .u64 Q)).cell? ⟨n + 1, 0, none⟩ = some (.int .u64 H) := by
    rw [World.cell?_setCell_other _ _ _ _ (by simp)]
    exact k2
  have k7 := World.cell?_setCell_same w' ⟨n + 1, 1, none⟩ (.int .u64 Q) k3
  have hz := two_set (.int .u64 H) (.int .u64 Q) k6 k7
  have hb1 : Below n w w' := hb0.trans (Below.mono (w := W) ⟨hb.os, hb.tape, hb.output, hb.size, hb.block⟩ hsz)
  go_wp2
  refine bodyPost_ret (v := .tuple #[.agg #[.int .u64 H, .int .u64 Q], .int .u64 R, .int .i64 0]) (by simp [results, Try.results13, go_sem, hz.1, hz.2]) rfl ⟨rfl, ?_⟩
  rw [hn]
  exact ((hb1.setCell (Nat.le_succ _) _).setCell (Nat.le_succ _) _).setCell (Nat.le_succ _) _

/-- n times a, divided by b. -/
def partN (n a b : Nat) : Nat × Nat := if b = 0 then (0, 2) else if n * a / b < 18446744073709551616 then (n * a / b, 0) else (0, 9)

theorem div_join (x b : Nat) (w : World) (h : x < 340282366920938463463374607431768211456) (h3 : b < 18446744073709551616) (h0 : 0 < b) :
    Calls Try.prog 13 #[.agg #[.int .u64 (hiN x), .int .u64 (loN x)], .int .u64 b] w fun e w' =>
      e = .returned (.tuple #[.agg #[.int .u64 (hiN (x / b)), .int .u64 (loN (x / b))], .int .u64 (x % b : Nat), .int .i64 0]) ∧ Below w.heap.size w w' := by
  have := div_any (hiN x) (loN x) b w (hiN_lt h) (loN_lt x) h3 h0
  rwa [join_N] at this

set_option maxRecDepth 100000 in
set_option maxHeartbeats 800000 in
theorem part_any (n a b : Nat) (w : World) (h1 : n < 18446744073709551616) (h2 : a < 18446744073709551616) (h3 : b < 18446744073709551616) :
    Calls Try.prog 15 #[.int .u64 n, .int .u64 a, .int .u64 b] w fun e w' =>
      e = .returned (.tuple #[.int .u64 (partN n a b).1, .int .i64 (partN n a b).2]) ∧ Below w.heap.size w w' := by
  unfold partN
  have hb := Below.refl w.heap.size w
  have hM := fun w => mul_any n a w h1 h2
  have hlt := mul_lt n a h1 h2
  by_cases hz : b = 0
  · subst hz
    rw [if_pos rfl]
    go_enter Try.func15, Try.ntmps15
    go_wp2_with (first
      | (go_at_call 22; refine (carry (w0 := w) (hM _) (by assumption)).mono ?_; rintro e w' ⟨rfl, hb⟩)
      | (go_at_call 13; refine (carry (w0 := w) (div_zero _ _ _) (by assumption)).mono ?_; rintro e w' ⟨rfl, hb⟩))
    go_ret2
    exact ⟨rfl, below_alloc (by assumption) _⟩
  · rw [if_neg hz]
    have hD := fun w => div_join (n * a) b w hlt h3 (by omega)
    by_cases ho : n * a / b < 18446744073709551616
    · rw [if_pos ho]
      have e1 : hiN (n * a / b) = 0 := Nat.div_eq_of_lt ho
      have e2 : loN (n * a / b) = n * a / b := Nat.mod_eq_of_lt ho
      rw [e1, e2] at hD
      generalize n * a / b = Q at hD ⊢
      generalize n * a % b = R at hD
      generalize hiN (n * a) = mh at hD hM
      generalize loN (n * a) = ml at hD hM
      clear e1 e2 ho hlt
      go_enter Try.func15, Try.ntmps15
      go_wp2_with (first
        | (go_at_call 22; refine (carry (w0 := w) (hM _) (by assumption)).mono ?_; rintro e w' ⟨rfl, hb⟩)
        | (go_at_call 13; refine (carry (w0 := w) (hD _) (by assumption)).mono ?_; rintro e w' ⟨rfl, hb⟩))
      go_ret2
      exact ⟨rfl, below_alloc (by assumption) _⟩
    · rw [if_neg ho]
      have e1 : ¬ hiN (n * a / b) = 0 := fun h => ho (by have := join_N (n * a / b); rw [h] at this; have := loN_lt (n * a / b); omega)
      generalize hiN (n * a / b) = qh at hD e1
      generalize loN (n * a / b) = ql at hD
      generalize n * a % b = R at hD
      generalize hiN (n * a) = mh at hD hM
      generalize loN (n * a) = ml at hD hM
      clear ho hlt
      go_enter Try.func15, Try.ntmps15
      go_wp2_with (first
        | (go_at_call 22; refine (carry (w0 := w) (hM _) (by assumption)).mono ?_; rintro e w' ⟨rfl, hb⟩)
        | (go_at_call 13; refine (carry (w0 := w) (hD _) (by assumption)).mono ?_; rintro e w' ⟨rfl, hb⟩))
      go_ret2
      exact ⟨rfl, below_alloc (by assumption) _⟩

theorem mulTop (w : World) : Calls Try.prog 22 #[.int .u64 18446744073709551615, .int .u64 18446744073709551615] w fun e w' => e = .returned (.agg #[.int .u64 18446744073709551614, .int .u64 1]) ∧ Below w.heap.size w w' :=
  mul_any 18446744073709551615 18446744073709551615 w (by omega) (by omega)
theorem cmpTop (w : World) : Calls Try.prog 24 #[.agg #[.int .u64 1, .int .u64 0], .agg #[.int .u64 0, .int .u64 5]] w fun e w' => e = .returned (.int .i64 1) ∧ Below w.heap.size w w' :=
  compare_any 1 0 0 5 w (by omega) (by omega) (by omega) (by omega)

set_option maxRecDepth 100000 in
set_option maxHeartbeats 800000 in
theorem works_any (w : World) : Calls Try.prog 14 #[] w fun e w' => e = .returned (.bool true) ∧ Below w.heap.size w w' := by
  have hb := Below.refl w.heap.size w
  go_enter Try.func14, Try.ntmps14
  go_wp2_with (first
    | (go_at_call 22; refine (carry (w0 := w) (mulTop _) (by assumption)).mono ?_; rintro e w' ⟨rfl, hb⟩)
    | (go_at_call 24; refine (carry (w0 := w) (cmpTop _) (by assumption)).mono ?_; rintro e w' ⟨rfl, hb⟩))
  go_ret
  exact ⟨rfl, by assumption⟩

end Go.Proofs.Ytjfanlajoedfbaa.Wide
