/- The statements of layer 2 that lean on no answer of the document's own. -/
import Derived.Test.YtjfanlajoedfbaaWideV
namespace Go.Proofs.Ytjfanlajoedfbaa.Wide
open Go.RowKit

theorem two_far {w : World} {b c o : Nat} {v : Value} (x y : Value) (hne : b ≠ c) (h : w.cell? ⟨c, o, none⟩ = some v) :
    ((w.setCell ⟨b, 0, none⟩ x).setCell ⟨b, 1, none⟩ y).cell? ⟨c, o, none⟩ = some v := by
  rw [World.cell?_setCell_far _ _ _ _ hne, World.cell?_setCell_far _ _ _ _ hne, h]

/-- Three boxes in a row, and what each cell of them holds. -/
theorem six_cells (w : World) (a b c d e f : Value) (t : TypeId) :
    let W := ((w.alloc (.cells #[a, b] t)).alloc (.cells #[c, d] t)).alloc (.cells #[e, f] t)
    W.cell? ⟨w.heap.size, 0, none⟩ = some a ∧ W.cell? ⟨w.heap.size, 1, none⟩ = some b ∧ W.cell? ⟨w.heap.size + 1, 0, none⟩ = some c ∧ W.cell? ⟨w.heap.size + 1, 1, none⟩ = some d ∧
      W.cell? ⟨w.heap.size + 2, 0, none⟩ = some e ∧ W.cell? ⟨w.heap.size + 2, 1, none⟩ = some f := by
  refine ⟨?_, ?_, ?_, ?_, ?_, ?_⟩ <;> go_simp

/-- What is known of the six cells goes along. -/
structure Six (w : World) (n : Nat) (a b c d e f : Value) : Prop where
  k0 : w.cell? ⟨n, 0, none⟩ = some a
  k1 : w.cell? ⟨n, 1, none⟩ = some b
  k2 : w.cell? ⟨n + 1, 0, none⟩ = some c
  k3 : w.cell? ⟨n + 1, 1, none⟩ = some d
  k4 : w.cell? ⟨n + 2, 0, none⟩ = some e
  k5 : w.cell? ⟨n + 2, 1, none⟩ = some f

theorem Six.kept {w w' : World} {n : Nat} {a b c d e f : Value} (s : Six w n a b c d e f) (h : Below w.heap.size w w') : Six w' n a b c d e f :=
  ⟨Wide.kept h s.k0, Wide.kept h s.k1, Wide.kept h s.k2, Wide.kept h s.k3, Wide.kept h s.k4, Wide.kept h s.k5⟩
theorem Six.alloc {w : World} {n : Nat} {a b c d e f : Value} (s : Six w n a b c d e f) (o : Obj) : Six (w.alloc o) n a b c d e f :=
  ⟨keep_alloc s.k0, keep_alloc s.k1, keep_alloc s.k2, keep_alloc s.k3, keep_alloc s.k4, keep_alloc s.k5⟩
theorem Six.size {w : World} {n : Nat} {a b c d e f : Value} (s : Six w n a b c d e f) : n + 2 < w.heap.size := World.block_lt_of_cell? _ _ s.k4

theorem keep_allocF {w : World} {p : Addr} {v : Value} {o : Obj} (h : w.cell? p = some v) (hf : w.frozen? p = false) : (w.alloc o).frozen? p = false := by
  rw [World.frozen?_alloc_old _ _ _ (Nat.ne_of_lt (World.block_lt_of_cell? _ _ h)), hf]

theorem parts_math (n a b : Nat) (h0 : 0 < b) (ha : a ≤ b) : n * a / b ≤ n ∧ n * (b - a) / b ≤ n ∧ (n * a / b + n * (b - a) / b = n ∨ n * a / b + n * (b - a) / b + 1 = n) := by
  have h1 := Nat.div_add_mod (n * a) b
  have h2 := Nat.div_add_mod (n * (b - a)) b
  have r1 := Nat.mod_lt (n * a) h0
  have r2 := Nat.mod_lt (n * (b - a)) h0
  have hs : n * a + n * (b - a) = n * b := by rw [← Nat.mul_add, Nat.add_sub_cancel' ha]
  generalize n * a / b = x at h1 ⊢
  generalize n * (b - a) / b = y at h2 ⊢
  have hb : b * (x + y) + (n * a % b + n * (b - a) % b) = b * n := by rw [Nat.mul_add, Nat.mul_comm b n]; omega
  have hle : x + y ≤ n := Nat.le_of_mul_le_mul_left (by omega) h0
  obtain ⟨k, rfl⟩ : ∃ k, n = x + y + k := ⟨n - (x + y), by omega⟩
  rw [Nat.mul_add b (x + y) k] at hb
  have hk : k < 2 := by
    rcases Nat.lt_or_ge k 2 with h | h
    · exact h
    · have := Nat.mul_le_mul_left b h
      omega
  omega

theorem partN_of (n a b : Nat) (hn : n < 18446744073709551616) (h0 : 0 < b) (h : n * a / b ≤ n) : partN n a b = (n * a / b, 0) := by
  unfold partN
  rw [if_neg (by omega), if_pos (by omega)]

set_option maxRecDepth 100000 in
set_option maxHeartbeats 800000 in
theorem parts_true (n a b : Nat) (w : World) (h1 : n < 18446744073709551616) (h2 : a < 18446744073709551616) (h3 : b < 18446744073709551616) :
    Calls Try.prog 8 #[.int .u64 n, .int .u64 a, .int .u64 b] w fun e w' => e = .returned (.bool true) ∧ Below w.heap.size w w' := by
  have hb := Below.refl w.heap.size w
  by_cases hz : b = 0 ∨ b < a
  · have hcase : b = 0 ∨ ¬ b = 0 ∧ b < a := by omega
    clear hz
    rcases hcase with rfl | ⟨hz, hlt⟩
    · go_enter Try.func8, Try.ntmps8
      go_wp2_with (go_at_call 14; refine (works_any _).mono ?_; rintro e w' ⟨rfl, hb⟩)
      go_ret
      exact ⟨rfl, by assumption⟩
    · have hne : ((b : Int) == 0) = false := by rw [beq_eq_false_iff_ne]; omega
      go_enter Try.func8, Try.ntmps8
      go_wp2_with (go_at_call 14; refine (works_any _).mono ?_; rintro e w' ⟨rfl, hb⟩)
      go_ret
      exact ⟨rfl, by assumption⟩
  · obtain ⟨hx, hy, hs⟩ := parts_math n a b (by omega) (by omega)
    have hne : ((b : Int) == 0) = false := by rw [beq_eq_false_iff_ne]; omega
    have hnlt : ¬ b < a := by omega
    have hP := fun w => part_any n a b w h1 h2 h3
    have hQ := fun w => part_any n (b - a) b w h1 (by omega) h3
    rw [partN_of _ _ _ h1 (by omega) hx] at hP
    rw [partN_of _ _ _ h1 (by omega) hy] at hQ
    have hd : IntKind.u64.wrap ((b : Int) - (a : Int)) = ((b - a : Nat) : Int) := by
      rw [IntWalk.u64_in _ ⟨by omega, by omega⟩]
      omega
    generalize b - a = d at hd hQ hx hy hs
    generalize n * a / b = x at hP hx hs
    generalize n * d / b = y at hQ hy hs
    have hsum : IntKind.u64.wrap ((x : Int) + (y : Int)) = ((x + y : Nat) : Int) := by
      rw [IntWalk.u64_in _ ⟨by omega, by omega⟩]
      omega
    clear hz
    rcases hs with hs | hs
    · rw [hs] at hsum
      clear hs
      go_enter Try.func8, Try.ntmps8
      go_wp2_with fail
      refine (carry (w0 := w) (hP _) hb).mono ?_
      rintro e w1 ⟨rfl, hb1⟩
      go_wp2_with fail
      refine (carry (w0 := w) (hQ _) hb1).mono ?_
      rintro e w2 ⟨rfl, hb2⟩
      go_wp2_with fail
      refine (carry (w0 := w) (works_any _) hb2).mono ?_
      rintro e w3 ⟨rfl, hb3⟩
      go_wp2_with fail
      go_ret
      exact ⟨rfl, hb3⟩
    · generalize hst : x + y = s at hsum hs
      have hone : IntKind.u64.wrap ((s : Int) + 1) = (n : Int) := by
        rw [IntWalk.u64_in _ ⟨by omega, by omega⟩]
        omega
      have hsn : ((s : Int) == (n : Int)) = false := by rw [beq_eq_false_iff_ne]; omega
      clear hs hst
      go_enter Try.func8, Try.ntmps8
      go_wp2_with fail
      refine (carry (w0 := w) (hP _) hb).mono ?_
      rintro e w1 ⟨rfl, hb1⟩
      go_wp2_with fail
      refine (carry (w0 := w) (hQ _) hb1).mono ?_
      rintro e w2 ⟨rfl, hb2⟩
      go_wp2_with fail
      refine (carry (w0 := w) (works_any _) hb2).mono ?_
      rintro e w3 ⟨rfl, hb3⟩
      go_wp2_with fail
      go_ret
      exact ⟨rfl, hb3⟩

theorem one_cells (w : World) (x y : Value) (t : TypeId) :
    (w.alloc (.cells #[x, y] t)).cell? ⟨w.heap.size, 0, none⟩ = some x ∧ (w.alloc (.cells #[x, y] t)).cell? ⟨w.heap.size, 1, none⟩ = some y := by
  constructor <;> go_simp

set_option maxRecDepth 100000 in
set_option maxHeartbeats 800000 in
theorem back_true (ah al b : Nat) (w : World) (h1 : ah < 18446744073709551616) (h2 : al < 18446744073709551616) (h3 : b < 18446744073709551616) :
    Calls Try.prog 7 #[.agg #[.int .u64 ah, .int .u64 al], .int .u64 b] w fun e w' => e = .returned (.bool true) ∧ Below w.heap.size w w' := by
  have hb := below_alloc (Below.refl w.heap.size w) (.cells #[.int .u64 ah, .int .u64 al] 28)
  obtain ⟨c0, c1⟩ := one_cells w (.int .u64 ah) (.int .u64 al) 28
  by_cases hz : b = 0
  · subst hz
    go_enter Try.func7, Try.ntmps7
    go_wp2_with fail
    refine (carry (w0 := w) (div_zero _ _ _) hb).mono ?_
    rintro e w1 ⟨rfl, hb1⟩
    go_wp2_with fail
    refine (carry (w0 := w) (works_any _) (below_alloc hb1 _)).mono ?_
    rintro e w2 ⟨rfl, hb2⟩
    go_wp2_with fail
    go_ret
    exact ⟨rfl, hb2⟩
  · have hD := fun w => div_any ah al b w h1 h2 h3 (by omega)
    have hA : ah * 18446744073709551616 + al < 340282366920938463463374607431768211456 := by omega
    have hq : (ah * 18446744073709551616 + al) / b * b ≤ ah * 18446744073709551616 + al := Nat.div_mul_le_self _ _
    have hle : (ah * 18446744073709551616 + al) / b ≤ ah * 18446744073709551616 + al := Nat.div_le_self _ _
    have hr : (ah * 18446744073709551616 + al) % b < b := Nat.mod_lt _ (by omega)
    have hT := fun w => times_any (hiN ((ah * 18446744073709551616 + al) / b)) (loN ((ah * 18446744073709551616 + al) / b)) b w (hiN_lt (by omega)) (loN_lt _) h3
    have eT : timesN ((ah * 18446744073709551616 + al) / b) b = ((ah * 18446744073709551616 + al) / b * b, 0) := by
      unfold timesN
      rw [if_pos (by omega)]
    rw [join_N, eT] at hT
    have hP := fun w => plus_any (hiN ((ah * 18446744073709551616 + al) / b * b)) (loN ((ah * 18446744073709551616 + al) / b * b)) 0 ((ah * 18446744073709551616 + al) % b) w (hiN_lt (by omega)) (loN_lt _) (by omega) (by omega)
    have eP : plusN ((ah * 18446744073709551616 + al) / b * b) (0 * 18446744073709551616 + (ah * 18446744073709551616 + al) % b) = (ah * 18446744073709551616 + al, 0) := by
      have e : (ah * 18446744073709551616 + al) / b * b + (0 * 18446744073709551616 + (ah * 18446744073709551616 + al) % b) = ah * 18446744073709551616 + al := by
        rw [Nat.zero_mul, Nat.zero_add, Nat.div_add_mod']
      unfold plusN
      rw [e, if_pos hA]
    rw [join_N, eP] at hP
    dsimp only at hT hP
    rw [hiN_join _ _ h2, loN_join _ _ h2] at hP
    clear eT eP hq hle hA
    generalize (ah * 18446744073709551616 + al) / b * b = T at hT hP
    generalize (ah * 18446744073709551616 + al) / b = Q at hD hT
    generalize (ah * 18446744073709551616 + al) % b = R at hD hP hr
    generalize hiN T = th at hT hP
    generalize loN T = tl at hT hP
    generalize hiN Q = qh at hT hD
    generalize loN Q = ql at hT hD
    have hne : ((b : Int) == 0) = false := by rw [beq_eq_false_iff_ne]; omega
    go_enter Try.func7, Try.ntmps7
    go_wp2_with fail
    refine (hD _).mono ?_
    rintro e w1 ⟨rfl, hb1⟩
    have k0 := kept hb1 c0
    have k1 := kept hb1 c1
    have hb1' := hb.trans (hb1.mono hb.size)
    clear c0 c1 hb hb1 hD
    go_wp2_with fail
    refine (hT _).mono ?_
    rintro e w2 ⟨rfl, hb2⟩
    have k2 := kept hb2 (keep_alloc k0)
    have k3 := kept hb2 (keep_alloc k1)
    have hb2' := (below_alloc hb1' _).trans (hb2.mono (below_alloc hb1' _).size)
    clear k0 k1 hb1' hb2 hT
    go_wp2_with fail
    refine (hP _).mono ?_
    rintro e w3 ⟨rfl, hb3⟩
    have k4 := kept hb3 (keep_alloc k2)
    have k5 := kept hb3 (keep_alloc k3)
    have hb3' := (below_alloc hb2' _).trans (hb3.mono (below_alloc hb2' _).size)
    have hs := World.block_lt_of_cell? _ _ k4
    clear k2 k3 hb2' hb3 hP
    simp only at hs
    go_wp2_with fail
    refine (carry (w0 := w) (works_any _) (below_alloc hb3' _)).mono ?_
    rintro e w4 ⟨rfl, hb4⟩
    go_wp2_with fail
    go_ret
    exact ⟨rfl, hb4⟩

end Go.Proofs.Ytjfanlajoedfbaa.Wide
