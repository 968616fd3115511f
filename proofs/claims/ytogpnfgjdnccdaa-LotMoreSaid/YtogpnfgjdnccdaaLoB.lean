/- lot: the document's May, Wins, Least. -/
import Derived.Test.YtogpnfgjdnccdaaLoA
import Derived.Test.YtogpnfgjdnccdaaWideK
import Derived.Lib.Hide
namespace Go.Proofs.Ytogpnfgjdnccdaa.Lot
open Go.RowKit Go.Proofs.Ytogpnfgjdnccdaa.Wide

theorem wide_info : (Try.prog.info? 48).map (·.size) = some 2 := by kernel_rfl

set_option maxHeartbeats 800000 in
theorem ref_MayL (s L a b : Nat) (w : World) :
    Calls Try.prog 25 #[.int .u64 s, .int .u64 L, .int .u64 a, .int .u64 b] w fun e w' => e = .returned (.bool (mayN s L a b)) ∧ Below w.heap.size w w' := by
  obtain ⟨r, hr⟩ : ∃ r, mayN s L a b = r := ⟨_, rfl⟩
  rw [hr]
  by_cases h0 : s ≤ L
  · have i0 : ((s : Int) ≤ (L : Int)) := by omega
    by_cases h1 : 1 ≤ L
    · have i1 : (1 ≤ (L : Int)) := by omega
      by_cases h2 : L < 9223372036854775808
      · have i2 : ((L : Int) < 9223372036854775808) := by omega
        by_cases h3 : a ≤ b
        · have i3 : ((a : Int) ≤ (b : Int)) := by omega
          by_cases h4 : 1 ≤ b
          · have i4 : (1 ≤ (b : Int)) := by omega
            by_cases h5 : b ≤ 65536
            · have i5 : ((b : Int) ≤ 65536) := by omega
              obtain rfl : r = true := by rw [← hr]; simp [mayN, h0, h1, h2, h3, h4, h5]
              clear hr
              go_enter Try.func25, Try.ntmps25
              go_wp2_with fail
              go_ret
              exact ⟨rfl, Below.refl _ _⟩
            · have i5 : ¬ ((b : Int) ≤ 65536) := by omega
              obtain rfl : r = false := by rw [← hr]; simp [mayN]; omega
              clear hr
              go_enter Try.func25, Try.ntmps25
              go_wp2_with fail
              go_ret
              exact ⟨rfl, Below.refl _ _⟩
          · have i4 : ¬ (1 ≤ (b : Int)) := by omega
            obtain rfl : r = false := by rw [← hr]; simp [mayN]; omega
            clear hr
            go_enter Try.func25, Try.ntmps25
            go_wp2_with fail
            go_ret
            exact ⟨rfl, Below.refl _ _⟩
        · have i3 : ¬ ((a : Int) ≤ (b : Int)) := by omega
          obtain rfl : r = false := by rw [← hr]; simp [mayN]; omega
          clear hr
          go_enter Try.func25, Try.ntmps25
          go_wp2_with fail
          go_ret
          exact ⟨rfl, Below.refl _ _⟩
      · have i2 : ¬ ((L : Int) < 9223372036854775808) := by omega
        obtain rfl : r = false := by rw [← hr]; simp [mayN]; omega
        clear hr
        go_enter Try.func25, Try.ntmps25
        go_wp2_with fail
        go_ret
        exact ⟨rfl, Below.refl _ _⟩
    · have i1 : ¬ (1 ≤ (L : Int)) := by omega
      obtain rfl : r = false := by rw [← hr]; simp [mayN]; omega
      clear hr
      go_enter Try.func25, Try.ntmps25
      go_wp2_with fail
      go_ret
      exact ⟨rfl, Below.refl _ _⟩
  · have i0 : ¬ ((s : Int) ≤ (L : Int)) := by omega
    obtain rfl : r = false := by rw [← hr]; simp [mayN]; omega
    clear hr
    go_enter Try.func25, Try.ntmps25
    go_wp2_with fail
    go_ret
    exact ⟨rfl, Below.refl _ _⟩

theorem mul_small {L b n : Nat} (hL : L < 9223372036854775808) (hb : b ≤ 65536) (hn : n ≤ 4294967296) : L * b * n < 340282366920938463463374607431768211456 := by
  have h1 := Nat.mul_le_mul (Nat.mul_le_mul (show L ≤ 9223372036854775807 by omega) hb) hn
  omega
/-- A product of two, times a third one, as the document has it. -/
theorem ref_three (L b n : Nat) (hL : L < 9223372036854775808) (hb : b ≤ 65536) (hn : n ≤ 4294967296) :
    (∀ w, Calls Try.prog 27 #[.int .u64 L, .int .u64 b] w fun e w' => e = .returned (.agg #[.int .u64 (hiN (L * b)), .int .u64 (loN (L * b))]) ∧ Below w.heap.size w w') ∧
    (∀ w, Calls Try.prog 26 #[.agg #[.int .u64 (hiN (L * b)), .int .u64 (loN (L * b))], .int .u64 n] w fun e w' => e = .returned (.tuple #[.agg #[.int .u64 (hiN (L * b * n)), .int .u64 (loN (L * b * n))], .int .i64 0]) ∧ Below w.heap.size w w') := by
  refine ⟨fun w => refMul_any L b w (by omega) (by omega), fun w => ?_⟩
  have h := refTimes_any (hiN (L * b)) (loN (L * b)) n w (hiN_lt (mul_lt L b (by omega) (by omega))) (loN_lt _) (by omega)
  rw [join_N] at h
  rw [show timesN (L * b) n = (L * b * n, 0) by unfold timesN; rw [if_pos (mul_small hL hb hn)]] at h
  exact h
theorem cmp_neg (X Y : Nat) : decide (cmpN X Y < 0) = decide (X < Y) := by
  unfold cmpN
  split
  · simp [*]
  · split <;> simp <;> omega
theorem ref_less (X Y : Nat) (hX : X < 340282366920938463463374607431768211456) (hY : Y < 340282366920938463463374607431768211456) (w : World) :
    Calls Try.prog 28 #[.agg #[.int .u64 (hiN X), .int .u64 (loN X)], .agg #[.int .u64 (hiN Y), .int .u64 (loN Y)]] w fun e w' => e = .returned (.int .i64 (cmpN X Y)) ∧ Below w.heap.size w w' := by
  have h := refCompare_any (hiN X) (loN X) (hiN Y) (loN Y) w (hiN_lt hX) (loN_lt _) (hiN_lt hY) (loN_lt _)
  rw [join_N, join_N] at h
  exact h
theorem ref_divides (X L : Nat) (hX : X < 340282366920938463463374607431768211456) (hL : L < 18446744073709551616) (h0 : 0 < L) (w : World) :
    Calls Try.prog 29 #[.agg #[.int .u64 (hiN X), .int .u64 (loN X)], .int .u64 L] w fun e w' => e = .returned (.tuple #[.agg #[.int .u64 (hiN (X / L)), .int .u64 (loN (X / L))], .int .u64 (X % L : Nat), .int .i64 0]) ∧ Below w.heap.size w w' := by
  have h := refDiv_any (hiN X) (loN X) L w (hiN_lt hX) (loN_lt _) hL h0
  rw [join_N] at h
  exact h

set_option maxRecDepth 100000 in
set_option maxHeartbeats 3200000 in
theorem ref_WinsL (n s L a b : Nat) (hn : n < 4294967296) (w : World) :
    Calls Try.prog 18 #[.int .u32 n, .int .u64 s, .int .u64 L, .int .u64 a, .int .u64 b] w fun e w' => e = .returned (.tuple #[.bool (winsE n s L a b), .int .i64 (if mayN s L a b then 0 else 2)]) ∧ Below w.heap.size w w' := by
  have HMA := Lib.hid (fun w => ref_MayL s L a b w)
  unfold winsE
  cases hm : mayN s L a b with
  | false =>
    rw [hm] at HMA
    clear hm
    go_enter Try.func18, Try.ntmps18
    go_wp2_with fail
    refine (HMA.out _).mono ?_
    rintro e w1 ⟨rfl, hb1⟩
    go_wp2_with fail
    go_ret2
    exact ⟨rfl, hb1⟩
  | true =>
    rw [hm] at HMA
    have h := may_iff.1 hm
    have h1 := ref_three L b n (by omega) (by omega) (by omega)
    have h2 := ref_three s a 4294967296 (by omega) (by omega) (by omega)
    have h3 := fun w => ref_less (L * b * n) (s * a * 4294967296) (mul_small (by omega) (by omega) (by omega)) (mul_small (by omega) (by omega) (by omega)) w
    have hc := cmp_neg (L * b * n) (s * a * 4294967296)
    rw [show winsN n s L a b = decide (L * b * n < s * a * 4294967296) from rfl]
    obtain ⟨r, hr⟩ : ∃ r, decide (L * b * n < s * a * 4294967296) = r := ⟨_, rfl⟩
    obtain ⟨c, hcc⟩ : ∃ c, cmpN (L * b * n) (s * a * 4294967296) = c := ⟨_, rfl⟩
    rw [hr, hcc] at hc
    rw [hcc] at h3
    rw [hr]
    have HM1 := Lib.hid h1.1
    have HT1 := Lib.hid h1.2
    have HM2 := Lib.hid h2.1
    have HT2 := Lib.hid h2.2
    have HC := Lib.hid h3
    obtain ⟨xh, hxh⟩ : ∃ x, hiN (L * b * n) = x := ⟨_, rfl⟩
    obtain ⟨xl, hxl⟩ : ∃ x, loN (L * b * n) = x := ⟨_, rfl⟩
    obtain ⟨yh, hyh⟩ : ∃ x, hiN (s * a * 4294967296) = x := ⟨_, rfl⟩
    obtain ⟨yl, hyl⟩ : ∃ x, loN (s * a * 4294967296) = x := ⟨_, rfl⟩
    rw [hxh, hxl] at HT1 HC
    rw [hyh, hyl] at HT2 HC
    clear hm h h1 h2 h3 hr hcc hxh hxl hyh hyl
    go_enter Try.func18, Try.ntmps18
    go_wp2_with fail
    refine (HMA.out _).mono ?_
    rintro e w1 ⟨rfl, hb1⟩
    go_wp2_with fail
    refine (HM1.out _).mono ?_
    rintro e w2 ⟨rfl, hb2⟩
    go_wp2_with fail
    refine (HT1.out _).mono ?_
    rintro e w3 ⟨rfl, hb3⟩
    have HB3 := Lib.hid ((hb1.trans (hb2.mono hb1.size)).trans (hb3.mono (hb1.trans (hb2.mono hb1.size)).size))
    clear hb1 hb2 hb3
    go_upto_region 4 with (refine wpList_store_row rfl 48 (.tmp 12) (.tmp 29) rfl w3.heap.size #[.int .u64 xh, .int .u64 xl] rfl rfl 48 #[.int .u64 0, .int .u64 0] (heap_alloc_new _ _) wide_info rfl rfl ?_; rw [World.setRow_alloc_new])
    have hb4 : Below w3.heap.size w3 (w3.alloc (.cells #[.int .u64 xh, .int .u64 xl] 48)) := (Below.refl _ _).alloc (Nat.le_refl _) _
    have H4 := heap_alloc_new w3 (.cells #[.int .u64 xh, .int .u64 xl] 48)
    have hs4 : (w3.alloc (.cells #[.int .u64 xh, .int .u64 xl] 48)).heap.size = w3.heap.size + 1 := by simp
    generalize w3.alloc (.cells #[.int .u64 xh, .int .u64 xl] 48) = w4 at hb4 H4 hs4 ⊢
    obtain ⟨g4, hg4⟩ : ∃ g, w3.heap.size = g := ⟨_, rfl⟩
    have HB4 := Lib.hid (HB3.out.trans (hb4.mono HB3.out.size))
    rw [hg4] at H4 hs4
    rw [hg4]
    have HX4 := Lib.hid H4
    have HL4 := Lib.hid (show g4 < w4.heap.size by omega)
    clear hb4 H4 hs4 hg4
    go_wp2_with fail
    refine (HM2.out _).mono ?_
    rintro e w5 ⟨rfl, hb5⟩
    go_wp2_with fail
    refine (HT2.out _).mono ?_
    rintro e w6 ⟨rfl, hb6⟩
    have hb46 := hb5.trans (hb6.mono hb5.size)
    have HB6 := Lib.hid (HB4.out.trans (hb46.mono HB4.out.size))
    have HX6 := Lib.hid ((hb46.block g4 HL4.out).trans HX4.out)
    have HL6 := Lib.hid (Nat.lt_of_lt_of_le HL4.out hb46.size)
    clear hb5 hb6 hb46
    go_upto_region 5 with (refine wpList_store_row rfl 48 (.tmp 14) (.tmp 36) rfl w6.heap.size #[.int .u64 yh, .int .u64 yl] rfl rfl 48 #[.int .u64 0, .int .u64 0] (heap_alloc_new _ _) wide_info rfl rfl ?_; rw [World.setRow_alloc_new])
    have hb7 : Below w6.heap.size w6 (w6.alloc (.cells #[.int .u64 yh, .int .u64 yl] 48)) := (Below.refl _ _).alloc (Nat.le_refl _) _
    have HY7 := Lib.hid (heap_alloc_new w6 (.cells #[.int .u64 yh, .int .u64 yl] 48))
    generalize w6.alloc (.cells #[.int .u64 yh, .int .u64 yl] 48) = w7 at hb7 HY7 ⊢
    have HX7 := Lib.hid ((hb7.block g4 HL6.out).trans HX6.out)
    have HB7 := Lib.hid (HB6.out.trans (hb7.mono HB6.out.size))
    clear hb7
    go_wp2_with (first
      | (refine wpList_load_row rfl 48 (.tmp 12) rfl g4 rfl 48 #[.int .u64 xh, .int .u64 xl] (0, 0) _ HX7.out Try.underlying48 rfl wide_info ?_)
      | (refine wpList_load_row rfl 48 (.tmp 14) rfl w6.heap.size rfl 48 #[.int .u64 yh, .int .u64 yl] (0, 0) _ HY7.out Try.underlying48 rfl wide_info ?_))
    refine (HC.out _).mono ?_
    rintro e w8 ⟨rfl, hb8⟩
    have HB8 := Lib.hid (HB7.out.trans (hb8.mono HB7.out.size))
    clear hb8
    go_wp2_with fail
    go_ret2
    exact ⟨rfl, HB8.out⟩


theorem least_small (s L a b : Nat) (h : mayN s L a b = true) : s * a * 4294967296 / L / b < 18446744073709551615 ∧ s * a * 4294967296 / L / b / 18446744073709551616 = 0 := by
  have hm := may_iff.1 h
  have h1 : s * a * 4294967296 ≤ L * b * 4294967296 := Nat.mul_le_mul_right _ (Nat.mul_le_mul hm.1 hm.2.2.2.1)
  have h2 : s * a * 4294967296 / L / b ≤ 4294967296 := by
    rw [Nat.div_div_eq_div_mul]
    exact Nat.div_le_of_le_mul h1
  exact ⟨by omega, Nat.div_eq_of_lt (by omega)⟩

set_option maxRecDepth 100000 in
set_option maxHeartbeats 3200000 in
theorem ref_LeastL (s L a b : Nat) (w : World) :
    Calls Try.prog 19 #[.int .u64 s, .int .u64 L, .int .u64 a, .int .u64 b] w fun e w' => e = .returned (.tuple #[.int .u64 (leastE s L a b), .int .i64 (if mayN s L a b then 0 else 2)]) ∧ Below w.heap.size w w' := by
  have HMA := Lib.hid (fun w => ref_MayL s L a b w)
  unfold leastE
  cases hm : mayN s L a b with
  | false =>
    rw [hm] at HMA
    clear hm
    go_enter Try.func19, Try.ntmps19
    go_wp2_with fail
    refine (HMA.out _).mono ?_
    rintro e w1 ⟨rfl, hb1⟩
    go_wp2_with fail
    go_ret2
    exact ⟨rfl, hb1⟩
  | true =>
    rw [hm] at HMA
    have h := may_iff.1 hm
    have hsm := least_small s L a b hm
    have h2 := ref_three s a 4294967296 (by omega) (by omega) (by omega)
    have hlt : s * a * 4294967296 < 340282366920938463463374607431768211456 := mul_small (by omega) (by omega) (by omega)
    have h3 := fun w => ref_divides (s * a * 4294967296) L hlt (by omega) (by omega) w
    have h4 := fun w => ref_divides (s * a * 4294967296 / L) b (Nat.lt_of_le_of_lt (Nat.div_le_self _ _) hlt) (by omega) (by omega) w
    rw [if_pos rfl, least_two (by omega)]
    have HM2 := Lib.hid h2.1
    have HT2 := Lib.hid h2.2
    obtain ⟨X, hX⟩ : ∃ x, s * a * 4294967296 = x := ⟨_, rfl⟩
    rw [hX] at h3 h4 hsm HT2
    rw [hX]
    obtain ⟨Q, hQ⟩ : ∃ x, X / L = x := ⟨_, rfl⟩
    obtain ⟨r, hr⟩ : ∃ x, X % L = x := ⟨_, rfl⟩
    rw [hQ, hr] at h3
    rw [hQ] at h4 hsm
    rw [hQ, hr]
    obtain ⟨P, hP⟩ : ∃ x, Q / b = x := ⟨_, rfl⟩
    obtain ⟨t, ht⟩ : ∃ x, Q % b = x := ⟨_, rfl⟩
    rw [hP, ht] at h4
    rw [hP] at hsm
    rw [hP, ht]
    obtain ⟨v, hv⟩ : ∃ v, (if r = 0 ∧ t = 0 then P else P + 1) = v := ⟨_, rfl⟩
    rw [hv]
    have HV := Lib.hid hv
    clear hv
    rw [show hiN P = 0 from hsm.2, show loN P = P from Nat.mod_eq_of_lt (by omega)] at h4
    have HD1 := Lib.hid h3
    have HD2 := Lib.hid h4
    have hPs : P < 18446744073709551615 := hsm.1
    obtain ⟨xh, hxh⟩ : ∃ x, hiN X = x := ⟨_, rfl⟩
    obtain ⟨xl, hxl⟩ : ∃ x, loN X = x := ⟨_, rfl⟩
    obtain ⟨yh, hyh⟩ : ∃ x, hiN Q = x := ⟨_, rfl⟩
    obtain ⟨yl, hyl⟩ : ∃ x, loN Q = x := ⟨_, rfl⟩
    rw [hxh, hxl] at HT2 HD1
    rw [hyh, hyl] at HD1 HD2
    clear hm h h2 h3 h4 hX hQ hr hP ht hxh hxl hyh hyl hsm hlt
    go_enter Try.func19, Try.ntmps19
    go_wp2_with fail
    refine (HMA.out _).mono ?_
    rintro e w1 ⟨rfl, hb1⟩
    go_wp2_with fail
    refine (HM2.out _).mono ?_
    rintro e w2 ⟨rfl, hb2⟩
    go_wp2_with fail
    refine (HT2.out _).mono ?_
    rintro e w3 ⟨rfl, hb3⟩
    have HB3 := Lib.hid ((hb1.trans (hb2.mono hb1.size)).trans (hb3.mono (hb1.trans (hb2.mono hb1.size)).size))
    clear hb1 hb2 hb3
    go_upto_region 4 with (refine wpList_store_row rfl 48 (.tmp 10) (.tmp 29) rfl w3.heap.size #[.int .u64 xh, .int .u64 xl] rfl rfl 48 #[.int .u64 0, .int .u64 0] (heap_alloc_new _ _) wide_info rfl rfl ?_; rw [World.setRow_alloc_new])
    have hb : Below w3.heap.size w3 (w3.alloc (.cells #[.int .u64 xh, .int .u64 xl] 48)) := (Below.refl _ _).alloc (Nat.le_refl _) _
    have HXw4 := Lib.hid (heap_alloc_new w3 (.cells #[.int .u64 xh, .int .u64 xl] 48))
    generalize w3.alloc (.cells #[.int .u64 xh, .int .u64 xl] 48) = w4 at hb HXw4 ⊢
    have HB4 := Lib.hid (HB3.out.trans (hb.mono HB3.out.size))
    clear hb
    go_wp2_with (refine wpList_load_row rfl 48 (.tmp 10) rfl w3.heap.size rfl 48 #[.int .u64 xh, .int .u64 xl] (0, 0) _ HXw4.out Try.underlying48 rfl wide_info ?_)
    refine (HD1.out _).mono ?_
    rintro e w5 ⟨rfl, hb⟩
    have HB5 := Lib.hid (HB4.out.trans (hb.mono HB4.out.size))
    clear hb
    go_upto_region 5 with (refine wpList_store_row rfl 48 (.tmp 12) (.tmp 35) rfl w5.heap.size #[.int .u64 yh, .int .u64 yl] rfl rfl 48 #[.int .u64 0, .int .u64 0] (heap_alloc_new _ _) wide_info rfl rfl ?_; rw [World.setRow_alloc_new])
    have hb : Below w5.heap.size w5 (w5.alloc (.cells #[.int .u64 yh, .int .u64 yl] 48)) := (Below.refl _ _).alloc (Nat.le_refl _) _
    have HXw6 := Lib.hid (heap_alloc_new w5 (.cells #[.int .u64 yh, .int .u64 yl] 48))
    generalize w5.alloc (.cells #[.int .u64 yh, .int .u64 yl] 48) = w6 at hb HXw6 ⊢
    have HB6 := Lib.hid (HB5.out.trans (hb.mono HB5.out.size))
    clear hb
    go_wp2_with (refine wpList_load_row rfl 48 (.tmp 12) rfl w5.heap.size rfl 48 #[.int .u64 yh, .int .u64 yl] (0, 0) _ HXw6.out Try.underlying48 rfl wide_info ?_)
    refine (HD2.out _).mono ?_
    rintro e w7 ⟨rfl, hb⟩
    have HB7 := Lib.hid (HB6.out.trans (hb.mono HB6.out.size))
    clear hb
    go_upto_region 6 with (refine wpList_store_row rfl 48 (.tmp 15) (.tmp 42) rfl w7.heap.size #[.int .u64 0, .int .u64 P] rfl rfl 48 #[.int .u64 0, .int .u64 0] (heap_alloc_new _ _) wide_info rfl rfl ?_; rw [World.setRow_alloc_new])
    have hb : Below w7.heap.size w7 (w7.alloc (.cells #[.int .u64 0, .int .u64 P] 48)) := (Below.refl _ _).alloc (Nat.le_refl _) _
    have HXw8 := Lib.hid (heap_alloc_new w7 (.cells #[.int .u64 0, .int .u64 P] 48))
    generalize w7.alloc (.cells #[.int .u64 0, .int .u64 P] 48) = w8 at hb HXw8 ⊢
    have HB8 := Lib.hid (HB7.out.trans (hb.mono HB7.out.size))
    clear hb
    have c1 : w8.cell? ⟨w7.heap.size, 1, none⟩ = some (.int .u64 P) := by rw [Lib.cell_of_heap HXw8.out]; rfl
    by_cases hr0 : r = 0
    · subst hr0
      by_cases ht0 : t = 0
      · subst ht0
        go_wp2_with fail
        go_ret2
        exact ⟨by have h := HV.out; simp at h; rw [← h]; rfl, HB8.out⟩
      · have ht1 : ¬ ((t : Int) = 0) := by omega
        go_wp2_with fail
        go_ret2
        exact ⟨by rw [← HV.out, if_neg (fun h => ht0 h.2)]; rfl, HB8.out⟩
    · have hr1 : ¬ ((r : Int) = 0) := by omega
      go_wp2_with fail
      go_ret2
      exact ⟨by rw [← HV.out, if_neg (fun h => hr0 h.1)]; rfl, HB8.out⟩
end Go.Proofs.Ytogpnfgjdnccdaa.Lot
