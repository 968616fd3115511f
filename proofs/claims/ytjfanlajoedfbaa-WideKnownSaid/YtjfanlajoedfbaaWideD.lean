/- bits.Div64. -/
import Derived.Test.YtjfanlajoedfbaaWideA
import Derived.Test.YtjfanlajoedfbaaWideMath
import Derived.RegionTactic
import Derived.Deep.CutBlock
namespace Go.Proofs.Ytjfanlajoedfbaa.Wide
open Go.RowKit

theorem u64_nat (n : Nat) (h : n < 18446744073709551616) : IntKind.u64.wrap (n : Int) = (n : Int) := IntWalk.u64_in _ ⟨by omega, by omega⟩
theorem u64_mod (n : Nat) : IntKind.u64.wrap (n : Int) = ((n % 18446744073709551616 : Nat) : Int) := by rw [IntKind.wrap_u64]; omega

set_option maxRecDepth 100000 in
set_option maxHeartbeats 800000 in
theorem div64_low (lo y : Nat) (w : World) (hl : lo < 18446744073709551616) (h0 : 0 < y) :
    Calls Try.prog 29 #[.int .u64 0, .int .u64 lo, .int .u64 y] w fun e w' => e = .returned (.tuple #[.int .u64 (lo / y : Nat), .int .u64 (lo % y : Nat)]) ∧ Below w.heap.size w w' := by
  have hne : ((y : Int) == 0) = false := by rw [beq_eq_false_iff_ne]; omega
  have hne2 : ¬ (y : Int) ≤ 0 := by omega
  have hw : IntKind.u64.wrap ((lo : Int) / (y : Int)) = ((lo / y : Nat) : Int) := by
    rw [← Int.natCast_ediv, u64_nat _ (Nat.lt_of_le_of_lt (Nat.div_le_self _ _) hl)]
  go_enter Try.func29, Try.ntmps29
  go_wp2
  go_region
  all_goals
    go_wp2
    go_ret2
    exact ⟨rfl, (Below.refl _ _).drew⟩

/-- What the walk reckons ahead of the first loop, number by number. -/
structure Reck (hi lo y s t Y u l v1 v0 u1 u0 : Nat) : Prop where
  e0 : IntKind.u64.wrap (s : Int) = (s : Int)
  e1 : IntKind.u64.wrap ((y : Int) * 2 ^ s) = (Y : Int)
  e2 : (Y : Int) / 4294967296 = (v1 : Int)
  e3 : bits .and .u64 (Y : Int) 4294967295 = (v0 : Int)
  e4 : bits .or .u64 (IntKind.u64.wrap ((hi : Int) * 2 ^ s)) ((lo : Int) / 2 ^ t) = (u : Int)
  e5 : IntKind.u64.wrap (64 - (s : Int)) = (t : Int)
  e8 : IntKind.u64.wrap ((lo : Int) * 2 ^ s) = (l : Int)
  e9 : (l : Int) / 4294967296 = (u1 : Int)
  e10 : bits .and .u64 (l : Int) 4294967295 = (u0 : Int)

theorem mask32 (a : Nat) (ha : a < 18446744073709551616) : bits .and .u64 (a : Int) 4294967295 = ((a % 4294967296 : Nat) : Int) := by
  have h := u64_and_nat a 4294967295 ha (by omega)
  rw [nat_mask32] at h
  exact h

theorem reck_of (hi lo y s : Nat) (n : Norm hi lo y s) (hh : hi < y) :
    Reck hi lo y s (64 - s) (y * 2 ^ s) (hi * 2 ^ s + lo / 2 ^ (64 - s)) (lo * 2 ^ s % 18446744073709551616) (y * 2 ^ s / 4294967296) (y * 2 ^ s % 4294967296) (lo * 2 ^ s % 18446744073709551616 / 4294967296) (lo * 2 ^ s % 18446744073709551616 % 4294967296) := by
  have hs := n.s63
  have hlt := n.fits
  have c (x : Nat) : (x : Int) * 2 ^ s = ((x * 2 ^ s : Nat) : Int) := by rw [Int.natCast_mul, Int.natCast_pow]; rfl
  have c2 : (lo : Int) / 2 ^ (64 - s) = ((lo / 2 ^ (64 - s) : Nat) : Int) := by rw [Int.natCast_ediv, Int.natCast_pow]; rfl
  have hhi : hi * 2 ^ s ≤ y * 2 ^ s := Nat.mul_le_mul_right _ (by omega)
  have hlm : lo * 2 ^ s % 18446744073709551616 < 18446744073709551616 := Nat.mod_lt _ (by omega)
  have hp : (2 : Nat) ^ s ≤ 18446744073709551616 := by
    have := Nat.pow_le_pow_right (n := 2) (by omega) (show s ≤ 64 by omega)
    simpa using this
  refine ⟨u64_nat _ (by omega), ?_, by omega, mask32 _ hlt, ?_, ?_, ?_, by omega, mask32 _ hlm⟩
  · rw [c, u64_nat _ hlt]
  · rw [c, c2, u64_nat _ (by omega), u64_or_nat _ _ (by omega) (by have := n.small; omega), nat_join s _ _ (Nat.mul_mod_left _ _) n.small]
  · rw [IntWalk.u64_in _ ⟨by omega, by omega⟩]
    omega
  · rw [c, u64_mod]

/-- What stands behind a loop: what is left of one digit. -/
theorem rest_wrap (u u1 q Y R : Nat) (h : q * Y + R = u * 4294967296 + u1) (hR : R < 18446744073709551616) :
    IntKind.u64.wrap (IntKind.u64.wrap (IntKind.u64.wrap ((u : Int) * 4294967296) + (u1 : Int)) - IntKind.u64.wrap ((q : Int) * (Y : Int))) = (R : Int) := by
  have e : (q : Int) * (Y : Int) = ((q * Y : Nat) : Int) := (Int.natCast_mul q Y).symm
  rw [e]
  generalize q * Y = P at h ⊢
  simp only [IntKind.wrap_u64]
  omega

theorem first_wrap (u v : Nat) (hu : u < 18446744073709551616) : IntKind.u64.wrap ((u : Int) / (v : Int)) = ((u / v : Nat) : Int) := by
  rw [← Int.natCast_ediv, u64_nat _ (Nat.lt_of_le_of_lt (Nat.div_le_self _ _) hu)]

theorem first_rest (u v : Nat) (hu : u < 18446744073709551616) : IntKind.u64.wrap ((u : Int) - IntKind.u64.wrap (((u / v : Nat) : Int) * (v : Int))) = ((u % v : Nat) : Int) := by
  have hd := Nat.div_add_mod u v
  rw [Nat.mul_comm] at hd
  rw [← Int.natCast_mul]
  generalize u / v * v = P at hd ⊢
  generalize u % v = R at hd ⊢
  simp only [IntKind.wrap_u64]
  omega

set_option maxRecDepth 100000 in
set_option maxHeartbeats 1600000 in
theorem div64_core (hi lo y s t Y u l v1 v0 u1 u0 Q1 R1 Q0 R0 E F : Nat) (w : World) (hh : hi < y) (h0 : 0 < hi) (hs : s ≤ 63) (ht : t ≤ 64)
    (hlz : ∀ w, Calls Try.prog 35 #[.int .u64 y] w fun e w' => e = .returned (.int .i64 s) ∧ w = w')
    (k : Reck hi lo y s t Y u l v1 v0 u1 u0) (hv : 2147483648 ≤ v1) (hv1 : v1 < 4294967296) (hv0 : v0 < 4294967296) (hY : Y = v1 * 4294967296 + v0) (hu : u < Y) (hu1 : u1 < 4294967296) (hu0 : u0 < 4294967296)
    (hq1 : (u * 4294967296 + u1) / Y = Q1) (hr1 : (u * 4294967296 + u1) % Y = R1) (hq0 : (R1 * 4294967296 + u0) / Y = Q0) (hr0 : (R1 * 4294967296 + u0) % Y = R0) (hE : Q1 * 4294967296 + Q0 = E) (hF : R0 / 2 ^ s = F) :
    Calls Try.prog 29 #[.int .u64 hi, .int .u64 lo, .int .u64 y] w fun e w' =>
      e = .returned (.tuple #[.int .u64 E, .int .u64 F]) ∧ w = w' := by
  have hne : ((y : Int) == 0) = false := by rw [beq_eq_false_iff_ne]; omega
  have hne2 : ((hi : Int) == 0) = false := by rw [beq_eq_false_iff_ne]; omega
  have hR1 : R1 < Y := by rw [← hr1]; exact Nat.mod_lt _ (by omega)
  have g1 := guess_first hv hv1 hv0 (hY ▸ hu) hu1
  have g0 := guess_first hv hv1 hv0 (hY ▸ hR1) hu0
  obtain ⟨e0, e1, e2, e3, e4, e5, e8, e9, e10⟩ := k
  have fu : u < 18446744073709551616 := by omega
  have fR : R1 < 18446744073709551616 := by omega
  have m1 := first_wrap u v1 fu
  have m2 := first_rest u v1 fu
  obtain ⟨q, hq⟩ : ∃ q, u / v1 = q := ⟨_, rfl⟩
  obtain ⟨r, hr⟩ : ∃ r, u % v1 = r := ⟨_, rfl⟩
  rw [hq, hr] at g1
  rw [hq] at m1 m2
  rw [hr] at m2
  have G1 := Lib.hid g1
  have G0 := Lib.hid g0
  have HQ1 := Lib.hid hq1
  have HR1 := Lib.hid hr1
  have HQ0 := Lib.hid hq0
  have HR0 := Lib.hid hr0
  have hvne : ¬ v1 = 0 := by omega
  have HY := Lib.hid hY
  have HE := Lib.hid hE
  have HF := Lib.hid hF
  have hYlt : Y < 18446744073709551616 := by omega
  clear hE hF hY hq hr g1 g0 hq1 hr1 hq0 hr0
  go_enter Try.func29, Try.ntmps29
  go_upto_block 0 with (go_at_call 35; refine (hlz _).mono ?_; rintro e w' ⟨rfl, rfl⟩)
  go_cut [15] from 67 to 85 (fun s15 wx => s15 = .int .u64 Q1 ∧ w = wx)
  case first =>
    go_wp2
    go_loop [15, 16] (fun a b => ∃ q r : Nat, a = .int .u64 q ∧ b = .int .u64 r ∧ Guess u v1 v0 u1 q r) (fun a _ => (intOf a).toNat)
    case atStart => exact ⟨q, r, rfl, rfl, G1.out⟩
    case round =>
      obtain ⟨q', r', rfl, rfl, g⟩ := hrel
      have hp := guess_prod g hv0
      have hr' := g.rest
      have hqm := g.most
      have z0 : IntKind.u64.wrap ((q' : Int) * (v0 : Int)) = ((q' * v0 : Nat) : Int) := by rw [← Int.natCast_mul, u64_nat _ hp]
      have z1 : IntKind.u64.wrap (4294967296 * (r' : Int)) = ((4294967296 * r' : Nat) : Int) := by rw [IntWalk.u64_in _ ⟨by omega, by omega⟩]; omega
      have z2 : IntKind.u64.wrap (((4294967296 * r' : Nat) : Int) + (u1 : Int)) = ((4294967296 * r' + u1 : Nat) : Int) := by rw [IntWalk.u64_in _ ⟨by omega, by omega⟩]; omega
      obtain ⟨p, hpp⟩ : ∃ p, q' * v0 = p := ⟨_, rfl⟩
      obtain ⟨x, hx⟩ : ∃ x, 4294967296 * r' = x := ⟨_, rfl⟩
      obtain ⟨z, hz⟩ : ∃ z, x + u1 = z := ⟨_, rfl⟩
      rw [hpp] at z0
      rw [hx] at z1 z2
      rw [hz] at z2
      have s2 : IntKind.u64.wrap ((r' : Int) + (v1 : Int)) = ((r' + v1 : Nat) : Int) := by rw [IntWalk.u64_in _ ⟨by omega, by omega⟩]; omega
      obtain ⟨r'', hr''⟩ : ∃ r'', r' + v1 = r'' := ⟨_, rfl⟩
      rw [hr''] at s2
      have hzz : 4294967296 * r' + u1 = z := by omega
      have G := Lib.hid g
      have HX := Lib.hid hx
      have HZ := Lib.hid hz
      have HP := Lib.hid hpp
      have HR := Lib.hid hr''
      have HZZ := Lib.hid hzz
      clear g hx hz hpp hr'' hzz hp
      by_cases hA : q' < 4294967296 ∧ p ≤ z
      · obtain ⟨hA1, hA2⟩ := hA
        have hd := Lib.hid (guess_done G.out hv (by rw [HP.out, HZZ.out]; exact hA2))
        have d1 : decide ((4294967296 : Int) ≤ (q' : Int)) = false := by simp; omega
        have d2 : ¬ z < p := by omega
        clear hA1 hA2 hqm hr'
        go_wp2
        go_meet
        exact ⟨by rw [hd.out, ← HY.out, HQ1.out], rfl⟩
      · have hm := guess_more G.out (HY.out ▸ hu) hu1 (by rw [HP.out, HZZ.out]; omega)
        obtain ⟨q'', rfl⟩ : ∃ q'', q' = q'' + 1 := ⟨q' - 1, by omega⟩
        rw [Nat.add_sub_cancel, HR.out] at hm
        have s1 : IntKind.u64.wrap (((q'' + 1 : Nat) : Int) - 1) = (q'' : Int) := by rw [IntWalk.u64_in _ ⟨by omega, by omega⟩]; omega
        obtain ⟨j, hj⟩ : ∃ j, q'' + 1 = j := ⟨_, rfl⟩
        rw [hj] at s1 hA z0 hqm ⊢
        have HM := Lib.hid hm
        have HJ := Lib.hid hj
        clear hm
        clear hj
        have hgo : decide ((4294967296 : Int) ≤ (j : Int)) = true ∨ decide ((4294967296 : Int) ≤ (j : Int)) = false ∧ z < p := by simp; omega
        by_cases hB : decide ((4294967296 : Int) ≤ (r'' : Int)) = true
        · have hd := Lib.hid (guess_great HM.out.2.1 HM.out.2.2 hv hv0 (by have := HJ.out; omega) (by simp at hB; omega))
          clear hqm hr' hA
          rcases hgo with hgo | ⟨hgo, hgo2⟩
          all_goals
            go_wp2
            go_meet
            exact ⟨by rw [hd.out, ← HY.out, HQ1.out], rfl⟩
        · have hr4 : r'' < 4294967296 := by simp at hB; omega
          have HR4 := Lib.hid hr4
          have HQM := Lib.hid hqm
          rw [Bool.not_eq_true] at hB
          clear hr4 hqm hr' hA
          rcases hgo with hgo | ⟨hgo, hgo2⟩
          all_goals
            go_wp2
            go_round
            case rel => exact ⟨q'', r'', rfl, rfl, ⟨HM.out.2.1, HM.out.2.2, by have := HJ.out; have := HQM.out; omega, HR4.out⟩⟩
            case measure =>
              have := HJ.out
              simp [intOf]
              omega
  case rest =>
    obtain ⟨rfl, rfl⟩ := hcut
    have m3 := rest_wrap u u1 Q1 Y R1 (by rw [← HQ1.out, ← HR1.out, Nat.mul_comm]; exact Nat.div_add_mod _ _) (by omega)
    have m4 := first_wrap R1 v1 fR
    have m5 := first_rest R1 v1 fR
    obtain ⟨q2, hq2⟩ : ∃ q, R1 / v1 = q := ⟨_, rfl⟩
    obtain ⟨r2, hr2⟩ : ∃ r, R1 % v1 = r := ⟨_, rfl⟩
    rw [hq2] at m4 m5
    rw [hr2] at m5
    rw [hq2, hr2] at G0
    clear hq2 hr2
    go_upto_block 2 with fail
    go_cut [18] from 102 to 120 (fun s18 wx => s18 = .int .u64 Q0 ∧ w = wx)
    case first =>
      go_wp2
      go_loop [18, 16] (fun a b => ∃ q r : Nat, a = .int .u64 q ∧ b = .int .u64 r ∧ Guess R1 v1 v0 u0 q r) (fun a _ => (intOf a).toNat)
      case atStart => exact ⟨q2, r2, rfl, rfl, G0.out⟩
      case round =>
        obtain ⟨q', r', rfl, rfl, g⟩ := hrel
        have hp := guess_prod g hv0
        have hr' := g.rest
        have hqm := g.most
        have z0 : IntKind.u64.wrap ((q' : Int) * (v0 : Int)) = ((q' * v0 : Nat) : Int) := by rw [← Int.natCast_mul, u64_nat _ hp]
        have z1 : IntKind.u64.wrap (4294967296 * (r' : Int)) = ((4294967296 * r' : Nat) : Int) := by rw [IntWalk.u64_in _ ⟨by omega, by omega⟩]; omega
        have z2 : IntKind.u64.wrap (((4294967296 * r' : Nat) : Int) + (u0 : Int)) = ((4294967296 * r' + u0 : Nat) : Int) := by rw [IntWalk.u64_in _ ⟨by omega, by omega⟩]; omega
        obtain ⟨p, hpp⟩ : ∃ p, q' * v0 = p := ⟨_, rfl⟩
        obtain ⟨x, hx⟩ : ∃ x, 4294967296 * r' = x := ⟨_, rfl⟩
        obtain ⟨z, hz⟩ : ∃ z, x + u0 = z := ⟨_, rfl⟩
        rw [hpp] at z0
        rw [hx] at z1 z2
        rw [hz] at z2
        have s2 : IntKind.u64.wrap ((r' : Int) + (v1 : Int)) = ((r' + v1 : Nat) : Int) := by rw [IntWalk.u64_in _ ⟨by omega, by omega⟩]; omega
        obtain ⟨r'', hr''⟩ : ∃ r'', r' + v1 = r'' := ⟨_, rfl⟩
        rw [hr''] at s2
        have hzz : 4294967296 * r' + u0 = z := by omega
        have G := Lib.hid g
        have HX := Lib.hid hx
        have HZ := Lib.hid hz
        have HP := Lib.hid hpp
        have HR := Lib.hid hr''
        have HZZ := Lib.hid hzz
        clear g hx hz hpp hr'' hzz hp
        by_cases hA : q' < 4294967296 ∧ p ≤ z
        · obtain ⟨hA1, hA2⟩ := hA
          have hd := Lib.hid (guess_done G.out hv (by rw [HP.out, HZZ.out]; exact hA2))
          have d1 : decide ((4294967296 : Int) ≤ (q' : Int)) = false := by simp; omega
          have d2 : ¬ z < p := by omega
          clear hA1 hA2 hqm hr'
          go_wp2
          go_meet
          exact ⟨by rw [hd.out, ← HY.out, HQ0.out], rfl⟩
        · have hm := guess_more G.out (HY.out ▸ hR1) hu0 (by rw [HP.out, HZZ.out]; omega)
          obtain ⟨q'', rfl⟩ : ∃ q'', q' = q'' + 1 := ⟨q' - 1, by omega⟩
          rw [Nat.add_sub_cancel, HR.out] at hm
          have s1 : IntKind.u64.wrap (((q'' + 1 : Nat) : Int) - 1) = (q'' : Int) := by rw [IntWalk.u64_in _ ⟨by omega, by omega⟩]; omega
          obtain ⟨j, hj⟩ : ∃ j, q'' + 1 = j := ⟨_, rfl⟩
          rw [hj] at s1 hA z0 hqm ⊢
          have HM := Lib.hid hm
          have HJ := Lib.hid hj
          clear hm
          clear hj
          have hgo : decide ((4294967296 : Int) ≤ (j : Int)) = true ∨ decide ((4294967296 : Int) ≤ (j : Int)) = false ∧ z < p := by simp; omega
          by_cases hB : decide ((4294967296 : Int) ≤ (r'' : Int)) = true
          · have hd := Lib.hid (guess_great HM.out.2.1 HM.out.2.2 hv hv0 (by have := HJ.out; omega) (by simp at hB; omega))
            clear hqm hr' hA
            rcases hgo with hgo | ⟨hgo, hgo2⟩
            all_goals
              go_wp2
              go_meet
              exact ⟨by rw [hd.out, ← HY.out, HQ0.out], rfl⟩
          · have hr4 : r'' < 4294967296 := by simp at hB; omega
            have HR4 := Lib.hid hr4
            have HQM := Lib.hid hqm
            rw [Bool.not_eq_true] at hB
            clear hr4 hqm hr' hA
            rcases hgo with hgo | ⟨hgo, hgo2⟩
            all_goals
              go_wp2
              go_round
              case rel => exact ⟨q'', r'', rfl, rfl, ⟨HM.out.2.1, HM.out.2.2, by have := HJ.out; have := HQM.out; omega, HR4.out⟩⟩
              case measure =>
                have := HJ.out
                simp [intOf]
                omega
    case rest =>
      obtain ⟨rfl, rfl⟩ := hcut
      have m6 := rest_wrap R1 u0 Q0 Y R0 (by rw [← HQ0.out, ← HR0.out, Nat.mul_comm]; exact Nat.div_add_mod _ _) (by rw [← HR0.out]; exact Nat.lt_trans (Nat.mod_lt _ (by omega)) hYlt)
      have m7 : IntKind.u64.wrap (IntKind.u64.wrap ((Q1 : Int) * 4294967296) + (Q0 : Int)) = (E : Int) := by
        have he := HE.out
        have d1 := quot_digit (u := u) (v1 := v1) (v0 := v0) (u1 := u1) (HY.out ▸ hu) hu1
        have d0 := quot_digit (u := R1) (v1 := v1) (v0 := v0) (u1 := u0) (HY.out ▸ hR1) hu0
        rw [← HY.out, HQ1.out] at d1
        rw [← HY.out, HQ0.out] at d0
        simp only [IntKind.wrap_u64]
        omega
      have m8 : (R0 : Int) / 2 ^ s = (F : Int) := by rw [← HF.out, Int.natCast_ediv, Int.natCast_pow]; rfl
      go_wp2
      go_ret2
      exact ⟨rfl, rfl⟩

/-- How many places the divisor moves up. -/
theorem norm_places (y : Nat) (h0 : 0 < y) (hy : y < 18446744073709551616) : ∃ s : Nat, s ≤ 63 ∧ (64 - (Lib.bitLen y : Int)) = (s : Int) ∧ 9223372036854775808 ≤ y * 2 ^ s ∧ y * 2 ^ s < 18446744073709551616 := by
  obtain ⟨k, hk1, hk2⟩ : ∃ k, 2 ^ k ≤ y ∧ y < 2 ^ (k + 1) := ⟨y.log2, Nat.log2_self_le (by omega), Nat.lt_log2_self⟩
  have hk : k ≤ 63 := by
    rcases Nat.lt_or_ge k 64 with h | h
    · omega
    · have := Nat.pow_le_pow_right (n := 2) (by omega) h
      omega
  have hp : 0 < 2 ^ k := Nat.pow_pos (by omega)
  have e : y / 2 ^ k = 1 := by
    rw [Nat.pow_succ] at hk2
    exact Nat.div_eq_of_lt_le (by omega) (by omega)
  have hb : Lib.bitLen y = k + 1 := by
    rw [Lib.bitLen_shift k y hk1 hy, e]
    rfl
  have hpp : (2 : Nat) ^ k * 2 ^ (63 - k) = 9223372036854775808 := by
    rw [← Nat.pow_add, show k + (63 - k) = 63 by omega]
  refine ⟨63 - k, by omega, by rw [hb]; omega, ?_, ?_⟩
  · rw [← hpp]
    exact Nat.mul_le_mul_right _ hk1
  · have hlt : y * 2 ^ (63 - k) < 2 ^ (k + 1) * 2 ^ (63 - k) := Nat.mul_lt_mul_of_pos_right hk2 (Nat.pow_pos (by omega))
    rw [Nat.pow_succ, Nat.mul_right_comm, hpp] at hlt
    exact hlt

theorem div64_any (hi lo y : Nat) (w : World) (hh : hi < y) (hl : lo < 18446744073709551616) (hy : y < 18446744073709551616) :
    Calls Try.prog 29 #[.int .u64 hi, .int .u64 lo, .int .u64 y] w fun e w' =>
      e = .returned (.tuple #[.int .u64 ((hi * 18446744073709551616 + lo) / y : Nat), .int .u64 ((hi * 18446744073709551616 + lo) % y : Nat)]) ∧ Below w.heap.size w w' := by
  by_cases h0 : hi = 0
  · subst h0
    have := div64_low lo y w hl hh
    simpa using this
  · obtain ⟨s, hs, hb, h1, h2⟩ := norm_places y (by omega) hy
    have n := norm_of hi lo y s hs hh hl h1 h2
    have hlz : ∀ w, Calls Try.prog 35 #[.int .u64 y] w fun e w' => e = .returned (.int .i64 s) ∧ w = w' := by
      intro w
      have h := Try.bits_LeadingZeros64 y w (by omega) (by omega)
      rw [Int.toNat_natCast, hb] at h
      exact h.mono fun _ _ hh => ⟨hh.1, hh.2.symm⟩
    have hq := norm_quot n
    have hw := n.whole
    have hm := hq.2
    have hu := n.u32
    have hr := reck_of hi lo y s n hh
    rw [← hw] at hq hm
    rw [hw] at hq
    have hlt : lo * 2 ^ s % 18446744073709551616 < 18446744073709551616 := Nat.mod_lt _ (by omega)
    generalize y * 2 ^ s = Y at h1 h2 hu hr hq hm
    generalize hi * 2 ^ s + lo / 2 ^ (64 - s) = u at hu hr hw hm
    generalize lo * 2 ^ s % 18446744073709551616 = l at hr hw hm hlt
    have hd := two_digits u (l / 4294967296) (l % 4294967296) Y (by omega)
    rw [Nat.div_add_mod'] at hd
    rw [hd.2] at hm
    rw [hw, hq.1] at hd
    have this := div64_core hi lo y s (64 - s) _ _ _ _ _ _ _ _ _ _ _ _ _ w hh (by omega) hs (by omega) hlz hr (by omega) (by omega) (Nat.mod_lt _ (by omega)) (by omega) hu (by omega) (Nat.mod_lt _ (by omega)) rfl rfl rfl rfl hd.1.symm hm
    exact this.mono fun _ _ hh => ⟨hh.1, hh.2 ▸ Below.refl _ _⟩

end Go.Proofs.Ytjfanlajoedfbaa.Wide
