/- The document's own answers: Add, Sum. -/
import Derived.Test.YtjfanlajoedfbaaWideU
import Derived.Deep.RegionWith
namespace Go.Proofs.Ytjfanlajoedfbaa.Wide
open Go.RowKit

set_option maxRecDepth 100000 in
set_option maxHeartbeats 800000 in
theorem refAdd_any (a b : Nat) (w : World) (ha : a < 18446744073709551616) (hb : b < 18446744073709551616) :
    Calls Try.prog 16 #[.int .u64 a, .int .u64 b] w fun e w' => e = .returned (.tuple #[.int .u64 (addN a b).1, .int .i64 (addN a b).2]) ∧ Below w.heap.size w w' := by
  have hP := fun w => refPlus_any 0 a 0 b w (by omega) ha (by omega) hb
  have hp : plusN (0 * 18446744073709551616 + a) (0 * 18446744073709551616 + b) = (a + b, 0) := by
    unfold plusN
    rw [Nat.zero_mul, Nat.zero_add, Nat.zero_add, if_pos (by omega)]
  rw [hp] at hP
  dsimp only at hP
  have hbel := Below.refl w.heap.size w
  unfold addN
  by_cases ho : a + b < 18446744073709551616
  · rw [if_pos ho]
    have e1 : hiN (a + b) = 0 := Nat.div_eq_of_lt ho
    have e2 : loN (a + b) = a + b := Nat.mod_eq_of_lt ho
    rw [e1, e2] at hP
    obtain ⟨s, hs⟩ : ∃ s, a + b = s := ⟨_, rfl⟩
    rw [hs] at hP ⊢
    clear e1 e2 ho hs hp
    go_enter Try.func16, Try.ntmps16
    go_wp2_with fail
    refine (hP _).mono ?_
    rintro r w1 ⟨rfl, hb1⟩
    go_wp2_with fail
    go_ret2
    exact ⟨rfl, below_alloc hb1 _⟩
  · rw [if_neg ho]
    have e1 : hiN (a + b) = 1 := by unfold hiN; omega
    rw [e1] at hP
    generalize loN (a + b) = l at hP
    clear e1 ho hp
    go_enter Try.func16, Try.ntmps16
    go_wp2_with fail
    refine (hP _).mono ?_
    rintro r w1 ⟨rfl, hb1⟩
    go_wp2_with fail
    go_ret2
    exact ⟨rfl, below_alloc hb1 _⟩

theorem totalL_most (xs : List Nat) (h : ∀ x ∈ xs, x < 18446744073709551616) : totalL xs ≤ xs.length * 18446744073709551615 := by
  induction xs with
  | nil => simp [totalL]
  | cons y ys ih =>
    have h1 := ih fun x hx => h x (List.mem_cons_of_mem _ hx)
    have h2 := h y (List.mem_cons_self)
    simp only [totalL, List.length_cons]
    omega

set_option maxRecDepth 100000 in
set_option maxHeartbeats 1600000 in
theorem refSum_any (a : Option Addr) (len cap : Nat) (xs : List Nat) (w : World) (hs : Nums w a len cap xs) (h4 : len ≤ 4096) :
    Calls Try.prog 17 #[.slice a len cap] w fun e w' => e = .returned (.tuple #[.int .u64 (sumN xs).1, .int .i64 (sumN xs).2]) ∧ Below w.heap.size w w' := by
  obtain ⟨hlen, hcap, hmax, hx, hcell⟩ := hs
  obtain ⟨⟨r, e⟩, hR⟩ : ∃ t, sumN xs = t := ⟨_, rfl⟩
  rw [hR]
  have HR := Lib.hid hR
  have HL := Lib.hid hlen
  have hmost := totalL_most xs hx
  have HMO := Lib.hid hmost
  have z := one_cells w (.int .u64 0) (.int .u64 0) 28
  have f0 : (w.alloc (.cells #[.int .u64 0, .int .u64 0] 28)).frozen? ⟨w.heap.size, 0, none⟩ = false := by go_simp
  have f1 : (w.alloc (.cells #[.int .u64 0, .int .u64 0] 28)).frozen? ⟨w.heap.size, 1, none⟩ = false := by go_simp
  have hb0 := below_alloc (Below.refl w.heap.size w) (.cells #[.int .u64 0, .int .u64 0] 28)
  clear hR hlen hcap hmax hmost
  go_enter Try.func17, Try.ntmps17
  go_wp2_with fail
  go_loopw [5] (fun i wr => ∃ k t : Nat, k ≤ len ∧ i = .int .i64 k ∧ t = totalL (xs.take k) ∧ wr.cell? ⟨w.heap.size, 0, none⟩ = some (.int .u64 (hiN t)) ∧ wr.cell? ⟨w.heap.size, 1, none⟩ = some (.int .u64 (loN t)) ∧
      wr.frozen? ⟨w.heap.size, 0, none⟩ = false ∧ wr.frozen? ⟨w.heap.size, 1, none⟩ = false ∧ Below w.heap.size w wr) (fun i _ => len - (intOf i).toNat)
  case atStart => exact ⟨0, 0, Nat.zero_le _, rfl, rfl, z.1, z.2, f0, f1, hb0⟩
  case round =>
    clear z f0 f1 hb0
    obtain ⟨k, t, hk, rfl, htt, c0, c1, f0, f1, hbel⟩ := hrel
    have HT := Lib.hid htt
    have htm : t < 340282366920938463463374607431768211456 - 18446744073709551616 := by
      have h1 := totalL_le xs k
      have h2 := HMO.out
      have h3 : xs.length * 18446744073709551615 ≤ 4096 * 18446744073709551615 := Nat.mul_le_mul_right _ (by rw [HL.out]; exact h4)
      omega
    clear htt
    by_cases hlt : k < len
    · rcases hcell with h0 | ⟨p, rfl, hc⟩
      · omega
      obtain ⟨x, hxk⟩ : ∃ x, xs[k]? = some x := ⟨xs[k]'(by rw [HL.out]; exact hlt), List.getElem?_eq_getElem _⟩
      have hcx := kept hbel (hc k x hxk)
      have hxb := hx x (List.mem_of_getElem? hxk)
      have HN := Lib.hid (totalL_take xs k x hxk)
      have hP := fun w => refPlus_any (hiN t) (loN t) 0 x w (hiN_lt (by omega)) (loN_lt _) (by omega) hxb
      have hp : plusN t (0 * 18446744073709551616 + x) = (t + x, 0) := by
        unfold plusN
        rw [Nat.zero_mul, Nat.zero_add, if_pos (by omega)]
      rw [join_N, hp] at hP
      dsimp only at hP
      obtain ⟨s, hss⟩ : ∃ s, t + x = s := ⟨_, rfl⟩
      rw [hss] at hP
      have HS := Lib.hid hss
      clear hc hx hxk hp hxb htm hss
      have HP := Lib.hid hP
      clear hP
      obtain ⟨th, hth⟩ : ∃ v, hiN t = v := ⟨_, rfl⟩
      obtain ⟨tl, htl⟩ : ∃ v, loN t = v := ⟨_, rfl⟩
      rw [hth] at c0 HP
      rw [htl] at c1 HP
      clear hth htl
      obtain ⟨sh, hsh⟩ : ∃ v, hiN s = v := ⟨_, rfl⟩
      obtain ⟨sl, hsl⟩ : ∃ v, loN s = v := ⟨_, rfl⟩
      rw [hsh, hsl] at HP
      go_wp2_with fail
      go_region_with (go_at_call 19; refine (HP.out _).mono ?_; rintro e w' ⟨rfl, hb⟩; have k0 := kept hb c0; have k1 := kept hb c1; have k2 := keptF hb c0 f0; have k3 := keptF hb c1 f1)
      all_goals
        go_wp2_with fail
        go_roundw
        case rel =>
          have hb' : Below wr.heap.size wr w' := ⟨hb.os, hb.tape, hb.output, hb.size, hb.block⟩
          have h2 := two_set (.int .u64 sh) (.int .u64 sl) k0 k1
          exact ⟨k + 1, s, by omega, by go_num, by rw [HN.out, ← HT.out, HS.out], by rw [hsh]; exact h2.1, by rw [hsl]; exact h2.2, by simp [k2], by simp [k3], ((hbel.trans (hb'.mono hbel.size)).setCell (Nat.le_refl _) _).setCell (Nat.le_refl _) _⟩
        case measure => simp [intOf]; omega
    · have hkk : k = len := by omega
      subst hkk
      have htt := HT.out
      rw [List.take_of_length_le (by rw [HL.out]; exact Nat.le_refl _)] at htt
      have hr := HR.out
      unfold sumN at hr
      rw [← htt] at hr
      clear htm hcell hx htt
      by_cases ho : t < 18446744073709551616
      · rw [if_pos ho] at hr
        simp only [Prod.mk.injEq] at hr
        obtain ⟨rfl, rfl⟩ := hr
        rw [show hiN t = 0 from Nat.div_eq_of_lt ho] at c0
        rw [show loN t = t from Nat.mod_eq_of_lt ho] at c1
        clear ho
        go_wp2_with fail
        go_ret2
        exact ⟨rfl, hbel⟩
      · rw [if_neg ho] at hr
        simp only [Prod.mk.injEq] at hr
        obtain ⟨rfl, rfl⟩ := hr
        have hne : 0 < hiN t := by unfold hiN; omega
        obtain ⟨th, hth⟩ : ∃ v, hiN t = v := ⟨_, rfl⟩
        rw [hth] at c0 hne
        clear ho hth
        go_wp2_with fail
        go_ret2
        exact ⟨rfl, hbel⟩

end Go.Proofs.Ytjfanlajoedfbaa.Wide
