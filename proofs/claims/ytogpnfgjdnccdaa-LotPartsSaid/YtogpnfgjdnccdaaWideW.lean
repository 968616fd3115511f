/- The document's own answers: a wide number of digits. -/
import Derived.Test.YtogpnfgjdnccdaaWideS
namespace Go.Proofs.Ytogpnfgjdnccdaa.Wide
open Go.RowKit

theorem join_wrap (a b : Nat) (ha : a < 4294967296) (hb : b < 4294967296) : IntKind.u64.wrap (IntKind.u64.wrap ((a : Int) * 4294967296) + (b : Int)) = ((a * 4294967296 + b : Nat) : Int) := by
  simp only [IntKind.wrap_u64]
  omega

set_option maxRecDepth 100000 in
set_option maxHeartbeats 1600000 in
theorem wide_ok (g cap len : Nat) (xs : List Nat) (x0 x1 x2 x3 : Nat) (w : World) (hd : Dig w g xs) (hl : xs.length = len) (hlen : len ≤ 100)
    (h0 : xs[0]? = some x0) (h1 : xs[1]? = some x1) (h2 : xs[2]? = some x2) (h3 : xs[3]? = some x3) (b0 : x0 < 4294967296) (b1 : x1 < 4294967296) (b2 : x2 < 4294967296) (b3 : x3 < 4294967296)
    (hz : ∀ i x : Nat, 4 ≤ i → xs[i]? = some x → x = 0) :
    Calls Try.prog 42 #[.slice (some ⟨g, 0, none⟩) len cap] w fun e w' =>
      e = .returned (.tuple #[.agg #[.int .u64 (x3 * 4294967296 + x2 : Nat), .int .u64 (x1 * 4294967296 + x0 : Nat)], .bool true]) ∧ Below w.heap.size w w' := by
  have hn : 3 < len := hl ▸ (List.getElem?_eq_some_iff.1 h3).1
  have HLEN := Lib.hid hl
  clear hl
  have c0 := hd 0 x0 h0
  have c1 := hd 1 x1 h1
  have c2 := hd 2 x2 h2
  have c3 := hd 3 x3 h3
  have hg := World.block_lt_of_cell? _ _ c0
  simp only at hg
  have m1 := join_wrap x3 x2 b3 b2
  have m0 := join_wrap x1 x0 b1 b0
  obtain ⟨H, hH⟩ : ∃ t, x3 * 4294967296 + x2 = t := ⟨_, rfl⟩
  obtain ⟨L, hL⟩ : ∃ t, x1 * 4294967296 + x0 = t := ⟨_, rfl⟩
  rw [hH] at m1 ⊢
  rw [hL] at m0 ⊢
  clear hH hL
  clear h0 h1 h2 h3 b0 b1 b2 b3
  have hn0 : (0 : Int) < (len : Int) := by omega
  have hn0' : 0 < len := by omega
  have hn1 : (1 : Int) < (len : Int) := by omega
  have hn2 : (2 : Int) < (len : Int) := by omega
  have hn3 : (3 : Int) < (len : Int) := by omega
  go_enter Try.func42, Try.ntmps42
  go_wp2
  go_loop [4] (fun i => ∃ k : Nat, 4 ≤ k ∧ k ≤ len + 1 ∧ i = .int .i64 k) (fun i => len + 1 - (intOf i).toNat)
  case atStart => exact ⟨4, by omega, by omega, rfl⟩
  case round =>
    obtain ⟨k, hk4, hk, rfl⟩ := hrel
    by_cases hlt : k < len
    · obtain ⟨x, hxk⟩ : ∃ x, xs[k]? = some x := ⟨xs[k]'(by rw [HLEN.out]; exact hlt), List.getElem?_eq_getElem _⟩
      have hx0 := hz k x hk4 hxk
      subst hx0
      have hcx := hd k 0 hxk
      clear hz hd c0 c1 c2 c3 hn0 hn1 hn2 hn3 hn hn0'
      go_wp2
      go_round
      case rel => exact ⟨k + 1, by omega, by omega, by go_num⟩
      case measure => simp [intOf]; omega
    · clear hz hd
      go_wp2
      have k0 := keep_alloc (o := .cells #[.int .u64 0, .int .u64 0] 48) c0
      have k1 := keep_alloc (o := .cells #[.int .u64 0, .int .u64 0] 48) c1
      have k2 := keep_alloc (o := .cells #[.int .u64 0, .int .u64 0] 48) c2
      have k3 := keep_alloc (o := .cells #[.int .u64 0, .int .u64 0] 48) c3
      have z := one_cells w (.int .u64 0) (.int .u64 0) 48
      have f0 : (w.alloc (.cells #[.int .u64 0, .int .u64 0] 48)).frozen? ⟨w.heap.size, 0, none⟩ = false := by go_simp
      have f1 : (w.alloc (.cells #[.int .u64 0, .int .u64 0] 48)).frozen? ⟨w.heap.size, 1, none⟩ = false := by go_simp
      have hbel := below_alloc (Below.refl w.heap.size w) (.cells #[.int .u64 0, .int .u64 0] 48)
      have hne : w.heap.size ≠ g := by omega
      generalize w.alloc (.cells #[.int .u64 0, .int .u64 0] 48) = W at *
      generalize hnn : w.heap.size = n at *
      go_region_held3 (fun w' => w'.cell? ⟨g, 0, none⟩ = some (.int .u64 x0) ∧ w'.cell? ⟨g, 1, none⟩ = some (.int .u64 x1) ∧ w'.cell? ⟨g, 2, none⟩ = some (.int .u64 x2) ∧ w'.cell? ⟨g, 3, none⟩ = some (.int .u64 x3)) (refine ⟨?_, ?_, ?_, ?_⟩ <;> (first | (refine keep_drew ?_; assumption) | (refine two_far _ _ hne ?_; first | assumption | (refine keep_drew ?_; assumption)))) (fail)
      all_goals
        go_wp2
        have hs := two_set (.int .u64 H) (.int .u64 L) z.1 z.2
        refine bodyPost_ret (v := .tuple #[.agg #[.int .u64 H, .int .u64 L], .bool true]) (by simp [results, Try.results42, go_sem, hs.1, hs.2]) rfl ⟨rfl, ?_⟩
        rw [hnn]
        exact ((hbel.setCell (Nat.le_refl _) _).setCell (Nat.le_refl _) _).drew

set_option maxRecDepth 100000 in
set_option maxHeartbeats 1600000 in
theorem wide_no (g cap len : Nat) (xs : List Nat) (w : World) (hd : Dig w g xs) (hl : xs.length = len) (hlen : len ≤ 100)
    (hz : ∃ i x : Nat, 4 ≤ i ∧ xs[i]? = some x ∧ x ≠ 0) :
    Calls Try.prog 42 #[.slice (some ⟨g, 0, none⟩) len cap] w fun e w' =>
      e = .returned (.tuple #[.agg #[.int .u64 0, .int .u64 0], .bool false]) ∧ Below w.heap.size w w' := by
  obtain ⟨i, y, hi4, hiy, hy⟩ := hz
  have hil : i < len := hl ▸ (List.getElem?_eq_some_iff.1 hiy).1
  have hg := World.block_lt_of_cell? _ _ (hd i y hiy)
  simp only at hg
  have HLEN := Lib.hid hl
  have HI := Lib.hid hiy
  clear hl hiy
  go_enter Try.func42, Try.ntmps42
  go_wp2
  go_loop [4] (fun v => ∃ k : Nat, 4 ≤ k ∧ k ≤ i ∧ v = .int .i64 k) (fun v => len + 1 - (intOf v).toNat)
  case atStart => exact ⟨4, by omega, by omega, rfl⟩
  case round =>
    obtain ⟨k, hk4, hk, rfl⟩ := hrel
    have hlt : k < len := by omega
    obtain ⟨x, hxk⟩ : ∃ x, xs[k]? = some x := ⟨xs[k]'(by rw [HLEN.out]; exact hlt), List.getElem?_eq_getElem _⟩
    have hcx := hd k x hxk
    have HX := Lib.hid hxk
    clear hd hxk
    by_cases hx0 : x = 0
    · subst hx0
      have hki : k ≠ i := fun h => hy (by subst h; exact (Option.some.inj (HX.out.symm.trans HI.out)).symm)
      go_wp2
      go_round
      case rel => exact ⟨k + 1, by omega, by omega, by go_num⟩
      case measure => simp [intOf]; omega
    · have hne : ((x : Int) != 0) = true := by simp; omega
      go_wp2
      refine bodyPost_ret (v := .tuple #[.agg #[.int .u64 0, .int .u64 0], .bool false]) (by simp [results, Try.results42, go_sem]) rfl ⟨rfl, below_alloc (Below.refl _ _) _⟩

/-- What the digits of a number S tell: the number, or that it is none. -/
theorem wide_told (g cap len : Nat) (xs : List Nat) (a0 a1 a2 a3 S X e : Nat) (w : World) (hd : Dig w g xs) (hl : xs.length = len) (hlen : len ≤ 100)
    (h0 : xs[0]? = some a0) (h1 : xs[1]? = some a1) (h2 : xs[2]? = some a2) (h3 : xs[3]? = some a3) (b0 : a0 < 4294967296) (b1 : a1 < 4294967296) (b2 : a2 < 4294967296) (b3 : a3 < 4294967296)
    (hz : S < 340282366920938463463374607431768211456 → (∀ i x : Nat, 4 ≤ i → xs[i]? = some x → x = 0) ∧ S = (a3 * 4294967296 + a2) * 18446744073709551616 + (a1 * 4294967296 + a0))
    (hn : ¬ S < 340282366920938463463374607431768211456 → ∃ i x : Nat, 4 ≤ i ∧ xs[i]? = some x ∧ x ≠ 0)
    (hX : (if S < 340282366920938463463374607431768211456 then (S, 0) else (0, 9)) = (X, e)) :
    ∃ ok : Bool, Calls Try.prog 42 #[.slice (some ⟨g, 0, none⟩) len cap] w (fun r w' =>
      r = .returned (.tuple #[.agg #[.int .u64 (hiN X), .int .u64 (loN X)], .bool ok]) ∧ Below w.heap.size w w') ∧ (ok = true → e = 0) ∧ (ok = false → e = 9 ∧ hiN X = 0 ∧ loN X = 0) := by
  by_cases hS : S < 340282366920938463463374607431768211456
  · rw [if_pos hS] at hX
    simp only [Prod.mk.injEq] at hX
    obtain ⟨rfl, rfl⟩ := hX
    obtain ⟨hz1, hz2⟩ := hz hS
    have hW := wide_ok g cap len xs a0 a1 a2 a3 w hd hl hlen h0 h1 h2 h3 b0 b1 b2 b3 hz1
    refine ⟨true, ?_, fun _ => rfl, fun h => by simp at h⟩
    rw [hz2, hiN_join _ _ (by omega), loN_join _ _ (by omega)]
    exact hW
  · rw [if_neg hS] at hX
    simp only [Prod.mk.injEq] at hX
    obtain ⟨rfl, rfl⟩ := hX
    refine ⟨false, ?_, fun h => by simp at h, fun _ => ⟨rfl, rfl, rfl⟩⟩
    exact wide_no g cap len xs w hd hl hlen (hn hS)

end Go.Proofs.Ytogpnfgjdnccdaa.Wide
