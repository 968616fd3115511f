/- The document's own answers: Mul, Compare. -/
import Derived.Test.YtogpnfgjdnccdaaWideZ
namespace Go.Proofs.Ytogpnfgjdnccdaa.Wide
open Go.RowKit

set_option maxRecDepth 100000 in
set_option maxHeartbeats 800000 in
theorem refMul_any (a b : Nat) (w : World) (ha : a < 18446744073709551616) (hb : b < 18446744073709551616) :
    Calls Try.prog 27 #[.int .u64 a, .int .u64 b] w fun e w' => e = .returned (.agg #[.int .u64 (hiN (a * b)), .int .u64 (loN (a * b))]) ∧ Below w.heap.size w w' := by
  have hP := fun w => refTimes_any 0 a b w (by omega) ha hb
  have hlt := mul_lt a b ha hb
  have hp : timesN (0 * 18446744073709551616 + a) b = (a * b, 0) := by
    unfold timesN
    rw [Nat.zero_mul, Nat.zero_add, if_pos hlt]
  rw [hp] at hP
  dsimp only at hP
  obtain ⟨h, hh⟩ : ∃ t, hiN (a * b) = t := ⟨_, rfl⟩
  obtain ⟨l, hl⟩ : ∃ t, loN (a * b) = t := ⟨_, rfl⟩
  rw [hh, hl] at hP ⊢
  clear hh hl hp hlt
  have hb0 := below_alloc (Below.refl w.heap.size w) (.cells #[.int .u64 0, .int .u64 0] 48)
  have z := one_cells w (.int .u64 0) (.int .u64 0) 48
  have f0 : (w.alloc (.cells #[.int .u64 0, .int .u64 0] 48)).frozen? ⟨w.heap.size, 0, none⟩ = false := by go_simp
  have f1 : (w.alloc (.cells #[.int .u64 0, .int .u64 0] 48)).frozen? ⟨w.heap.size, 1, none⟩ = false := by go_simp
  go_enter Try.func27, Try.ntmps27
  go_wp2_with fail
  refine (hP _).mono ?_
  rintro r w1 ⟨rfl, hb1⟩
  have k0 := kept hb1 z.1
  have k1 := kept hb1 z.2
  have k2 := keptF hb1 z.1 f0
  have k3 := keptF hb1 z.2 f1
  have hb2 := hb0.trans (hb1.mono hb0.size)
  have hsz := World.block_lt_of_cell? _ _ k0
  simp only at hsz
  clear z f0 f1 hb0 hb1
  have hs := two_set (.int .u64 h) (.int .u64 l) k0 k1
  have hs0 := keep_alloc (o := .cells #[.int .u64 h, .int .u64 l] 48) hs.1
  have hs1 := keep_alloc (o := .cells #[.int .u64 h, .int .u64 l] 48) hs.2
  have hb3 := below_alloc ((hb2.setCell (p := ⟨w.heap.size, 0, none⟩) (Nat.le_refl _) (.int .u64 h)).setCell (p := ⟨w.heap.size, 1, none⟩) (Nat.le_refl _) (.int .u64 l)) (.cells #[.int .u64 h, .int .u64 l] 48)
  go_wp2_with fail
  refine bodyPost_ret (v := .agg #[.int .u64 h, .int .u64 l]) (by simp [results, Try.results27, go_sem, hs0, hs1]) rfl ⟨rfl, ?_⟩
  exact hb3

/-- The order of two rows of digits, the last ones first. -/
def cmpD : Nat → List Nat → List Nat → Int
  | 0, _, _ => 0
  | k + 1, xs, ys => if xs.getD k 0 < ys.getD k 0 then -1 else if ys.getD k 0 < xs.getD k 0 then 1 else cmpD k xs ys

theorem cmpD_four (ah al bh bl : Nat) (h2 : al < 18446744073709551616) (h4 : bl < 18446744073709551616) : cmpD 4 (ofL ah al) (ofL bh bl) = cmpN (ah * 18446744073709551616 + al) (bh * 18446744073709551616 + bl) := by
  show (if ah / 4294967296 < bh / 4294967296 then (-1 : Int) else if bh / 4294967296 < ah / 4294967296 then 1 else
    if ah % 4294967296 < bh % 4294967296 then -1 else if bh % 4294967296 < ah % 4294967296 then 1 else
    if al / 4294967296 < bl / 4294967296 then -1 else if bl / 4294967296 < al / 4294967296 then 1 else
    if al % 4294967296 < bl % 4294967296 then -1 else if bl % 4294967296 < al % 4294967296 then 1 else 0) = _
  unfold cmpN
  repeat' split
  all_goals first | rfl | (exfalso; omega)

theorem cmpD_at (xs ys : List Nat) (k x y : Nat) (hx : xs[k]? = some x) (hy : ys[k]? = some y) : cmpD (k + 1) xs ys = if x < y then -1 else if y < x then 1 else cmpD k xs ys := by
  rw [cmpD, List.getD_eq_getElem?_getD, List.getD_eq_getElem?_getD, hx, hy]
  rfl

set_option maxRecDepth 100000 in
set_option maxHeartbeats 1600000 in
theorem refCompare_any (ah al bh bl : Nat) (w : World) (h1 : ah < 18446744073709551616) (h2 : al < 18446744073709551616) (h3 : bh < 18446744073709551616) (h4 : bl < 18446744073709551616) :
    Calls Try.prog 28 #[.agg #[.int .u64 ah, .int .u64 al], .agg #[.int .u64 bh, .int .u64 bl]] w fun e w' =>
      e = .returned (.int .i64 (cmpN (ah * 18446744073709551616 + al) (bh * 18446744073709551616 + bl))) ∧ Below w.heap.size w w' := by
  rw [← cmpD_four _ _ _ _ h2 h4]
  obtain ⟨C, hC⟩ : ∃ C, cmpD 4 (ofL ah al) (ofL bh bl) = C := ⟨_, rfl⟩
  rw [hC]
  have HC := Lib.hid hC
  clear hC
  have hb := below_alloc (below_alloc (Below.refl w.heap.size w) (.cells #[.int .u64 ah, .int .u64 al] 48)) (.cells #[.int .u64 bh, .int .u64 bl] 48)
  have q0 := quad_new w (.int .u64 ah) (.int .u64 al) (.int .u64 bh) (.int .u64 bl) 48
  go_enter Try.func28, Try.ntmps28
  go_wp2_with fail
  refine (of_any ah al _ h1 h2).mono ?_
  rintro r w1 ⟨gx, rfl, hdx, hb1⟩
  have q1 := q0.kept hb1
  have hb1' := hb.trans (hb1.mono hb.size)
  have t2 := q1.z0; have t3 := q1.z1
  clear q0 hb hb1
  go_wp2_with fail
  refine (of_any bh bl _ h3 h4).mono ?_
  rintro r w2 ⟨gy, rfl, hdy, hb2⟩
  have hdx2 := hdx.kept hb2
  have hb2' := hb1'.trans (hb2.mono hb1'.size)
  clear t2 t3 q1 hdx hb1' hb2
  go_wp2_with fail
  go_loopw [7] (fun v wr => ∃ (k : Nat) (i : Int), k ≤ 4 ∧ i = (k : Int) - 1 ∧ v = .int .i64 i ∧ cmpD k (ofL ah al) (ofL bh bl) = C ∧ Below w2.heap.size w2 wr) (fun v _ => (intOf v + 1).toNat)
  case atStart => exact ⟨4, 3, by omega, by omega, rfl, HC.out, Below.refl _ _⟩
  case round =>
    obtain ⟨k, i, hk, hi, rfl, hCk, hbel⟩ := hrel
    have HCK := Lib.hid hCk
    clear hCk
    have hbw := hb2'.trans (hbel.mono hb2'.size)
    cases k with
    | zero =>
      obtain rfl : i = -1 := by omega
      have hC0 : C = 0 := HCK.out.symm
      subst hC0
      clear hdx2 hdy hb2' hi hk
      go_wp2
      go_ret
      exact ⟨rfl, hbw⟩
    | succ j =>
      obtain rfl : i = (j : Int) := by omega
      clear hi
      have hj : j < 4 := by omega
      obtain ⟨x, hxk, hxb⟩ := ofL_at ah al j hj h1 h2
      obtain ⟨y, hyk, hyb⟩ := ofL_at bh bl j hj h3 h4
      have hcx := kept hbel (hdx2 j x hxk)
      have hcy := kept hbel (hdy j y hyk)
      have HR := Lib.hid (cmpD_at _ _ j x y hxk hyk)
      have hj4 : (j : Int) < 4 := by omega
      have hj0 : (0 : Int) ≤ (j : Int) := by omega
      clear hdx2 hdy hb2' hxk hyk hxb hyb hk
      rcases Nat.lt_trichotomy x y with h | h | h
      · have hC1 : C = -1 := by rw [← HCK.out, HR.out, if_pos h]
        subst hC1
        go_wp2
        go_region_held3 (fun w' => w'.cell? ⟨gx, j, none⟩ = some (.int .u64 x) ∧ w'.cell? ⟨gy, j, none⟩ = some (.int .u64 y)) (refine ⟨?_, ?_⟩ <;> (first | assumption | (refine keep_drew ?_; assumption))) (fail)
        go_wp2
        go_ret
        exact ⟨rfl, hbw.drew⟩
      · subst h
        have hC1 : cmpD j (ofL ah al) (ofL bh bl) = C := by rw [← HCK.out, HR.out, if_neg (by omega), if_neg (by omega)]
        have HC1 := Lib.hid hC1
        clear hC1
        go_wp2
        go_region_held3 (fun w' => w'.cell? ⟨gx, j, none⟩ = some (.int .u64 x) ∧ w'.cell? ⟨gy, j, none⟩ = some (.int .u64 x)) (refine ⟨?_, ?_⟩ <;> (first | assumption | (refine keep_drew ?_; assumption))) (fail)
        go_wp2
        go_region_held3 (fun w' => w'.cell? ⟨gx, j, none⟩ = some (.int .u64 x) ∧ w'.cell? ⟨gy, j, none⟩ = some (.int .u64 x)) (refine ⟨?_, ?_⟩ <;> (first | assumption | (refine keep_drew ?_; first | assumption | (refine keep_drew ?_; assumption)))) (fail)
        go_wp2
        go_roundw
        case rel => exact ⟨j, (j : Int) - 1, by omega, rfl, by go_num, HC1.out, hbel.drew.drew⟩
        case measure => simp [intOf]
      · have hC1 : C = 1 := by rw [← HCK.out, HR.out, if_neg (by omega), if_pos h]
        subst hC1
        go_wp2
        go_region_held3 (fun w' => w'.cell? ⟨gx, j, none⟩ = some (.int .u64 x) ∧ w'.cell? ⟨gy, j, none⟩ = some (.int .u64 y)) (refine ⟨?_, ?_⟩ <;> (first | assumption | (refine keep_drew ?_; assumption))) (fail)
        go_wp2
        go_region_held3 (fun w' => w'.cell? ⟨gx, j, none⟩ = some (.int .u64 x) ∧ w'.cell? ⟨gy, j, none⟩ = some (.int .u64 y)) (refine ⟨?_, ?_⟩ <;> (first | assumption | (refine keep_drew ?_; first | assumption | (refine keep_drew ?_; assumption)))) (fail)
        go_wp2
        go_ret
        exact ⟨rfl, hbw.drew.drew⟩

end Go.Proofs.Ytogpnfgjdnccdaa.Wide
