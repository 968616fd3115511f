/- wide.Times. -/
import Derived.Test.YtogpnfgjdnccdaaWideA
import Derived.Deep.RegionHeld3
import Derived.Deep.CutRange
namespace Go.Proofs.Ytogpnfgjdnccdaa.Wide
open Go.RowKit

theorem keep_alloc {w : World} {a : Addr} {v : Value} {o : Obj} (h : w.cell? a = some v) : (w.alloc o).cell? a = some v := by
  rw [World.cell?_alloc_some w a o (by rw [h]; rfl), h]
theorem keep_drew {w : World} {a : Addr} {v : Value} (h : w.cell? a = some v) : w.drew.cell? a = some v := h

theorem two_cells (w : World) (x y : Value) (t : TypeId) (o : Obj) :
    ((w.alloc (.cells #[x, y] t)).alloc o).cell? ⟨w.heap.size, 0, none⟩ = some x ∧ ((w.alloc (.cells #[x, y] t)).alloc o).cell? ⟨w.heap.size, 1, none⟩ = some y := by
  constructor <;> go_simp

theorem two_set {w : World} {b : Nat} {u v : Value} (x y : Value) (h0 : w.cell? ⟨b, 0, none⟩ = some u) (h1 : w.cell? ⟨b, 1, none⟩ = some v) :
    ((w.setCell ⟨b, 0, none⟩ x).setCell ⟨b, 1, none⟩ y).cell? ⟨b, 0, none⟩ = some x ∧ ((w.setCell ⟨b, 0, none⟩ x).setCell ⟨b, 1, none⟩ y).cell? ⟨b, 1, none⟩ = some y := by
  constructor
  · rw [World.cell?_setCell_other _ _ _ _ (by simp), World.cell?_setCell_same _ _ _ h0]
  · refine World.cell?_setCell_same _ _ _ (u := v) ?_
    rw [World.cell?_setCell_other _ _ _ _ (by simp), h1]

theorem mul_lt (a b : Nat) (ha : a < 18446744073709551616) (hb : b < 18446744073709551616) : a * b < 340282366920938463463374607431768211456 := by
  have : a * b ≤ 18446744073709551615 * 18446744073709551615 := Nat.mul_le_mul (by omega) (by omega)
  omega
theorem times_split (ah al b : Nat) : (ah * 18446744073709551616 + al) * b = ah * b * 18446744073709551616 + al * b := by
  rw [Nat.add_mul, Nat.mul_right_comm]
theorem times_over (ah al b : Nat) (h : ¬ hiN (ah * b) = 0) : timesN (ah * 18446744073709551616 + al) b = (0, 9) := by
  unfold timesN
  unfold hiN at h
  rw [times_split, if_neg (by omega)]
theorem plus_times (ah al b : Nat) (h : hiN (ah * b) = 0) : plusN (hiN (al * b) * 18446744073709551616 + loN (al * b)) (loN (ah * b) * 18446744073709551616 + 0) = timesN (ah * 18446744073709551616 + al) b := by
  rw [join_N]
  unfold plusN timesN loN
  unfold hiN at h
  rw [times_split, show al * b + (ah * b % 18446744073709551616 * 18446744073709551616 + 0) = ah * b * 18446744073709551616 + al * b by omega]

theorem keep_below {B : Nat} {a w : World} (h : Below B a w) (o : Obj) (hB : B ≤ a.heap.size) : Below B a (w.alloc o) := h.alloc (Nat.le_trans hB h.size) o

set_option maxRecDepth 100000 in
set_option maxHeartbeats 8000000 in
theorem times_any (ah al b : Nat) (w : World) (h1 : ah < 18446744073709551616) (h2 : al < 18446744073709551616) (h3 : b < 18446744073709551616) :
    Calls Try.prog 45 #[.agg #[.int .u64 ah, .int .u64 al], .int .u64 b] w fun e w' =>
      e = .returned (.tuple #[.agg #[.int .u64 (hiN (timesN (ah * 18446744073709551616 + al) b).1), .int .u64 (loN (timesN (ah * 18446744073709551616 + al) b).1)], .int .i64 (timesN (ah * 18446744073709551616 + al) b).2]) ∧ Below w.heap.size w w' := by
  obtain ⟨⟨r, e⟩, hT⟩ : ∃ t, timesN (ah * 18446744073709551616 + al) b = t := ⟨_, rfl⟩
  rw [hT]
  dsimp only
  obtain ⟨rh, hrh⟩ : ∃ t, hiN r = t := ⟨_, rfl⟩
  obtain ⟨rl, hrl⟩ : ∃ t, loN r = t := ⟨_, rfl⟩
  rw [hrh, hrl]
  obtain ⟨hc0, hc1⟩ := two_cells w (.int .u64 ah) (.int .u64 al) 48 (.cells #[.int .u64 0, .int .u64 0] 48)
  have hb0 : Below w.heap.size w ((w.alloc (.cells #[.int .u64 ah, .int .u64 al] 48)).alloc (.cells #[.int .u64 0, .int .u64 0] 48)) := below_alloc (below_alloc (Below.refl _ _) _) _
  have hz0 : ((w.alloc (.cells #[.int .u64 ah, .int .u64 al] 48)).alloc (.cells #[.int .u64 0, .int .u64 0] 48)).cell? ⟨w.heap.size + 1, 0, none⟩ = some (.int .u64 0) := by go_simp
  have hz1 : ((w.alloc (.cells #[.int .u64 ah, .int .u64 al] 48)).alloc (.cells #[.int .u64 0, .int .u64 0] 48)).cell? ⟨w.heap.size + 1, 1, none⟩ = some (.int .u64 0) := by go_simp
  have hf : ((w.alloc (.cells #[.int .u64 ah, .int .u64 al] 48)).alloc (.cells #[.int .u64 0, .int .u64 0] 48)).frozen? ⟨w.heap.size + 1, 0, none⟩ = false := by go_simp
  have hf1 : ((w.alloc (.cells #[.int .u64 ah, .int .u64 al] 48)).alloc (.cells #[.int .u64 0, .int .u64 0] 48)).frozen? ⟨w.heap.size + 1, 1, none⟩ = false := by go_simp
  have hsz : w.heap.size + 2 ≤ ((w.alloc (.cells #[.int .u64 ah, .int .u64 al] 48)).alloc (.cells #[.int .u64 0, .int .u64 0] 48)).heap.size := by simp
  go_enter Try.func45, Try.ntmps45
  go_wp2
  generalize (w.alloc (.cells #[.int .u64 ah, .int .u64 al] 48)).alloc (.cells #[.int .u64 0, .int .u64 0] 48) = W at *
  obtain ⟨X, hX⟩ : ∃ X : Nat → Nat, ∀ x, X x = hiN (x * b) := ⟨_, fun _ => rfl⟩
  obtain ⟨Y, hY⟩ : ∃ Y : Nat → Nat, ∀ x, Y x = loN (x * b) := ⟨_, fun _ => rfl⟩
  have hM : ∀ (x : Nat) (w : World), x < 18446744073709551616 → Calls Try.prog 46 #[.int .u64 x, .int .u64 b] w fun e w' => e = .returned (.agg #[.int .u64 (X x), .int .u64 (Y x)]) ∧ w' = w.alloc (.cells #[.int .u64 (X x), .int .u64 (Y x)] 48) := by
    intro x w hx
    rw [hX, hY]
    exact mul_exact x b w hx h3
  generalize hn : w.heap.size = n at *
  go_cut [6, 7] from 8 to 15 (fun s6 s7 wx => ∃ p q : Nat, s6 = .pointer (some ⟨p, 0, none⟩) ∧ s7 = .pointer (some ⟨q, 0, none⟩) ∧
    wx.cell? ⟨p, 0, none⟩ = some (.int .u64 (X al)) ∧ wx.cell? ⟨p, 1, none⟩ = some (.int .u64 (Y al)) ∧
    wx.cell? ⟨q, 0, none⟩ = some (.int .u64 (X ah)) ∧ wx.cell? ⟨q, 1, none⟩ = some (.int .u64 (Y ah)) ∧ Below W.heap.size W wx)
  case first =>
    have HX := Lib.hid hX
    have HY := Lib.hid hY
    clear hX hY hb0 hz0 hz1 hf hf1
    go_region_held3 (fun w' => w'.cell? ⟨n, 0, none⟩ = some (.int .u64 ah) ∧ w'.cell? ⟨n, 1, none⟩ = some (.int .u64 al)) (refine ⟨?_, ?_⟩ <;> repeat (first | assumption | refine keep_drew ?_ | refine keep_alloc ?_)) (first
      | (go_at_call 46; refine (hM _ _ (by assumption)).mono ?_; rintro e w' ⟨rfl, rfl⟩))
    all_goals (go_wp2_with fail; go_meet; exact ⟨_, _, rfl, rfl, by go_simp, by go_simp, by go_simp, by go_simp, by repeat (first | exact Below.refl _ _ | refine Below.drew ?_ | refine keep_below ?_ _ (Nat.le_refl _))⟩)
  case rest =>
    obtain ⟨p, q, rfl, rfl, hp0, hp1, hq0, hq1, hb⟩ := hcut
    have k0 : wc.cell? ⟨n + 1, 0, none⟩ = some (.int .u64 0) := by rw [hb.cell (show n + 1 < _ by omega)]; exact hz0
    have k1 : wc.cell? ⟨n + 1, 1, none⟩ = some (.int .u64 0) := by rw [hb.cell (show n + 1 < _ by omega)]; exact hz1
    have f0 : wc.frozen? ⟨n + 1, 0, none⟩ = false := by rw [hb.frozen (show n + 1 < _ by omega)]; exact hf
    have f1 : wc.frozen? ⟨n + 1, 1, none⟩ = false := by rw [hb.frozen (show n + 1 < _ by omega)]; exact hf1
    have hbb : Below n w wc := hb0.trans (hb.mono (by omega))
    by_cases hz : hiN (ah * b) = 0
    · have hP := fun w => plus_any (hiN (al * b)) (loN (al * b)) (loN (ah * b)) 0 w (hiN_lt (mul_lt al b h2 h3)) (loN_lt _) (loN_lt _) (by omega)
      rw [plus_times ah al b hz] at hP
      have hx : X ah = 0 := by rw [hX, hz]
      rw [← hX, ← hY, ← hY, hT, hrh, hrl] at hP
      rw [hx] at hq0
      have HP := Lib.hid hP
      clear hP hX hY hz hT
      go_wp2_with fail
      refine (HP.out _).mono ?_
      rintro e w1 ⟨rfl, hb1⟩
      have hsz1 := hb.size
      have k0' : w1.cell? ⟨n + 1, 0, none⟩ = some (.int .u64 0) := by rw [hb1.cell (show n + 1 < _ by omega)]; exact k0
      have k1' : w1.cell? ⟨n + 1, 1, none⟩ = some (.int .u64 0) := by rw [hb1.cell (show n + 1 < _ by omega)]; exact k1
      have f0' : w1.frozen? ⟨n + 1, 0, none⟩ = false := by rw [hb1.frozen (show n + 1 < _ by omega)]; exact f0
      have f1' : w1.frozen? ⟨n + 1, 1, none⟩ = false := by rw [hb1.frozen (show n + 1 < _ by omega)]; exact f1
      have hbb1 : Below n w w1 := hbb.trans (hb1.mono (by omega))
      clear hb1 hbb k0 k1 f0 f1
      go_wp2_with fail
      have hs := two_set (.int .u64 rh) (.int .u64 rl) k0' k1'
      refine bodyPost_ret (v := .tuple #[.agg #[.int .u64 rh, .int .u64 rl], .int .i64 e]) (by simp [results, Try.results45, go_sem, hs.1, hs.2]) rfl ⟨rfl, ?_⟩
      rw [hn]
      exact (hbb1.setCell (Nat.le_succ _) _).setCell (Nat.le_succ _) _
    · have ho := hT.symm.trans (times_over ah al b hz)
      simp only [Prod.mk.injEq] at ho
      obtain ⟨rfl, rfl⟩ := ho
      obtain rfl : rh = 0 := hrh.symm
      obtain rfl : rl = 0 := hrl.symm
      have hx : ((X ah : Int) != 0) = true := by rw [hX]; simp; omega
      clear hX hY hz
      go_wp2_with fail
      have hs := two_set (.int .u64 0) (.int .u64 0) k0 k1
      refine bodyPost_ret (v := .tuple #[.agg #[.int .u64 0, .int .u64 0], .int .i64 9]) (by simp [results, Try.results45, go_sem, hs.1, hs.2]) rfl ⟨rfl, ?_⟩
      rw [hn]
      exact (hbb.setCell (Nat.le_succ _) _).setCell (Nat.le_succ _) _

end Go.Proofs.Ytogpnfgjdnccdaa.Wide
