/- The document's own answers: fits, root. -/
import Derived.Test.YtnfoegiogldidaaShaC
namespace Go.Proofs.Ytnfoegiogldidaa.Sha
open Go.RowKit

theorem kept {w w' : World} (h : Below w.heap.size w w') {p : Addr} {v : Value} (hc : w.cell? p = some v) : w'.cell? p = some v := by
  rw [h.cell (World.block_lt_of_cell? w p hc)]
  exact hc
theorem Dig.kept {w w' : World} {g : Nat} {xs : List Nat} (d : Dig w g xs) (h : Below w.heap.size w w') : Dig w' g xs := fun i x hx => Sha.kept h (d i x hx)
theorem below_alloc {w0 w : World} (h : Below w0.heap.size w0 w) (o : Obj) : Below w0.heap.size w0 (w.alloc o) :=
  h.trans (((Below.refl w.heap.size w).alloc (Nat.le_refl _) o).mono h.size)
theorem dig_one (w : World) (x : Nat) (t : TypeId) : Dig (w.alloc (.cells #[.int .u64 x] t)) w.heap.size [x] := by
  intro i v hv
  match i, hv with
  | 0, hv => simp at hv; subst hv; simp
  | i + 1, hv => simp at hv

/-- Digits that are there, and what they tell. -/
structure Tells (w : World) (g l v m : Nat) (D : List Nat) : Prop where
  dig : Dig w g D
  len : D.length = l
  val : val16 D = v
  small : ∀ x ∈ D, x < 65536
  most : l ≤ m
  pos : 0 < l
theorem Tells.kept {w w' : World} {g len v m : Nat} {D : List Nat} (t : Tells w g len v m D) (h : Below w.heap.size w w') : Tells w' g len v m D := ⟨t.dig.kept h, t.len, t.val, t.small, t.most, t.pos⟩

theorem times_tells (g cap n len v most : Nat) (D : List Nat) (w : World) (t : Tells w g len v most D) (hm : most ≤ 100) (hn : n < 1099511627776) :
    Calls Try.prog 69 #[.slice (some ⟨g, 0, none⟩) len cap, .int .u64 n] w fun e w' => ∃ g' cap' len' D', e = .returned (.slice (some ⟨g', 0, none⟩) len' cap') ∧ Tells w' g' len' (v * n) (most + 3) D' ∧ Below w.heap.size w w' := by
  refine (times_any g cap n len D w t.dig t.len (Nat.le_trans t.most hm) t.pos t.small hn).mono ?_
  rintro e w' ⟨g', cap', D', he, h1, h2, h3, h4, h5, h6⟩
  exact ⟨g', cap', D'.length, D', he, ⟨h1, rfl, by rw [h2, t.val], h3, by have := t.most; omega, h5⟩, h6⟩

set_option maxRecDepth 100000 in
set_option maxHeartbeats 3200000 in
theorem fits_any (y n p : Nat) (w : World) (hy : y < 1099511627776) (hn : n < 65536) (hp : p ≤ 3) :
    Calls Try.prog 66 #[.int .u64 y, .int .u64 n, .int .u64 p] w fun e w' => e = .returned (.bool (decide (y ^ p ≤ n * 4294967296 ^ p))) ∧ Below w.heap.size w w' := by
  obtain ⟨R, hR⟩ : ∃ R, decide (y ^ p ≤ n * 4294967296 ^ p) = R := ⟨_, rfl⟩
  rw [hR]
  have HR := Lib.hid hR
  clear hR
  have t0 : Tells (w.alloc (.cells #[.int .u64 ((1 : Nat) : Int)] 70)) w.heap.size 1 (y ^ 0) 1 [1] := ⟨dig_one w 1 70, rfl, rfl, by simp, by omega, by omega⟩
  have hb0 := below_alloc (Below.refl w.heap.size w) (.cells #[.int .u64 ((1 : Nat) : Int)] 70)
  go_enter Try.func66, Try.ntmps66
  go_wp2_with fail
  go_loopw [7, 8] (fun d i wr => ∃ (k g cap len : Nat) (D : List Nat), k ≤ p ∧ i = .int .u64 k ∧ d = .slice (some ⟨g, 0, none⟩) len cap ∧ Tells wr g len (y ^ k) (1 + 3 * k) D ∧ Below w.heap.size w wr) (fun _ i _ => p - (intOf i).toNat)
  case atStart => exact ⟨0, w.heap.size, 1, 1, [1], Nat.zero_le _, rfl, rfl, t0, hb0⟩
  case round =>
    clear t0 hb0
    obtain ⟨k, g, cap, len, D, hk, rfl, rfl, ht, hb⟩ := hrel
    by_cases hlt : k < p
    · have hT := fun cap => times_tells g cap y len (y ^ k) (1 + 3 * k) D wr ht (by omega) hy
      clear ht
      go_wp2_with fail
      refine (hT _).mono ?_
      rintro e w1 ⟨g1, cap1, len1, D1, rfl, ht1, hb1⟩
      have HT1 := Lib.hid ht1
      clear hT ht1
      go_wp2_with fail
      go_roundw
      case rel => exact ⟨k + 1, g1, cap1, len1, D1, by omega, by go_num, rfl, ⟨HT1.out.dig, HT1.out.len, by rw [HT1.out.val, Nat.pow_succ], HT1.out.small, by have := HT1.out.most; omega, HT1.out.pos⟩, hb.trans (hb1.mono hb.size)⟩
      case measure => simp [intOf]; omega
    · have hkk : k = p := by omega
      subst hkk
      have t1 : Tells (wr.alloc (.cells #[.int .u64 n] 70)) wr.heap.size 1 (n * 4294967296 ^ 0) 1 [n] := ⟨dig_one wr n 70, rfl, by simp [val16], by simpa using hn, by omega, by omega⟩
      have hb0 := below_alloc (Below.refl wr.heap.size wr) (.cells #[.int .u64 n] 70)
      have HT := Lib.hid ht
      clear ht
      go_wp2_with fail
      go_loopw [9, 10] (fun d i wx => ∃ (j g' cap' len' : Nat) (E : List Nat), j ≤ k ∧ i = .int .u64 j ∧ d = .slice (some ⟨g', 0, none⟩) len' cap' ∧ Tells wx g' len' (n * 4294967296 ^ j) (1 + 3 * j) E ∧ Below wr.heap.size wr wx) (fun _ i _ => k - (intOf i).toNat)
      case atStart => exact ⟨0, wr.heap.size, 1, 1, [n], Nat.zero_le _, rfl, rfl, t1, hb0⟩
      case round =>
        clear t1 hb0
        obtain ⟨j, g', cap', len', E, hj, rfl, rfl, he, hbx⟩ := hrel
        by_cases hlt2 : j < k
        · have hT := fun cap => times_tells g' cap 4294967296 len' (n * 4294967296 ^ j) (1 + 3 * j) E _ he (by omega) (by omega)
          clear he
          go_wp2_with fail
          refine (hT _).mono ?_
          rintro e w1 ⟨g1, cap1, len1, D1, rfl, ht1, hb1⟩
          have HT1 := Lib.hid ht1
          clear hT ht1
          go_wp2_with fail
          go_roundw
          case rel => exact ⟨j + 1, g1, cap1, len1, D1, by omega, by go_num, rfl, ⟨HT1.out.dig, HT1.out.len, by rw [HT1.out.val, Nat.pow_succ, Nat.mul_assoc], HT1.out.small, by have := HT1.out.most; omega, HT1.out.pos⟩, hbx.trans (hb1.mono hbx.size)⟩
          case measure => simp [intOf]; omega
        · have hjj : j = k := by omega
          subst hjj
          have hd := HT.out.kept hbx
          have hL := fun cap cap' => less_any g' g cap' cap len' len E D _ he.dig hd.dig he.len hd.len (by have := he.most; omega) (by have := hd.most; omega) he.small hd.small
          rw [he.val, hd.val] at hL
          have hres : (!(decide (n * 4294967296 ^ j < y ^ j))) = R := by
            rw [← HR.out, ← decide_not]
            exact decide_eq_decide.2 (by omega)
          obtain ⟨Q, hQ⟩ : ∃ Q, decide (n * 4294967296 ^ j < y ^ j) = Q := ⟨_, rfl⟩
          rw [hQ] at hL hres
          have hbw := hb.trans (hbx.mono hb.size)
          clear he hd HT hQ
          go_wp2_with fail
          refine (hL _ _).mono ?_
          rintro e w1 ⟨rfl, rfl⟩
          go_wp2_with fail
          go_ret
          exact ⟨rfl, hbw⟩

end Go.Proofs.Ytnfoegiogldidaa.Sha
