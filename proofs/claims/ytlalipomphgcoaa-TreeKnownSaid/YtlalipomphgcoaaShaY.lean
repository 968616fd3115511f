/- The code's own: what becomes of eight words by a block's words. -/
import Derived.Test.YtlalipomphgcoaaShaW
import Derived.Laws.CopyRow
import Derived.Laws.CopyOwn
import Derived.Deep.Draws
namespace Go.Proofs.Ytlalipomphgcoaa.Sha
open Go.RowKit

theorem bdrewN {B : Nat} {a w : World} (h : Below B a w) (n : Nat) : Below B a (w.drewN n) := ⟨h.os, h.tape, h.output, h.size, h.block⟩

theorem steps_snoc (ks ws : List Nat) (k x : Nat) : ∀ v : EightW, ks.length = ws.length → steps v (ks ++ [k]) (ws ++ [x]) = step (steps v ks ws) k x := by
  induction ks generalizing ws with
  | nil =>
    intro v h
    obtain rfl : ws = [] := List.eq_nil_of_length_eq_zero h.symm
    rfl
  | cons a ks ih =>
    intro v h
    match ws, h with
    | b :: ws, h => exact ih ws (step v a b) (by simpa using h)

/-- Eight words of 32 bits. -/
structure LowE (v : EightW) : Prop where
  a : v.a < 4294967296
  b : v.b < 4294967296
  c : v.c < 4294967296
  d : v.d < 4294967296
  e : v.e < 4294967296
  f : v.f < 4294967296
  g : v.g < 4294967296
  h : v.h < 4294967296
theorem step_low (v : EightW) (k x : Nat) (h : LowE v) : LowE (step v k x) :=
  ⟨Nat.mod_lt _ (by omega), h.a, h.b, h.c, Nat.mod_lt _ (by omega), h.e, h.f, h.g⟩

/-- Eight words as an array's cells. -/
def rowE (v : EightW) : Array Value := #[.int .u32 v.a, .int .u32 v.b, .int .u32 v.c, .int .u32 v.d, .int .u32 v.e, .int .u32 v.f, .int .u32 v.g, .int .u32 v.h]
theorem kL_low : ∀ x ∈ kL, x < 4294967296 := by decide +kernel
theorem info_a8 : (Try.prog.info? 46).map (·.size) = some 8 := by kernel_rfl

theorem ch_code (e f g : Nat) (he : e < 4294967296) (hf : f < 4294967296) (hg : g < 4294967296) :
    bits .or .u32 (bits .and .u32 (e : Int) (f : Int)) (bits .and .u32 (bits .xor .u32 IntKind.u32.max (e : Int)) (g : Int)) = ((ch e f g : Nat) : Int) := by
  have h1 := u32_xor_nat 4294967295 e (by omega) he
  have hx : 4294967295 ^^^ e < 4294967296 := Nat.xor_lt_two_pow (n := 32) (by omega) he
  have h2 : bits .xor .u32 IntKind.u32.max (e : Int) = ((4294967295 ^^^ e : Nat) : Int) := h1
  rw [h2, u32_and_nat e f he hf, u32_and_nat _ g hx hg, u32_or_nat _ _ (Nat.and_lt_two_pow (n := 32) _ hf) (Nat.and_lt_two_pow (n := 32) _ hg), Nat.xor_comm]
  rfl

theorem big_a (h s c k w u m : Nat) : (((h : Int) + s + c + k + w + u) % 4294967296 + m) % 4294967296 = ((h + s + c + k + w + (u + m)) % 4294967296 : Nat) := by omega
theorem big_e (d h s c k w : Nat) : ((d : Int) + ((h : Int) + s + c + k + w) % 4294967296) % 4294967296 = ((d + (h + s + c + k + w)) % 4294967296 : Nat) := by omega

theorem mix_a (va vb vc vd ve vf vg vh kk ww : Nat) (la : va < 4294967296) (lb : vb < 4294967296) (lc : vc < 4294967296) (le : ve < 4294967296) (lf : vf < 4294967296) (lg : vg < 4294967296) :
    (((vh : Int) + bits BinOp.xor IntKind.u32 (bits BinOp.xor IntKind.u32 (turnN ve 6) (turnN ve 11)) (turnN ve 25) +
                    bits BinOp.or IntKind.u32 (bits BinOp.and IntKind.u32 ve vf) (bits BinOp.and IntKind.u32 (bits BinOp.xor IntKind.u32 IntKind.u32.max ve) vg) + kk + ww +
              bits BinOp.xor IntKind.u32 (bits BinOp.xor IntKind.u32 (turnN va 2) (turnN va 13)) (turnN va 22)) % 4294967296 +
          bits BinOp.or IntKind.u32 (bits BinOp.or IntKind.u32 (bits BinOp.and IntKind.u32 va vb) (bits BinOp.and IntKind.u32 va vc)) (bits BinOp.and IntKind.u32 vb vc)) % 4294967296 =
      ((step ⟨va, vb, vc, vd, ve, vf, vg, vh⟩ kk ww).a : Int) := by
  rw [xor3 _ _ _ (turnN_lt ve 6 le (by omega)) (turnN_lt ve 11 le (by omega)) (turnN_lt ve 25 le (by omega)), ch_code ve vf vg le lf lg,
    xor3 _ _ _ (turnN_lt va 2 la (by omega)) (turnN_lt va 13 la (by omega)) (turnN_lt va 22 la (by omega)), maj_walk va vb vc la lb lc, big_a]
  rfl

theorem mix_e (va vb vc vd ve vf vg vh kk ww : Nat) (le : ve < 4294967296) (lf : vf < 4294967296) (lg : vg < 4294967296) :
    ((vd : Int) + ((vh : Int) + bits BinOp.xor IntKind.u32 (bits BinOp.xor IntKind.u32 (turnN ve 6) (turnN ve 11)) (turnN ve 25) +
                  bits BinOp.or IntKind.u32 (bits BinOp.and IntKind.u32 ve vf) (bits BinOp.and IntKind.u32 (bits BinOp.xor IntKind.u32 IntKind.u32.max ve) vg) + kk + ww) % 4294967296) % 4294967296 =
      ((step ⟨va, vb, vc, vd, ve, vf, vg, vh⟩ kk ww).e : Int) := by
  rw [xor3 _ _ _ (turnN_lt ve 6 le (by omega)) (turnN_lt ve 11 le (by omega)) (turnN_lt ve 25 le (by omega)), ch_code ve vf vg le lf lg, big_e]
  rfl

set_option maxRecDepth 100000 in
set_option maxHeartbeats 1600000 in
theorem code_mix (a b c d e f g h : Nat) (hv : LowE ⟨a, b, c, d, e, f, g, h⟩) (ws : List Nat) (hl : ws.length = 64) (gk gw : Nat) (w : World) (hk : Dig32 w gk kL) (hw : Dig32 w gw ws) :
    Calls Try.prog 63 #[.agg #[.int .u32 a, .int .u32 b, .int .u32 c, .int .u32 d, .int .u32 e, .int .u32 f, .int .u32 g, .int .u32 h], .pointer (some ⟨gk, 0, none⟩), .pointer (some ⟨gw, 0, none⟩)] w
      fun en w' => en = .returned (.agg (rowE (steps ⟨a, b, c, d, e, f, g, h⟩ kL ws))) ∧ Below w.heap.size w w' := by
  have HK := Lib.hid hk
  have HW := Lib.hid hw
  have HV := Lib.hid hv
  clear hk hw hv
  go_enter Try.func63, Try.ntmps63
  go_wp2
  go_quiet (fail)
  go_wp2
  go_loopw [7, 8, 9, 10, 11, 12, 13, 14, 37] (fun ra rb rc rd re rf rg rh i wr => ∃ (k : Nat) (v : EightW), k ≤ 64 ∧ i = .int .i64 k ∧ ra = .int .u32 v.a ∧ rb = .int .u32 v.b ∧ rc = .int .u32 v.c ∧ rd = .int .u32 v.d ∧ re = .int .u32 v.e ∧ rf = .int .u32 v.f ∧ rg = .int .u32 v.g ∧ rh = .int .u32 v.h ∧
      v = steps ⟨a, b, c, d, e, f, g, h⟩ (kL.take k) (ws.take k) ∧ LowE v ∧ (∃ old, wr.heap[w.heap.size + 1]? = some (.cells old 46 (0, 0)) ∧ old.size = 8) ∧ Below w.heap.size w wr) (fun _ _ _ _ _ _ _ _ i _ => 64 - (intOf i).toNat)
  case atStart =>
    refine ⟨0, ⟨a, b, c, d, e, f, g, h⟩, by omega, rfl, rfl, rfl, rfl, rfl, rfl, rfl, rfl, rfl, rfl, HV.out, ⟨_, heap_alloc2_new _ _ _, rfl⟩, ?_⟩
    exact bdrewN (((Below.refl _ _).alloc (Nat.le_refl _) _).alloc (by simp) _) _
  case round =>
    obtain ⟨k, v, hk, rfl, rfl, rfl, rfl, rfl, rfl, rfl, rfl, rfl, hst, hlow, hold, hbel⟩ := hrel
    obtain ⟨va, vb, vc, vd, ve, vf, vg, vh⟩ := v
    by_cases hlt : k < 64
    · obtain ⟨kk, gkk⟩ : ∃ x, kL[k]? = some x := ⟨kL[k]'hlt, List.getElem?_eq_getElem _⟩
      obtain ⟨ww, gww⟩ : ∃ x, ws[k]? = some x := ⟨ws[k]'(by omega), List.getElem?_eq_getElem _⟩
      have ck := HK.out k kk gkk
      have cw := HW.out k ww gww
      have ck' : wr.cell? ⟨gk, k, none⟩ = some (.int .u32 kk) := by
        rw [hbel.cell (show gk < w.heap.size from World.block_lt_of_cell? _ _ ck)]
        exact ck
      have cw' : wr.cell? ⟨gw, k, none⟩ = some (.int .u32 ww) := by
        rw [hbel.cell (show gw < w.heap.size from World.block_lt_of_cell? _ _ cw)]
        exact cw
      have HST := Lib.hid (show step ⟨va, vb, vc, vd, ve, vf, vg, vh⟩ kk ww = steps ⟨a, b, c, d, e, f, g, h⟩ (kL.take (k + 1)) (ws.take (k + 1)) by
        rw [List.take_add_one, List.take_add_one, gkk, gww]
        show _ = steps _ (kL.take k ++ [kk]) (ws.take k ++ [ww])
        rw [steps_snoc _ _ _ _ _ (by rw [List.length_take, List.length_take, hl]; rfl), ← hst])
      have HLOW := Lib.hid (step_low _ kk ww hlow)
      obtain ⟨la, lb, lc, ld, le, lf, lg, lh⟩ := hlow
      simp only at la lb lc ld le lf lg lh
      have C1 := Lib.hid (fun w => turned_lit ve 6 6 w rfl le (by omega))
      have C2 := Lib.hid (fun w => turned_lit ve 11 11 w rfl le (by omega))
      have C3 := Lib.hid (fun w => turned_lit ve 25 25 w rfl le (by omega))
      have C4 := Lib.hid (fun w => turned_lit va 2 2 w rfl la (by omega))
      have C5 := Lib.hid (fun w => turned_lit va 13 13 w rfl la (by omega))
      have C6 := Lib.hid (fun w => turned_lit va 22 22 w rfl la (by omega))
      have hk0 : (0 : Int) ≤ (k : Int) := by omega
      have hk64 : (k : Int) < 64 := by omega
      have HOLD := Lib.hid hold
      have HBEL := Lib.hid hbel
      clear hold hbel hst ck cw gkk gww
      go_wp2_with (go_at_call 79; first | ((with_reducible refine (C1.out _).mono ?_); rintro e w' ⟨rfl, rfl⟩) | ((with_reducible refine (C2.out _).mono ?_); rintro e w' ⟨rfl, rfl⟩) | ((with_reducible refine (C3.out _).mono ?_); rintro e w' ⟨rfl, rfl⟩) | ((with_reducible refine (C4.out _).mono ?_); rintro e w' ⟨rfl, rfl⟩) | ((with_reducible refine (C5.out _).mono ?_); rintro e w' ⟨rfl, rfl⟩) | ((with_reducible refine (C6.out _).mono ?_); rintro e w' ⟨rfl, rfl⟩))
      go_quiet (fail)
      go_wp2
      go_roundw
      case rel =>
        refine ⟨k + 1, step ⟨va, vb, vc, vd, ve, vf, vg, vh⟩ kk ww, by omega, by go_num, ?_, rfl, rfl, rfl, ?_, rfl, rfl, rfl, HST.out, HLOW.out, HOLD.out, bdrewN HBEL.out _⟩
        · exact congrArg (Value.int IntKind.u32) (mix_a va vb vc vd ve vf vg vh kk ww la lb lc le lf lg)
        · exact congrArg (Value.int IntKind.u32) (mix_e va vb vc vd ve vf vg vh kk ww le lf lg)
      case measure => simp [intOf]; omega
    · have hkk : k = 64 := by omega
      subst hkk
      rw [List.take_of_length_le (show kL.length ≤ 64 from Nat.le_refl _), List.take_of_length_le (Nat.le_of_eq hl)] at hst
      have HST := Lib.hid hst
      obtain ⟨old, hg, hos⟩ := hold
      have HG := Lib.hid hg
      have HOS := Lib.hid hos
      have HBEL := Lib.hid hbel
      clear hst hg hos hbel hlow
      have hcf : ∀ i, i < 8 → ∃ x, wr.cell? ⟨w.heap.size + 1, i, none⟩ = some x := fun i hi => ⟨old[i]'(by rw [HOS.out]; exact hi), by
        rw [cell_of_row wr _ i old _ _ HG.out]
        exact Array.getElem?_eq_getElem _⟩
      obtain ⟨x0, c0⟩ := hcf 0 (by omega)
      obtain ⟨x1, c1⟩ := hcf 1 (by omega)
      obtain ⟨x2, c2⟩ := hcf 2 (by omega)
      obtain ⟨x3, c3⟩ := hcf 3 (by omega)
      obtain ⟨x4, c4⟩ := hcf 4 (by omega)
      obtain ⟨x5, c5⟩ := hcf 5 (by omega)
      obtain ⟨x6, c6⟩ := hcf 6 (by omega)
      obtain ⟨x7, c7⟩ := hcf 7 (by omega)
      have f0 := frozen_of_row wr _ 0 old _ HG.out
      have f1 := frozen_of_row wr _ 1 old _ HG.out
      have f2 := frozen_of_row wr _ 2 old _ HG.out
      have f3 := frozen_of_row wr _ 3 old _ HG.out
      have f4 := frozen_of_row wr _ 4 old _ HG.out
      have f5 := frozen_of_row wr _ 5 old _ HG.out
      have f6 := frozen_of_row wr _ 6 old _ HG.out
      have f7 := frozen_of_row wr _ 7 old _ HG.out
      clear hcf
      go_wp2
      refine bodyPost_ret (v := .agg (rowE ⟨va, vb, vc, vd, ve, vf, vg, vh⟩)) (by simp [results, Try.results63, rowE, go_sem, c0, c1, c2, c3, c4, c5, c6, c7]) rfl ⟨by rw [HST.out], ?_⟩
      exact (((((((HBEL.out.setCell (by simp) _).setCell (by simp) _).setCell (by simp) _).setCell (by simp) _).setCell (by simp) _).setCell (by simp) _).setCell (by simp) _).setCell (by simp) _

end Go.Proofs.Ytlalipomphgcoaa.Sha
