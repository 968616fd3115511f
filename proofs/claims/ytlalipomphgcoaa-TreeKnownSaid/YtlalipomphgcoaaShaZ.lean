/- The code's own: eight words as bytes; the roots' words. -/
import Derived.Test.YtlalipomphgcoaaShaY
namespace Go.Proofs.Ytlalipomphgcoaa.Sha
open Go.RowKit

/-- The 32 bytes of eight words. -/
def hashN (v : EightW) : List Nat := out4 v.a ++ out4 v.b ++ out4 v.c ++ out4 v.d ++ out4 v.e ++ out4 v.f ++ out4 v.g ++ out4 v.h
def hashB (v : EightW) : List UInt8 := (hashN v).map UInt8.ofNat
theorem hashB_length (v : EightW) : (hashB v).length = 32 := rfl

/-- An array of n bytes, of which the first are laid. -/
def row8 (xs : List UInt8) (n : Nat) : Array Value := (valsB xs ++ List.replicate (n - xs.length) (Value.int .u8 0)).toArray
theorem row8_size (xs : List UInt8) (n : Nat) (h : xs.length ≤ n) : (row8 xs n).size = n := by
  simp [row8, valsB]
  omega
theorem row8_set (xs : List UInt8) (n i : Nat) (x : UInt8) (hi : xs.length = i) (h : i < n) : (row8 xs n).setIfInBounds i (.int .u8 (x.toNat : Int)) = row8 (xs ++ [x]) n := by
  subst hi
  apply Array.toList_inj.1
  rw [Array.toList_setIfInBounds]
  simp only [row8, valsB, List.length_append, List.length_cons, List.length_nil, List.map_append]
  rw [show n - xs.length = (n - (xs.length + (0 + 1))) + 1 by omega, List.replicate_succ, List.set_append_right _ _ (by simp)]
  simp
theorem row8_full (xs : List UInt8) (n : Nat) (h : xs.length = n) : row8 xs n = (valsB xs).toArray := by
  simp [row8, h]
theorem info_hash : (Try.prog.info? 23).map (·.size) = some 32 := by kernel_rfl

theorem hashB_at (v : EightW) (hv : LowE v) (k : Nat) (hk : k < 32) :
    ∃ x : Nat, (rowE v)[k / 4]? = some (.int .u32 x) ∧ x < 4294967296 ∧ (hashB v)[k]? = some (UInt8.ofNat (x / 2 ^ (24 - 8 * (k % 4)))) := by
  obtain ⟨a, b, c, d, e, f, g, h⟩ := v
  obtain ⟨la, lb, lc, ld, le, lf, lg, lh⟩ := hv
  have m : ∀ n, UInt8.ofNat (n % 256) = UInt8.ofNat n := fun n => by
    apply UInt8.toNat_inj.1
    simp [UInt8.toNat_ofNat']
  have o : ∀ x, out4 x = [x / 16777216 % 256, x / 65536 % 256, x / 256 % 256, x % 256] := fun _ => rfl
  have hb : hashB ⟨a, b, c, d, e, f, g, h⟩ = [a / 16777216, a / 65536, a / 256, a, b / 16777216, b / 65536, b / 256, b, c / 16777216, c / 65536, c / 256, c, d / 16777216, d / 65536, d / 256, d,
      e / 16777216, e / 65536, e / 256, e, f / 16777216, f / 65536, f / 256, f, g / 16777216, g / 65536, g / 256, g, h / 16777216, h / 65536, h / 256, h].map UInt8.ofNat := by
    simp only [hashB, hashN, o, List.cons_append, List.nil_append, List.map_cons, List.map_nil, m]
  rw [hb]
  have hh : k / 4 = 0 ∨ k / 4 = 1 ∨ k / 4 = 2 ∨ k / 4 = 3 ∨ k / 4 = 4 ∨ k / 4 = 5 ∨ k / 4 = 6 ∨ k / 4 = 7 := by omega
  have hr : k % 4 = 0 ∨ k % 4 = 1 ∨ k % 4 = 2 ∨ k % 4 = 3 := by omega
  rcases hh with q | q | q | q | q | q | q | q <;> rcases hr with r | r | r | r <;>
    (obtain ⟨j, rfl⟩ : ∃ j, k = j := ⟨k, rfl⟩
     have e := Nat.div_add_mod k 4
     rw [q, r] at e
     subst e
     first
       | exact ⟨a, rfl, la, by simp⟩
       | exact ⟨b, rfl, lb, by simp⟩
       | exact ⟨c, rfl, lc, by simp⟩
       | exact ⟨d, rfl, ld, by simp⟩
       | exact ⟨e, rfl, le, by simp⟩
       | exact ⟨f, rfl, lf, by simp⟩
       | exact ⟨g, rfl, lg, by simp⟩
       | exact ⟨h, rfl, lh, by simp⟩)

set_option maxRecDepth 100000 in
set_option maxHeartbeats 1600000 in
theorem code_hashOf (v : EightW) (hv : LowE v) (w : World) :
    Calls Try.prog 34 #[.agg (rowE v)] w fun e w' => e = .returned (.agg (valsB (hashB v)).toArray) ∧ Below w.heap.size w w' := by
  have HAT := Lib.hid (hashB_at v hv)
  have HHL := Lib.hid (hashB_length v)
  have hA8 : (rowE v).size = 8 := rfl
  obtain ⟨A, hA⟩ : ∃ A, rowE v = A := ⟨_, rfl⟩
  rw [hA] at HAT hA8
  rw [hA]
  clear hA
  obtain ⟨H, hH⟩ : ∃ H, hashB v = H := ⟨_, rfl⟩
  rw [hH] at HAT HHL
  rw [hH]
  clear hH
  go_enter Try.func34, Try.ntmps34
  go_wp2
  go_loopw [4] (fun i wr => ∃ k : Nat, k ≤ 32 ∧ i = .int .i64 k ∧ wr = (w.alloc (.cells A 46)).alloc (.cells (row8 (H.take k) 32) 23)) (fun i _ => 32 - (intOf i).toNat)
  case atStart => exact ⟨0, by omega, rfl, rfl⟩
  case round =>
    obtain ⟨k, hk, rfl, rfl⟩ := hrel
    by_cases hlt : k < 32
    · obtain ⟨x, hAx, hx, hHx⟩ := HAT.out k hlt
      have HL := HHL.out
      have HS := Lib.hid (show (row8 (H.take k) 32).setIfInBounds k (.int .u8 ((UInt8.ofNat (x / 2 ^ (24 - 8 * (k % 4)))).toNat : Int)) = row8 (H.take (k + 1)) 32 by
        rw [row8_set _ 32 k _ (by rw [List.length_take]; omega) (by omega), List.take_add_one, hHx]
        rfl)
      have hz := row8_size (H.take k) 32 (by rw [List.length_take]; omega)
      obtain ⟨v1, hv1⟩ : ∃ v, (row8 (H.take k) 32)[k]? = some v := ⟨(row8 (H.take k) 32)[k]'(by omega), Array.getElem?_eq_getElem _⟩
      have hk0 : (0 : Int) ≤ (k : Int) := by omega
      have hk32 : (k : Int) < 32 := by omega
      obtain ⟨j, hj⟩ : ∃ j, k / 4 = j := ⟨_, rfl⟩
      have hq : (k : Int) / 4 = (j : Int) := by omega
      have hj8 : (j : Int) < 8 := by omega
      have hj0 : (0 : Int) ≤ (j : Int) := by omega
      rw [hj] at hAx
      obtain ⟨R, hR⟩ : ∃ R, row8 (H.take k) 32 = R := ⟨_, rfl⟩
      rw [hR] at HS hv1
      rw [hR]
      have hr : k % 4 = 0 ∨ k % 4 = 1 ∨ k % 4 = 2 ∨ k % 4 = 3 := by omega
      clear hHx HL hz hj hR
      rcases hr with r | r | r | r
      all_goals
        have hm : (k : Int) % 4 = ((k % 4 : Nat) : Int) := by omega
        rw [r] at hm HS
        clear r
        simp only [UInt8.toNat_ofNat'] at HS
        go_wp2
        go_roundw
        case rel => exact ⟨k + 1, by omega, by go_num, by rw [← HS.out]; simp [show (x : Int) / 16777216 % 256 = (x : Int) / 16777216 by omega]⟩
        case measure => simp [intOf]; omega
    · have hkk : k = 32 := by omega
      subst hkk
      rw [List.take_of_length_le (Nat.le_of_eq HHL.out), row8_full H 32 HHL.out]
      have hsz : (valsB H).toArray.size = 32 := by rw [valsB_size, HHL.out]
      have hone : (valsB H).toArray.all (·.oneCell') = true := by simp [valsB, Value.oneCell']
      obtain ⟨C, hC⟩ : ∃ C, (valsB H).toArray = C := ⟨_, rfl⟩
      rw [hC] at hsz hone
      rw [hC]
      have HCC := Lib.hid hC
      have HG := Lib.hid (heap_alloc2_new w (.cells A 46) (.cells C 23))
      have HSELF := Lib.hid (setRow_self _ _ C 23 (0, 0) HG.out)
      have HINF := Lib.hid (show (Try.prog.info? 23).map (·.size) = some C.size by rw [hsz]; exact info_hash)
      clear hC
      go_wp2_with (first | (refine wpList_load_row rfl 23 (.tmp 2) rfl (w.heap.size + 1) rfl 23 C (0, 0) _ HG.out Try.underlying23 rfl HINF.out ?_) | (refine wpList_store_row rfl 23 (.tmp 2) (.tmp 20) rfl (w.heap.size + 1) C rfl rfl 23 C HG.out HINF.out rfl hone ?_; rw [HSELF.out]))
      refine bodyPost_ret (results_cell_row (p := 2) (ty := 23) Try.results34 _ _ (w.heap.size + 1) 23 C (0, 0) _ rfl HG.out Try.underlying23 rfl HINF.out) rfl ⟨by rw [HCC.out], ((Below.refl _ _).alloc (Nat.le_refl _) _).alloc (by simp) _⟩

theorem code_square (w : World) : Calls Try.prog 30 #[] w fun e w' => e = .returned (.agg (vals32 hL).toArray) ∧ Below w.heap.size w w' := by
  go_enter Try.func30, Try.ntmps30
  go_wp2
  refine bodyPost_ret (v := .agg (vals32 hL).toArray) (by simp [results, Try.results30, vals32, hL, go_sem]) rfl ⟨rfl, (Below.refl _ _).alloc (Nat.le_refl _) _⟩

end Go.Proofs.Ytlalipomphgcoaa.Sha
