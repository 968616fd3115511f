/- digit.Put. -/
import Derived.Test.YtlalipomphgcoaaDigitA
namespace Go.Proofs.Ytlalipomphgcoaa.Digit
open Go.RowKit

/-- What is left of a number behind k bytes; byte j, with its mark. -/
def quoP (m k : Nat) : Nat := m / 128 ^ k
def byteP (m j : Nat) : Nat := m / 128 ^ j % 128 + 128
def rowP (m k : Nat) : Array Value := ((List.range 10).map fun j => Value.int .u8 (if j < k then (byteP m j : Int) else 0)).toArray

theorem rowP_size (m k : Nat) : (rowP m k).size = 10 := by simp [rowP]
theorem rowP_get (m k j : Nat) (hj : j < 10) : (rowP m k)[j]? = some (.int .u8 (if j < k then (byteP m j : Int) else 0)) := by
  simp [rowP, hj]
theorem rowP_zero (m : Nat) : rowP m 0 = #[.int .u8 0, .int .u8 0, .int .u8 0, .int .u8 0, .int .u8 0, .int .u8 0, .int .u8 0, .int .u8 0, .int .u8 0, .int .u8 0] := rfl
theorem rowP_set (m k : Nat) (hk : k < 10) : (rowP m k).setIfInBounds k (.int .u8 (byteP m k)) = rowP m (k + 1) := by
  apply Array.ext_getElem?
  intro j
  rw [Array.getElem?_setIfInBounds, rowP_size]
  by_cases hj : j < 10
  · rw [rowP_get m (k + 1) j hj]
    by_cases h : k = j
    · subst h
      rw [if_pos rfl, if_pos hj, if_pos (by omega)]
    · rw [if_neg h, rowP_get m k j hj]
      by_cases hlt : j < k
      · rw [if_pos hlt, if_pos (by omega)]
      · rw [if_neg hlt, if_neg (by omega)]
  · rw [if_neg (by omega), Array.getElem?_eq_none (by rw [rowP_size]; omega), Array.getElem?_eq_none (by rw [rowP_size]; omega)]

theorem byte_or : ∀ y : Nat, y < 256 → y ||| 128 = y % 128 + 128 := by decide +kernel
theorem or_mark (x m k : Nat) (hx : x = quoP m k) : bits .or .u8 ((x : Int) % 256) 128 = (byteP m k : Int) := by
  have h := u8_or_nat (x % 256) 128 (by omega) (by omega)
  rw [byte_or _ (by omega)] at h
  have e : x % 256 % 128 + 128 = byteP m k := by
    subst hx
    unfold quoP byteP
    omega
  rw [e] at h
  exact h

theorem byteP_bd (m j : Nat) : 128 ≤ byteP m j ∧ byteP m j ≤ 255 := by unfold byteP; omega
theorem quoP_bd (m k : Nat) : quoP m k ≤ m := Nat.div_le_self _ _
theorem quoP_next (m k : Nat) : quoP m k / 128 = quoP m (k + 1) := by
  unfold quoP
  rw [Nat.div_div_eq_div_mul, Nat.pow_succ]

theorem put_list (m L : Nat) (hm : m < 128 ^ 10) (hL : (putL m).length = L) :
    ((List.range L).map fun j => if j + 1 = L then (byteP m j : Int) - 128 else (byteP m j : Int)).map (fun n => UInt8.ofNat n.toNat) = putL m := by
  apply List.ext_getElem?
  intro j
  rw [List.map_map, List.getElem?_map]
  by_cases hj : j < L
  · rw [List.getElem?_range hj]
    simp only [Option.map_some, Function.comp]
    by_cases hlast : j + 1 = L
    · rw [if_pos hlast]
      have h := putF_last 10 m j hm (by unfold putL at hL; omega)
      unfold putL
      have h2 := h.2
      have e : ((byteP m j : Int) - 128).toNat = m / 128 ^ j := by
        unfold byteP
        generalize m / 128 ^ j = q at h2 ⊢
        omega
      rw [h.1, e]
    · rw [if_neg hlast]
      unfold putL
      rw [putF_get 10 m j (by unfold putL at hL; omega)]
      rfl
  · rw [List.getElem?_eq_none (by simp; omega), List.getElem?_eq_none (by omega)]
    rfl

theorem put_conv (m L : Nat) (w : World) (hm : m < 128 ^ 10) (hL : (putL m).length = L) (h1 : 1 ≤ L) (h10 : L ≤ 10) :
    (convert 56 9 (.slice (some ⟨w.heap.size, 0, none⟩) L 10)).run Try.prog (w.alloc (.cells ((rowP m L).setIfInBounds (L - 1) (.int .u8 ((byteP m (L - 1) : Int) - 128))) 103)) =
      .ok (.string ⟨(putL m).toArray⟩) (w.alloc (.cells ((rowP m L).setIfInBounds (L - 1) (.int .u8 ((byteP m (L - 1) : Int) - 128))) 103)) := by
  rw [← str_eq (put_list m L hm hL)]
  refine conv_row _ _ L 10 _ (by simp) fun i hi => ?_
  rw [World.cell?_alloc_mark, Array.getElem?_setIfInBounds, rowP_size]
  have e : ((List.range L).map fun j => if j + 1 = L then (byteP m j : Int) - 128 else (byteP m j : Int)).getD i 0 = if i + 1 = L then (byteP m i : Int) - 128 else (byteP m i : Int) := by
    simp [List.getD, hi]
  rw [e]
  by_cases h : L - 1 = i
  · rw [if_pos h, if_pos (by omega), if_pos (by omega), h]
  · rw [if_neg h, if_neg (by omega), rowP_get m L i (by omega), if_pos hi]

theorem slice10 (b L : Nat) (h : L ≤ 10) (w : World) : (Instr.sliceAt 103 (.pointer (some ⟨b, 0, none⟩)) none (some (.int .i64 (L : Int))) none).run Try.prog w = .ok (.slice (some ⟨b, 0, none⟩) L 10) w := by
  have ht : Try.prog.underlying 103 = some (.array 10 5) := Try.underlying103
  have e : Try.prog.elem 103 = 5 := by simp [Program.elem, ht]
  have e2 : Try.prog.arrayLen 103 = 10 := by simp [Program.arrayLen, ht]
  rw [run_sliceAt_array_h w 103 _ (by rw [e, e2]; exact ht) .i64 (L : Int) (by omega) (by rw [e2]; omega), e, e2, Try.sizeOf5]
  simp [Result.andThen, slicedAt, Addr.add]

set_option maxHeartbeats 400000 in
/-- digit.Put -/
theorem put_any (m : Nat) (w : World) (h1 : m ≤ 18446744073709551615) :
    Calls Try.prog 66 #[.int .u64 m] w fun e w' => e = .returned (.string ⟨(putL m).toArray⟩) ∧ Below w.heap.size w w' := by
  obtain ⟨L, hL⟩ : ∃ L, (putL m).length = L := ⟨_, rfl⟩
  have hL1 : 1 ≤ L := by have := putL_pos m; omega
  have hL10 : L ≤ 10 := by have := putL_len m; omega
  have hsz := fun w => size_any m w h1
  rw [hL] at hsz
  have hconv := put_conv m L w (by omega) hL hL1 hL10
  have HL := Lib.hid hL
  have HS := Lib.hid hsz
  clear hL hsz
  go_enter Try.func66, Try.ntmps66
  go_wp2_with (go_at_call 81; refine (HS.out _).mono ?_; rintro e w' ⟨rfl, rfl⟩)
  go_loopw [0, 9] (fun n i wr => ∃ k : Nat, k ≤ L ∧ i = .int .i64 k ∧ n = .int .u64 (quoP m k) ∧ wr = w.alloc (.cells (rowP m k) 103)) (fun _ i _ => L - (intOf i).toNat)
  case atStart => exact ⟨0, by omega, rfl, by simp [quoP], rfl⟩
  case round =>
    obtain ⟨k, hk, rfl, rfl, rfl⟩ := hrel
    by_cases hlt : k < L
    · have hq := quoP_bd m k
      have ho := or_mark _ m k rfl
      have hb := byteP_bd m k
      have hg := rowP_get m k k (by omega)
      have hs := rowP_set m k (by omega)
      go_wp2
      go_roundw
      case rel => exact ⟨k + 1, by omega, by go_num, by rw [← quoP_next]; rfl, rfl⟩
      case measure => simp [intOf]; omega
    · obtain rfl : k = L := by omega
      have hb := byteP_bd m (k - 1)
      have hg := rowP_get m k (k - 1) (by omega)
      rw [if_pos (by omega)] at hg
      have hsl := slice10 w.heap.size k hL10
      go_wp2
      go_ret
      exact ⟨rfl, (Below.refl _ _).alloc (Nat.le_refl _) _⟩

end Go.Proofs.Ytlalipomphgcoaa.Digit
