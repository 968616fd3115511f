/- Leaf functions of digit: what each call returns. -/
import Derived.Test.YtdgaoebjbhomdaaDoorProg
import Derived.Test.YtdgaoebjbhomdaaDoorDigitMath
import Derived.Test.YtdgaoebjbhomdaaDoorShelf
import Derived.WalkKit
import Derived.WalkSpells
import Derived.Handy
import Derived.Laws.BytesArg
import Derived.Laws.BitsAllLaws
import Derived.Lib.Hide
import Derived.Deep.RegionWith
namespace Go.Proofs.YtdgaoebjbhomdaaDoor.Digit
open Go.RowKit

/-- What a slice's cells tell as a text. -/
theorem conv_row (w : World) (b len cap : Nat) (xs : List Int) (hlen : xs.length = len)
    (hcell : ∀ i, i < len → w.cell? ⟨b, i, none⟩ = some (.int .u8 (xs.getD i 0))) :
    (convert 109 9 (.slice (some ⟨b, 0, none⟩) len cap)).run Tryd.prog w = .ok (.string (strOfNums xs)) w :=
  run_convert_bytes_arg w 109 5 Tryd.underlying109 Tryd.underlying5 b 0 len cap xs hlen (fun i hi => by rw [Nat.zero_add]; exact hcell i hi) 9 Tryd.underlying9

theorem conv_new (w : World) (xs : List Int) (t : TypeId) (len cap : Nat) (hlen : xs.length = len) :
    (convert 109 9 (.slice (some ⟨w.heap.size, 0, none⟩) len cap)).run Tryd.prog (w.alloc (.cells ((xs.map (Value.int .u8)).toArray) t)) = .ok (.string (strOfNums xs)) (w.alloc (.cells ((xs.map (Value.int .u8)).toArray) t)) :=
  conv_row _ _ len cap xs hlen fun i hi => by
    rw [World.cell?_alloc_mark]
    simp [List.getElem?_eq_getElem (show i < xs.length by omega), List.getD]

theorem str_eq {l : List Int} {m : List UInt8} (h : l.map (fun n => UInt8.ofNat n.toNat) = m) : strOfNums l = ⟨m.toArray⟩ := by
  unfold strOfNums
  rw [h]

theorem u8_mod (x : Nat) : UInt8.ofNat (x % 256) = UInt8.ofNat x := by
  apply UInt8.toNat_inj.1
  simp [UInt8.toNat_ofNat']

theorem ret_str {a b : ByteArray} (h : a = b) : Ending.returned (.string a) = .returned (.string b) := by rw [h]
theorem ret_bool {a b : Bool} (h : a = b) : Ending.returned (.bool a) = .returned (.bool b) := by rw [h]
theorem ret_int {k : IntKind} {a b : Int} (h : a = b) : Ending.returned (.int k a) = .returned (.int k b) := by rw [h]

theorem int_beq (a b : Nat) : ((a : Int) == (b : Int)) = (a == b) := by
  rw [Bool.eq_iff_iff]
  simp only [beq_iff_eq]
  omega
theorem orEq {a b c d : Bool} (h : a = b) (k : c = d) : (a || c) = (b || d) := by rw [h, k]

theorem eight_list (m : Nat) : [(m : Int) / 256 / 256 / 256 / 256 / 256 / 256 / 256, (m : Int) / 256 / 256 / 256 / 256 / 256 / 256 % 256,
    (m : Int) / 256 / 256 / 256 / 256 / 256 % 256, (m : Int) / 256 / 256 / 256 / 256 % 256, (m : Int) / 256 / 256 / 256 % 256,
    (m : Int) / 256 / 256 % 256, (m : Int) / 256 % 256, (m : Int) % 256].map (fun n => UInt8.ofNat n.toNat) = eightL m := by
  simp only [List.map_cons, List.map_nil, eightL, eightF, List.nil_append, List.cons_append]
  have e : ∀ x : Nat, UInt8.ofNat ((x : Int) % 256).toNat = UInt8.ofNat x := fun x => u8_mod x
  have c : ∀ {a b : UInt8} {l k : List UInt8}, a = b → l = k → a :: l = b :: k := fun h g => by rw [h, g]
  exact c rfl (c (e _) (c (e _) (c (e _) (c (e _) (c (e _) (c (e _) (c (e _) rfl)))))))

set_option maxHeartbeats 400000 in
/-- digit.Eight -/
theorem eight_any (n : Nat) (w : World) (h1 : n ≤ 18446744073709551615) :
    Calls Tryd.prog 31 #[.int .u64 n] w fun e w' => e = .returned (.string ⟨(eightL n).toArray⟩) ∧ Below w.heap.size w w' := by
  have hk : ∀ (a b c d e f g h : Int), (convert 109 9 (.slice (some ⟨w.heap.size, 0, none⟩) 8 8)).run Tryd.prog (w.alloc (.cells #[.int .u8 a, .int .u8 b, .int .u8 c, .int .u8 d, .int .u8 e, .int .u8 f, .int .u8 g, .int .u8 h] 119)) = .ok (.string (strOfNums [a, b, c, d, e, f, g, h])) (w.alloc (.cells #[.int .u8 a, .int .u8 b, .int .u8 c, .int .u8 d, .int .u8 e, .int .u8 f, .int .u8 g, .int .u8 h] 119)) :=
    fun a b c d e f g h => conv_new w [a, b, c, d, e, f, g, h] _ 8 8 rfl
  go_enter Tryd.func31, Tryd.ntmps31
  go_wp2
  go_rounds 9
  go_ret
  exact ⟨ret_str (str_eq (eight_list n)), (Below.refl _ _).alloc (Nat.le_refl _) _⟩

theorem take_snoc (s : ByteArray) (k : Nat) (h : k < s.size) : s.data.toList.take (k + 1) = s.data.toList.take k ++ [s[k]] := by
  rw [List.take_succ_eq_append_getElem (by simpa using h)]; rfl

theorem valB_snoc (s : ByteArray) (k : Nat) (h : k < s.size) : valB 0 (s.data.toList.take (k + 1)) = valB 0 (s.data.toList.take k) * 256 + s[k].toNat := by
  rw [take_snoc s k h, valB_append]
  rfl

theorem valB_bd (l : List UInt8) (k : Nat) (h : k ≤ 7) : valB 0 (l.take k) < 72057594037927936 := by
  have := valB_lt (l.take k) 0
  have hp : 256 ^ (l.take k).length ≤ 256 ^ 7 := Nat.pow_le_pow_right (by omega) (Nat.le_trans (List.length_take_le _ _) h)
  have h7 : (256 : Nat) ^ 7 = 72057594037927936 := by decide
  omega

theorem or_byte (x c : Nat) (hx : x < 72057594037927936) (hc : c < 256) : bits .or .u64 ((x : Int) * 256) (c : Int) = (x : Int) * 256 + (c : Int) := by
  have h1 := Go.u64_or_nat (x * 256) c (by omega) (by omega)
  rw [Go.nat_join 8 (x * 256) c (by omega) (by omega)] at h1
  simpa using h1

set_option maxHeartbeats 400000 in
theorem size_any (n : Nat) (w : World) (h1 : n ≤ 18446744073709551615) :
    Calls Tryd.prog 91 #[.int .u64 n] w fun e w' => e = .returned (.int .i64 (putL n).length) ∧ w = w' := by
  have ho : bits .or .u64 (n : Int) 1 = ((n ||| 1 : Nat) : Int) := Go.u64_or_nat n 1 (by omega) (by omega)
  have hlt : n ||| 1 < 18446744073709551616 := Nat.or_lt_two_pow (n := 64) (by omega) (by omega)
  have hb := Lib.bitLen_le (n ||| 1) 64 (by omega) hlt
  have hp := putL_size10 n (by omega)
  have HP := Lib.hid hp
  clear hp
  go_enter Tryd.func91, Tryd.ntmps91
  go_wp2_with (go_at_call 104; refine (Tryd.bits_Len64 _ _ (by omega) (by omega)).mono ?_; rintro e w' ⟨rfl, rfl⟩)
  go_ret
  exact ⟨ret_int (by rw [HP.out]; omega), rfl⟩

set_option maxHeartbeats 400000 in
theorem ends_any (i c : Nat) (w : World) (h1 : i ≤ 9) :
    Calls Tryd.prog 96 #[.int .i64 i, .int .u8 c] w fun e w' => e = .returned (.bool (endsB i c)) ∧ w = w' := by
  by_cases h9 : i = 9
  · subst h9
    go_enter Tryd.func96, Tryd.ntmps96
    go_wp2
    go_ret
    exact ⟨ret_bool (by simp only [endsB, if_true]; exact int_beq c 1), rfl⟩
  · by_cases h0 : i = 0
    · subst h0
      go_enter Tryd.func96, Tryd.ntmps96
      go_wp2
      go_ret
      exact ⟨ret_bool (by simp [endsB]), rfl⟩
    · go_enter Tryd.func96, Tryd.ntmps96
      go_wp2
      go_ret
      exact ⟨ret_bool (by simp only [endsB, if_neg h9]; exact orEq (int_beq i 0) (congrArg (fun b => !b) (int_beq c 0))), rfl⟩

end Go.Proofs.YtdgaoebjbhomdaaDoor.Digit

namespace Go.Proofs.YtdgaoebjbhomdaaDoor.Digit
open Go.RowKit

/-- What is left of a number behind k bytes; byte j, with its mark. -/
def quoP (m k : Nat) : Nat := m / 128 ^ k
def byteP (m j : Nat) : Nat := m / 128 ^ j % 128 + 128
def rowP (m k : Nat) : Array Value := ((List.range 10).map fun j => Value.int .u8 (if j < k then (byteP m j : Int) else 0)).toArray

theorem rowP_size (m k : Nat) : (rowP m k).size = 10 := by simp [rowP]
theorem rowP_get (m k j : Nat) (hj : j < 10) : (rowP m k)[j]? = some (.int .u8 (if j < k then (byteP m j : Int) else 0)) := by
  simp [rowP, hj]
theorem rowP_zero (m : Nat) : rowP m 0 = #[.int .u8 0, .int .u8 0, .int .u8 0, .int .u8 0, .int .u8 0, .int .u8 0, .int .u8 0, .int .u8 0, .int .u8 0, .int .u8 0] := rfl
theorem rowP_set (m k : Nat) (hk : k < 10) : (rowP m k).setIfInBounds k (.int .u8 (byteP m k)) = rowP m (k + 1) := by
  apply Array.ext_getElem?
  intro j
  rw [Array.getElem?_setIfInBounds, rowP_size]
  by_cases hj : j < 10
  · rw [rowP_get m (k + 1) j hj]
    by_cases h : k = j
    · subst h
      rw [if_pos rfl, if_pos hj, if_pos (by omega)]
    · rw [if_neg h, rowP_get m k j hj]
      by_cases hlt : j < k
      · rw [if_pos hlt, if_pos (by omega)]
      · rw [if_neg hlt, if_neg (by omega)]
  · rw [if_neg (by omega), Array.getElem?_eq_none (by rw [rowP_size]; omega), Array.getElem?_eq_none (by rw [rowP_size]; omega)]

theorem byte_or : ∀ y : Nat, y < 256 → y ||| 128 = y % 128 + 128 := by decide +kernel
theorem or_mark (x m k : Nat) (hx : x = quoP m k) : bits .or .u8 ((x : Int) % 256) 128 = (byteP m k : Int) := by
  have h := u8_or_nat (x % 256) 128 (by omega) (by omega)
  rw [byte_or _ (by omega)] at h
  have e : x % 256 % 128 + 128 = byteP m k := by
    subst hx
    unfold quoP byteP
    omega
  rw [e] at h
  exact h

theorem byteP_bd (m j : Nat) : 128 ≤ byteP m j ∧ byteP m j ≤ 255 := by unfold byteP; omega
theorem quoP_bd (m k : Nat) : quoP m k ≤ m := Nat.div_le_self _ _
theorem quoP_next (m k : Nat) : quoP m k / 128 = quoP m (k + 1) := by
  unfold quoP
  rw [Nat.div_div_eq_div_mul, Nat.pow_succ]

theorem put_list (m L : Nat) (hm : m < 128 ^ 10) (hL : (putL m).length = L) :
    ((List.range L).map fun j => if j + 1 = L then (byteP m j : Int) - 128 else (byteP m j : Int)).map (fun n => UInt8.ofNat n.toNat) = putL m := by
  apply List.ext_getElem?
  intro j
  rw [List.map_map, List.getElem?_map]
  by_cases hj : j < L
  · rw [List.getElem?_range hj]
    simp only [Option.map_some, Function.comp]
    by_cases hlast : j + 1 = L
    · rw [if_pos hlast]
      have h := putF_last 10 m j hm (by unfold putL at hL; omega)
      unfold putL
      have h2 := h.2
      have e : ((byteP m j : Int) - 128).toNat = m / 128 ^ j := by
        unfold byteP
        generalize m / 128 ^ j = q at h2 ⊢
        omega
      rw [h.1, e]
    · rw [if_neg hlast]
      unfold putL
      rw [putF_get 10 m j (by unfold putL at hL; omega)]
      rfl
  · rw [List.getElem?_eq_none (by simp; omega), List.getElem?_eq_none (by omega)]
    rfl

theorem put_conv (m L : Nat) (w : World) (hm : m < 128 ^ 10) (hL : (putL m).length = L) (h1 : 1 ≤ L) (h10 : L ≤ 10) :
    (convert 109 9 (.slice (some ⟨w.heap.size, 0, none⟩) L 10)).run Tryd.prog (w.alloc (.cells ((rowP m L).setIfInBounds (L - 1) (.int .u8 ((byteP m (L - 1) : Int) - 128))) 146)) =
      .ok (.string ⟨(putL m).toArray⟩) (w.alloc (.cells ((rowP m L).setIfInBounds (L - 1) (.int .u8 ((byteP m (L - 1) : Int) - 128))) 146)) := by
  rw [← str_eq (put_list m L hm hL)]
  refine conv_row _ _ L 10 _ (by simp) fun i hi => ?_
  rw [World.cell?_alloc_mark, Array.getElem?_setIfInBounds, rowP_size]
  have e : ((List.range L).map fun j => if j + 1 = L then (byteP m j : Int) - 128 else (byteP m j : Int)).getD i 0 = if i + 1 = L then (byteP m i : Int) - 128 else (byteP m i : Int) := by
    simp [List.getD, hi]
  rw [e]
  by_cases h : L - 1 = i
  · rw [if_pos h, if_pos (by omega), if_pos (by omega), h]
  · rw [if_neg h, if_neg (by omega), rowP_get m L i (by omega), if_pos hi]

theorem slice10 (b L : Nat) (h : L ≤ 10) (w : World) : (Instr.sliceAt 146 (.pointer (some ⟨b, 0, none⟩)) none (some (.int .i64 (L : Int))) none).run Tryd.prog w = .ok (.slice (some ⟨b, 0, none⟩) L 10) w := by
  have ht : Tryd.prog.underlying 146 = some (.array 10 5) := Tryd.underlying146
  have e : Tryd.prog.elem 146 = 5 := by simp [Program.elem, ht]
  have e2 : Tryd.prog.arrayLen 146 = 10 := by simp [Program.arrayLen, ht]
  rw [run_sliceAt_array_h w 146 _ (by rw [e, e2]; exact ht) .i64 (L : Int) (by omega) (by rw [e2]; omega), e, e2, Tryd.sizeOf5]
  simp [Result.andThen, slicedAt, Addr.add]

set_option maxHeartbeats 400000 in
/-- digit.Put -/
theorem put_any (m : Nat) (w : World) (h1 : m ≤ 18446744073709551615) :
    Calls Tryd.prog 70 #[.int .u64 m] w fun e w' => e = .returned (.string ⟨(putL m).toArray⟩) ∧ Below w.heap.size w w' := by
  obtain ⟨L, hL⟩ : ∃ L, (putL m).length = L := ⟨_, rfl⟩
  have hL1 : 1 ≤ L := by have := putL_pos m; omega
  have hL10 : L ≤ 10 := by have := putL_len m; omega
  have hsz := fun w => size_any m w h1
  rw [hL] at hsz
  have hconv := put_conv m L w (by omega) hL hL1 hL10
  have HL := Lib.hid hL
  have HS := Lib.hid hsz
  clear hL hsz
  go_enter Tryd.func70, Tryd.ntmps70
  go_wp2_with (go_at_call 91; refine (HS.out _).mono ?_; rintro e w' ⟨rfl, rfl⟩)
  go_loopw [0, 9] (fun n i wr => ∃ k : Nat, k ≤ L ∧ i = .int .i64 k ∧ n = .int .u64 (quoP m k) ∧ wr = w.alloc (.cells (rowP m k) 146)) (fun _ i _ => L - (intOf i).toNat)
  case atStart => exact ⟨0, by omega, rfl, by simp [quoP], rfl⟩
  case round =>
    obtain ⟨k, hk, rfl, rfl, rfl⟩ := hrel
    by_cases hlt : k < L
    · have hq := quoP_bd m k
      have ho := or_mark _ m k rfl
      have hb := byteP_bd m k
      have hg := rowP_get m k k (by omega)
      have hs := rowP_set m k (by omega)
      go_wp2
      go_roundw
      case rel => exact ⟨k + 1, by omega, by go_num, by rw [← quoP_next]; rfl, rfl⟩
      case measure => simp [intOf]; omega
    · obtain rfl : k = L := by omega
      have hb := byteP_bd m (k - 1)
      have hg := rowP_get m k (k - 1) (by omega)
      rw [if_pos (by omega)] at hg
      have hsl := slice10 w.heap.size k hL10
      go_wp2
      go_ret
      exact ⟨rfl, (Below.refl _ _).alloc (Nat.le_refl _) _⟩

end Go.Proofs.YtdgaoebjbhomdaaDoor.Digit

namespace Go.Proofs.YtdgaoebjbhomdaaDoor.Digit
open Go.RowKit

/-- What is gathered behind one byte more. -/
def stepP (acc c k : Nat) : Nat := acc + c % 128 * 128 ^ k % 18446744073709551616

theorem pow128 (k : Nat) : (128 : Nat) ^ k = 2 ^ (7 * k) := by
  rw [Nat.pow_mul]

theorem pow_le9 (k : Nat) (h : k ≤ 9) : (128 : Nat) ^ k ≤ 9223372036854775808 := by
  have h1 : (128 : Nat) ^ k ≤ 128 ^ 9 := Nat.pow_le_pow_right (by omega) h
  have h2 : (128 : Nat) ^ 9 = 9223372036854775808 := by decide
  omega

theorem pow_le8 (k : Nat) (h : k ≤ 8) : (128 : Nat) ^ k ≤ 72057594037927936 := by
  have h1 : (128 : Nat) ^ k ≤ 128 ^ 8 := Nat.pow_le_pow_right (by omega) h
  have h2 : (128 : Nat) ^ 8 = 72057594037927936 := by decide
  omega

theorem u8_and127 (c : Nat) (h : c < 256) : bits .and .u8 (c : Int) 127 = ((c % 128 : Nat) : Int) := by
  have h1 := u8_and_nat c 127 h (by omega)
  rw [nat_mask7] at h1
  exact h1

theorem u64_nat (n : Nat) (h : n < 18446744073709551616) : IntKind.u64.wrap (n : Int) = (n : Int) := IntWalk.u64_in _ ⟨by omega, by omega⟩

theorem step_or (acc c k : Nat) (hc : c < 256) (hk : k ≤ 9) (ha : acc < 128 ^ k) :
    bits .or .u64 (acc : Int) (IntKind.u64.wrap (IntKind.u64.wrap (bits .and .u8 (c : Int) 127) * 2 ^ (7 * k))) = (stepP acc c k : Int) := by
  rw [u8_and127 c hc, u64_nat (c % 128) (by omega)]
  have e1 : ((c % 128 : Nat) : Int) * 2 ^ (7 * k) = ((c % 128 * 128 ^ k : Nat) : Int) := by
    rw [pow128, Int.natCast_mul, Int.natCast_pow]
    rfl
  have e2 : IntKind.u64.wrap ((c % 128 * 128 ^ k : Nat) : Int) = ((c % 128 * 128 ^ k % 18446744073709551616 : Nat) : Int) := by
    rw [IntKind.wrap_u64]
    rfl
  have hp := pow_le9 k hk
  have hm : c % 128 * 128 ^ k % 18446744073709551616 < 18446744073709551616 := Nat.mod_lt _ (by omega)
  rw [e1, e2, u64_or_nat acc _ (by omega) hm, Nat.or_comm]
  have hd : c % 128 * 128 ^ k % 18446744073709551616 % 2 ^ (7 * k) = 0 := by
    have h64 : 18446744073709551616 = 2 ^ (7 * k) * 2 ^ (64 - 7 * k) := by
      rw [← Nat.pow_add, show 7 * k + (64 - 7 * k) = 64 by omega]
    rw [h64, Nat.mod_mul_right_mod, pow128]
    exact Nat.mul_mod_left _ _
  rw [nat_join (7 * k) _ acc hd (by rw [← pow128]; exact ha), Nat.add_comm]
  rfl

theorem step_small (acc c k : Nat) (hk : k ≤ 8) : stepP acc c k = acc + c % 128 * 128 ^ k := by
  have hp := pow_le8 k hk
  have : c % 128 * 128 ^ k ≤ 127 * 72057594037927936 := Nat.mul_le_mul (by omega) hp
  unfold stepP
  rw [Nat.mod_eq_of_lt (by omega)]

theorem step_bd (acc c k : Nat) (hk : k ≤ 8) (ha : acc < 128 ^ k) : stepP acc c k < 128 ^ (k + 1) := by
  rw [step_small acc c k hk, Nat.pow_succ, Nat.mul_comm (128 ^ k) 128]
  have : c % 128 * 128 ^ k ≤ 127 * 128 ^ k := Nat.mul_le_mul_right _ (by omega)
  omega

theorem take_at (s : ByteArray) (k : Nat) (h : k < s.size) : s.data.toList.drop k = s[k] :: s.data.toList.drop (k + 1) := by
  rw [List.drop_eq_getElem_cons (by simpa using h)]
  rfl

theorem take_end (l : List UInt8) (k acc : Nat) (hk : k < 10) (h : l.length = k) : takeF (10 - k) k acc (l.drop k) = (0, 0, 10) := by
  rw [List.drop_eq_nil_of_le (by omega), show 10 - k = (9 - k) + 1 by omega]
  rfl

theorem take_ok (s : ByteArray) (k acc : Nat) (hk : k < 10) (h : k < s.size) (hc : s[k].toNat < 128) (he : endsB k s[k].toNat = true) :
    takeF (10 - k) k acc (s.data.toList.drop k) = (stepP acc s[k].toNat k, k + 1, 0) := by
  rw [take_at s k h, show 10 - k = (9 - k) + 1 by omega, takeF, if_pos hc, he]
  simp only [if_true, Prod.mk.injEq, and_true]
  unfold stepP
  rw [Nat.mod_eq_of_lt hc]
  by_cases h9 : k = 9
  · subst h9
    have : s[9].toNat = 1 := by simpa [endsB] using he
    rw [this]
  · have hp := pow_le8 k (by omega)
    have : s[k].toNat * 128 ^ k ≤ 127 * 72057594037927936 := Nat.mul_le_mul (by omega) hp
    rw [Nat.mod_eq_of_lt (by omega)]

theorem take_no (s : ByteArray) (k acc : Nat) (hk : k < 10) (h : k < s.size) (hc : s[k].toNat < 128) (he : endsB k s[k].toNat = false) :
    takeF (10 - k) k acc (s.data.toList.drop k) = (0, 0, 6) := by
  rw [take_at s k h, show 10 - k = (9 - k) + 1 by omega, takeF, if_pos hc, he]
  rfl

theorem take_on (s : ByteArray) (k acc : Nat) (hk : k < 10) (h : k < s.size) (hc : ¬ s[k].toNat < 128) :
    takeF (10 - k) k acc (s.data.toList.drop k) = takeF (10 - (k + 1)) (k + 1) (stepP acc s[k].toNat k) (s.data.toList.drop (k + 1)) := by
  rw [take_at s k h, show 10 - k = (10 - (k + 1)) + 1 by omega, takeF, if_neg hc]
  by_cases h9 : k = 9
  · subst h9
    simp only [Nat.reduceSub, Nat.reduceAdd, takeF]
  · have hlt := s[k].toNat_lt
    rw [step_small _ _ _ (by omega), show s[k].toNat % 128 = s[k].toNat - 128 by omega]

set_option maxRecDepth 100000 in
set_option maxHeartbeats 400000 in
/-- digit.Take -/
theorem take_any (s : ByteArray) (w : World) (hs : s.size ≤ 9223372036854775807) :
    Calls Tryd.prog 79 #[.string s] w fun e w' => e = .returned (.tuple #[.int .u64 (takeL s.data.toList).1, .int .i64 (takeL s.data.toList).2.1, .int .i64 (takeL s.data.toList).2.2]) ∧ w = w' := by
  go_enter Tryd.func79, Tryd.ntmps79
  go_wp2
  go_loop [2, 6] (fun n i => ∃ k acc : Nat, k ≤ 10 ∧ k ≤ s.size ∧ i = .int .i64 k ∧ n = .int .u64 acc ∧ takeL s.data.toList = takeF (10 - k) k acc (s.data.toList.drop k) ∧ (k ≤ 9 → acc < 128 ^ k)) (fun _ i => 10 - (intOf i).toNat)
  case atStart => exact ⟨0, 0, by omega, by omega, rfl, rfl, rfl, fun _ => by omega⟩
  case round =>
    obtain ⟨k, acc, hk, hks0, rfl, rfl, htk, hacc⟩ := hrel
    have HT := Lib.hid htk
    have HA := Lib.hid hacc
    clear htk hacc
    by_cases hlt : k < 10
    · by_cases hend : s.size = k
      · have HE := Lib.hid (take_end s.data.toList k acc hlt (by simpa using hend))
        subst hend
        go_wp2
        go_ret3
        exact ⟨by rw [HT.out, HE.out]; rfl, rfl⟩
      · have hks : k < s.size := by omega
        · have hc8 := s[k].toNat_lt
          have ho := step_or acc s[k].toNat k (by omega) (by omega) (HA.out (by omega))
          have hne : ((k : Int) == (s.size : Int)) = false := by simp; omega
          by_cases hc : s[k].toNat < 128
          · by_cases he : endsB k s[k].toNat = true
            · have hE := fun w => ends_any k s[k].toNat w (by omega)
              have HR := Lib.hid (take_ok s k acc hlt hks hc he)
              rw [he] at hE
              have HE := Lib.hid hE
              clear hE he
              go_wp2_with (go_at_call 96; refine (HE.out _).mono ?_; rintro e w' ⟨rfl, rfl⟩)
              go_ret3
              exact ⟨by rw [HT.out, HR.out]; rfl, rfl⟩
            · have hE := fun w => ends_any k s[k].toNat w (by omega)
              rw [Bool.not_eq_true] at he
              have HR := Lib.hid (take_no s k acc hlt hks hc he)
              rw [he] at hE
              have HE := Lib.hid hE
              clear hE he
              go_wp2_with (go_at_call 96; refine (HE.out _).mono ?_; rintro e w' ⟨rfl, rfl⟩)
              go_ret3
              exact ⟨by rw [HT.out, HR.out]; rfl, rfl⟩
          · have HR := Lib.hid (take_on s k acc hlt hks hc)
            go_wp2_with fail
            go_round
            case rel => exact ⟨k + 1, stepP acc s[k].toNat k, by omega, by omega, by go_num, rfl, HT.out.trans HR.out, fun h => step_bd _ _ _ (by omega) (HA.out (by omega))⟩
            case measure => simp [intOf]; omega
    · obtain rfl : k = 10 := by omega
      go_wp2
      go_ret3
      exact ⟨by rw [HT.out]; rfl, rfl⟩

end Go.Proofs.YtdgaoebjbhomdaaDoor.Digit

namespace Go.Proofs.YtdgaoebjbhomdaaDoor.Digit
open Go.RowKit

theorem bytes_eq {a : ByteArray} {l : List UInt8} (h : a.data.toList = l) : a = ⟨l.toArray⟩ := by
  apply ByteArray.ext
  apply Array.toList_inj.1
  rw [h]

set_option maxRecDepth 100000 in
set_option maxHeartbeats 400000 in
/-- digit.PutText -/
theorem putText_any (s : ByteArray) (w : World) (hs : s.size ≤ 70368744177664) :
    Calls Tryd.prog 66 #[.string s] w fun e w' => e = .returned (.string ⟨(putTextL s.data.toList).toArray⟩) ∧ Below w.heap.size w w' := by
  have hl := putL_len s.size
  go_enter Tryd.func66, Tryd.ntmps66
  go_wp2_with (go_at_call 70; refine (put_any _ _ (by omega)).mono ?_; rintro e w' ⟨rfl, hb⟩)
  go_ret
  exact ⟨ret_str (bytes_eq (by simp [putTextL])), hb⟩

theorem takeText_err (l : List UInt8) (most : Int) (h : (takeL l).2.2 ≠ 0) : takeTextL l most = ([], 0, (takeL l).2.2) := by
  unfold takeTextL
  rw [if_pos h]
theorem takeText_long (l : List UInt8) (most : Int) (n k : Nat) (ht : takeL l = (n, k, 0)) (h : most < 0 ∨ most < n) : takeTextL l most = ([], 0, 3) := by
  unfold takeTextL
  rw [ht]
  rw [if_neg (by simp), if_pos h]
theorem takeText_short (l : List UInt8) (most : Int) (n k : Nat) (ht : takeL l = (n, k, 0)) (h0 : ¬ most < 0) (h1 : ¬ most < n) (h : l.length - k < n) : takeTextL l most = ([], 0, 10) := by
  unfold takeTextL
  rw [ht]
  rw [if_neg (by simp), if_neg (by rintro (h | h) <;> contradiction), if_pos h]
theorem takeText_fits (l : List UInt8) (most : Int) (n k : Nat) (ht : takeL l = (n, k, 0)) (h0 : ¬ most < 0) (h1 : ¬ most < n) (h : ¬ l.length - k < n) : takeTextL l most = ((l.drop k).take n, k + n, 0) := by
  unfold takeTextL
  rw [ht]
  rw [if_neg (by simp), if_neg (by rintro (h | h) <;> contradiction), if_neg h]
theorem ret3_text {a b : ByteArray} {x y : Int} {k : IntKind} {c : Value} (h : a = b) (g : x = y) : Ending.returned (.tuple #[.string a, .int k x, c]) = .returned (.tuple #[.string b, .int k y, c]) := by rw [h, g]

end Go.Proofs.YtdgaoebjbhomdaaDoor.Digit

namespace Go.Proofs.YtdgaoebjbhomdaaDoor.Digit
open Go.RowKit

def byteIn : Option Value → Int
  | some (.int _ x) => x
  | _ => 0
def isByte : Option Value → Bool
  | some (.int .u8 _) => true
  | _ => false

@[go_sem] theorem isByte_int (x : Int) : isByte (some (.int .u8 x)) = true := rfl
@[go_sem] theorem byteIn_int (x : Int) : byteIn (some (.int .u8 x)) = x := rfl

@[go_sem] theorem strOne_size (x : Int) : (strOfNums [x]).size = 1 := rfl

@[go_sem] theorem conv_one (wx : World) (b : Nat) (h : isByte (wx.cell? ⟨b, 0, none⟩) = true) :
    (convert 109 9 (.slice (some ⟨b, 0, none⟩) 1 1)).run Tryd.prog wx = .ok (.string (strOfNums [byteIn (wx.cell? ⟨b, 0, none⟩)])) wx := by
  unfold isByte at h
  split at h
  · rename_i x hx
    refine conv_row wx b 1 1 _ rfl fun i hi => ?_
    obtain rfl : i = 0 := by omega
    rw [hx]
    rfl
  · simp at h

theorem cast128 (n : Nat) : ((n : Int) % 128 + 128).toNat = n % 128 + 128 := by omega

theorem bcell {W w1 : World} (hb : Below W.heap.size W w1) : (∀ b o, b < W.heap.size → w1.cell? ⟨b, o, none⟩ = W.cell? ⟨b, o, none⟩) ∧ (∀ b o, b < W.heap.size → w1.frozen? ⟨b, o, none⟩ = W.frozen? ⟨b, o, none⟩) :=
  ⟨fun b o h => hb.cell (p := ⟨b, o, none⟩) h, fun b o h => hb.frozen (p := ⟨b, o, none⟩) h⟩

set_option maxRecDepth 100000 in
set_option maxHeartbeats 400000 in
theorem refPut_low (n : Nat) (w : World) (h : n < 128) :
    Calls Tryd.prog 64 #[.int .u64 n] w fun e w' => e = .returned (.string ⟨#[UInt8.ofNat n]⟩) ∧ Below w.heap.size w w' := by
  go_enter Tryd.func64, Tryd.ntmps64
  go_wp2_with fail
  go_ret
  exact ⟨ret_str (by simp [strOfNums]), (Below.refl _ _).alloc (Nat.le_refl _) _⟩

set_option maxRecDepth 100000 in
set_option maxHeartbeats 400000 in
theorem refPut_any (f : Nat) : ∀ (n : Nat) (w : World), n < 128 ^ (f + 1) → n ≤ 18446744073709551615 → f ≤ 9 →
    Calls Tryd.prog 64 #[.int .u64 n] w fun e w' => e = .returned (.string ⟨(putF (f + 1) n).toArray⟩) ∧ Below w.heap.size w w' := by
  induction f with
  | zero =>
    intro n w h _ _
    have h' : n < 128 := by simpa using h
    refine (refPut_low n w h').mono fun e w' hh => ?_
    rw [putF, if_pos h']
    exact hh
  | succ f ih =>
    intro n w h h64 hf
    rw [putF]
    by_cases h' : n < 128
    · rw [if_pos h']
      exact refPut_low n w h'
    · rw [if_neg h']
      have IH := Lib.hid (fun w => ih (n / 128) w (by rw [Nat.pow_succ] at h; omega) (by omega) (by omega))
      clear h
      have hr : ((n : Int)).tmod 128 = ((n % 128 : Nat) : Int) := Int.tmod_eq_emod_of_nonneg (by omega)
      have hw : IntKind.u64.wrap (((n % 128 : Nat) : Int) + 128) = ((n % 128 + 128 : Nat) : Int) := by rw [IntWalk.u64_in _ ⟨by omega, by omega⟩]; rfl
      have hw8 : IntKind.u8.wrap ((n % 128 + 128 : Nat) : Int) = ((n % 128 + 128 : Nat) : Int) := IntWalk.u8_in _ ⟨by omega, by omega⟩
      have hq : IntKind.u64.wrap ((n : Int) / 128) = ((n / 128 : Nat) : Int) := by rw [IntWalk.u64_in _ ⟨by omega, by omega⟩]; rfl
      have hlen := putF_len (f + 1) (n / 128)
      go_enter Tryd.func64, Tryd.ntmps64
      go_wp2_with fail
      go_region_with ((go_at_call 64; refine (IH.out _).mono ?_; rintro e w' ⟨rfl, hb⟩; obtain ⟨hc, hf⟩ := bcell hb))
      all_goals
        go_wp2
        go_ret
        refine ⟨ret_str (bytes_eq (by simp [strOfNums, cast128])), ?_⟩
        first
          | exact (((Below.refl _ _).alloc (Nat.le_refl _) _).drew).trans (hb.mono (by simp))
          | exact ((Below.refl _ _).drew.trans (hb.mono (Nat.le_refl _))).alloc hb.size _

end Go.Proofs.YtdgaoebjbhomdaaDoor.Digit

namespace Go.Proofs.YtdgaoebjbhomdaaDoor.Digit
open Go.RowKit

theorem eight_list' (m : Nat) : [(m : Int) / 256 / 256 / 256 / 256 / 256 / 256 / 256 % 256, (m : Int) / 256 / 256 / 256 / 256 / 256 / 256 % 256,
    (m : Int) / 256 / 256 / 256 / 256 / 256 % 256, (m : Int) / 256 / 256 / 256 / 256 % 256, (m : Int) / 256 / 256 / 256 % 256,
    (m : Int) / 256 / 256 % 256, (m : Int) / 256 % 256, (m : Int) % 256].map (fun n => UInt8.ofNat n.toNat) = eightL m := by
  simp only [List.map_cons, List.map_nil, eightL, eightF, List.nil_append, List.cons_append]
  have e : ∀ x : Nat, UInt8.ofNat ((x : Int) % 256).toNat = UInt8.ofNat x := fun x => u8_mod x
  have c : ∀ {a b : UInt8} {l k : List UInt8}, a = b → l = k → a :: l = b :: k := fun h g => by rw [h, g]
  exact c (e _) (c (e _) (c (e _) (c (e _) (c (e _) (c (e _) (c (e _) (c (e _) rfl)))))))

theorem refPut (n : Nat) (w : World) (h1 : n ≤ 18446744073709551615) :
    Calls Tryd.prog 64 #[.int .u64 n] w fun e w' => e = .returned (.string ⟨(putL n).toArray⟩) ∧ Below w.heap.size w w' :=
  refPut_any 9 n w (by omega) h1 (by omega)

set_option maxRecDepth 100000 in
set_option maxHeartbeats 400000 in
theorem refEight_any (n : Nat) (w : World) (h1 : n ≤ 18446744073709551615) :
    Calls Tryd.prog 34 #[.int .u64 n] w fun e w' => e = .returned (.string ⟨(eightL n).toArray⟩) ∧ Below w.heap.size w w' := by
  go_enter Tryd.func34, Tryd.ntmps34
  go_wp2
  go_rounds 9
  go_ret
  refine ⟨ret_str (bytes_eq ?_), ?_⟩
  · have h := eight_list' n
    simpa [strOfNums] using h
  · go_grown

set_option maxRecDepth 100000 in
set_option maxHeartbeats 400000 in
theorem refPutText_any (s : ByteArray) (w : World) (hs : s.size ≤ 70368744177664) :
    Calls Tryd.prog 89 #[.string s] w fun e w' => e = .returned (.string ⟨(putTextL s.data.toList).toArray⟩) ∧ Below w.heap.size w w' := by
  have hl := putL_len s.size
  go_enter Tryd.func89, Tryd.ntmps89
  go_wp2_with (go_at_call 64; refine (refPut _ _ (by omega)).mono ?_; rintro e w' ⟨rfl, hb⟩)
  go_ret
  exact ⟨ret_str (bytes_eq (by simp [putTextL])), hb⟩

set_option maxRecDepth 100000 in
set_option maxHeartbeats 400000 in
theorem begins_any (s t : ByteArray) (w : World) :
    Calls Tryd.prog 81 #[.string s, .string t] w fun e w' => e = .returned (.bool (decide (s.data.toList.take t.size = t.data.toList))) ∧ w = w' := by
  by_cases h : t.size ≤ s.size
  · go_enter Tryd.func81, Tryd.ntmps81
    go_wp2
    go_ret
    refine ⟨ret_bool ?_, rfl⟩
    rw [ByteArray.toList_eq, ByteArray.toList_eq, Lib.extract_data, List.drop_zero, Nat.sub_zero]
    rw [Bool.eq_iff_iff]
    simp
  · have hne : ¬ s.data.toList.take t.size = t.data.toList := fun e => by
      have := congrArg List.length e
      simp at this
      omega
    go_enter Tryd.func81, Tryd.ntmps81
    go_wp2
    go_ret
    exact ⟨ret_bool (by rw [decide_eq_false hne]), rfl⟩

/-! ### Take: the facts of a round -/
/-- A byte's part of the number, in 64 bits. -/
def prodP (c k : Nat) : Nat := c % 128 * 128 ^ k % 18446744073709551616

theorem step_prod (acc c k : Nat) : stepP acc c k = acc + prodP c k := rfl

theorem pow9 : (128 : Nat) ^ 9 = 9223372036854775808 := by decide

theorem prod_big (c : Nat) : prodP c 9 = c % 128 % 2 * 9223372036854775808 := by
  unfold prodP
  rw [pow9]
  omega

theorem prod_fits (c k : Nat) (hk : k ≤ 9) (h : ¬ (k = 9 ∧ 2 ≤ c % 128)) : prodP c k = c % 128 * 128 ^ k ∧ prodP c k ≤ 9223372036854775808 := by
  by_cases h9 : k = 9
  · subst h9
    have h2 : c % 128 = 0 ∨ c % 128 = 1 := by omega
    unfold prodP
    rw [pow9]
    omega
  · have hp := pow_le8 k (by omega)
    have h3 : c % 128 * 128 ^ k ≤ 127 * 72057594037927936 := Nat.mul_le_mul (by omega) hp
    unfold prodP
    rw [Nat.mod_eq_of_lt (by omega)]
    omega

theorem prod_wrap (c k T : Nat) (hT : 128 ^ k = T) : IntKind.u64.wrap ((c : Int) % 128 * (T : Int)) = (prodP c k : Int) := by
  subst hT
  rw [IntKind.wrap_u64]
  unfold prodP
  have e : (c : Int) % 128 * ((128 ^ k : Nat) : Int) = ((c % 128 * 128 ^ k : Nat) : Int) := by
    rw [Int.natCast_mul]
    rfl
  rw [e]
  rfl

theorem quo_fits (c k T : Nat) (hk : k ≤ 9) (hT : 128 ^ k = T) (h : ¬ (k = 9 ∧ 2 ≤ c % 128)) : ((prodP c k : Nat) : Int) / (T : Int) = ((c % 128 : Nat) : Int) := by
  rw [(prod_fits c k hk h).1, hT]
  have hp : 0 < T := by rw [← hT]; exact Nat.pow_pos (by omega)
  have e : c % 128 * T / T = c % 128 := Nat.mul_div_cancel _ hp
  rw [← Int.natCast_ediv, e]

theorem quo_big (c T : Nat) (hT : T = 9223372036854775808) : ((prodP c 9 : Nat) : Int) / (T : Int) = ((c % 128 % 2 : Nat) : Int) := by
  subst hT
  rw [prod_big, ← Int.natCast_ediv, Nat.mul_div_cancel _ (by omega)]

theorem take_big (s : ByteArray) (acc : Nat) (h : 9 < s.size) (hb : 2 ≤ s[9].toNat % 128) : takeF (10 - 9) 9 acc (s.data.toList.drop 9) = (0, 0, 6) := by
  by_cases hc : s[9].toNat < 128
  · refine take_no s 9 acc (by omega) h hc ?_
    unfold endsB
    rw [if_pos rfl]
    simp
    omega
  · rw [take_on s 9 acc (by omega) h hc]
    rfl

theorem bne_false (a b : Nat) (h : a = b) : ((a : Int) != (b : Int)) = false := by simp [h]

set_option maxRecDepth 100000 in
set_option maxHeartbeats 800000 in
theorem refTake_any (s : ByteArray) (w : World) (hs : s.size ≤ 9223372036854775807) :
    Calls Tryd.prog 59 #[.string s] w fun e w' => e = .returned (.tuple #[.int .u64 (takeL s.data.toList).1, .int .i64 (takeL s.data.toList).2.1, .int .i64 (takeL s.data.toList).2.2]) ∧ Below w.heap.size w w' := by
  go_enter Tryd.func59, Tryd.ntmps59
  go_wp2
  go_loop [5, 6, 7] (fun n t i => ∃ k acc : Nat, k ≤ 9 ∧ k ≤ s.size ∧ i = .int .i64 k ∧ n = .int .u64 acc ∧ t = .int .u64 (128 ^ k : Nat) ∧ takeL s.data.toList = takeF (10 - k) k acc (s.data.toList.drop k) ∧ acc < 128 ^ k) (fun _ _ i => 10 - (intOf i).toNat)
  case atStart => exact ⟨0, 0, by omega, by omega, rfl, rfl, rfl, rfl, by omega⟩
  case round =>
    obtain ⟨k, acc, hk, hks0, rfl, rfl, rfl, htk, hacc⟩ := hrel
    have HT := Lib.hid htk
    have HA := Lib.hid hacc
    have hpow := pow_le9 k hk
    have hpos : 0 < 128 ^ k := Nat.pow_pos (by omega)
    have hacc' : acc ≤ 9223372036854775807 := by omega
    obtain ⟨T, hT⟩ : ∃ T : Nat, 128 ^ k = T := ⟨_, rfl⟩
    rw [hT] at hpow hpos ⊢
    have HTT := Lib.hid hT
    clear hT htk hacc
    by_cases hend : s.size = k
    · have HE := Lib.hid (take_end s.data.toList k acc (by omega) (by simpa using hend))
      subst hend
      go_wp2
      go_ret3
      exact ⟨by rw [HT.out, HE.out]; rfl, Below.refl _ _⟩
    · have hks : k < s.size := by omega
      have hc8 := s[k].toNat_lt
      have hmul := prod_wrap s[k].toNat k T HTT.out
      by_cases hbig : k = 9 ∧ 2 ≤ s[k].toNat % 128
      · obtain ⟨rfl, hb2⟩ := hbig
        have hq := quo_big s[9].toNat T (by rw [← HTT.out, pow9])
        have HR := Lib.hid (take_big s acc hks hb2)
        have hP : prodP s[9].toNat 9 ≤ 9223372036854775808 := by rw [prod_big]; omega
        have hne : (((s[9].toNat % 128 % 2 : Nat) : Int) != (s[9].toNat : Int) % 128) = true := by simp; omega
        go_wp2_with fail
        go_ret3
        exact ⟨by rw [HT.out, HR.out]; rfl, Below.refl _ _⟩
      · have hfit := prod_fits s[k].toNat k hk hbig
        have HF := Lib.hid hfit.1
        have hP := hfit.2
        clear hfit
        have hq := quo_fits s[k].toNat k T hk HTT.out hbig
        have hne : (((s[k].toNat % 128 : Nat) : Int) != (s[k].toNat : Int) % 128) = false := bne_false (s[k].toNat % 128) (s[k].toNat % 128) rfl
        have hN : stepP acc s[k].toNat k ≤ 18446744073709551615 := by rw [step_prod]; omega
        have hsum : (acc : Int) + ((prodP s[k].toNat k : Nat) : Int) = ((stepP acc s[k].toNat k : Nat) : Int) := rfl
        by_cases hc : s[k].toNat < 128
        · by_cases he : endsB k s[k].toNat = true
          · have hR := take_ok s k acc (by omega) hks hc he
            have hone := takeL_one _ _ _ (HT.out.trans hR)
            have HR := Lib.hid hR
            have hlen : (putL (stepP acc s[k].toNat k)).length = k + 1 := by
              rw [hone.1, List.length_take]
              simp
              omega
            have hB := fun w => begins_any s ⟨(putL (stepP acc s[k].toNat k)).toArray⟩ w
            have ht : s.data.toList.take (ByteArray.size ⟨(putL (stepP acc s[k].toNat k)).toArray⟩) = putL (stepP acc s[k].toNat k) := by
              show s.data.toList.take (putL (stepP acc s[k].toNat k)).toArray.size = _
              rw [List.size_toArray, hlen, ← hone.1]
            rw [decide_eq_true ht] at hB
            have HB := Lib.hid hB
            have hne2 : (((putL (stepP acc s[k].toNat k)).length : Int) != (k : Int) + 1) = false := by rw [hlen]; simp
            clear he hR hone hlen hB ht
            go_wp2_with fail
            refine (refPut _ _ (by omega)).mono ?_
            rintro e w1 ⟨rfl, hb1⟩
            go_wp2_with fail
            refine (HB.out _).mono ?_
            rintro e w2 ⟨rfl, rfl⟩
            go_wp2_with fail
            refine (refPut _ _ (by omega)).mono ?_
            rintro e w3 ⟨rfl, hb3⟩
            go_wp2_with fail
            go_ret3
            exact ⟨by rw [HT.out, HR.out]; rfl, hb1.trans (hb3.mono hb1.size)⟩
          · rw [Bool.not_eq_true] at he
            have HR := Lib.hid (take_no s k acc (by omega) hks hc he)
            have h0 : s[k].toNat = 0 ∧ 1 ≤ k := by
              unfold endsB at he
              split at he
              · have : ¬ s[k].toNat = 1 := by simpa using he
                omega
              · simp at he
                omega
            have hlen : (putL (stepP acc s[k].toNat k)).length ≤ k := by
              obtain ⟨j, rfl⟩ : ∃ j, k = j + 1 := ⟨k - 1, by omega⟩
              refine putL_len_lt _ j ?_ (by omega)
              unfold stepP
              rw [h0.1]
              simpa using HA.out
            have hne2 : (((putL (stepP acc s[k].toNat k)).length : Int) != (k : Int) + 1) = true := by simp; omega
            have hB := fun w => begins_any s ⟨(putL (stepP acc s[k].toNat k)).toArray⟩ w
            clear he h0 hlen
            by_cases ht : s.data.toList.take (ByteArray.size ⟨(putL (stepP acc s[k].toNat k)).toArray⟩) = putL (stepP acc s[k].toNat k)
            · rw [decide_eq_true ht] at hB
              have HB := Lib.hid hB
              clear hB ht
              go_wp2_with fail
              refine (refPut _ _ (by omega)).mono ?_
              rintro e w1 ⟨rfl, hb1⟩
              go_wp2_with fail
              refine (HB.out _).mono ?_
              rintro e w2 ⟨rfl, rfl⟩
              go_wp2_with fail
              refine (refPut _ _ (by omega)).mono ?_
              rintro e w3 ⟨rfl, hb3⟩
              go_wp2_with fail
              go_ret3
              exact ⟨by rw [HT.out, HR.out]; rfl, hb1.trans (hb3.mono hb1.size)⟩
            · rw [decide_eq_false ht] at hB
              have HB := Lib.hid hB
              clear hB ht
              go_wp2_with fail
              refine (refPut _ _ (by omega)).mono ?_
              rintro e w1 ⟨rfl, hb1⟩
              go_wp2_with fail
              refine (HB.out _).mono ?_
              rintro e w2 ⟨rfl, rfl⟩
              go_wp2_with fail
              go_ret3
              exact ⟨by rw [HT.out, HR.out]; rfl, hb1⟩
        · have HR := Lib.hid (take_on s k acc (by omega) hks hc)
          by_cases h9 : k = 9
          · subst h9
            go_wp2_with fail
            go_ret3
            exact ⟨by rw [HT.out, HR.out]; rfl, Below.refl _ _⟩
          · have h9' : ((k : Int) == 9) = false := by simp; omega
            have hT8 : T ≤ 72057594037927936 := by rw [← HTT.out]; exact pow_le8 k (by omega)
            go_wp2_with fail
            go_round
            case rel =>
              refine ⟨k + 1, stepP acc s[k].toNat k, by omega, by omega, by go_num, rfl, ?_, HT.out.trans HR.out, step_bd _ _ _ (by omega) HA.out⟩
              rw [Nat.pow_succ, HTT.out]
              rfl
            case measure => simp [intOf]; omega

end Go.Proofs.YtdgaoebjbhomdaaDoor.Digit
