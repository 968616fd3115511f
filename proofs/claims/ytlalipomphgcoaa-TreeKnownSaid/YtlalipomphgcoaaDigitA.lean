/- Leaf functions of digit: what each call returns. -/
import Derived.Test.YtlalipomphgcoaaProg
import Derived.Test.YtlalipomphgcoaaDigitMath
import Derived.Test.YtlalipomphgcoaaShelf
import Derived.WalkKit
import Derived.WalkSpells
import Derived.Handy
import Derived.Laws.BytesArg
import Derived.Laws.BitsAllLaws
import Derived.Lib.Hide
namespace Go.Proofs.Ytlalipomphgcoaa.Digit
open Go.RowKit

/-- What a slice's cells tell as a text. -/
theorem conv_row (w : World) (b len cap : Nat) (xs : List Int) (hlen : xs.length = len)
    (hcell : ∀ i, i < len → w.cell? ⟨b, i, none⟩ = some (.int .u8 (xs.getD i 0))) :
    (convert 56 9 (.slice (some ⟨b, 0, none⟩) len cap)).run Try.prog w = .ok (.string (strOfNums xs)) w :=
  run_convert_bytes_arg w 56 5 Try.underlying56 Try.underlying5 b 0 len cap xs hlen (fun i hi => by rw [Nat.zero_add]; exact hcell i hi) 9 Try.underlying9

theorem conv_new (w : World) (xs : List Int) (t : TypeId) (len cap : Nat) (hlen : xs.length = len) :
    (convert 56 9 (.slice (some ⟨w.heap.size, 0, none⟩) len cap)).run Try.prog (w.alloc (.cells ((xs.map (Value.int .u8)).toArray) t)) = .ok (.string (strOfNums xs)) (w.alloc (.cells ((xs.map (Value.int .u8)).toArray) t)) :=
  conv_row _ _ len cap xs hlen fun i hi => by
    rw [World.cell?_alloc_mark]
    simp [List.getElem?_eq_getElem (show i < xs.length by omega), List.getD]

theorem str_eq {l : List Int} {m : List UInt8} (h : l.map (fun n => UInt8.ofNat n.toNat) = m) : strOfNums l = ⟨m.toArray⟩ := by
  unfold strOfNums
  rw [h]

theorem u8_mod (x : Nat) : UInt8.ofNat (x % 256) = UInt8.ofNat x := by
  apply UInt8.toNat_inj.1
  simp [UInt8.toNat_ofNat']

theorem ret_str {a b : ByteArray} (h : a = b) : Ending.returned (.string a) = .returned (.string b) := by rw [h]
theorem ret_bool {a b : Bool} (h : a = b) : Ending.returned (.bool a) = .returned (.bool b) := by rw [h]
theorem ret_int {k : IntKind} {a b : Int} (h : a = b) : Ending.returned (.int k a) = .returned (.int k b) := by rw [h]

theorem int_beq (a b : Nat) : ((a : Int) == (b : Int)) = (a == b) := by
  rw [Bool.eq_iff_iff]
  simp only [beq_iff_eq]
  omega
theorem orEq {a b c d : Bool} (h : a = b) (k : c = d) : (a || c) = (b || d) := by rw [h, k]

theorem eight_list (m : Nat) : [(m : Int) / 256 / 256 / 256 / 256 / 256 / 256 / 256, (m : Int) / 256 / 256 / 256 / 256 / 256 / 256 % 256,
    (m : Int) / 256 / 256 / 256 / 256 / 256 % 256, (m : Int) / 256 / 256 / 256 / 256 % 256, (m : Int) / 256 / 256 / 256 % 256,
    (m : Int) / 256 / 256 % 256, (m : Int) / 256 % 256, (m : Int) % 256].map (fun n => UInt8.ofNat n.toNat) = eightL m := by
  simp only [List.map_cons, List.map_nil, eightL, eightF, List.nil_append, List.cons_append]
  have e : ∀ x : Nat, UInt8.ofNat ((x : Int) % 256).toNat = UInt8.ofNat x := fun x => u8_mod x
  have c : ∀ {a b : UInt8} {l k : List UInt8}, a = b → l = k → a :: l = b :: k := fun h g => by rw [h, g]
  exact c rfl (c (e _) (c (e _) (c (e _) (c (e _) (c (e _) (c (e _) (c (e _) rfl)))))))

set_option maxHeartbeats 400000 in
/-- digit.Eight -/
theorem eight_any (n : Nat) (w : World) (h1 : n ≤ 18446744073709551615) :
    Calls Try.prog 64 #[.int .u64 n] w fun e w' => e = .returned (.string ⟨(eightL n).toArray⟩) ∧ Below w.heap.size w w' := by
  have hk : ∀ (a b c d e f g h : Int), (convert 56 9 (.slice (some ⟨w.heap.size, 0, none⟩) 8 8)).run Try.prog (w.alloc (.cells #[.int .u8 a, .int .u8 b, .int .u8 c, .int .u8 d, .int .u8 e, .int .u8 f, .int .u8 g, .int .u8 h] 100)) = .ok (.string (strOfNums [a, b, c, d, e, f, g, h])) (w.alloc (.cells #[.int .u8 a, .int .u8 b, .int .u8 c, .int .u8 d, .int .u8 e, .int .u8 f, .int .u8 g, .int .u8 h] 100)) :=
    fun a b c d e f g h => conv_new w [a, b, c, d, e, f, g, h] _ 8 8 rfl
  go_enter Try.func64, Try.ntmps64
  go_wp2
  go_rounds 9
  go_ret
  exact ⟨ret_str (str_eq (eight_list n)), (Below.refl _ _).alloc (Nat.le_refl _) _⟩

theorem take_snoc (s : ByteArray) (k : Nat) (h : k < s.size) : s.data.toList.take (k + 1) = s.data.toList.take k ++ [s[k]] := by
  rw [List.take_succ_eq_append_getElem (by simpa using h)]; rfl

theorem valB_snoc (s : ByteArray) (k : Nat) (h : k < s.size) : valB 0 (s.data.toList.take (k + 1)) = valB 0 (s.data.toList.take k) * 256 + s[k].toNat := by
  rw [take_snoc s k h, valB_append]
  rfl

theorem valB_bd (l : List UInt8) (k : Nat) (h : k ≤ 7) : valB 0 (l.take k) < 72057594037927936 := by
  have := valB_lt (l.take k) 0
  have hp : 256 ^ (l.take k).length ≤ 256 ^ 7 := Nat.pow_le_pow_right (by omega) (Nat.le_trans (List.length_take_le _ _) h)
  have h7 : (256 : Nat) ^ 7 = 72057594037927936 := by decide
  omega

theorem or_byte (x c : Nat) (hx : x < 72057594037927936) (hc : c < 256) : bits .or .u64 ((x : Int) * 256) (c : Int) = (x : Int) * 256 + (c : Int) := by
  have h1 := Go.u64_or_nat (x * 256) c (by omega) (by omega)
  rw [Go.nat_join 8 (x * 256) c (by omega) (by omega)] at h1
  simpa using h1

set_option maxHeartbeats 400000 in
theorem size_any (n : Nat) (w : World) (h1 : n ≤ 18446744073709551615) :
    Calls Try.prog 81 #[.int .u64 n] w fun e w' => e = .returned (.int .i64 (putL n).length) ∧ w = w' := by
  have ho : bits .or .u64 (n : Int) 1 = ((n ||| 1 : Nat) : Int) := Go.u64_or_nat n 1 (by omega) (by omega)
  have hlt : n ||| 1 < 18446744073709551616 := Nat.or_lt_two_pow (n := 64) (by omega) (by omega)
  have hb := Lib.bitLen_le (n ||| 1) 64 (by omega) hlt
  have hp := putL_size10 n (by omega)
  have HP := Lib.hid hp
  clear hp
  go_enter Try.func81, Try.ntmps81
  go_wp2_with (go_at_call 88; refine (Try.bits_Len64 _ _ (by omega) (by omega)).mono ?_; rintro e w' ⟨rfl, rfl⟩)
  go_ret
  exact ⟨ret_int (by rw [HP.out]; omega), rfl⟩

end Go.Proofs.Ytlalipomphgcoaa.Digit
