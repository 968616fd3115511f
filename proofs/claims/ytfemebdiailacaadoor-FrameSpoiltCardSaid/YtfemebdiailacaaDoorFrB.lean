/- frame: the code's numbers, Check, Put. -/
import Derived.Test.YtfemebdiailacaaDoorFrA
import Derived.Deep.QuietTactic
import Derived.BigQuiet
import Derived.Lib.QuietBelow
namespace Go.Proofs.YtfemebdiailacaaDoor.Frame
open Go.RowKit Go.Proofs.YtfemebdiailacaaDoor.Gr

theorem conv_row (w : World) (b len cap : Nat) (xs : List Int) (hlen : xs.length = len)
    (hcell : ∀ i, i < len → w.cell? ⟨b, i, none⟩ = some (.int .u8 (xs.getD i 0))) :
    (convert 40 9 (.slice (some ⟨b, 0, none⟩) len cap)).run Tryd.prog w = .ok (.string (strOfNums xs)) w :=
  run_convert_bytes_arg w 40 5 Tryd.underlying40 Tryd.underlying5 b 0 len cap xs hlen (fun i hi => by rw [Nat.zero_add]; exact hcell i hi) 9 Tryd.underlying9
theorem conv_new (w : World) (xs : List Int) (t : TypeId) (len cap : Nat) (hlen : xs.length = len) :
    (convert 40 9 (.slice (some ⟨w.heap.size, 0, none⟩) len cap)).run Tryd.prog (w.alloc (.cells ((xs.map (Value.int .u8)).toArray) t)) = .ok (.string (strOfNums xs)) (w.alloc (.cells ((xs.map (Value.int .u8)).toArray) t)) :=
  conv_row _ _ len cap xs hlen fun i hi => by
    rw [World.cell?_alloc_mark]
    simp [List.getElem?_eq_getElem (show i < xs.length by omega), List.getD]
theorem str_eq {l : List Int} {m : List UInt8} (h : l.map (fun n => UInt8.ofNat n.toNat) = m) : strOfNums l = ⟨m.toArray⟩ := by
  unfold strOfNums
  rw [h]
theorem u8_mod (x : Nat) : UInt8.ofNat (x % 256) = UInt8.ofNat x := by
  apply UInt8.toNat_inj.1
  simp [UInt8.toNat_ofNat']
theorem four_list (n : Nat) : [(n : Int) / 256 / 256 / 256, (n : Int) / 256 / 256 % 256, (n : Int) / 256 % 256, (n : Int) % 256].map (fun n => UInt8.ofNat n.toNat) = fourL n := by
  simp only [List.map_cons, List.map_nil, fourL]
  have e : ∀ x : Nat, UInt8.ofNat ((x : Int) % 256).toNat = UInt8.ofNat x := fun x => u8_mod x
  have c : ∀ {a b : UInt8} {l k : List UInt8}, a = b → l = k → a :: l = b :: k := fun h g => by rw [h, g]
  refine c ?_ (c ?_ (c ?_ (c ?_ rfl)))
  · rw [show ((n : Int) / 256 / 256 / 256).toNat = n / 16777216 by omega]
  · have := e (n / 256 / 256)
    rw [show n / 256 / 256 = n / 65536 by omega] at this
    rw [← this]
    congr 2
    omega
  · exact e (n / 256)
  · exact e n

abbrev bs (l : List UInt8) : ByteArray := ⟨l.toArray⟩
theorem bs_size (l : List UInt8) : (bs l).size = l.length := by simp [ByteArray.size]
theorem bs_list (l : List UInt8) : (bs l).data.toList = l := rfl
theorem bs_of (s : ByteArray) : bs s.data.toList = s := rfl
theorem bs_append (a b : List UInt8) : bs a ++ bs b = bs (a ++ b) := by
  apply ByteArray.ext
  simp

set_option maxHeartbeats 400000 in
theorem code_number (n : Nat) (w : World) (h : n < 4294967296) :
    Calls Tryd.prog 20 #[.int .u32 n] w fun e w' => e = .returned (.string (bs (fourL n))) ∧ Below w.heap.size w w' := by
  have hk : ∀ (a b c d : Int), (convert 40 9 (.slice (some ⟨w.heap.size, 0, none⟩) 4 4)).run Tryd.prog (w.alloc (.cells #[.int .u8 a, .int .u8 b, .int .u8 c, .int .u8 d] 39)) = .ok (.string (strOfNums [a, b, c, d])) (w.alloc (.cells #[.int .u8 a, .int .u8 b, .int .u8 c, .int .u8 d] 39)) :=
    fun a b c d => conv_new w [a, b, c, d] _ 4 4 rfl
  go_enter Tryd.func20, Tryd.ntmps20
  go_wp2
  go_rounds 5
  go_ret
  exact ⟨ret_str (str_eq (four_list n)), (Below.refl _ _).alloc (Nat.le_refl _) _⟩

def valK (s : ByteArray) (i k : Nat) : Nat := valL ((s.data.toList.drop i).take k)
theorem valK_succ (s : ByteArray) (i k : Nat) (h : i + k < s.size) : valK s i (k + 1) = valK s i k * 256 + s[i + k].toNat := by
  unfold valK
  have e : (s.data.toList.drop i).take (k + 1) = (s.data.toList.drop i).take k ++ [s[i + k]] := by
    rw [List.take_succ_eq_append_getElem (by rw [List.length_drop, Array.length_toList]; have : s.size = s.data.size := rfl; omega), List.getElem_drop]
    rfl
  rw [e, valL_snoc]
theorem valK_lt (s : ByteArray) (i k : Nat) (h : k ≤ 3) : valK s i k < 16777216 := by
  have h1 := valL_lt ((s.data.toList.drop i).take k)
  have h2 : 256 ^ ((s.data.toList.drop i).take k).length ≤ 256 ^ 3 := Nat.pow_le_pow_right (by omega) (Nat.le_trans (List.length_take_le _ _) h)
  unfold valK
  omega
theorem valK_lt4 (s : ByteArray) (i : Nat) : valK s i 4 < 4294967296 := by
  have h1 := valL_lt ((s.data.toList.drop i).take 4)
  have h2 : 256 ^ ((s.data.toList.drop i).take 4).length ≤ 256 ^ 4 := Nat.pow_le_pow_right (by omega) (List.length_take_le _ _)
  unfold valK
  omega
theorem or_byte32 (x c : Nat) (hx : x < 16777216) (hc : c < 256) : bits .or .u32 ((x : Int) * 256) (c : Int) = ((x * 256 + c : Nat) : Int) := by
  have h1 := u32_or_nat (x * 256) c (by omega) (by omega)
  rw [nat_join 8 (x * 256) c (by omega) (by omega)] at h1
  simpa using h1

set_option maxHeartbeats 400000 in
theorem code_told (s : ByteArray) (p i : Nat) (w : World) (hc : w.cell? ⟨p, 0, none⟩ = some (.string s)) (hi : i + 4 ≤ s.size) (hs : s.size ≤ maxLen) :
    Calls Tryd.prog 32 #[.int .i64 i, .pointer (some ⟨p, 0, none⟩)] w fun e w' => e = .returned (.int .u32 (valK s i 4 : Nat)) ∧ w = w' := by
  unfold maxLen at hs
  go_enter Tryd.func32, Tryd.ntmps32
  go_wp2
  go_loop [4, 6] (fun n j => ∃ k : Nat, k ≤ 4 ∧ j = .int .i64 k ∧ n = .int .u32 (valK s i k : Nat)) (fun _ j => 4 - (intOf j).toNat)
  case atStart => exact ⟨0, by omega, rfl, rfl⟩
  case round =>
    obtain ⟨k, hk, rfl, rfl⟩ := hrel
    by_cases hlt : k < 4
    · have HS := Lib.hid (valK_succ s i k (by omega))
      have hb := valK_lt s i k (by omega)
      have hc1 := s[i + k].toNat_lt
      have ho := or_byte32 _ _ hb hc1
      generalize valK s i k = x at *
      obtain ⟨z, hz⟩ : ∃ z, x * 256 + s[i + k].toNat = z := ⟨_, rfl⟩
      rw [hz] at ho
      have HZ := Lib.hid hz
      clear hz
      go_wp2
      go_round
      case rel => exact ⟨k + 1, by omega, by go_num, by rw [HS.out, HZ.out]⟩
      case measure => simp [intOf]; omega
    · obtain rfl : k = 4 := by omega
      go_wp2
      go_ret
      exact ⟨rfl, rfl⟩

abbrev toldF (p : Nat) : Value := .func (.func 32) #[] #[.pointer (some ⟨p, 0, none⟩)]
set_option maxHeartbeats 400000 in
theorem code_numbers (s : ByteArray) (w : World) :
    Calls Tryd.prog 22 #[.string s] w fun e w' => e = .returned (toldF w.heap.size) ∧ w' = w.alloc (.cells #[.string s] 9) := by
  go_enter Tryd.func22, Tryd.ntmps22
  go_wp2
  go_ret
  exact ⟨rfl, rfl⟩

theorem kt_one (g cap : Nat) (s : ByteArray) (w : World) (h : w.cell? ⟨g, 0, none⟩ = some (.string s)) : KT.At w (.slice (some ⟨g, 0, none⟩) 1 (cap + 1)) [s] :=
  Or.inr ⟨g, 0, cap + 1, rfl, by simp, by simp, fun j v hj => by
    match j, hj with
    | 0, hj => obtain rfl : Value.string s = v := by simpa [Kind.flat, KT] using hj
               rw [Nat.zero_add]; exact h
    | j + 1, hj => simp [Kind.flat, KT] at hj⟩
theorem kt_two (g : Nat) (s t : ByteArray) (w : World) (h : w.cell? ⟨g, 0, none⟩ = some (.string s)) (h1 : w.cell? ⟨g, 1, none⟩ = some (.string t)) : KT.At w (.slice (some ⟨g, 0, none⟩) 2 2) [s, t] :=
  Or.inr ⟨g, 0, 2, rfl, by simp, by simp, fun j v hj => by
    match j, hj with
    | 0, hj => obtain rfl : Value.string s = v := by simpa [Kind.flat, KT] using hj
               rw [Nat.zero_add]; exact h
    | 1, hj => obtain rfl : Value.string t = v := by simpa [Kind.flat, KT] using hj
               rw [Nat.zero_add]; exact h1
    | j + 2, hj => simp [Kind.flat, KT] at hj⟩

set_option maxHeartbeats 400000 in
theorem code_Check (s : ByteArray) (w : World) (hs : s.size ≤ maxLen) (ht : Tab w) :
    Calls Tryd.prog 14 #[.string s] w fun e w' => e = .returned (.int .u32 (checkN s.data.toList : Nat)) ∧ Below w.heap.size w w' := by
  have hcat : catL [s] = s.data.toList := by simp [catL]
  have HC := Lib.hid (fun (w' : World) (h : w' = w.alloc (.cells #[.string s] 9)) => code_checkOf (.slice (some ⟨w.heap.size, 0, none⟩) 1 1) [s] w' (kt_one _ 0 s _ (by subst h; rw [World.cell?_alloc_mark]; rfl)) (by simpa using hs) (by simp) (ht.kept (by subst h; exact (Below.refl _ _).alloc (Nat.le_refl _) _)))
  rw [hcat] at HC
  clear ht hcat
  go_enter Tryd.func14, Tryd.ntmps14
  go_wp2_with (go_at_call 21; refine (HC.out _ rfl).mono ?_; rintro e w' ⟨rfl, rfl⟩)
  go_ret
  exact ⟨rfl, (Below.refl _ _).alloc (Nat.le_refl _) _⟩

set_option maxHeartbeats 400000 in
theorem code_Put_long (s : ByteArray) (w : World) (hs : 65536 < s.size) (hm : s.size ≤ maxLen) :
    Calls Tryd.prog 9 #[.string s] w fun e w' => e = .returned (.tuple #[.string ⟨#[]⟩, .int .i64 3]) ∧ Below w.heap.size w w' := by
  unfold maxLen at hm
  go_enter Tryd.func9, Tryd.ntmps9
  go_wp2
  go_ret2
  exact ⟨rfl, Below.refl _ _⟩

theorem ret_pair {a b : ByteArray} {v : Value} (h : a = b) : Ending.returned (.tuple #[.string a, v]) = .returned (.tuple #[.string b, v]) := by rw [h]
theorem frame_bytes (s : ByteArray) : bs (fourL s.size) ++ bs (fourL (checkN (fourL s.size ++ s.data.toList))) ++ s ++ ⟨#[90]⟩ = bs (frameL s.data.toList) := by
  have e : s = bs s.data.toList := rfl
  have hl : s.data.toList.length = s.size := by rw [Array.length_toList]; rfl
  have h90 : (⟨#[90]⟩ : ByteArray) = bs [90] := rfl
  unfold frameL
  rw [hl, h90]
  conv => lhs; lhs; rhs; rw [e]
  rw [bs_append, bs_append, bs_append]

set_option maxHeartbeats 1000000 in
theorem code_Put_ok (s : ByteArray) (w : World) (hs : s.size ≤ 65536) (ht : Tab w) :
    Calls Tryd.prog 9 #[.string s] w fun e w' => e = .returned (.tuple #[.string (bs (frameL s.data.toList)), .int .i64 0]) ∧ Below w.heap.size w w' := by
  have HFB := Lib.hid (frame_bytes s)
  have hcat : ∀ l : List UInt8, catL [bs l, s] = l ++ s.data.toList := fun l => by simp [catL]
  have HC := Lib.hid (fun (l : List UInt8) (hl : l.length ≤ 100) (W w' : World) (hW : Below w.heap.size w W) (h : w' = W.alloc (.cells #[.string (bs l), .string s] 9)) => code_checkOf (.slice (some ⟨W.heap.size, 0, none⟩) 2 2) [bs l, s] w' (kt_two _ (bs l) s _ (by subst h; rw [World.cell?_alloc_mark]; rfl) (by subst h; rw [World.cell?_alloc_mark]; rfl)) (by
    intro x hx
    simp at hx
    rcases hx with rfl | rfl
    · rw [bs_size]; unfold maxLen; omega
    · unfold maxLen; omega) (by simp) (ht.kept (by subst h; exact hW.trans (((Below.refl _ _).alloc (Nat.le_refl _) _).mono hW.size))))
  clear ht
  go_enter Tryd.func9, Tryd.ntmps9
  go_wp2_with (go_at_call 20; refine (code_number s.size _ (by omega)).mono ?_; rintro e w1 ⟨rfl, hb1⟩)
  refine (HC.out (fourL s.size) (by rw [fourL_len]; omega) w1 _ hb1 rfl).mono ?_
  rintro e w2 ⟨rfl, rfl⟩
  rw [hcat]
  have hck := checkN_lt (fourL s.size ++ s.data.toList)
  generalize checkN (fourL s.size ++ s.data.toList) = c at *
  have z1 : (bs (fourL s.size)).size = 4 := rfl
  have z2 : (bs (fourL c)).size = 4 := rfl
  have z3 : (bs (fourL s.size) ++ bs (fourL c)).size = 8 := by rw [ByteArray.size_append, z1, z2]
  have z4 : (bs (fourL s.size) ++ bs (fourL c) ++ s).size = 8 + s.size := by rw [ByteArray.size_append, z3]
  have z5 : ¬ 9223372036854775807 < 8 + s.size := by omega
  have z6 : ¬ 9223372036854775807 < 8 + s.size + 1 := by omega
  go_wp2_with (go_at_call 20; refine (code_number c _ hck).mono ?_; rintro e w3 ⟨rfl, hb3⟩)
  go_ret2
  exact ⟨ret_pair HFB.out, (hb1.trans (((Below.refl _ _).alloc (Nat.le_refl _) _).mono hb1.size)).trans (hb3.mono (by have := hb1.size; simp; omega))⟩
end Go.Proofs.YtfemebdiailacaaDoor.Frame
