/- frame: rows of texts; the code's check. -/
import Derived.Test.YtepcfmigkhacgaaDoorProg
import Derived.Test.YtepcfmigkhacgaaDoorGr
import Derived.Test.YtepcfmigkhacgaaDoorFrMath
import Derived.WalkKit
import Derived.WalkSpells
import Derived.Handy
import Derived.Below
import Derived.RegionTactic
import Derived.Laws.BitsAllLaws
import Derived.Laws.BytesArg
import Derived.Lib.Hide
import Derived.Deep.QuietTactic
import Derived.BigQuiet
import Derived.Lib.QuietBelow
import Derived.IntWalk
import Derived.WalkMore
import Derived.Deep.Cut
namespace Go.Proofs.YtepcfmigkhacgaaDoor.Frame
open Go.RowKit Go.Proofs.YtepcfmigkhacgaaDoor.Gr

theorem ret_str {a b : ByteArray} (h : a = b) : Ending.returned (.string a) = .returned (.string b) := by rw [h]
theorem ret_int {k : IntKind} {a b : Int} (h : a = b) : Ending.returned (.int k a) = .returned (.int k b) := by rw [h]

def KT : Kind Tryd.prog ByteArray where
  T := 9
  size := 1
  bytes := 16
  zero := .string ⟨#[]⟩
  enc x := [.string x]
  info := by kernel_rfl
  zsize := rfl
  pos := by decide
  len _ := rfl
  one x u hu := by
    simp at hu
    subst hu
    rfl
theorem text_cell {w : World} {l : List ByteArray} {g o : Nat} (hr : w.rangeAt g o (KT.flat l)) {i : Nat} {x : ByteArray} (hi : l[i]? = some x) : w.cell? ⟨g, o + i, none⟩ = some (.string x) := by
  have h := range_thing hr hi (j := 0) (u := .string x) rfl
  rw [show i * KT.size + 0 = i from Nat.mul_one i] at h
  exact h

/-- The table that the program lays. -/
def Tab (w : World) : Prop := ∀ i, i < 16 → w.cell? ⟨0, i, none⟩ = some (.int .u32 ((tabN.getD i 0 : Nat) : Int))
theorem Tab.kept {w w' : World} (h : Tab w) (hb : Below w.heap.size w w') : Tab w' := fun i hi => by
  have hc := h i hi
  rw [hb.cell (World.block_lt_of_cell? _ _ hc)]
  exact hc

/-- All bytes of the parts. -/
def catL (Ps : List ByteArray) : List UInt8 := Ps.flatMap fun s => s.data.toList
theorem catL_snoc (Ps : List ByteArray) (k : Nat) (s : ByteArray) (h : Ps[k]? = some s) : catL (Ps.take (k + 1)) = catL (Ps.take k) ++ s.data.toList := by
  rw [List.take_add_one, h]
  simp [catL]
theorem take_snoc (s : ByteArray) (k : Nat) (h : k < s.size) : s.data.toList.take (k + 1) = s.data.toList.take k ++ [s[k]] := by
  rw [List.take_succ_eq_append_getElem (by simpa using h)]; rfl
def regL (Ps : List ByteArray) (k : Nat) (s : ByteArray) (j : Nat) : Nat := crcN (crcN 4294967295 (catL (Ps.take k))) (s.data.toList.take j)
theorem regL_lt (Ps : List ByteArray) (k : Nat) (s : ByteArray) (j : Nat) : regL Ps k s j < 4294967296 := crcN_lt _ (crcN_lt _ (by decide))
theorem regL_succ (Ps : List ByteArray) (k : Nat) (s : ByteArray) (j : Nat) (h : j < s.size) : regL Ps k s (j + 1) = byteN (regL Ps k s j) s[j].toNat := by
  unfold regL
  rw [take_snoc s j h, crcN_append]
  rfl
theorem regL_zero (Ps : List ByteArray) (k : Nat) (s : ByteArray) : regL Ps k s 0 = crcN 4294967295 (catL (Ps.take k)) := rfl
theorem regL_all (Ps : List ByteArray) (k : Nat) (s : ByteArray) (h : Ps[k]? = some s) : regL Ps k s s.size = crcN 4294967295 (catL (Ps.take (k + 1))) := by
  unfold regL
  rw [catL_snoc Ps k s h, crcN_append, show s.data.toList.take s.size = s.data.toList from List.take_of_length_le (by rw [Array.length_toList]; exact Nat.le_refl _)]

theorem and15 (x : Nat) (hx : x < 4294967296) : bits .and .u32 (x : Int) 15 = ((x % 16 : Nat) : Int) := by
  have h := u32_and_nat x 15 hx (by omega)
  rw [show x &&& 15 = x % 16 from Nat.and_two_pow_sub_one_eq_mod x 4] at h
  exact h
theorem xor_nib (x t : Nat) (hx : x < 4294967296) (ht : t < 4294967296) : bits .xor .u32 ((x : Int) / 16) (t : Int) = ((x / 16 ^^^ t : Nat) : Int) := by
  have h := u32_xor_nat (x / 16) t (by omega) ht
  rw [← h]
  simp

set_option maxRecDepth 100000 in
set_option maxHeartbeats 1600000 in
theorem code_checkOf (v : Value) (Ps : List ByteArray) (w : World) (hT : KT.At w v Ps) (hm : ∀ s ∈ Ps, s.size ≤ maxLen) (hlen : Ps.length ≤ 10) (htab : Tab w) :
    Calls Tryd.prog 69 #[v] w fun e w' => e = .returned (.int .u32 (checkN (catL Ps) : Nat)) ∧ w = w' := by
  obtain ⟨a, cap, n, hn, rfl, hcells⟩ : ∃ a cap n, Ps.length = n ∧ v = .slice a n cap ∧ ∀ (i : Nat) (s : ByteArray), Ps[i]? = some s → ∃ g o, a = some ⟨g, o, none⟩ ∧ w.cell? ⟨g, o + i, none⟩ = some (.string s) := by
    rcases hT with ⟨a, cap, rfl, rfl⟩ | ⟨g, o, cap, rfl, _, _, hc⟩
    · exact ⟨a, cap, 0, rfl, rfl, fun i s h => by simp at h⟩
    · exact ⟨_, cap, _, rfl, rfl, fun i s h => ⟨g, o, rfl, text_cell hc h⟩⟩
  have HM := Lib.hid hm
  have HC := Lib.hid hcells
  have HN := Lib.hid hn
  have HT := Lib.hid htab
  have hn0 : n ≤ 10 := by omega
  clear hT hm hcells hn htab hlen
  go_enter Tryd.func69, Tryd.ntmps69
  go_wp2
  go_loop [3, 9] (fun r i => ∃ k : Nat, k ≤ n ∧ i = .int .i64 k ∧ r = .int .u32 (crcN 4294967295 (catL (Ps.take k)) : Nat)) (fun _ i => n - (intOf i).toNat)
  case atStart => exact ⟨0, by omega, rfl, rfl⟩
  case round =>
    obtain ⟨k, hk, rfl, rfl⟩ := hrel
    by_cases hlt : k < n
    · obtain ⟨s, hs⟩ : ∃ s, Ps[k]? = some s := ⟨Ps[k]'(by rw [HN.out]; exact hlt), List.getElem?_eq_getElem _⟩
      obtain ⟨g, o, rfl, hcell⟩ := HC.out k s hs
      have hsz := HM.out s (List.mem_of_getElem? hs)
      unfold maxLen at hsz
      have HALL := Lib.hid (regL_all Ps k s hs)
      have HZ := Lib.hid (regL_zero Ps k s)
      clear hs
      rw [← HZ.out]
      go_wp2
      go_loop [3, 15] (fun r i => ∃ j : Nat, j ≤ s.size ∧ i = .int .i64 j ∧ r = .int .u32 (regL Ps k s j : Nat)) (fun _ i => s.size - (intOf i).toNat)
      case atStart => exact ⟨0, by omega, rfl, rfl⟩
      case round =>
        obtain ⟨j, hj, rfl, rfl⟩ := hrel
        by_cases hjl : j < s.size
        · have HS := Lib.hid (regL_succ Ps k s j hjl)
          have hR := regL_lt Ps k s j
          generalize regL Ps k s j = R at *
          have hc := s[j].toNat_lt
          have hx := u32_xor_nat R s[j].toNat hR (by omega)
          have hX := xor_lt32 hR (show s[j].toNat < 4294967296 by omega)
          have HB := Lib.hid (byteN_two R s[j].toNat)
          generalize R ^^^ s[j].toNat = x at *
          obtain ⟨q, hq⟩ : ∃ q, x % 16 = q := ⟨_, rfl⟩
          have hq16 : q < 16 := by omega
          have ha := and15 x hX
          rw [hq] at ha
          have ht := HT.out q hq16
          have h4 := tk4 x
          rw [hq] at h4
          have htl := tab_lt q hq16
          generalize tabN.getD q 0 = t at *
          have hy := xor_nib x t hX htl
          rw [← h4] at hy
          have hY := tk_lt 4 hX
          generalize tk 4 x = y at *
          obtain ⟨p, hp⟩ : ∃ p, y % 16 = p := ⟨_, rfl⟩
          have hp16 : p < 16 := by omega
          have hb := and15 y hY
          rw [hp] at hb
          have hu := HT.out p hp16
          have h5 := tk4 y
          rw [hp] at h5
          have hul := tab_lt p hp16
          generalize tabN.getD p 0 = u at *
          have hz := xor_nib y u hY hul
          rw [← h5] at hz
          have HZZ := Lib.hid (HS.out.trans HB.out)
          generalize tk 4 y = z at *
          clear h4 h5 hq hp HS HB
          go_wp2
          go_round
          case rel => exact ⟨j + 1, by omega, by go_num, by rw [HZZ.out]⟩
          case measure => simp [intOf]; omega
        · obtain rfl : j = s.size := by omega
          go_wp2
          go_round
          case rel => exact ⟨k + 1, by omega, by go_num, by rw [HALL.out]⟩
          case measure => simp [intOf]; omega
    · obtain rfl : k = n := by omega
      have e : Ps.take k = Ps := List.take_of_length_le (by rw [HN.out]; omega)
      have HX := Lib.hid (u32_xor_nat 4294967295 (crcN 4294967295 (catL Ps)) (by decide) (crcN_lt _ (by decide)))
      rw [e]
      clear e
      go_wp2
      all_goals
        go_ret
        refine ⟨ret_int ?_, rfl⟩
        first
          | exact absurd ‹IntKind.u32.signed = true› (by decide)
          | (rw [checkN, Nat.xor_comm]; exact HX.out)
end Go.Proofs.YtepcfmigkhacgaaDoor.Frame

namespace Go.Proofs.YtepcfmigkhacgaaDoor.Frame
open Go.RowKit Go.Proofs.YtepcfmigkhacgaaDoor.Gr

theorem conv_row (w : World) (b len cap : Nat) (xs : List Int) (hlen : xs.length = len)
    (hcell : ∀ i, i < len → w.cell? ⟨b, i, none⟩ = some (.int .u8 (xs.getD i 0))) :
    (convert 81 9 (.slice (some ⟨b, 0, none⟩) len cap)).run Tryd.prog w = .ok (.string (strOfNums xs)) w :=
  run_convert_bytes_arg w 81 5 Tryd.underlying81 Tryd.underlying5 b 0 len cap xs hlen (fun i hi => by rw [Nat.zero_add]; exact hcell i hi) 9 Tryd.underlying9
theorem conv_new (w : World) (xs : List Int) (t : TypeId) (len cap : Nat) (hlen : xs.length = len) :
    (convert 81 9 (.slice (some ⟨w.heap.size, 0, none⟩) len cap)).run Tryd.prog (w.alloc (.cells ((xs.map (Value.int .u8)).toArray) t)) = .ok (.string (strOfNums xs)) (w.alloc (.cells ((xs.map (Value.int .u8)).toArray) t)) :=
  conv_row _ _ len cap xs hlen fun i hi => by
    rw [World.cell?_alloc_mark]
    simp [List.getElem?_eq_getElem (show i < xs.length by omega), List.getD]
theorem str_eq {l : List Int} {m : List UInt8} (h : l.map (fun n => UInt8.ofNat n.toNat) = m) : strOfNums l = ⟨m.toArray⟩ := by
  unfold strOfNums
  rw [h]
theorem u8_mod (x : Nat) : UInt8.ofNat (x % 256) = UInt8.ofNat x := by
  apply UInt8.toNat_inj.1
  simp [UInt8.toNat_ofNat']
theorem four_list (n : Nat) : [(n : Int) / 256 / 256 / 256, (n : Int) / 256 / 256 % 256, (n : Int) / 256 % 256, (n : Int) % 256].map (fun n => UInt8.ofNat n.toNat) = fourL n := by
  simp only [List.map_cons, List.map_nil, fourL]
  have e : ∀ x : Nat, UInt8.ofNat ((x : Int) % 256).toNat = UInt8.ofNat x := fun x => u8_mod x
  have c : ∀ {a b : UInt8} {l k : List UInt8}, a = b → l = k → a :: l = b :: k := fun h g => by rw [h, g]
  refine c ?_ (c ?_ (c ?_ (c ?_ rfl)))
  · rw [show ((n : Int) / 256 / 256 / 256).toNat = n / 16777216 by omega]
  · have := e (n / 256 / 256)
    rw [show n / 256 / 256 = n / 65536 by omega] at this
    rw [← this]
    congr 2
    omega
  · exact e (n / 256)
  · exact e n

abbrev bs (l : List UInt8) : ByteArray := ⟨l.toArray⟩
theorem bs_size (l : List UInt8) : (bs l).size = l.length := by simp [ByteArray.size]
theorem bs_list (l : List UInt8) : (bs l).data.toList = l := rfl
theorem bs_of (s : ByteArray) : bs s.data.toList = s := rfl
theorem bs_append (a b : List UInt8) : bs a ++ bs b = bs (a ++ b) := by
  apply ByteArray.ext
  simp

set_option maxHeartbeats 400000 in
theorem code_number (n : Nat) (w : World) (h : n < 4294967296) :
    Calls Tryd.prog 68 #[.int .u32 n] w fun e w' => e = .returned (.string (bs (fourL n))) ∧ Below w.heap.size w w' := by
  have hk : ∀ (a b c d : Int), (convert 81 9 (.slice (some ⟨w.heap.size, 0, none⟩) 4 4)).run Tryd.prog (w.alloc (.cells #[.int .u8 a, .int .u8 b, .int .u8 c, .int .u8 d] 126)) = .ok (.string (strOfNums [a, b, c, d])) (w.alloc (.cells #[.int .u8 a, .int .u8 b, .int .u8 c, .int .u8 d] 126)) :=
    fun a b c d => conv_new w [a, b, c, d] _ 4 4 rfl
  go_enter Tryd.func68, Tryd.ntmps68
  go_wp2
  go_rounds 5
  go_ret
  exact ⟨ret_str (str_eq (four_list n)), (Below.refl _ _).alloc (Nat.le_refl _) _⟩

def valK (s : ByteArray) (i k : Nat) : Nat := valL ((s.data.toList.drop i).take k)
theorem valK_succ (s : ByteArray) (i k : Nat) (h : i + k < s.size) : valK s i (k + 1) = valK s i k * 256 + s[i + k].toNat := by
  unfold valK
  have e : (s.data.toList.drop i).take (k + 1) = (s.data.toList.drop i).take k ++ [s[i + k]] := by
    rw [List.take_succ_eq_append_getElem (by rw [List.length_drop, Array.length_toList]; have : s.size = s.data.size := rfl; omega), List.getElem_drop]
    rfl
  rw [e, valL_snoc]
theorem valK_lt (s : ByteArray) (i k : Nat) (h : k ≤ 3) : valK s i k < 16777216 := by
  have h1 := valL_lt ((s.data.toList.drop i).take k)
  have h2 : 256 ^ ((s.data.toList.drop i).take k).length ≤ 256 ^ 3 := Nat.pow_le_pow_right (by omega) (Nat.le_trans (List.length_take_le _ _) h)
  unfold valK
  omega
theorem valK_lt4 (s : ByteArray) (i : Nat) : valK s i 4 < 4294967296 := by
  have h1 := valL_lt ((s.data.toList.drop i).take 4)
  have h2 : 256 ^ ((s.data.toList.drop i).take 4).length ≤ 256 ^ 4 := Nat.pow_le_pow_right (by omega) (List.length_take_le _ _)
  unfold valK
  omega
theorem or_byte32 (x c : Nat) (hx : x < 16777216) (hc : c < 256) : bits .or .u32 ((x : Int) * 256) (c : Int) = ((x * 256 + c : Nat) : Int) := by
  have h1 := u32_or_nat (x * 256) c (by omega) (by omega)
  rw [nat_join 8 (x * 256) c (by omega) (by omega)] at h1
  simpa using h1

set_option maxHeartbeats 400000 in
theorem code_told (s : ByteArray) (p i : Nat) (w : World) (hc : w.cell? ⟨p, 0, none⟩ = some (.string s)) (hi : i + 4 ≤ s.size) (hs : s.size ≤ maxLen) :
    Calls Tryd.prog 81 #[.int .i64 i, .pointer (some ⟨p, 0, none⟩)] w fun e w' => e = .returned (.int .u32 (valK s i 4 : Nat)) ∧ w = w' := by
  unfold maxLen at hs
  go_enter Tryd.func81, Tryd.ntmps81
  go_wp2
  go_loop [4, 6] (fun n j => ∃ k : Nat, k ≤ 4 ∧ j = .int .i64 k ∧ n = .int .u32 (valK s i k : Nat)) (fun _ j => 4 - (intOf j).toNat)
  case atStart => exact ⟨0, by omega, rfl, rfl⟩
  case round =>
    obtain ⟨k, hk, rfl, rfl⟩ := hrel
    by_cases hlt : k < 4
    · have HS := Lib.hid (valK_succ s i k (by omega))
      have hb := valK_lt s i k (by omega)
      have hc1 := s[i + k].toNat_lt
      have ho := or_byte32 _ _ hb hc1
      generalize valK s i k = x at *
      obtain ⟨z, hz⟩ : ∃ z, x * 256 + s[i + k].toNat = z := ⟨_, rfl⟩
      rw [hz] at ho
      have HZ := Lib.hid hz
      clear hz
      go_wp2
      go_round
      case rel => exact ⟨k + 1, by omega, by go_num, by rw [HS.out, HZ.out]⟩
      case measure => simp [intOf]; omega
    · obtain rfl : k = 4 := by omega
      go_wp2
      go_ret
      exact ⟨rfl, rfl⟩

abbrev toldF (p : Nat) : Value := .func (.func 81) #[] #[.pointer (some ⟨p, 0, none⟩)]
set_option maxHeartbeats 400000 in
theorem code_numbers (s : ByteArray) (w : World) :
    Calls Tryd.prog 71 #[.string s] w fun e w' => e = .returned (toldF w.heap.size) ∧ w' = w.alloc (.cells #[.string s] 9) := by
  go_enter Tryd.func71, Tryd.ntmps71
  go_wp2
  go_ret
  exact ⟨rfl, rfl⟩

theorem kt_one (g cap : Nat) (s : ByteArray) (w : World) (h : w.cell? ⟨g, 0, none⟩ = some (.string s)) : KT.At w (.slice (some ⟨g, 0, none⟩) 1 (cap + 1)) [s] :=
  Or.inr ⟨g, 0, cap + 1, rfl, by simp, by simp, fun j v hj => by
    match j, hj with
    | 0, hj => obtain rfl : Value.string s = v := by simpa [Kind.flat, KT] using hj
               rw [Nat.zero_add]; exact h
    | j + 1, hj => simp [Kind.flat, KT] at hj⟩
theorem kt_two (g : Nat) (s t : ByteArray) (w : World) (h : w.cell? ⟨g, 0, none⟩ = some (.string s)) (h1 : w.cell? ⟨g, 1, none⟩ = some (.string t)) : KT.At w (.slice (some ⟨g, 0, none⟩) 2 2) [s, t] :=
  Or.inr ⟨g, 0, 2, rfl, by simp, by simp, fun j v hj => by
    match j, hj with
    | 0, hj => obtain rfl : Value.string s = v := by simpa [Kind.flat, KT] using hj
               rw [Nat.zero_add]; exact h
    | 1, hj => obtain rfl : Value.string t = v := by simpa [Kind.flat, KT] using hj
               rw [Nat.zero_add]; exact h1
    | j + 2, hj => simp [Kind.flat, KT] at hj⟩

set_option maxHeartbeats 400000 in
theorem code_Put_long (s : ByteArray) (w : World) (hs : 65536 < s.size) (hm : s.size ≤ maxLen) :
    Calls Tryd.prog 37 #[.string s] w fun e w' => e = .returned (.tuple #[.string ⟨#[]⟩, .int .i64 3]) ∧ Below w.heap.size w w' := by
  unfold maxLen at hm
  go_enter Tryd.func37, Tryd.ntmps37
  go_wp2
  go_ret2
  exact ⟨rfl, Below.refl _ _⟩

theorem ret_pair {a b : ByteArray} {v : Value} (h : a = b) : Ending.returned (.tuple #[.string a, v]) = .returned (.tuple #[.string b, v]) := by rw [h]
theorem frame_bytes (s : ByteArray) : bs (fourL s.size) ++ bs (fourL (checkN (fourL s.size ++ s.data.toList))) ++ s ++ ⟨#[90]⟩ = bs (frameL s.data.toList) := by
  have e : s = bs s.data.toList := rfl
  have hl : s.data.toList.length = s.size := by rw [Array.length_toList]; rfl
  have h90 : (⟨#[90]⟩ : ByteArray) = bs [90] := rfl
  unfold frameL
  rw [hl, h90]
  conv => lhs; lhs; rhs; rw [e]
  rw [bs_append, bs_append, bs_append]

set_option maxHeartbeats 1000000 in
theorem code_Put_ok (s : ByteArray) (w : World) (hs : s.size ≤ 65536) (ht : Tab w) :
    Calls Tryd.prog 37 #[.string s] w fun e w' => e = .returned (.tuple #[.string (bs (frameL s.data.toList)), .int .i64 0]) ∧ Below w.heap.size w w' := by
  have HFB := Lib.hid (frame_bytes s)
  have hcat : ∀ l : List UInt8, catL [bs l, s] = l ++ s.data.toList := fun l => by simp [catL]
  have HC := Lib.hid (fun (l : List UInt8) (hl : l.length ≤ 100) (W w' : World) (hW : Below w.heap.size w W) (h : w' = W.alloc (.cells #[.string (bs l), .string s] 9)) => code_checkOf (.slice (some ⟨W.heap.size, 0, none⟩) 2 2) [bs l, s] w' (kt_two _ (bs l) s _ (by subst h; rw [World.cell?_alloc_mark]; rfl) (by subst h; rw [World.cell?_alloc_mark]; rfl)) (by
    intro x hx
    simp at hx
    rcases hx with rfl | rfl
    · rw [bs_size]; unfold maxLen; omega
    · unfold maxLen; omega) (by simp) (ht.kept (by subst h; exact hW.trans (((Below.refl _ _).alloc (Nat.le_refl _) _).mono hW.size))))
  clear ht
  go_enter Tryd.func37, Tryd.ntmps37
  go_wp2_with (go_at_call 68; refine (code_number s.size _ (by omega)).mono ?_; rintro e w1 ⟨rfl, hb1⟩)
  refine (HC.out (fourL s.size) (by rw [fourL_len]; omega) w1 _ hb1 rfl).mono ?_
  rintro e w2 ⟨rfl, rfl⟩
  rw [hcat]
  have hck := checkN_lt (fourL s.size ++ s.data.toList)
  generalize checkN (fourL s.size ++ s.data.toList) = c at *
  have z1 : (bs (fourL s.size)).size = 4 := rfl
  have z2 : (bs (fourL c)).size = 4 := rfl
  have z3 : (bs (fourL s.size) ++ bs (fourL c)).size = 8 := by rw [ByteArray.size_append, z1, z2]
  have z4 : (bs (fourL s.size) ++ bs (fourL c) ++ s).size = 8 + s.size := by rw [ByteArray.size_append, z3]
  have z5 : ¬ 9223372036854775807 < 8 + s.size := by omega
  have z6 : ¬ 9223372036854775807 < 8 + s.size + 1 := by omega
  go_wp2_with (go_at_call 68; refine (code_number c _ hck).mono ?_; rintro e w3 ⟨rfl, hb3⟩)
  go_ret2
  exact ⟨ret_pair HFB.out, (hb1.trans (((Below.refl _ _).alloc (Nat.le_refl _) _).mono hb1.size)).trans (hb3.mono (by have := hb1.size; simp; omega))⟩
end Go.Proofs.YtepcfmigkhacgaaDoor.Frame

namespace Go.Proofs.YtepcfmigkhacgaaDoor.Frame
open Go.RowKit Go.Proofs.YtepcfmigkhacgaaDoor.Gr

def bkE (a : List UInt8 × Nat × Nat) : Ending := .returned (.tuple #[.string (bs a.1), .int .i64 a.2.1, .int .i64 a.2.2])

theorem valK_0 (s : ByteArray) : valK s 0 4 = valL (s.data.toList.take 4) := rfl
theorem toList_one (x : UInt8) : (bs [x]).toList = [x] := by
  simp [ByteArray.toList, ByteArray.toList.loop, ByteArray.size, ByteArray.get!]
theorem last_ext (s : ByteArray) (n : Nat) (h : n + 9 ≤ s.size) : s.extract (n + 8) (n + 9) = bs [s.data.toList.getD (n + 8) 0] := by
  have hsz : s.size = s.data.toList.length := by rw [Array.length_toList]; rfl
  apply ByteArray.ext
  rw [ByteArray.data_extract]
  apply Array.toList_inj.1
  rw [Array.toList_extract, List.extract_eq_take_drop, show n + 9 - (n + 8) = 1 by omega]
  show _ = [s.data.toList.getD (n + 8) 0]
  rw [List.take_one, List.head?_drop, List.getD]
  have : n + 8 < s.data.toList.length := by omega
  rw [List.getElem?_eq_getElem this]
  rfl
theorem ext_list (s : ByteArray) (i j : Nat) : (s.extract i j).data.toList = (s.data.toList.drop i).take (j - i) := by
  rw [ByteArray.data_extract, Array.toList_extract, List.extract_eq_take_drop]
theorem ext_bs (s : ByteArray) (i j : Nat) : s.extract i j = bs ((s.data.toList.drop i).take (j - i)) := by
  rw [← ext_list]


theorem len_data (s : ByteArray) : s.data.toList.length = s.size := by rw [Array.length_toList]; rfl
theorem tell_0 (s : ByteArray) (w W : World) (hW : W = w.alloc (.cells #[.string s] 9)) (h9 : 9 ≤ s.size) (hs : s.size ≤ maxLen) {w2 : World} (hb : Below W.heap.size W w2) :
    Calls Tryd.prog 81 #[.int .i64 0, .pointer (some ⟨w.heap.size, 0, none⟩)] w2 fun e w' => e = .returned (.int .u32 (valK s 0 4 : Nat)) ∧ w2 = w' :=
  code_told s w.heap.size 0 w2 (by
    rw [hb.cell (p := ⟨w.heap.size, 0, none⟩) (by subst hW; simp)]
    subst hW
    rw [World.cell?_alloc_mark]
    rfl) (by omega) hs
theorem tell_4 (s : ByteArray) (w W : World) (hW : W = w.alloc (.cells #[.string s] 9)) (h9 : 9 ≤ s.size) (hs : s.size ≤ maxLen) {w2 : World} (hb : Below W.heap.size W w2) :
    Calls Tryd.prog 81 #[.int .i64 4, .pointer (some ⟨w.heap.size, 0, none⟩)] w2 fun e w' => e = .returned (.int .u32 (valK s 4 4 : Nat)) ∧ w2 = w' :=
  code_told s w.heap.size 4 w2 (by
    rw [hb.cell (p := ⟨w.heap.size, 0, none⟩) (by subst hW; simp)]
    subst hW
    rw [World.cell?_alloc_mark]
    rfl) (by omega) hs

set_option maxHeartbeats 1000000 in
theorem code_Take (s : ByteArray) (w : World) (hs : s.size ≤ maxLen) (ht : Tab w) :
    Calls Tryd.prog 40 #[.string s] w fun e w' => e = bkE (takeL s.data.toList) ∧ Below w.heap.size w w' := by
  have HT := Lib.hid ht
  have HMX := Lib.hid hs
  unfold maxLen at hs
  clear ht
  by_cases h9 : s.size < 9
  · have HE := Lib.hid (show takeL s.data.toList = ([], 0, 10) by unfold takeL; rw [if_pos (by rw [len_data]; exact h9)])
    go_enter Tryd.func40, Tryd.ntmps40
    go_wp2
    refine bodyPost_ret (v := .tuple #[.string (bs []), .int .i64 0, .int .i64 10]) (by simp [results, Tryd.results40, go_sem]) rfl ⟨?_, Below.refl _ _⟩
    rw [HE.out]; rfl
  · have hn := valK_lt4 s 0
    have HL9 := Lib.hid (show ¬ s.data.toList.length < 9 by rw [len_data]; exact h9)
    have HN := Lib.hid (valK_0 s)
    obtain ⟨W, hW⟩ : ∃ W, W = w.alloc (.cells #[.string s] 9) := ⟨_, rfl⟩
    have HB := Lib.hid (show Below w.heap.size w W by subst hW; exact (Below.refl _ _).alloc (Nat.le_refl _) _)
    have HT0 := Lib.hid (tell_0 s w W hW (by omega) HMX.out (Below.refl _ _))
    have HT4 := Lib.hid (fun w2 => @tell_4 s w W hW (by omega) HMX.out w2)
    have HNU := Lib.hid (code_numbers s w)
    rw [← hW] at HNU
    clear hW
    generalize valK s 0 4 = n at *
    go_enter Tryd.func40, Tryd.ntmps40
    by_cases h1 : 65536 < n
    · have HE := Lib.hid (show takeL s.data.toList = ([], 0, 3) by unfold takeL; rw [if_neg HL9.out, if_pos (by rw [← HN.out]; exact h1)])
      go_wp2_with (first
        | (go_at_call 71; refine HNU.out.mono ?_; rintro e w1 ⟨rfl, rfl⟩)
        | (go_at_call 81; refine HT0.out.mono ?_; rintro e w1 ⟨rfl, rfl⟩))
      refine bodyPost_ret (v := .tuple #[.string (bs []), .int .i64 0, .int .i64 3]) (by simp [results, Tryd.results40, go_sem]) rfl ⟨?_, HB.out⟩
      rw [HE.out]; rfl
    · by_cases h2 : s.size < n + 9
      · have HE := Lib.hid (show takeL s.data.toList = ([], 0, 10) by unfold takeL; rw [if_neg HL9.out, ← HN.out, if_neg h1, if_pos (by rw [len_data]; exact h2)])
        go_wp2_with (first
          | (go_at_call 71; refine HNU.out.mono ?_; rintro e w1 ⟨rfl, rfl⟩)
          | (go_at_call 81; refine HT0.out.mono ?_; rintro e w1 ⟨rfl, rfl⟩))
        refine bodyPost_ret (v := .tuple #[.string (bs []), .int .i64 0, .int .i64 10]) (by simp [results, Tryd.results40, go_sem]) rfl ⟨?_, HB.out⟩
        rw [HE.out]; rfl
      · have hx : (s.extract (8 + n) (9 + n)).toList = [s.data.toList.getD (n + 8) 0] := by
          rw [Nat.add_comm 8 n, Nat.add_comm 9 n, last_ext s n (by omega), toList_one]
        by_cases h3 : s.data.toList.getD (n + 8) 0 = 90
        · rw [h3] at hx
          have hxb : ((s.extract (8 + n) (9 + n)).toList == [90]) = true := by rw [hx]; rfl
          have h44 := valK_lt4 s 4
          have HC := Lib.hid (fun (w2 w3 : World) (hb2 : Below w.heap.size w w2) (hw3 : w3 = w2.alloc (.cells #[.string (s.extract 0 4), .string (s.extract 8 (8 + n))] 9)) =>
            code_checkOf (.slice (some ⟨w2.heap.size, 0, none⟩) 2 2) [s.extract 0 4, s.extract 8 (8 + n)] w3 (kt_two _ _ _ _ (by subst hw3; rw [World.cell?_alloc_mark]; rfl) (by subst hw3; rw [World.cell?_alloc_mark]; rfl)) (by
              intro x hx
              have := HMX.out
              simp at hx
              rcases hx with rfl | rfl <;> (rw [ByteArray.size_extract]; omega)) (by simp) (HT.out.kept (by subst hw3; exact hb2.trans (((Below.refl _ _).alloc (Nat.le_refl _) _).mono hb2.size))))
          have hcat : catL [s.extract 0 4, s.extract 8 (8 + n)] = s.data.toList.take 4 ++ (s.data.toList.drop 8).take n := by
            simp only [catL, List.flatMap_cons, List.flatMap_nil, List.append_nil, ext_list]
            rw [show 8 + n - 8 = n by omega]
            rfl
          rw [hcat] at HC
          have HCK := Lib.hid (show takeL s.data.toList = if checkN (s.data.toList.take 4 ++ (s.data.toList.drop 8).take n) ≠ valK s 4 4 then ([], 0, 110) else ((s.data.toList.drop 8).take n, n + 9, 0) by
            unfold takeL
            rw [if_neg HL9.out, ← HN.out, if_neg h1, if_neg (by rw [len_data]; exact h2), if_neg (fun h => h h3)]
            rfl)
          have hck := checkN_lt (s.data.toList.take 4 ++ (s.data.toList.drop 8).take n)
          generalize checkN (s.data.toList.take 4 ++ (s.data.toList.drop 8).take n) = c at *
          generalize valK s 4 4 = m at *
          clear hx h3 hcat
          by_cases h4 : c = m
          · subst h4
            have HE := HCK.out
            rw [if_neg (fun h => h rfl)] at HE
            have HEE := Lib.hid HE
            clear HE HCK
            go_wp2_with (first
              | (go_at_call 71; refine HNU.out.mono ?_; rintro e w1 ⟨rfl, rfl⟩)
              | (go_at_call 81; refine HT0.out.mono ?_; rintro e w1 ⟨rfl, rfl⟩)
              | fail)
            refine (HC.out _ _ HB.out rfl).mono ?_
            rintro e w2 ⟨rfl, rfl⟩
            go_wp2_with (go_at_call 81; refine (HT4.out _ ((Below.refl _ _).alloc (Nat.le_refl _) _)).mono ?_; rintro e w3 ⟨rfl, rfl⟩)
            refine bodyPost_ret (v := .tuple #[.string (s.extract 8 (8 + n)), .int .i64 (9 + (n : Int)), .int .i64 0]) (by simp [results, Tryd.results40, go_sem]) rfl ⟨?_, HB.out.trans (((Below.refl _ _).alloc (Nat.le_refl _) _).mono HB.out.size)⟩
            rw [HEE.out, ext_bs, show 8 + n - 8 = n by omega]
            unfold bkE
            rw [show (((s.data.toList.drop 8).take n, n + 9, 0) : List UInt8 × Nat × Nat).2.1 = n + 9 from rfl, show ((n + 9 : Nat) : Int) = 9 + (n : Int) by omega]
            rfl
          · have HE := HCK.out
            rw [if_pos h4] at HE
            have HEE := Lib.hid HE
            clear HE HCK
            go_wp2_with (first
              | (go_at_call 71; refine HNU.out.mono ?_; rintro e w1 ⟨rfl, rfl⟩)
              | (go_at_call 81; refine HT0.out.mono ?_; rintro e w1 ⟨rfl, rfl⟩)
              | fail)
            refine (HC.out _ _ HB.out rfl).mono ?_
            rintro e w2 ⟨rfl, rfl⟩
            go_wp2_with (go_at_call 81; refine (HT4.out _ ((Below.refl _ _).alloc (Nat.le_refl _) _)).mono ?_; rintro e w3 ⟨rfl, rfl⟩)
            refine bodyPost_ret (v := .tuple #[.string (bs []), .int .i64 0, .int .i64 110]) (by simp [results, Tryd.results40, go_sem]) rfl ⟨?_, HB.out.trans (((Below.refl _ _).alloc (Nat.le_refl _) _).mono HB.out.size)⟩
            rw [HEE.out]; rfl
        · have hxb : ((s.extract (8 + n) (9 + n)).toList == [90]) = false := by rw [hx]; simpa using h3
          have HE := Lib.hid (show takeL s.data.toList = ([], 0, 6) by unfold takeL; rw [if_neg HL9.out, ← HN.out, if_neg h1, if_neg (by rw [len_data]; exact h2), if_pos h3])
          clear hx h3
          go_wp2_with (first
            | (go_at_call 71; refine HNU.out.mono ?_; rintro e w1 ⟨rfl, rfl⟩)
            | (go_at_call 81; refine HT0.out.mono ?_; rintro e w1 ⟨rfl, rfl⟩))
          refine bodyPost_ret (v := .tuple #[.string (bs []), .int .i64 0, .int .i64 6]) (by simp [results, Tryd.results40, go_sem]) rfl ⟨?_, HB.out⟩
          rw [HE.out]; rfl
end Go.Proofs.YtepcfmigkhacgaaDoor.Frame

namespace Go.Proofs.YtepcfmigkhacgaaDoor.Frame
open Go.RowKit Go.Proofs.YtepcfmigkhacgaaDoor.Gr

set_option maxHeartbeats 400000 in
theorem ref_pow (n : Nat) (hn : n ≤ 31) (w : World) :
    Calls Tryd.prog 85 #[.int .i64 n] w fun e w' => e = .returned (.int .u32 (2 ^ n : Nat)) ∧ Below w.heap.size w w' := by
  go_enter Tryd.func85, Tryd.ntmps85
  go_wp2
  go_loop [3, 4] (fun x i => ∃ k : Nat, k ≤ n ∧ i = .int .i64 k ∧ x = .int .u32 (2 ^ k : Nat)) (fun _ i => n - (intOf i).toNat)
  case atStart => exact ⟨0, by omega, rfl, rfl⟩
  case round =>
    obtain ⟨k, hk, rfl, rfl⟩ := hrel
    by_cases hlt : k < n
    · have hp : 2 ^ k ≤ 2 ^ 30 := Nat.pow_le_pow_right (by omega) (by omega)
      have HS := Lib.hid (show 2 ^ (k + 1) = 2 * 2 ^ k by rw [Nat.pow_succ, Nat.mul_comm])
      generalize 2 ^ k = p at *
      go_wp2
      go_round
      case rel => exact ⟨k + 1, by omega, by go_num, by rw [HS.out]; go_num⟩
      case measure => simp [intOf]; omega
    · obtain rfl : k = n := by omega
      go_wp2
      go_ret
      exact ⟨rfl, Below.refl _ _⟩

theorem poly_lt : polyN < 4294967296 := by decide
def crcT (s : ByteArray) (i : Nat) : Nat := crcN 4294967295 (s.data.toList.take i)
theorem crcT_lt (s : ByteArray) (i : Nat) : crcT s i < 4294967296 := crcN_lt _ (by decide)
theorem crcT_succ (s : ByteArray) (i : Nat) (h : i < s.size) : crcT s (i + 1) = byteN (crcT s i) s[i].toNat := by
  unfold crcT
  rw [take_snoc s i h, crcN_append]
  rfl

set_option maxRecDepth 100000 in
set_option maxHeartbeats 1600000 in
theorem ref_Check (s : ByteArray) (w : World) (hs : s.size ≤ maxLen) :
    Calls Tryd.prog 79 #[.string s] w fun e w' => e = .returned (.int .u32 (checkN s.data.toList : Nat)) ∧ Below w.heap.size w w' := by
  unfold maxLen at hs
  go_enter Tryd.func79, Tryd.ntmps79
  go_wp2
  go_loopw [3, 4] (fun r i wr => ∃ k : Nat, k ≤ s.size ∧ i = .int .i64 k ∧ r = .int .u32 (crcT s k : Nat) ∧ Below w.heap.size w wr) (fun _ i _ => s.size - (intOf i).toNat)
  case atStart => exact ⟨0, by omega, rfl, rfl, Below.refl _ _⟩
  case round =>
    obtain ⟨k, hk, rfl, rfl, hbel⟩ := hrel
    have HBEL := Lib.hid hbel
    clear hbel
    by_cases hlt : k < s.size
    · have HS := Lib.hid (crcT_succ s k hlt)
      have hR := crcT_lt s k
      generalize crcT s k = R at *
      have hc := s[k].toNat_lt
      have HR0 := Lib.hid (regN_zero R s[k].toNat)
      have HR8 := Lib.hid (regN_eight R s[k].toNat hc)
      rw [← HR0.out]
      obtain ⟨c, hcc⟩ : ∃ c, c = s[k].toNat := ⟨_, rfl⟩
      rw [← hcc] at hc HS HR0 HR8
      rw [← hcc]
      go_wp2
      go_loopw [3, 5] (fun r i wr => ∃ b : Nat, b ≤ 8 ∧ i = .int .i64 b ∧ r = .int .u32 (regN R c b : Nat) ∧ Below w.heap.size w wr) (fun _ i _ => 8 - (intOf i).toNat)
      case atStart => exact ⟨0, by omega, rfl, rfl, HBEL.out⟩
      case round =>
        obtain ⟨b, hb, rfl, rfl, hbel2⟩ := hrel
        have HBEL2 := Lib.hid hbel2
        clear hbel2
        by_cases hb8 : b < 8
        · have HSB := Lib.hid (regN_succ R c b)
          have hG := regN_lt R c b hR hc
          generalize regN R c b = G at *
          have HPW := Lib.hid (fun W => ref_pow b (by omega) W)
          have hp1 : 1 ≤ 2 ^ b := Nat.pow_pos (by omega)
          have hp2 : 2 ^ b ≤ 2 ^ 8 := Nat.pow_le_pow_right (by omega) (by omega)
          generalize 2 ^ b = p at *
          have hw1 : IntKind.u32.wrap ((s[k].toNat : Nat) : Int) = (s[k].toNat : Int) := IntWalk.u32_in _ ⟨by omega, by omega⟩
          have hp0 : ¬ (p : Int) = 0 := by omega
          have hp0' : ¬ p = 0 := by omega
          have hq256 : c / p < 256 := Nat.lt_of_le_of_lt (Nat.div_le_self _ _) hc
          have hqe : (s[k].toNat : Int) / (p : Int) = ((c / p : Nat) : Int) := by rw [← hcc]; rfl
          generalize c / p = q at *
          have hw2 : IntKind.u32.wrap ((s[k].toNat : Int) / (p : Int)) = (q : Int) := by
            rw [hqe]
            exact IntWalk.u32_in _ ⟨by omega, by omega⟩
          clear hqe
          obtain ⟨m, hm⟩ : ∃ m, q % 2 = m := ⟨_, rfl⟩
          obtain ⟨o, ho⟩ : ∃ o, G % 2 = o := ⟨_, rfl⟩
          have hmi : (q : Int).tmod 2 = (m : Int) := by rw [← hm]; rfl
          have hoi : (G : Int) % 2 = (o : Int) := by rw [← ho]; rfl
          rw [hm, ho] at HSB
          clear hm ho
          by_cases hmo : m = o
          · subst hmo
            have HZ := Lib.hid (show regN R c (b + 1) = G / 2 by rw [HSB.out, if_pos rfl, Nat.xor_zero])
            go_wp2_with fail
            refine wp_region_quiet_below (by kernel_rfl) (by kernel_rfl) ?_
            repeat (quiet_step (with_reducible exact Calls.regrown_of (HPW.out _)))
            refine wpQuiet_nil ?_
            intro _ hw'
            obtain ⟨⟨dq, osq⟩, hw''⟩ := hw'
            subst hw''
            have hbq := below_regrown wr dq osq
            have HB3 := Lib.hid (HBEL2.out.trans (hbq.mono HBEL2.out.size))
            clear hbq
            dsimp only
            generalize Sort.grow (redrawn wr dq) osq = w3 at HB3 ⊢
            clear hw1 hw2 hmi
            go_wp2
            go_roundw
            case rel => exact ⟨b + 1, by omega, by go_num, by rw [HZ.out]; go_num, HB3.out⟩
            case measure => simp [intOf]; omega
          · have hx := u32_xor_nat (G / 2) polyN (by omega) poly_lt
            have hxi : bits .xor .u32 ((G : Int) / 2) 2197175160 = ((G / 2 ^^^ polyN : Nat) : Int) := hx
            have HZ := Lib.hid (show regN R c (b + 1) = G / 2 ^^^ polyN by rw [HSB.out, if_neg hmo])
            clear hx
            generalize G / 2 ^^^ polyN = z at *
            go_wp2_with fail
            refine wp_region_quiet_below (by kernel_rfl) (by kernel_rfl) ?_
            repeat (quiet_step (with_reducible exact Calls.regrown_of (HPW.out _)))
            refine wpQuiet_nil ?_
            intro _ hw'
            obtain ⟨⟨dq, osq⟩, hw''⟩ := hw'
            subst hw''
            have hbq := below_regrown wr dq osq
            have HB3 := Lib.hid (HBEL2.out.trans (hbq.mono HBEL2.out.size))
            clear hbq
            dsimp only
            generalize Sort.grow (redrawn wr dq) osq = w3 at HB3 ⊢
            clear hw1 hw2 hmi
            go_wp2
            go_roundw
            case rel => exact ⟨b + 1, by omega, by go_num, by rw [HZ.out], HB3.out⟩
            case measure => simp [intOf]; omega
        · obtain rfl : b = 8 := by omega
          have HBEL3 := HBEL2
          go_wp2
          go_roundw
          case rel => exact ⟨k + 1, by omega, by go_num, by rw [HS.out, ← HR8.out], HBEL3.out⟩
          case measure => simp [intOf]; omega
    · obtain rfl : k = s.size := by omega
      have e : crcT s s.size = crcN 4294967295 s.data.toList := by
        unfold crcT
        rw [List.take_of_length_le (by rw [Array.length_toList]; exact Nat.le_refl _)]
      have hx := u32_xor_nat (crcN 4294967295 s.data.toList) 4294967295 (crcN_lt _ (by decide)) (by decide)
      have hxi : bits .xor .u32 (crcN 4294967295 s.data.toList : Int) 4294967295 = ((checkN s.data.toList : Nat) : Int) := hx
      clear hx
      rw [e]
      clear e
      generalize crcN 4294967295 s.data.toList = y at *
      go_wp2
      go_ret
      exact ⟨rfl, HBEL.out⟩

set_option maxHeartbeats 400000 in
theorem ref_Four (n : Nat) (w : World) (h : n < 4294967296) :
    Calls Tryd.prog 78 #[.int .u32 n] w fun e w' => e = .returned (.string (bs (fourL n))) ∧ Below w.heap.size w w' := by
  have hk : ∀ (a b c d : Int), (convert 81 9 (.slice (some ⟨w.heap.size, 0, none⟩) 4 4)).run Tryd.prog (w.alloc (.cells #[.int .u8 a, .int .u8 b, .int .u8 c, .int .u8 d] 5)) = .ok (.string (strOfNums [a, b, c, d])) (w.alloc (.cells #[.int .u8 a, .int .u8 b, .int .u8 c, .int .u8 d] 5)) :=
    fun a b c d => conv_new w [a, b, c, d] _ 4 4 rfl
  go_enter Tryd.func78, Tryd.ntmps78
  go_wp2
  go_ret
  refine ⟨ret_str (str_eq ?_), (Below.refl _ _).alloc (Nat.le_refl _) _⟩
  simp only [List.map_cons, List.map_nil, fourL]
  have e : ∀ x : Nat, UInt8.ofNat ((x : Int) % 256).toNat = UInt8.ofNat x := fun x => u8_mod x
  have c : ∀ {a b : UInt8} {l k : List UInt8}, a = b → l = k → a :: l = b :: k := fun h g => by rw [h, g]
  exact c rfl (c (e (n / 65536)) (c (e (n / 256)) (c (e n) rfl)))

theorem val_four_bytes (a b c d : UInt8) : ((a.toNat * 16777216 + b.toNat * 65536 + c.toNat * 256 + d.toNat : Nat)) = valL [a, b, c, d] := by
  simp only [valL, List.foldl_cons, List.foldl_nil]
  omega
theorem valK_four (s : ByteArray) (h : 4 ≤ s.size) : valK s 0 4 = s[0].toNat * 16777216 + s[1].toNat * 65536 + s[2].toNat * 256 + s[3].toNat := by
  have h0 := valK_succ s 0 0 (by omega)
  have h1 := valK_succ s 0 1 (by omega)
  have h2 := valK_succ s 0 2 (by omega)
  have h3 := valK_succ s 0 3 (by omega)
  have hz : valK s 0 0 = 0 := rfl
  simp only [Nat.zero_add] at h0 h1 h2 h3
  rw [h3, h2, h1, h0, hz]
  omega
set_option maxHeartbeats 400000 in
theorem ref_value (s : ByteArray) (w : World) (h : 4 ≤ s.size) (hs : s.size ≤ maxLen) :
    Calls Tryd.prog 86 #[.string s] w fun e w' => e = .returned (.int .u32 (valK s 0 4 : Nat)) ∧ Below w.heap.size w w' := by
  unfold maxLen at hs
  have HV := Lib.hid (valK_four s h)
  have b0 := s[0].toNat_lt
  have b1 := s[1].toNat_lt
  have b2 := s[2].toNat_lt
  have b3 := s[3].toNat_lt
  generalize hx0 : s[0].toNat = x0 at *
  generalize hx1 : s[1].toNat = x1 at *
  generalize hx2 : s[2].toNat = x2 at *
  generalize hx3 : s[3].toNat = x3 at *
  have w0 : IntKind.u32.wrap (x0 : Int) = (x0 : Int) := IntWalk.u32_in _ ⟨by omega, by omega⟩
  have w1 : IntKind.u32.wrap (x1 : Int) = (x1 : Int) := IntWalk.u32_in _ ⟨by omega, by omega⟩
  have w2 : IntKind.u32.wrap (x2 : Int) = (x2 : Int) := IntWalk.u32_in _ ⟨by omega, by omega⟩
  have w3 : IntKind.u32.wrap (x3 : Int) = (x3 : Int) := IntWalk.u32_in _ ⟨by omega, by omega⟩
  have m0 : IntKind.u32.wrap ((x0 : Int) * 16777216) = (x0 : Int) * 16777216 := IntWalk.u32_in _ ⟨by omega, by omega⟩
  have m1 : IntKind.u32.wrap ((x1 : Int) * 65536) = (x1 : Int) * 65536 := IntWalk.u32_in _ ⟨by omega, by omega⟩
  have m2 : IntKind.u32.wrap ((x2 : Int) * 256) = (x2 : Int) * 256 := IntWalk.u32_in _ ⟨by omega, by omega⟩
  have a1 : IntKind.u32.wrap ((x0 : Int) * 16777216 + (x1 : Int) * 65536) = (x0 : Int) * 16777216 + (x1 : Int) * 65536 := IntWalk.u32_in _ ⟨by omega, by omega⟩
  have a2 : IntKind.u32.wrap ((x0 : Int) * 16777216 + (x1 : Int) * 65536 + (x2 : Int) * 256) = (x0 : Int) * 16777216 + (x1 : Int) * 65536 + (x2 : Int) * 256 := IntWalk.u32_in _ ⟨by omega, by omega⟩
  have a3 : IntKind.u32.wrap ((x0 : Int) * 16777216 + (x1 : Int) * 65536 + (x2 : Int) * 256 + (x3 : Int)) = ((x0 * 16777216 + x1 * 65536 + x2 * 256 + x3 : Nat) : Int) := by
    rw [IntWalk.u32_in _ ⟨by omega, by omega⟩]
    omega
  have i0 : 0 < s.size := by omega
  have i1 : 1 < s.size := by omega
  have i2 : 2 < s.size := by omega
  have i3 : 3 < s.size := by omega
  have j1 : (1 : Int) < (s.size : Int) := by omega
  have j2 : (2 : Int) < (s.size : Int) := by omega
  have j3 : (3 : Int) < (s.size : Int) := by omega
  go_enter Tryd.func86, Tryd.ntmps86
  go_wp2_with fail
  refine wp_region_quiet_below (by kernel_rfl) (by kernel_rfl) ?_
  repeat (quiet_step (fail))
  refine wpQuiet_nil ?_
  intro _ hw'
  obtain ⟨⟨dq, osq⟩, hw''⟩ := hw'
  subst hw''
  have hbq := below_regrown w dq osq
  dsimp only
  generalize Sort.grow (redrawn w dq) osq = wz at hbq ⊢
  go_wp2
  go_ret
  exact ⟨ret_int (a := (x0 : Int) * 16777216 + (x1 : Int) * 65536 + (x2 : Int) * 256 + (x3 : Int)) (by rw [HV.out]; omega), hbq⟩
end Go.Proofs.YtepcfmigkhacgaaDoor.Frame

namespace Go.Proofs.YtepcfmigkhacgaaDoor.Frame
open Go.RowKit Go.Proofs.YtepcfmigkhacgaaDoor.Gr

set_option maxHeartbeats 400000 in
theorem ref_Put_long (s : ByteArray) (w : World) (hs : 65536 < s.size) (hm : s.size ≤ maxLen) :
    Calls Tryd.prog 55 #[.string s] w fun e w' => e = .returned (.tuple #[.string ⟨#[]⟩, .int .i64 3]) ∧ Below w.heap.size w w' := by
  unfold maxLen at hm
  go_enter Tryd.func55, Tryd.ntmps55
  go_wp2
  go_ret2
  exact ⟨rfl, Below.refl _ _⟩

theorem cat_bytes (l : List UInt8) (s : ByteArray) : (bs l ++ s).data.toList = l ++ s.data.toList := by
  rw [ByteArray.data_append, Array.toList_append]

set_option maxHeartbeats 1000000 in
theorem ref_Put_ok (s : ByteArray) (w : World) (hs : s.size ≤ 65536) :
    Calls Tryd.prog 55 #[.string s] w fun e w' => e = .returned (.tuple #[.string (bs (frameL s.data.toList)), .int .i64 0]) ∧ Below w.heap.size w w' := by
  have HFB := Lib.hid (frame_bytes s)
  have y1 : (bs (fourL s.size)).size = 4 := rfl
  have y3 : (bs (fourL s.size) ++ s).size = 4 + s.size := by rw [ByteArray.size_append, y1]
  have y5 : ¬ 9223372036854775807 < 4 + s.size := by omega
  have HCK := Lib.hid (fun W => ref_Check (bs (fourL s.size) ++ s) W (by rw [y3]; unfold maxLen; omega))
  rw [cat_bytes] at HCK
  go_enter Tryd.func55, Tryd.ntmps55
  go_wp2_with (first
    | (go_at_call 78; refine (ref_Four s.size _ (by omega)).mono ?_; rintro e w1 ⟨rfl, hb1⟩)
    | fail)
  refine (HCK.out _).mono ?_
  rintro e w2 ⟨rfl, hb2⟩
  have hck := checkN_lt (fourL s.size ++ s.data.toList)
  generalize checkN (fourL s.size ++ s.data.toList) = c at *
  have z2 : (bs (fourL c)).size = 4 := rfl
  have z3 : (bs (fourL s.size) ++ bs (fourL c)).size = 8 := by rw [ByteArray.size_append, y1, z2]
  have z4 : (bs (fourL s.size) ++ bs (fourL c) ++ s).size = 8 + s.size := by rw [ByteArray.size_append, z3]
  have z5 : ¬ 9223372036854775807 < 8 + s.size := by omega
  have z6 : ¬ 9223372036854775807 < 8 + s.size + 1 := by omega
  go_wp2_with (go_at_call 78; refine (ref_Four c _ hck).mono ?_; rintro e w3 ⟨rfl, hb3⟩)
  go_ret2
  exact ⟨ret_pair HFB.out, (hb1.trans (hb2.mono hb1.size)).trans (hb3.mono (Nat.le_trans hb1.size hb2.size))⟩

set_option maxHeartbeats 1000000 in
theorem ref_Take (s : ByteArray) (w : World) (hs : s.size ≤ maxLen) :
    Calls Tryd.prog 84 #[.string s] w fun e w' => e = bkE (takeL s.data.toList) ∧ Below w.heap.size w w' := by
  have HMX := Lib.hid hs
  unfold maxLen at hs
  by_cases h9 : s.size < 9
  · have HE := Lib.hid (show takeL s.data.toList = ([], 0, 10) by unfold takeL; rw [if_pos (by rw [len_data]; exact h9)])
    go_enter Tryd.func84, Tryd.ntmps84
    go_wp2
    refine bodyPost_ret (v := .tuple #[.string (bs []), .int .i64 0, .int .i64 10]) (by simp [results, Tryd.results84, go_sem]) rfl ⟨?_, Below.refl _ _⟩
    rw [HE.out]; rfl
  · have hn := valK_lt4 s 0
    have HL9 := Lib.hid (show ¬ s.data.toList.length < 9 by rw [len_data]; exact h9)
    have HN := Lib.hid (valK_0 s)
    have HV := Lib.hid (fun W => ref_value s W (by omega) HMX.out)
    generalize valK s 0 4 = n at *
    by_cases h1 : 65536 < n
    · have HE := Lib.hid (show takeL s.data.toList = ([], 0, 3) by unfold takeL; rw [if_neg HL9.out, if_pos (by rw [← HN.out]; exact h1)])
      go_enter Tryd.func84, Tryd.ntmps84
      go_wp2_with (go_at_call 86; refine (HV.out _).mono ?_; rintro e w1 ⟨rfl, hb1⟩)
      refine bodyPost_ret (v := .tuple #[.string (bs []), .int .i64 0, .int .i64 3]) (by simp [results, Tryd.results84, go_sem]) rfl ⟨?_, by assumption⟩
      rw [HE.out]; rfl
    by_cases h2 : s.size < n + 9
    · have HE := Lib.hid (show takeL s.data.toList = ([], 0, 10) by unfold takeL; rw [if_neg HL9.out, ← HN.out, if_neg h1, if_pos (by rw [len_data]; exact h2)])
      go_enter Tryd.func84, Tryd.ntmps84
      go_wp2_with (go_at_call 86; refine (HV.out _).mono ?_; rintro e w1 ⟨rfl, hb1⟩)
      refine bodyPost_ret (v := .tuple #[.string (bs []), .int .i64 0, .int .i64 10]) (by simp [results, Tryd.results84, go_sem]) rfl ⟨?_, by assumption⟩
      rw [HE.out]; rfl
    have hi8 : n + 8 < s.size := by omega
    have hlast : s.data.toList.getD (n + 8) 0 = s[n + 8] := by
      rw [List.getD, List.getElem?_eq_getElem (by rw [len_data]; exact hi8)]
      rfl
    by_cases h3 : s.data.toList.getD (n + 8) 0 = 90
    · have hx : ((s[n + 8].toNat : Int) != 90) = false := by rw [← hlast, h3]; rfl
      clear hlast
      obtain ⟨A, hA⟩ : ∃ A, s.extract 0 4 = A := ⟨_, rfl⟩
      obtain ⟨F, hF⟩ : ∃ F, s.extract 4 8 = F := ⟨_, rfl⟩
      obtain ⟨T, hT⟩ : ∃ T, s.extract 8 (n + 8) = T := ⟨_, rfl⟩
      have zA : A.size = 4 := by rw [← hA, ByteArray.size_extract]; omega
      have zF : F.size = 4 := by rw [← hF, ByteArray.size_extract]; omega
      have zT : T.size = n := by rw [← hT, ByteArray.size_extract]; omega
      have HVF := Lib.hid (fun W => ref_value F W (by omega) (by unfold maxLen; omega))
      rw [show valK F 0 4 = valK s 4 4 by
        unfold valK
        rw [← hF, ext_list, List.drop_zero, List.take_take]
        rfl] at HVF
      have HCF := Lib.hid (fun W => ref_Check (A ++ T) W (by rw [ByteArray.size_append, zA, zT]; unfold maxLen; omega))
      rw [show (A ++ T).data.toList = s.data.toList.take 4 ++ (s.data.toList.drop 8).take n by
        rw [ByteArray.data_append, Array.toList_append, ← hA, ← hT, ext_list, ext_list, show n + 8 - 8 = n by omega]
        rfl] at HCF
      have HTB := Lib.hid (show T = bs ((s.data.toList.drop 8).take n) by rw [← hT, ext_bs, show n + 8 - 8 = n by omega])
      have HCK := Lib.hid (show takeL s.data.toList = if checkN (s.data.toList.take 4 ++ (s.data.toList.drop 8).take n) ≠ valK s 4 4 then ([], 0, 110) else ((s.data.toList.drop 8).take n, n + 9, 0) by
        unfold takeL
        rw [if_neg HL9.out, ← HN.out, if_neg h1, if_neg (by rw [len_data]; exact h2), if_neg (fun h => h h3)]
        rfl)
      have hck := checkN_lt (s.data.toList.take 4 ++ (s.data.toList.drop 8).take n)
      generalize checkN (s.data.toList.take 4 ++ (s.data.toList.drop 8).take n) = c at *
      have hm4 := valK_lt4 s 4
      generalize valK s 4 4 = m at *
      have hs4 : (4 : Int) ≤ (s.size : Int) := by omega
      have hs8 : (8 : Int) ≤ (s.size : Int) := by omega
      have hs4' : 4 ≤ s.size := by omega
      have hs8' : 8 ≤ s.size := by omega
      have hov : ¬ 9223372036854775807 < 4 + n := by omega
      clear h3
      by_cases h4 : m = c
      · subst h4
        have HEE := Lib.hid HCK.out
        rw [if_neg (fun h => h rfl)] at HEE
        clear HCK
        go_enter Tryd.func84, Tryd.ntmps84
        go_wp2_with (first
          | (go_at_call 86; refine (HV.out _).mono ?_; rintro e w1 ⟨rfl, hb1⟩)
          | fail)
        refine wp_region_quiet_below (by kernel_rfl) (by kernel_rfl) ?_
        repeat (quiet_step (first | (go_at_call 86; with_reducible exact Calls.regrown_of (HVF.out _)) | (go_at_call 79; with_reducible exact Calls.regrown_of (HCF.out _))))
        refine wpQuiet_nil ?_
        intro _ hw'
        obtain ⟨⟨dq, osq⟩, hw''⟩ := hw'
        subst hw''
        have hbq := below_regrown w1 dq osq
        have HB3 := Lib.hid (hb1.trans (hbq.mono hb1.size))
        clear hbq
        dsimp only
        generalize Sort.grow (redrawn w1 dq) osq = w3 at HB3 ⊢
        go_wp2
        refine bodyPost_ret (v := .tuple #[.string T, .int .i64 ((n : Int) + 9), .int .i64 0]) (by simp [results, Tryd.results84, go_sem]) rfl ⟨?_, HB3.out⟩
        rw [HEE.out, HTB.out]
        rfl
      · have HEE := Lib.hid HCK.out
        rw [if_pos (fun h => h4 h.symm)] at HEE
        clear HCK
        go_enter Tryd.func84, Tryd.ntmps84
        go_wp2_with (first
          | (go_at_call 86; refine (HV.out _).mono ?_; rintro e w1 ⟨rfl, hb1⟩)
          | fail)
        refine wp_region_quiet_below (by kernel_rfl) (by kernel_rfl) ?_
        repeat (quiet_step (first | (go_at_call 86; with_reducible exact Calls.regrown_of (HVF.out _)) | (go_at_call 79; with_reducible exact Calls.regrown_of (HCF.out _))))
        refine wpQuiet_nil ?_
        intro _ hw'
        obtain ⟨⟨dq, osq⟩, hw''⟩ := hw'
        subst hw''
        have hbq := below_regrown w1 dq osq
        have HB3 := Lib.hid (hb1.trans (hbq.mono hb1.size))
        clear hbq
        dsimp only
        generalize Sort.grow (redrawn w1 dq) osq = w3 at HB3 ⊢
        go_wp2
        refine bodyPost_ret (v := .tuple #[.string (bs []), .int .i64 0, .int .i64 110]) (by simp [results, Tryd.results84, go_sem]) rfl ⟨?_, HB3.out⟩
        rw [HEE.out]
        rfl
    · have hx : ((s[n + 8].toNat : Int) != 90) = true := by
        rw [bne_iff_ne]
        intro h
        have h90 : (90 : UInt8).toNat = 90 := rfl
        exact h3 (by rw [hlast]; exact UInt8.toNat_inj.1 (by rw [h90]; omega))
      have HE := Lib.hid (show takeL s.data.toList = ([], 0, 6) by unfold takeL; rw [if_neg HL9.out, ← HN.out, if_neg h1, if_neg (by rw [len_data]; exact h2), if_pos h3])
      clear hlast h3
      go_enter Tryd.func84, Tryd.ntmps84
      go_wp2_with (go_at_call 86; refine (HV.out _).mono ?_; rintro e w1 ⟨rfl, hb1⟩)
      refine bodyPost_ret (v := .tuple #[.string (bs []), .int .i64 0, .int .i64 6]) (by simp [results, Tryd.results84, go_sem]) rfl ⟨?_, by assumption⟩
      rw [HE.out]; rfl
end Go.Proofs.YtepcfmigkhacgaaDoor.Frame

namespace Go.Proofs.YtepcfmigkhacgaaDoor.Frame
open Go.RowKit Go.Proofs.YtepcfmigkhacgaaDoor.Gr

/-- Where a scan stands: what was taken, and from where on it goes on. -/
structure At (l : List UInt8) (m : Nat) (T : List (List UInt8)) (z : Nat) : Prop where
  le : z ≤ l.length
  many : T.length ≤ m
  room : 9 * T.length ≤ z
  rest : scanL m l = (T ++ (scanL (m - T.length) (l.drop z)).1, z + (scanL (m - T.length) (l.drop z)).2)
theorem At.zero (l : List UInt8) (m : Nat) : At l m [] 0 := ⟨Nat.zero_le _, Nat.zero_le _, Nat.zero_le _, by simp⟩
theorem At.full {l : List UInt8} {m : Nat} {T : List (List UInt8)} {z : Nat} (h : At l m T z) (hf : m ≤ T.length) : scanL m l = (T, z) := by
  have := h.rest
  rw [show m - T.length = 0 by omega] at this
  simpa [scanL] using this
theorem At.stop {l : List UInt8} {m : Nat} {T : List (List UInt8)} {z : Nat} (h : At l m T z) (hs : (takeL (l.drop z)).2.2 ≠ 0) : scanL m l = (T, z) := by
  have := h.rest
  rw [scanL_none _ hs] at this
  simpa using this
theorem At.next {l : List UInt8} {m : Nat} {T : List (List UInt8)} {z : Nat} (h : At l m T z) (hlt : T.length < m) (hs : (takeL (l.drop z)).2.2 = 0) :
    At l m (T ++ [(takeL (l.drop z)).1]) (z + (takeL (l.drop z)).2.1) := by
  have hsz := takeL_size (l.drop z)
  have h9 := (hsz.2 hs).1
  rw [List.length_drop] at hsz
  have hle := h.le
  have hroom := h.room
  refine ⟨by omega, by rw [List.length_append, List.length_singleton]; omega, by rw [List.length_append, List.length_singleton]; omega, ?_⟩
  rw [h.rest, show m - T.length = (m - (T ++ [(takeL (l.drop z)).1]).length) + 1 by rw [List.length_append, List.length_singleton]; omega, scanL, if_pos hs, List.drop_drop]
  simp [Nat.add_assoc]

abbrev tx (T : List (List UInt8)) : List ByteArray := T.map bs
theorem tx_len (T : List (List UInt8)) : (tx T).length = T.length := by simp
theorem drop_ext (s : ByteArray) (z : Nat) : (s.extract z s.size).data.toList = s.data.toList.drop z := by
  rw [ext_list, List.take_of_length_le]
  rw [List.length_drop, len_data]
  exact Nat.le_refl _

def ScanTo (w : World) (l : List UInt8) (m : Nat) (e : Ending) (w' : World) : Prop :=
  ∃ v, e = .returned (.tuple #[v, .int .i64 (scanL m l).2]) ∧ KT.At w' v (tx (scanL m l).1) ∧ Below w.heap.size w w'
theorem scan_end {w w' : World} {l : List UInt8} {m z B : Nat} {T : List (List UInt8)} {v : Value} (h : scanL m l = (T, z)) (hown : KT.Own B v (tx T) w') (hb : Below w.heap.size w w') : ScanTo w l m (.returned (.tuple #[v, .int .i64 z])) w' :=
  ⟨v, by rw [h], by rw [h]; exact hown.reads, hb⟩
theorem size_drop (s : ByteArray) (z : Nat) : (s.extract z s.size).size ≤ s.size := by rw [ByteArray.size_extract]; omega

set_option maxRecDepth 100000 in
set_option maxHeartbeats 1600000 in
theorem ref_Scan (s : ByteArray) (most : Int) (w : World) (hs : s.size ≤ 1099511627) :
    Calls Tryd.prog 77 #[.string s, .int .i64 most] w (ScanTo w s.data.toList most.toNat) := by
  obtain ⟨l, hl⟩ : ∃ l, s.data.toList = l := ⟨_, rfl⟩
  have HLN := Lib.hid (show l.length = s.size by rw [← hl]; exact len_data s)
  have HTK := Lib.hid (fun (z : Nat) (W : World) => ref_Take (s.extract z s.size) W (by have := size_drop s z; unfold maxLen; omega))
  simp only [drop_ext, hl] at HTK
  rw [hl]
  clear hl
  go_enter Tryd.func77, Tryd.ntmps77
  go_wp2_with fail
  go_loopw [6, 7] (fun tv zv wr => ∃ (T : List (List UInt8)) (z : Nat), At l most.toNat T z ∧ zv = .int .i64 z ∧ KT.Own w.heap.size tv (tx T) wr ∧ Below w.heap.size w wr) (fun _ zv _ => s.size - (intOf zv).toNat)
  case atStart => exact ⟨[], 0, At.zero _ _, rfl, Kind.Own.nil _ _, Below.refl _ _⟩
  case round =>
    obtain ⟨T, z, hat, rfl, hown, hbel⟩ := hrel
    have hle := hat.le
    have hroom := hat.room
    rw [HLN.out] at hle
    obtain ⟨a, n, cap, rfl, hn⟩ : ∃ a n cap, u6 = .slice a n cap ∧ T.length = n := by
      obtain ⟨a, cap, h, _⟩ := hown.reads.form
      exact ⟨a, _, cap, h, by simp⟩
    have HNN := Lib.hid hn
    have HAT := Lib.hid hat
    have HOWN := Lib.hid hown
    have HBEL := Lib.hid hbel
    rw [hn] at hroom
    clear hat hown hbel hn
    by_cases hlt : (n : Int) < most
    · obtain ⟨t, q, er, htk⟩ : ∃ t q er, takeL (l.drop z) = (t, q, er) := ⟨_, _, _, rfl⟩
      have HTZ := Lib.hid (show Calls Tryd.prog 84 #[.string (s.extract z s.size)] wr fun e w' => e = .returned (.tuple #[.string (bs t), .int .i64 (q : Int), .int .i64 (er : Int)]) ∧ Below wr.heap.size wr w' by
        have h := HTK.out z wr
        rw [htk] at h
        exact h)
      have HTKE := Lib.hid htk
      have hzs : (z : Int) ≤ (s.size : Int) := by omega
      clear htk
      by_cases her : er = 0
      · subst her
        have hq9 := (takeL_size (l.drop z)).2
        have hqs := (takeL_size (l.drop z)).1
        rw [HTKE.out] at hq9 hqs
        have hq9 : 9 ≤ q := (hq9 rfl).1
        rw [List.length_drop, HLN.out] at hqs
        have hqs : q ≤ s.size - z := hqs
        have HNX := HAT.out.next (by have := HNN.out; omega) (by rw [HTKE.out])
        rw [HTKE.out] at HNX
        have HNX := Lib.hid HNX
        go_upto_region 6 with (go_at_call 84; refine HTZ.out.mono ?_; rintro e w1 ⟨rfl, hb1⟩)
        have hba : Below w1.heap.size w1 (w1.alloc (.cells #[.string (bs t)] 9)) := (Below.refl _ _).alloc (Nat.le_refl _) _
        have HBA := Lib.hid ((HBEL.out.trans (hb1.mono HBEL.out.size)).trans (hba.mono (Nat.le_trans HBEL.out.size hb1.size)))
        have HO := Lib.hid ((HOWN.out.kept hb1).kept hba)
        have HAB := Lib.hid (kt_one w1.heap.size 0 (bs t) (w1.alloc (.cells #[.string (bs t)] 9)) (by rw [World.cell?_alloc_mark]; rfl))
        have HRM := Lib.hid (show ((tx T).length + [bs t].length) * (KT.bytes + 1) ≤ 1099511627776 by
          have := HNN.out
          show ((tx T).length + 1) * 17 ≤ 1099511627776
          rw [tx_len]
          omega)
        have HSB := Lib.hid (show w.heap.size ≤ (w1.alloc (.cells #[.string (bs t)] 9)).heap.size from HBA.out.size)
        have hz2 : (z : Int) + (q : Int) ≤ (s.size : Int) := by omega
        clear hb1 hba
        go_wp2_with (refine wpList_append_at (K := KT) rfl (.tmp 25) (.tmp 27) 54 rfl Tryd.underlying54 w.heap.size rfl HO.out _ [bs t] rfl HAB.out HRM.out HSB.out ?_; intro v2 w2 hown2 hbb2)
        go_roundw
        case rel => exact ⟨T ++ [t], z + q, HNX.out, by go_num, by rw [tx, List.map_append]; exact hown2, HBA.out.trans hbb2⟩
        case measure => simp [intOf]; omega
      · have her' : ¬ (er : Int) = 0 := by omega
        have HST := Lib.hid (HAT.out.stop (by rw [HTKE.out]; exact her))
        go_wp2_with (go_at_call 84; refine HTZ.out.mono ?_; rintro e w1 ⟨rfl, hb1⟩)
        go_ret2
        exact scan_end HST.out (HOWN.out.kept hb1) (HBEL.out.trans (hb1.mono HBEL.out.size))
    · have HST := Lib.hid (HAT.out.full (by have := HNN.out; omega))
      go_wp2
      go_ret2
      exact scan_end HST.out HOWN.out HBEL.out
end Go.Proofs.YtepcfmigkhacgaaDoor.Frame
