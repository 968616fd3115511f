/- frame: rows of texts; the code's check. -/
import Derived.Test.YtfemebdiailacaaDoorProg
import Derived.Test.YtfemebdiailacaaDoorGr
import Derived.Test.YtfemebdiailacaaDoorFrMath
import Derived.WalkKit
import Derived.WalkSpells
import Derived.Handy
import Derived.Below
import Derived.RegionTactic
import Derived.Laws.BitsAllLaws
import Derived.Laws.BytesArg
import Derived.Lib.Hide
namespace Go.Proofs.YtfemebdiailacaaDoor.Frame
open Go.RowKit Go.Proofs.YtfemebdiailacaaDoor.Gr

theorem ret_str {a b : ByteArray} (h : a = b) : Ending.returned (.string a) = .returned (.string b) := by rw [h]
theorem ret_int {k : IntKind} {a b : Int} (h : a = b) : Ending.returned (.int k a) = .returned (.int k b) := by rw [h]

def KT : Kind Tryd.prog ByteArray where
  T := 9
  size := 1
  bytes := 16
  zero := .string ⟨#[]⟩
  enc x := [.string x]
  info := by kernel_rfl
  zsize := rfl
  pos := by decide
  len _ := rfl
  one x u hu := by
    simp at hu
    subst hu
    rfl
theorem text_cell {w : World} {l : List ByteArray} {g o : Nat} (hr : w.rangeAt g o (KT.flat l)) {i : Nat} {x : ByteArray} (hi : l[i]? = some x) : w.cell? ⟨g, o + i, none⟩ = some (.string x) := by
  have h := range_thing hr hi (j := 0) (u := .string x) rfl
  rw [show i * KT.size + 0 = i from Nat.mul_one i] at h
  exact h

/-- The table that the program lays. -/
def Tab (w : World) : Prop := ∀ i, i < 16 → w.cell? ⟨0, i, none⟩ = some (.int .u32 ((tabN.getD i 0 : Nat) : Int))
theorem Tab.kept {w w' : World} (h : Tab w) (hb : Below w.heap.size w w') : Tab w' := fun i hi => by
  have hc := h i hi
  rw [hb.cell (World.block_lt_of_cell? _ _ hc)]
  exact hc

/-- All bytes of the parts. -/
def catL (Ps : List ByteArray) : List UInt8 := Ps.flatMap fun s => s.data.toList
theorem catL_snoc (Ps : List ByteArray) (k : Nat) (s : ByteArray) (h : Ps[k]? = some s) : catL (Ps.take (k + 1)) = catL (Ps.take k) ++ s.data.toList := by
  rw [List.take_add_one, h]
  simp [catL]
theorem take_snoc (s : ByteArray) (k : Nat) (h : k < s.size) : s.data.toList.take (k + 1) = s.data.toList.take k ++ [s[k]] := by
  rw [List.take_succ_eq_append_getElem (by simpa using h)]; rfl
def regL (Ps : List ByteArray) (k : Nat) (s : ByteArray) (j : Nat) : Nat := crcN (crcN 4294967295 (catL (Ps.take k))) (s.data.toList.take j)
theorem regL_lt (Ps : List ByteArray) (k : Nat) (s : ByteArray) (j : Nat) : regL Ps k s j < 4294967296 := crcN_lt _ (crcN_lt _ (by decide))
theorem regL_succ (Ps : List ByteArray) (k : Nat) (s : ByteArray) (j : Nat) (h : j < s.size) : regL Ps k s (j + 1) = byteN (regL Ps k s j) s[j].toNat := by
  unfold regL
  rw [take_snoc s j h, crcN_append]
  rfl
theorem regL_zero (Ps : List ByteArray) (k : Nat) (s : ByteArray) : regL Ps k s 0 = crcN 4294967295 (catL (Ps.take k)) := rfl
theorem regL_all (Ps : List ByteArray) (k : Nat) (s : ByteArray) (h : Ps[k]? = some s) : regL Ps k s s.size = crcN 4294967295 (catL (Ps.take (k + 1))) := by
  unfold regL
  rw [catL_snoc Ps k s h, crcN_append, show s.data.toList.take s.size = s.data.toList from List.take_of_length_le (by rw [Array.length_toList]; exact Nat.le_refl _)]

theorem and15 (x : Nat) (hx : x < 4294967296) : bits .and .u32 (x : Int) 15 = ((x % 16 : Nat) : Int) := by
  have h := u32_and_nat x 15 hx (by omega)
  rw [show x &&& 15 = x % 16 from Nat.and_two_pow_sub_one_eq_mod x 4] at h
  exact h
theorem xor_nib (x t : Nat) (hx : x < 4294967296) (ht : t < 4294967296) : bits .xor .u32 ((x : Int) / 16) (t : Int) = ((x / 16 ^^^ t : Nat) : Int) := by
  have h := u32_xor_nat (x / 16) t (by omega) ht
  rw [← h]
  simp

set_option maxRecDepth 100000 in
set_option maxHeartbeats 1600000 in
theorem code_checkOf (v : Value) (Ps : List ByteArray) (w : World) (hT : KT.At w v Ps) (hm : ∀ s ∈ Ps, s.size ≤ maxLen) (hlen : Ps.length ≤ 10) (htab : Tab w) :
    Calls Tryd.prog 21 #[v] w fun e w' => e = .returned (.int .u32 (checkN (catL Ps) : Nat)) ∧ w = w' := by
  obtain ⟨a, cap, n, hn, rfl, hcells⟩ : ∃ a cap n, Ps.length = n ∧ v = .slice a n cap ∧ ∀ (i : Nat) (s : ByteArray), Ps[i]? = some s → ∃ g o, a = some ⟨g, o, none⟩ ∧ w.cell? ⟨g, o + i, none⟩ = some (.string s) := by
    rcases hT with ⟨a, cap, rfl, rfl⟩ | ⟨g, o, cap, rfl, _, _, hc⟩
    · exact ⟨a, cap, 0, rfl, rfl, fun i s h => by simp at h⟩
    · exact ⟨_, cap, _, rfl, rfl, fun i s h => ⟨g, o, rfl, text_cell hc h⟩⟩
  have HM := Lib.hid hm
  have HC := Lib.hid hcells
  have HN := Lib.hid hn
  have HT := Lib.hid htab
  have hn0 : n ≤ 10 := by omega
  clear hT hm hcells hn htab hlen
  go_enter Tryd.func21, Tryd.ntmps21
  go_wp2
  go_loop [3, 9] (fun r i => ∃ k : Nat, k ≤ n ∧ i = .int .i64 k ∧ r = .int .u32 (crcN 4294967295 (catL (Ps.take k)) : Nat)) (fun _ i => n - (intOf i).toNat)
  case atStart => exact ⟨0, by omega, rfl, rfl⟩
  case round =>
    obtain ⟨k, hk, rfl, rfl⟩ := hrel
    by_cases hlt : k < n
    · obtain ⟨s, hs⟩ : ∃ s, Ps[k]? = some s := ⟨Ps[k]'(by rw [HN.out]; exact hlt), List.getElem?_eq_getElem _⟩
      obtain ⟨g, o, rfl, hcell⟩ := HC.out k s hs
      have hsz := HM.out s (List.mem_of_getElem? hs)
      unfold maxLen at hsz
      have HALL := Lib.hid (regL_all Ps k s hs)
      have HZ := Lib.hid (regL_zero Ps k s)
      clear hs
      rw [← HZ.out]
      go_wp2
      go_loop [3, 15] (fun r i => ∃ j : Nat, j ≤ s.size ∧ i = .int .i64 j ∧ r = .int .u32 (regL Ps k s j : Nat)) (fun _ i => s.size - (intOf i).toNat)
      case atStart => exact ⟨0, by omega, rfl, rfl⟩
      case round =>
        obtain ⟨j, hj, rfl, rfl⟩ := hrel
        by_cases hjl : j < s.size
        · have HS := Lib.hid (regL_succ Ps k s j hjl)
          have hR := regL_lt Ps k s j
          generalize regL Ps k s j = R at *
          have hc := s[j].toNat_lt
          have hx := u32_xor_nat R s[j].toNat hR (by omega)
          have hX := xor_lt32 hR (show s[j].toNat < 4294967296 by omega)
          have HB := Lib.hid (byteN_two R s[j].toNat)
          generalize R ^^^ s[j].toNat = x at *
          obtain ⟨q, hq⟩ : ∃ q, x % 16 = q := ⟨_, rfl⟩
          have hq16 : q < 16 := by omega
          have ha := and15 x hX
          rw [hq] at ha
          have ht := HT.out q hq16
          have h4 := tk4 x
          rw [hq] at h4
          have htl := tab_lt q hq16
          generalize tabN.getD q 0 = t at *
          have hy := xor_nib x t hX htl
          rw [← h4] at hy
          have hY := tk_lt 4 hX
          generalize tk 4 x = y at *
          obtain ⟨p, hp⟩ : ∃ p, y % 16 = p := ⟨_, rfl⟩
          have hp16 : p < 16 := by omega
          have hb := and15 y hY
          rw [hp] at hb
          have hu := HT.out p hp16
          have h5 := tk4 y
          rw [hp] at h5
          have hul := tab_lt p hp16
          generalize tabN.getD p 0 = u at *
          have hz := xor_nib y u hY hul
          rw [← h5] at hz
          have HZZ := Lib.hid (HS.out.trans HB.out)
          generalize tk 4 y = z at *
          clear h4 h5 hq hp HS HB
          go_wp2
          go_round
          case rel => exact ⟨j + 1, by omega, by go_num, by rw [HZZ.out]⟩
          case measure => simp [intOf]; omega
        · obtain rfl : j = s.size := by omega
          go_wp2
          go_round
          case rel => exact ⟨k + 1, by omega, by go_num, by rw [HALL.out]⟩
          case measure => simp [intOf]; omega
    · obtain rfl : k = n := by omega
      have e : Ps.take k = Ps := List.take_of_length_le (by rw [HN.out]; omega)
      have HX := Lib.hid (u32_xor_nat 4294967295 (crcN 4294967295 (catL Ps)) (by decide) (crcN_lt _ (by decide)))
      rw [e]
      clear e
      go_wp2
      all_goals
        go_ret
        refine ⟨ret_int ?_, rfl⟩
        first
          | exact absurd ‹IntKind.u32.signed = true› (by decide)
          | (rw [checkN, Nat.xor_comm]; exact HX.out)
end Go.Proofs.YtfemebdiailacaaDoor.Frame
