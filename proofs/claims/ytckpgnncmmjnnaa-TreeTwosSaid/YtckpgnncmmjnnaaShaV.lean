/- A hash as a value; the code's Bytes and Hex. -/
import Derived.Test.YtckpgnncmmjnnaaProg
import Derived.WalkKit
import Derived.WalkSpells
import Derived.Handy
import Derived.Below
import Derived.BigRegion
import Derived.Laws.Rows
import Derived.Laws.BytesArg
import Derived.OwnWalk
import Derived.Deep.AppendLies
import Derived.Lib.SmallJoins
import Derived.Laws.BitsAllLaws
import Derived.Lib.Hide
namespace Go.Proofs.Ytckpgnncmmjnnaa.Sha
open Go.RowKit

/-- Bytes as values. -/
def valsB (h : List UInt8) : List Value := h.map fun (b : UInt8) => Value.int .u8 (b.toNat : Int)
theorem valsB_snoc (ys : List UInt8) (b : UInt8) : valsB ys ++ [Value.int .u8 (b.toNat : Int)] = valsB (ys ++ [b]) := by simp [valsB]
theorem valsB_get (h : List UInt8) (i : Nat) (b : UInt8) (hb : h[i]? = some b) : (valsB h).toArray[i]? = some (.int .u8 (b.toNat : Int)) := by simp [valsB, hb]
theorem valsB_size (h : List UInt8) : (valsB h).toArray.size = h.length := by simp [valsB]

/-- A slice's cells are these numbers of 32 bits. -/
def Dig32 (w : World) (g : Nat) (xs : List Nat) : Prop := ∀ i x : Nat, xs[i]? = some x → w.cell? ⟨g, i, none⟩ = some (.int .u32 x)
def vals32 (xs : List Nat) : List Value := xs.map fun (x : Nat) => Value.int .u32 x
theorem vals32_snoc (ys : List Nat) (r : Nat) : vals32 ys ++ [Value.int .u32 (r : Int)] = vals32 (ys ++ [r]) := by simp [vals32]
theorem info32 : (Try.prog.info? 43).map (fun i => (i.zero, i.size, i.bytes)) = some (some (.int .u32 0), 1, 4) := by kernel_rfl
theorem own_cells32 {w : World} {B : Nat} {n : Nat} {xs : List Nat} {g cap : Nat} (h : w.ownsRow B 43 1 (.slice (some ⟨g, 0, none⟩) n cap) n (vals32 xs)) : Dig32 w g xs := by
  intro i x hx
  have := h.cells (g := g) rfl i (.int .u32 x) (by simp [vals32, hx])
  have e : (⟨g, 0, none⟩ : Addr).add i = ⟨g, i, none⟩ := by
    unfold Addr.add
    split
    · rename_i h0
      have : i = 0 := by simpa using h0
      subst this
      rfl
    · simp
  rw [e] at this
  exact this
theorem news_oneCell32 (r : Nat) : ∀ u ∈ [Value.int .u32 (r : Int)], u.oneCell' = true := by
  intro u hu
  simp at hu
  subst hu
  rfl

/-- What a slice whose cells are bytes tells as a text. -/
theorem conv_bytes (w : World) (g n cap : Nat) (xs : List UInt8) (hn : xs.length = n) (hc : ∀ (i : Nat) (b : UInt8), xs[i]? = some b → w.cell? ⟨g, i, none⟩ = some (.int .u8 (b.toNat : Int))) :
    (convert 52 9 (.slice (some ⟨g, 0, none⟩) n cap)).run Try.prog w = .ok (.string ⟨xs.toArray⟩) w := by
  have hr := run_convert_bytes_arg w 52 5 Try.underlying52 Try.underlying5 g 0 n cap (xs.map fun b => (b.toNat : Int)) (by simpa using hn) (fun i hi => by
    rw [Nat.zero_add]
    have hlt : i < xs.length := by omega
    rw [hc i xs[i] (List.getElem?_eq_getElem hlt)]
    simp [List.getD, List.getElem?_eq_getElem hlt]) 9 Try.underlying9
  rw [hr]
  have e : strOfNums (xs.map fun b => (b.toNat : Int)) = ⟨xs.toArray⟩ := by
    unfold strOfNums
    rw [List.map_map]
    congr 2
    conv => rhs; rw [← List.map_id xs]
    apply List.map_congr_left
    intro b _
    simp
  rw [e]

set_option maxRecDepth 100000 in
set_option maxHeartbeats 400000 in
theorem code_bytes (h : List UInt8) (hl : h.length = 32) (w : World) :
    Calls Try.prog 18 #[.agg (valsB h).toArray] w fun e w' => e = .returned (.string ⟨h.toArray⟩) ∧ Below w.heap.size w w' := by
  have hk := conv_bytes (w.alloc (.cells (valsB h).toArray 24)) w.heap.size 32 32 h hl (fun i b hb => by
    rw [World.cell?_alloc_mark]
    exact valsB_get h i b hb)
  obtain ⟨C, hC⟩ : ∃ C, (valsB h).toArray = C := ⟨_, rfl⟩
  rw [hC] at hk
  rw [hC]
  clear hC
  go_enter Try.func18, Try.ntmps18
  go_wp2
  go_ret
  exact ⟨rfl, (Below.refl _ _).alloc (Nat.le_refl _) _⟩

/-- The digit of a number below 16. -/
def hexD (n : Nat) : UInt8 := if n < 10 then UInt8.ofNat (48 + n) else UInt8.ofNat (87 + n)
theorem idx_hex (w : World) (z : Int) (n : Nat) (hn : n < 16) (hz : z = (n : Int)) :
    (Instr.index 9 (.string ⟨#[48, 49, 50, 51, 52, 53, 54, 55, 56, 57, 97, 98, 99, 100, 101, 102]⟩) (.int .u8 z)).run Try.prog w = .ok (.int .u8 ((hexD n).toNat : Int)) w := by
  subst hz
  have h : n = 0 ∨ n = 1 ∨ n = 2 ∨ n = 3 ∨ n = 4 ∨ n = 5 ∨ n = 6 ∨ n = 7 ∨ n = 8 ∨ n = 9 ∨ n = 10 ∨ n = 11 ∨ n = 12 ∨ n = 13 ∨ n = 14 ∨ n = 15 := by omega
  rcases h with rfl | rfl | rfl | rfl | rfl | rfl | rfl | rfl | rfl | rfl | rfl | rfl | rfl | rfl | rfl | rfl <;> (clear hn; show _ = _; kernel_rfl)
/-- A hash's digits. -/
def hexL : List UInt8 → List UInt8
  | [] => []
  | b :: r => hexD (b.toNat / 16) :: hexD (b.toNat % 16) :: hexL r
theorem hexL_snoc (l : List UInt8) (b : UInt8) : hexL (l ++ [b]) = hexL l ++ [hexD (b.toNat / 16), hexD (b.toNat % 16)] := by
  induction l with
  | nil => rfl
  | cons a l ih => simp [hexL, ih]
theorem hexL_length (l : List UInt8) : (hexL l).length = 2 * l.length := by
  induction l with
  | nil => rfl
  | cons a l ih => simp [hexL, ih]; omega

/-- The array of the digits behind k rounds. -/
def hexRow (h : List UInt8) (k : Nat) : Array Value := (valsB (hexL (h.take k) ++ List.replicate (64 - 2 * k) 0)).toArray
theorem hexRow_zero (h : List UInt8) : hexRow h 0 = (List.replicate 64 (Value.int .u8 0)).toArray := by
  unfold hexRow
  rw [List.take_zero]
  rfl
theorem hexRow_size (h : List UInt8) (k : Nat) (hk : k ≤ 32) (hl : h.length = 32) : (hexRow h k).size = 64 := by
  simp [hexRow, valsB, hexL_length, hl]
  omega
theorem hexRow_list (h : List UInt8) (k : Nat) : (hexRow h k).toList = valsB (hexL (h.take k)) ++ List.replicate (64 - 2 * k) (Value.int .u8 0) := by
  simp [hexRow, valsB]
theorem set_two (l : List Value) (n m : Nat) (a b x : Value) (hm : l.length = n) : ((l ++ List.replicate (m + 2) x).set n a).set (n + 1) b = (l ++ [a, b]) ++ List.replicate m x := by
  subst hm
  rw [List.set_append_right _ _ (Nat.le_refl _), Nat.sub_self, List.replicate_succ, List.replicate_succ, List.set_cons_zero, List.set_append_right _ _ (by omega)]
  have e : l.length + 1 - l.length = 1 := by omega
  rw [e]
  simp
theorem hexRow_set (h : List UInt8) (k : Nat) (b : UInt8) (hl : h.length = 32) (hb : h[k]? = some b) :
    ((hexRow h k).setIfInBounds (2 * k) (.int .u8 ((hexD (b.toNat / 16)).toNat : Int))).setIfInBounds (2 * k + 1) (.int .u8 ((hexD (b.toNat % 16)).toNat : Int)) = hexRow h (k + 1) := by
  have hk : k < 32 := by
    have := (List.getElem?_eq_some_iff.1 hb).1
    omega
  apply Array.toList_inj.1
  rw [Array.toList_setIfInBounds, Array.toList_setIfInBounds, hexRow_list, hexRow_list, show 64 - 2 * k = 64 - 2 * (k + 1) + 2 by omega,
    set_two _ _ _ _ _ _ (by simp [valsB, hexL_length, hl]; omega), List.take_add_one, hb]
  congr 1
  simp only [Option.toList, hexL_snoc, valsB, List.map_append, List.map_cons, List.map_nil]

set_option maxRecDepth 100000 in
set_option maxHeartbeats 800000 in
theorem code_hex (h : List UInt8) (hl : h.length = 32) (w : World) :
    Calls Try.prog 28 #[.agg (valsB h).toArray] w fun e w' => e = .returned (.string ⟨(hexL h).toArray⟩) ∧ Below w.heap.size w w' := by
  obtain ⟨C, hC⟩ : ∃ C, (valsB h).toArray = C := ⟨_, rfl⟩
  have HG := Lib.hid (fun i b hb => hC ▸ valsB_get h i b hb)
  rw [hC]
  clear hC
  go_enter Try.func28, Try.ntmps28
  go_wp2
  go_loopw [5] (fun i wr => ∃ k : Nat, ∃ W : World, k ≤ 32 ∧ i = .int .i64 k ∧ wr = (W.alloc (.cells C 24)).alloc (.cells (hexRow h k) 81) ∧ w.heap.size = W.heap.size ∧ Below w.heap.size w W) (fun i _ => 32 - (intOf i).toNat)
  case atStart => exact ⟨0, w, by omega, rfl, by rw [hexRow_zero]; rfl, rfl, Below.refl _ _⟩
  case round =>
    obtain ⟨k, W, hk, rfl, rfl, hW, hbel⟩ := hrel
    by_cases hlt : k < 32
    · obtain ⟨b, hb⟩ : ∃ b, h[k]? = some b := ⟨h[k]'(by omega), List.getElem?_eq_getElem _⟩
      have hcb := HG.out k b hb
      have HS := Lib.hid (hexRow_set h k b hl hb)
      have hz := hexRow_size h k hk hl
      have hb8 := b.toNat_lt
      have hk0 : (0 : Int) ≤ (k : Int) := by omega
      have hk32 : (k : Int) < 32 := by omega
      have hi1 := fun w => idx_hex w ((b.toNat : Int) / 16) (b.toNat / 16) (by omega) (by omega)
      have hi2 := fun w => idx_hex w ((b.toNat : Int) % 16) (b.toNat % 16) (by omega) (by omega)
      obtain ⟨d1, hd1⟩ : ∃ d, ((hexD (b.toNat / 16)).toNat : Int) = d := ⟨_, rfl⟩
      obtain ⟨d2, hd2⟩ : ∃ d, ((hexD (b.toNat % 16)).toNat : Int) = d := ⟨_, rfl⟩
      rw [hd1] at hi1 HS
      rw [hd2] at hi2 HS
      obtain ⟨v1, hv1⟩ : ∃ v, (hexRow h k)[2 * k]? = some v := ⟨(hexRow h k)[2 * k]'(by omega), Array.getElem?_eq_getElem _⟩
      obtain ⟨v2, hv2⟩ : ∃ v, (hexRow h k)[2 * k + 1]? = some v := ⟨(hexRow h k)[2 * k + 1]'(by omega), Array.getElem?_eq_getElem _⟩
      clear hb hd1 hd2 hz
      go_wp2_with fail
      go_region
      go_wp2_with fail
      go_roundw
      case rel => exact ⟨k + 1, W.drew, by omega, by go_num, by rw [← HS.out]; rfl, hW, hbel.drew⟩
      case measure => simp [intOf]; omega
    · have hkk : k = 32 := by omega
      subst hkk
      have hk := conv_bytes ((W.alloc (.cells C 24)).alloc (.cells (hexRow h 32) 81)) (W.heap.size + 1) 64 64 (hexL h) (by rw [hexL_length]; omega) (fun i b hb => by
        have e : (⟨W.heap.size + 1, i, none⟩ : Addr) = ⟨(W.alloc (.cells C 24)).heap.size, i, none⟩ := by simp
        rw [e, World.cell?_alloc_mark]
        have hr : hexRow h 32 = (valsB (hexL h)).toArray := by
          unfold hexRow
          rw [List.take_of_length_le (by omega)]
          simp
        rw [hr]
        exact valsB_get _ i b hb)
      go_wp2_with fail
      go_ret
      exact ⟨rfl, (hbel.alloc (by omega) _).alloc (by simp; omega) _⟩

end Go.Proofs.Ytckpgnncmmjnnaa.Sha
