/- A hash as a value; the code's Bytes and Hex. -/
import Derived.Test.YtlalipomphgcoaaProg
import Derived.WalkKit
import Derived.WalkSpells
import Derived.Handy
import Derived.Below
import Derived.BigRegion
import Derived.Laws.Rows
import Derived.Laws.BytesArg
import Derived.OwnWalk
import Derived.Deep.AppendLies
import Derived.Lib.SmallJoins
import Derived.Laws.BitsAllLaws
import Derived.Lib.Hide
namespace Go.Proofs.Ytlalipomphgcoaa.Sha
open Go.RowKit

/-- Bytes as values. -/
def valsB (h : List UInt8) : List Value := h.map fun (b : UInt8) => Value.int .u8 (b.toNat : Int)
theorem valsB_snoc (ys : List UInt8) (b : UInt8) : valsB ys ++ [Value.int .u8 (b.toNat : Int)] = valsB (ys ++ [b]) := by simp [valsB]
theorem valsB_get (h : List UInt8) (i : Nat) (b : UInt8) (hb : h[i]? = some b) : (valsB h).toArray[i]? = some (.int .u8 (b.toNat : Int)) := by simp [valsB, hb]
theorem valsB_size (h : List UInt8) : (valsB h).toArray.size = h.length := by simp [valsB]

/-- A slice's cells are these numbers of 32 bits. -/
def Dig32 (w : World) (g : Nat) (xs : List Nat) : Prop := ∀ i x : Nat, xs[i]? = some x → w.cell? ⟨g, i, none⟩ = some (.int .u32 x)
def vals32 (xs : List Nat) : List Value := xs.map fun (x : Nat) => Value.int .u32 x
theorem vals32_snoc (ys : List Nat) (r : Nat) : vals32 ys ++ [Value.int .u32 (r : Int)] = vals32 (ys ++ [r]) := by simp [vals32]
theorem info32 : (Try.prog.info? 45).map (fun i => (i.zero, i.size, i.bytes)) = some (some (.int .u32 0), 1, 4) := by kernel_rfl
theorem own_cells32 {w : World} {B : Nat} {n : Nat} {xs : List Nat} {g cap : Nat} (h : w.ownsRow B 45 1 (.slice (some ⟨g, 0, none⟩) n cap) n (vals32 xs)) : Dig32 w g xs := by
  intro i x hx
  have := h.cells (g := g) rfl i (.int .u32 x) (by simp [vals32, hx])
  have e : (⟨g, 0, none⟩ : Addr).add i = ⟨g, i, none⟩ := by
    unfold Addr.add
    split
    · rename_i h0
      have : i = 0 := by simpa using h0
      subst this
      rfl
    · simp
  rw [e] at this
  exact this
theorem news_oneCell32 (r : Nat) : ∀ u ∈ [Value.int .u32 (r : Int)], u.oneCell' = true := by
  intro u hu
  simp at hu
  subst hu
  rfl

/-- What a slice whose cells are bytes tells as a text. -/
theorem conv_bytes (w : World) (g n cap : Nat) (xs : List UInt8) (hn : xs.length = n) (hc : ∀ (i : Nat) (b : UInt8), xs[i]? = some b → w.cell? ⟨g, i, none⟩ = some (.int .u8 (b.toNat : Int))) :
    (convert 56 9 (.slice (some ⟨g, 0, none⟩) n cap)).run Try.prog w = .ok (.string ⟨xs.toArray⟩) w := by
  have hr := run_convert_bytes_arg w 56 5 Try.underlying56 Try.underlying5 g 0 n cap (xs.map fun b => (b.toNat : Int)) (by simpa using hn) (fun i hi => by
    rw [Nat.zero_add]
    have hlt : i < xs.length := by omega
    rw [hc i xs[i] (List.getElem?_eq_getElem hlt)]
    simp [List.getD, List.getElem?_eq_getElem hlt]) 9 Try.underlying9
  rw [hr]
  have e : strOfNums (xs.map fun b => (b.toNat : Int)) = ⟨xs.toArray⟩ := by
    have e2 : (xs.map fun b => (b.toNat : Int)).map (fun n => UInt8.ofNat n.toNat) = xs := by
      rw [List.map_map]
      conv => rhs; rw [← List.map_id xs]
      apply List.map_congr_left
      intro b _
      simp
    unfold strOfNums
    rw [e2]
  rw [e]

set_option maxRecDepth 100000 in
set_option maxHeartbeats 400000 in
theorem code_bytes (h : List UInt8) (hl : h.length = 32) (w : World) :
    Calls Try.prog 14 #[.agg (valsB h).toArray] w fun e w' => e = .returned (.string ⟨h.toArray⟩) ∧ Below w.heap.size w w' := by
  have hk := conv_bytes (w.alloc (.cells (valsB h).toArray 23)) w.heap.size 32 32 h hl (fun i b hb => by
    rw [World.cell?_alloc_mark]
    exact valsB_get h i b hb)
  obtain ⟨C, hC⟩ : ∃ C, (valsB h).toArray = C := ⟨_, rfl⟩
  rw [hC] at hk
  rw [hC]
  clear hC
  go_enter Try.func14, Try.ntmps14
  go_wp2
  go_ret
  exact ⟨rfl, (Below.refl _ _).alloc (Nat.le_refl _) _⟩

/-- The digit of a number below 16. -/
def hexD (n : Nat) : UInt8 := if n < 10 then UInt8.ofNat (48 + n) else UInt8.ofNat (87 + n)
theorem idx_hex (w : World) (z : Int) (n : Nat) (hn : n < 16) (hz : z = (n : Int)) :
    (Instr.index 9 (.string ⟨#[48, 49, 50, 51, 52, 53, 54, 55, 56, 57, 97, 98, 99, 100, 101, 102]⟩) (.int .u8 z)).run Try.prog w = .ok (.int .u8 ((hexD n).toNat : Int)) w := by
  subst hz
  have h : n = 0 ∨ n = 1 ∨ n = 2 ∨ n = 3 ∨ n = 4 ∨ n = 5 ∨ n = 6 ∨ n = 7 ∨ n = 8 ∨ n = 9 ∨ n = 10 ∨ n = 11 ∨ n = 12 ∨ n = 13 ∨ n = 14 ∨ n = 15 := by omega
  rcases h with rfl | rfl | rfl | rfl | rfl | rfl | rfl | rfl | rfl | rfl | rfl | rfl | rfl | rfl | rfl | rfl <;> (clear hn; show _ = _; kernel_rfl)
/-- A hash's digits. -/
def hexL : List UInt8 → List UInt8
  | [] => []
  | b :: r => hexD (b.toNat / 16) :: hexD (b.toNat % 16) :: hexL r
theorem hexL_snoc (l : List UInt8) (b : UInt8) : hexL (l ++ [b]) = hexL l ++ [hexD (b.toNat / 16), hexD (b.toNat % 16)] := by
  induction l with
  | nil => rfl
  | cons a l ih => simp [hexL, ih]
theorem hexL_length (l : List UInt8) : (hexL l).length = 2 * l.length := by
  induction l with
  | nil => rfl
  | cons a l ih => simp [hexL, ih]; omega

/-- The array of the digits behind k rounds. -/
def hexRow (h : List UInt8) (k : Nat) : Array Value := (valsB (hexL (h.take k) ++ List.replicate (64 - 2 * k) 0)).toArray
theorem hexRow_zero (h : List UInt8) : hexRow h 0 = (List.replicate 64 (Value.int .u8 0)).toArray := by
  unfold hexRow
  rw [List.take_zero]
  rfl
theorem hexRow_size (h : List UInt8) (k : Nat) (hk : k ≤ 32) (hl : h.length = 32) : (hexRow h k).size = 64 := by
  simp [hexRow, valsB, hexL_length, hl]
  omega
theorem hexRow_list (h : List UInt8) (k : Nat) : (hexRow h k).toList = valsB (hexL (h.take k)) ++ List.replicate (64 - 2 * k) (Value.int .u8 0) := by
  simp [hexRow, valsB]
theorem set_two (l : List Value) (n m : Nat) (a b x : Value) (hm : l.length = n) : ((l ++ List.replicate (m + 2) x).set n a).set (n + 1) b = (l ++ [a, b]) ++ List.replicate m x := by
  subst hm
  rw [List.set_append_right _ _ (Nat.le_refl _), Nat.sub_self, List.replicate_succ, List.replicate_succ, List.set_cons_zero, List.set_append_right _ _ (by omega)]
  have e : l.length + 1 - l.length = 1 := by omega
  rw [e]
  simp
theorem hexRow_set (h : List UInt8) (k : Nat) (b : UInt8) (hl : h.length = 32) (hb : h[k]? = some b) :
    ((hexRow h k).setIfInBounds (2 * k) (.int .u8 ((hexD (b.toNat / 16)).toNat : Int))).setIfInBounds (2 * k + 1) (.int .u8 ((hexD (b.toNat % 16)).toNat : Int)) = hexRow h (k + 1) := by
  have hk : k < 32 := by
    have := (List.getElem?_eq_some_iff.1 hb).1
    omega
  apply Array.toList_inj.1
  rw [Array.toList_setIfInBounds, Array.toList_setIfInBounds, hexRow_list, hexRow_list, show 64 - 2 * k = 64 - 2 * (k + 1) + 2 by omega,
    set_two _ _ _ _ _ _ (by simp [valsB, hexL_length, hl]; omega), List.take_add_one, hb]
  congr 1
  simp only [Option.toList, hexL_snoc, valsB, List.map_append, List.map_cons, List.map_nil]

end Go.Proofs.Ytlalipomphgcoaa.Sha
