/- The statements of layer 2 that lean on no answer of the document's own. -/
import Derived.Test.YtogpnfgjdnccdaaWideV
namespace Go.Proofs.Ytogpnfgjdnccdaa.Wide
open Go.RowKit

theorem two_far {w : World} {b c o : Nat} {v : Value} (x y : Value) (hne : b ≠ c) (h : w.cell? ⟨c, o, none⟩ = some v) :
    ((w.setCell ⟨b, 0, none⟩ x).setCell ⟨b, 1, none⟩ y).cell? ⟨c, o, none⟩ = some v := by
  rw [World.cell?_setCell_far _ _ _ _ hne, World.cell?_setCell_far _ _ _ _ hne, h]

/-- Three boxes in a row, and what each cell of them holds. -/
theorem six_cells (w : World) (a b c d e f : Value) (t : TypeId) :
    let W := ((w.alloc (.cells #[a, b] t)).alloc (.cells #[c, d] t)).alloc (.cells #[e, f] t)
    W.cell? ⟨w.heap.size, 0, none⟩ = some a ∧ W.cell? ⟨w.heap.size, 1, none⟩ = some b ∧ W.cell? ⟨w.heap.size + 1, 0, none⟩ = some c ∧ W.cell? ⟨w.heap.size + 1, 1, none⟩ = some d ∧
      W.cell? ⟨w.heap.size + 2, 0, none⟩ = some e ∧ W.cell? ⟨w.heap.size + 2, 1, none⟩ = some f := by
  refine ⟨?_, ?_, ?_, ?_, ?_, ?_⟩ <;> go_simp

/-- What is known of the six cells goes along. -/
structure Six (w : World) (n : Nat) (a b c d e f : Value) : Prop where
  k0 : w.cell? ⟨n, 0, none⟩ = some a
  k1 : w.cell? ⟨n, 1, none⟩ = some b
  k2 : w.cell? ⟨n + 1, 0, none⟩ = some c
  k3 : w.cell? ⟨n + 1, 1, none⟩ = some d
  k4 : w.cell? ⟨n + 2, 0, none⟩ = some e
  k5 : w.cell? ⟨n + 2, 1, none⟩ = some f

theorem Six.kept {w w' : World} {n : Nat} {a b c d e f : Value} (s : Six w n a b c d e f) (h : Below w.heap.size w w') : Six w' n a b c d e f :=
  ⟨Wide.kept h s.k0, Wide.kept h s.k1, Wide.kept h s.k2, Wide.kept h s.k3, Wide.kept h s.k4, Wide.kept h s.k5⟩
theorem Six.alloc {w : World} {n : Nat} {a b c d e f : Value} (s : Six w n a b c d e f) (o : Obj) : Six (w.alloc o) n a b c d e f :=
  ⟨keep_alloc s.k0, keep_alloc s.k1, keep_alloc s.k2, keep_alloc s.k3, keep_alloc s.k4, keep_alloc s.k5⟩
theorem Six.size {w : World} {n : Nat} {a b c d e f : Value} (s : Six w n a b c d e f) : n + 2 < w.heap.size := World.block_lt_of_cell? _ _ s.k4

theorem keep_allocF {w : World} {p : Addr} {v : Value} {o : Obj} (h : w.cell? p = some v) (hf : w.frozen? p = false) : (w.alloc o).frozen? p = false := by
  rw [World.frozen?_alloc_old _ _ _ (Nat.ne_of_lt (World.block_lt_of_cell? _ _ h)), hf]

theorem parts_math (n a b : Nat) (h0 : 0 < b) (ha : a ≤ b) : n * a / b ≤ n ∧ n * (b - a) / b ≤ n ∧ (n * a / b + n * (b - a) / b = n ∨ n * a / b + n * (b - a) / b + 1 = n) := by
  have h1 := Nat.div_add_mod (n * a) b
  have h2 := Nat.div_add_mod (n * (b - a)) b
  have r1 := Nat.mod_lt (n * a) h0
  have r2 := Nat.mod_lt (n * (b - a)) h0
  have hs : n * a + n * (b - a) = n * b := by rw [← Nat.mul_add, Nat.add_sub_cancel' ha]
  generalize n * a / b = x at h1 ⊢
  generalize n * (b - a) / b = y at h2 ⊢
  have hb : b * (x + y) + (n * a % b + n * (b - a) % b) = b * n := by rw [Nat.mul_add, Nat.mul_comm b n]; omega
  have hle : x + y ≤ n := Nat.le_of_mul_le_mul_left (by omega) h0
  obtain ⟨k, rfl⟩ : ∃ k, n = x + y + k := ⟨n - (x + y), by omega⟩
  rw [Nat.mul_add b (x + y) k] at hb
  have hk : k < 2 := by
    rcases Nat.lt_or_ge k 2 with h | h
    · exact h
    · have := Nat.mul_le_mul_left b h
      omega
  omega

theorem partN_of (n a b : Nat) (hn : n < 18446744073709551616) (h0 : 0 < b) (h : n * a / b ≤ n) : partN n a b = (n * a / b, 0) := by
  unfold partN
  rw [if_neg (by omega), if_pos (by omega)]

theorem one_cells (w : World) (x y : Value) (t : TypeId) :
    (w.alloc (.cells #[x, y] t)).cell? ⟨w.heap.size, 0, none⟩ = some x ∧ (w.alloc (.cells #[x, y] t)).cell? ⟨w.heap.size, 1, none⟩ = some y := by
  constructor <;> go_simp

end Go.Proofs.Ytogpnfgjdnccdaa.Wide
