/- Leaf functions of wide: what each call returns. -/
import Derived.Test.YtogpnfgjdnccdaaProg
import Derived.Test.YtogpnfgjdnccdaaShelf
import Derived.WalkKit
import Derived.WalkSpells
import Derived.Handy
import Derived.Below
import Derived.Laws.BitsAllLaws
import Derived.Laws.Externs
import Derived.Laws.StructEq
import Derived.Lib.Hide
namespace Go.Proofs.Ytogpnfgjdnccdaa.Wide
open Go.RowKit

/-- A contract that turns nothing that was there, said from where the caller began. -/
theorem carry {P : Program} {f : Nat} {args : Array Value} {w0 w : World} {e0 : Ending} (h : Calls P f args w fun e w' => e = e0 ∧ Below w.heap.size w w') (hb : Below w0.heap.size w0 w) :
    Calls P f args w fun e w' => e = e0 ∧ Below w0.heap.size w0 w' :=
  h.mono fun _ _ hh => ⟨hh.1, hb.trans (hh.2.mono hb.size)⟩

theorem below_alloc {w0 w : World} (h : Below w0.heap.size w0 w) (o : Obj) : Below w0.heap.size w0 (w.alloc o) :=
  h.trans (((Below.refl w.heap.size w).alloc (Nat.le_refl _) o).mono h.size)

/-- A sum of numbers, or that it is none. -/
def addN (a b : Nat) : Nat × Nat := if a + b < 18446744073709551616 then (a + b, 0) else (0, 9)
/-- A sum of wide numbers. -/
def plusN (a b : Nat) : Nat × Nat := if a + b < 340282366920938463463374607431768211456 then (a + b, 0) else (0, 9)
/-- A product of a wide number and a number. -/
def timesN (a b : Nat) : Nat × Nat := if a * b < 340282366920938463463374607431768211456 then (a * b, 0) else (0, 9)

/-- A wide number's upper word, its lower word. -/
def hiN (n : Nat) : Nat := n / 18446744073709551616
def loN (n : Nat) : Nat := n % 18446744073709551616
theorem loN_lt (n : Nat) : loN n < 18446744073709551616 := Nat.mod_lt _ (by omega)
theorem hiN_lt {n : Nat} (h : n < 340282366920938463463374607431768211456) : hiN n < 18446744073709551616 := by
  unfold hiN
  omega
theorem join_N (n : Nat) : hiN n * 18446744073709551616 + loN n = n := by
  unfold hiN loN
  omega
theorem hiN_join (h l : Nat) (hl : l < 18446744073709551616) : hiN (h * 18446744073709551616 + l) = h := by
  unfold hiN
  omega
theorem loN_join (h l : Nat) (hl : l < 18446744073709551616) : loN (h * 18446744073709551616 + l) = l := by
  unfold loN
  omega

theorem add64 (x y c : Nat) (hc : c ≤ 1) (w : World) :
    (callFunc 63 #[.int .u64 x, .int .u64 y, .int .u64 c]).run Try.prog w =
      .ok (.value (.tuple #[.int .u64 (((x + y + c) % 18446744073709551616 : Nat) : Int), .int .u64 (((x + y + c) / 18446744073709551616 : Nat) : Int)])) w := by
  rw [run_callFunc_extern Try.func63 (by kernel_rfl) (by kernel_rfl) (by kernel_rfl) (e := add64Entry) (by kernel_rfl), run_add64 x y c (by omega) (by omega) (by omega) (by omega)]
  simp only [Result.andThen]
  congr 5 <;> omega

theorem add64_0 (x y : Nat) (w : World) :
    (callFunc 63 #[.int .u64 x, .int .u64 y, .int .u64 0]).run Try.prog w =
      .ok (.value (.tuple #[.int .u64 (((x + y) % 18446744073709551616 : Nat) : Int), .int .u64 (((x + y) / 18446744073709551616 : Nat) : Int)])) w := by
  have := add64 x y 0 (by omega) w
  simpa using this

/-- A difference, or that there is none. -/
def subN (a b : Nat) : Nat × Nat := if a < b then (0, 5) else (a - b, 0)

set_option maxHeartbeats 400000 in
theorem mul_exact (a b : Nat) (w : World) (ha : a < 18446744073709551616) (hb : b < 18446744073709551616) :
    Calls Try.prog 46 #[.int .u64 a, .int .u64 b] w fun e w' => e = .returned (.agg #[.int .u64 (hiN (a * b)), .int .u64 (loN (a * b))]) ∧
      w' = w.alloc (.cells #[.int .u64 (hiN (a * b)), .int .u64 (loN (a * b))] 48) := by
  have hA := fun w => Try.bits_Mul64 a b ha hb w
  unfold hiN loN
  generalize a * b / 18446744073709551616 = h at hA ⊢
  generalize a * b % 18446744073709551616 = l at hA ⊢
  go_enter Try.func46, Try.ntmps46
  go_wp2_with (go_at_call 55; refine (hA _).mono ?_; rintro e w' ⟨rfl, rfl⟩)
  refine bodyPost_ret (v := .agg #[.int .u64 h, .int .u64 l]) (by simp [results, Try.results46, go_sem]) rfl ⟨rfl, rfl⟩

theorem mul_any (a b : Nat) (w : World) (ha : a < 18446744073709551616) (hb : b < 18446744073709551616) :
    Calls Try.prog 46 #[.int .u64 a, .int .u64 b] w fun e w' => e = .returned (.agg #[.int .u64 (hiN (a * b)), .int .u64 (loN (a * b))]) ∧ Below w.heap.size w w' :=
  (mul_exact a b w ha hb).mono fun _ _ hh => ⟨hh.1, hh.2 ▸ (Below.refl _ _).alloc (Nat.le_refl _) _⟩

set_option maxHeartbeats 400000 in
theorem plus_any (ah al bh bl : Nat) (w : World) (h1 : ah < 18446744073709551616) (h2 : al < 18446744073709551616) (h3 : bh < 18446744073709551616) (h4 : bl < 18446744073709551616) :
    Calls Try.prog 54 #[.agg #[.int .u64 ah, .int .u64 al], .agg #[.int .u64 bh, .int .u64 bl]] w fun e w' =>
      e = .returned (.tuple #[.agg #[.int .u64 (hiN (plusN (ah * 18446744073709551616 + al) (bh * 18446744073709551616 + bl)).1), .int .u64 (loN (plusN (ah * 18446744073709551616 + al) (bh * 18446744073709551616 + bl)).1)],
        .int .i64 (plusN (ah * 18446744073709551616 + al) (bh * 18446744073709551616 + bl)).2]) ∧ Below w.heap.size w w' := by
  have hA := fun w => add64_0 al bl w
  obtain ⟨c, hc⟩ : ∃ c, (al + bl) / 18446744073709551616 = c := ⟨_, rfl⟩
  obtain ⟨l, hl⟩ : ∃ l, (al + bl) % 18446744073709551616 = l := ⟨_, rfl⟩
  have hB := fun w => add64 ah bh c (by omega) w
  obtain ⟨c2, hc2⟩ : ∃ c2, (ah + bh + c) / 18446744073709551616 = c2 := ⟨_, rfl⟩
  obtain ⟨h, hh⟩ : ∃ h, (ah + bh + c) % 18446744073709551616 = h := ⟨_, rfl⟩
  rw [hc, hl] at hA
  rw [hc2, hh] at hB
  unfold plusN
  by_cases ho : ah * 18446744073709551616 + al + (bh * 18446744073709551616 + bl) < 340282366920938463463374607431768211456
  · rw [if_pos ho]
    rw [show hiN (ah * 18446744073709551616 + al + (bh * 18446744073709551616 + bl)) = h by unfold hiN; omega, show loN (ah * 18446744073709551616 + al + (bh * 18446744073709551616 + bl)) = l by unfold loN; omega]
    obtain rfl : c2 = 0 := by omega
    clear ho hc hl hc2 hh
    go_enter Try.func54, Try.ntmps54
    go_wp2_with (simp only [hA, hB])
    refine bodyPost_ret (v := .tuple #[.agg #[.int .u64 h, .int .u64 l], .int .i64 0]) (by simp [results, Try.results54, go_sem]) rfl ⟨rfl, below_alloc (below_alloc (below_alloc (Below.refl _ _) _) _) _⟩
  · rw [if_neg ho]
    obtain rfl : c2 = 1 := by omega
    clear ho hc hl hc2 hh
    go_enter Try.func54, Try.ntmps54
    go_wp2_with (simp only [hA, hB])
    refine bodyPost_ret (v := .tuple #[.agg #[.int .u64 0, .int .u64 0], .int .i64 9]) (by simp [results, Try.results54, go_sem]) rfl ⟨rfl, below_alloc (below_alloc (below_alloc (Below.refl _ _) _) _) _⟩

/-- -1, 0 or 1. -/
def cmpN (a b : Nat) : Int := if a < b then -1 else if a = b then 0 else 1

theorem int_beq_false (a b : Nat) (h : a ≠ b) : ((a : Int) == (b : Int)) = false := by rw [beq_eq_false_iff_ne]; omega

set_option maxRecDepth 100000 in
set_option maxHeartbeats 400000 in
theorem compare_any (ah al bh bl : Nat) (w : World) (_h1 : ah < 18446744073709551616) (h2 : al < 18446744073709551616) (_h3 : bh < 18446744073709551616) (h4 : bl < 18446744073709551616) :
    Calls Try.prog 32 #[.agg #[.int .u64 ah, .int .u64 al], .agg #[.int .u64 bh, .int .u64 bl]] w fun e w' =>
      e = .returned (.int .i64 (cmpN (ah * 18446744073709551616 + al) (bh * 18446744073709551616 + bl))) ∧ Below w.heap.size w w' := by
  unfold cmpN
  rcases Nat.lt_trichotomy ah bh with h | h | h
  · rw [if_pos (by omega)]
    have hne := int_beq_false ah bh (by omega)
    go_enter Try.func32, Try.ntmps32
    go_wp2
    go_ret
    exact ⟨rfl, below_alloc (below_alloc (Below.refl _ _) _) _⟩
  · subst h
    rcases Nat.lt_trichotomy al bl with h | h | h
    · rw [if_pos (by omega)]
      have hne := int_beq_false al bl (by omega)
      go_enter Try.func32, Try.ntmps32
      go_wp2
      go_ret
      exact ⟨rfl, below_alloc (below_alloc (Below.refl _ _) _) _⟩
    · subst h
      rw [if_neg (by omega), if_pos rfl]
      go_enter Try.func32, Try.ntmps32
      go_wp2
      go_ret
      exact ⟨rfl, below_alloc (below_alloc (Below.refl _ _) _) _⟩
    · rw [if_neg (by omega), if_neg (by omega)]
      have hne := int_beq_false al bl (by omega)
      go_enter Try.func32, Try.ntmps32
      go_wp2
      go_ret
      exact ⟨rfl, below_alloc (below_alloc (Below.refl _ _) _) _⟩
  · rw [if_neg (by omega), if_neg (by omega)]
    have hne := int_beq_false ah bh (by omega)
    have hne2 : ¬ (ah : Int) = (bh : Int) := by omega
    go_enter Try.func32, Try.ntmps32
    go_wp2
    go_ret
    exact ⟨rfl, below_alloc (below_alloc (Below.refl _ _) _) _⟩

end Go.Proofs.Ytogpnfgjdnccdaa.Wide
