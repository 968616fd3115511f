/- The code's own: a word turned, a block's words, what becomes of eight words, the eight words as bytes. -/
import Derived.Test.YtlalipomphgcoaaShaA
import Derived.Test.YtlalipomphgcoaaShaV
import Derived.BigQuiet
import Derived.Deep.QuietTactic
namespace Go.Proofs.Ytlalipomphgcoaa.Sha
open Go.RowKit

set_option maxRecDepth 100000 in
set_option maxHeartbeats 800000 in
theorem turned_any (x n : Nat) (w : World) (hx : x < 4294967296) (hn : n ≤ 31) :
    Calls Try.prog 79 #[.int .u32 x, .int .i64 n] w fun e w' => e = .returned (.int .u32 (turnN x n)) ∧ w' = w.drew := by
  have ho := turn_or x n hx hn
  have hs : IntKind.i64.wrap (32 - (n : Int)) = ((32 - n : Nat) : Int) := by rw [IntWalk.i64_in _ ⟨by omega, by omega⟩]; omega
  obtain ⟨m, hm⟩ : ∃ m, 32 - n = m := ⟨_, rfl⟩
  rw [hm] at ho hs
  have hn0 : (0 : Int) ≤ (n : Int) := by omega
  have hm0 : (0 : Int) ≤ (m : Int) := by omega
  have hm32 : m ≤ 32 := by omega
  have hn32 : n ≤ 32 := by omega
  clear hm
  go_enter Try.func79, Try.ntmps79
  go_wp2
  go_region
  all_goals
    go_wp2
    go_ret
    exact ⟨rfl, rfl⟩

theorem turned_lit (x n : Nat) (z : Int) (w : World) (hz : z = (n : Int)) (hx : x < 4294967296) (hn : n ≤ 31) :
    Calls Try.prog 79 #[.int .u32 x, .int .i64 z] w fun e w' => e = .returned (.int .u32 (turnN x n)) ∧ w' = w.drew := by
  subst hz
  exact turned_any x n w hx hn

/-- An array of n words, of which the first are laid. -/
def row32 (xs : List Nat) (n : Nat) : Array Value := (vals32 xs ++ List.replicate (n - xs.length) (Value.int .u32 0)).toArray
theorem row32_size (xs : List Nat) (n : Nat) (h : xs.length ≤ n) : (row32 xs n).size = n := by
  simp [row32, vals32]
  omega
theorem row32_get (xs : List Nat) (n i x : Nat) (h : xs[i]? = some x) : (row32 xs n)[i]? = some (.int .u32 (x : Int)) := by
  have hi := (List.getElem?_eq_some_iff.1 h).1
  simp only [row32, List.getElem?_toArray]
  rw [List.getElem?_append_left (by simpa [vals32] using hi)]
  simp [vals32, h]
theorem row32_set (xs : List Nat) (n i x : Nat) (hi : xs.length = i) (h : i < n) : (row32 xs n).setIfInBounds i (.int .u32 (x : Int)) = row32 (xs ++ [x]) n := by
  subst hi
  apply Array.toList_inj.1
  rw [Array.toList_setIfInBounds]
  simp only [row32, vals32, List.length_append, List.length_cons, List.length_nil, List.map_append]
  rw [show n - xs.length = (n - (xs.length + (0 + 1))) + 1 by omega, List.replicate_succ, List.set_append_right _ _ (by simp)]
  simp
theorem row32_full (xs : List Nat) (n : Nat) (h : xs.length = n) : row32 xs n = (vals32 xs).toArray := by
  simp [row32, h]

/-- Numbers of 32 bits. -/
def Low (xs : List Nat) : Prop := ∀ x ∈ xs, x < 4294967296

theorem wordsL_get (l : List Nat) (t : Nat) (h : 4 * t + 4 ≤ l.length) :
    (wordsL l)[t]? = some (l.getD (4 * t) 0 * 16777216 + l.getD (4 * t + 1) 0 * 65536 + l.getD (4 * t + 2) 0 * 256 + l.getD (4 * t + 3) 0) := by
  induction t generalizing l with
  | zero =>
    match l, h with
    | a :: b :: c :: d :: r, _ => simp [wordsL]
  | succ t ih =>
    match l, h with
    | a :: b :: c :: d :: r, h =>
      rw [wordsL, List.getElem?_cons_succ, ih r (by simp at h; omega)]
      have e : 4 * (t + 1) = 4 * t + 1 + 1 + 1 + 1 := by omega
      rw [e]
      simp

theorem wordsL_length (t : Nat) : ∀ l : List Nat, l.length = 4 * t → (wordsL l).length = t := by
  induction t with
  | zero =>
    intro l h
    obtain rfl : l = [] := List.eq_nil_of_length_eq_zero (by omega)
    rfl
  | succ t ih =>
    intro l h
    match l, h with
    | a :: b :: c :: d :: r, h =>
      rw [wordsL, List.length_cons, ih r (by simp at h; omega)]

theorem growW_succ (n : Nat) : ∀ w : List Nat, growW (n + 1) w = growW n w ++ [nextW (growW n w) (growW n w).length] := by
  induction n with
  | zero => intro w; rfl
  | succ n ih => intro w; rw [growW, ih, ← growW]
theorem growW_length (n : Nat) : ∀ w : List Nat, (growW n w).length = w.length + n := by
  induction n with
  | zero => intro w; rfl
  | succ n ih => intro w; rw [growW, ih]; simp; omega

end Go.Proofs.Ytlalipomphgcoaa.Sha
