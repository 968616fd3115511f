/- Sums of many: wide.Sum, and the document's own. -/
import Derived.Test.YtjfanlajoedfbaaWideP
namespace Go.Proofs.Ytjfanlajoedfbaa.Wide
open Go.RowKit

/-- The sum of a list. -/
def totalL : List Nat → Nat
  | [] => 0
  | x :: xs => x + totalL xs

theorem totalL_take (xs : List Nat) (k x : Nat) (h : xs[k]? = some x) : totalL (xs.take (k + 1)) = totalL (xs.take k) + x := by
  induction xs generalizing k with
  | nil => simp at h
  | cons y ys ih =>
    cases k with
    | zero => simp at h; subst h; simp [totalL]
    | succ k =>
      have := ih k (by simpa using h)
      simp only [List.take_succ_cons, totalL]
      omega

theorem totalL_le (xs : List Nat) (k : Nat) : totalL (xs.take k) ≤ totalL xs := by
  induction xs generalizing k with
  | nil => simp [totalL]
  | cons y ys ih =>
    cases k with
    | zero => simp [totalL]
    | succ k =>
      have := ih k
      simp only [List.take_succ_cons, totalL]
      omega

/-- The numbers that a slice leads to. -/
def Nums (w : World) (a : Option Addr) (len cap : Nat) (xs : List Nat) : Prop :=
  xs.length = len ∧ len ≤ cap ∧ cap ≤ maxLen ∧ (∀ x ∈ xs, x < 18446744073709551616) ∧ (len = 0 ∨ ∃ p, a = some p ∧ ∀ i x : Nat, xs[i]? = some x → w.cell? (p.add i) = some (.int .u64 x))

/-- The sum, or that it is no number. -/
def sumN (xs : List Nat) : Nat × Nat := if totalL xs < 18446744073709551616 then (totalL xs, 0) else (0, 9)

set_option maxRecDepth 100000 in
set_option maxHeartbeats 800000 in
theorem sum_any (a : Option Addr) (len cap : Nat) (xs : List Nat) (w : World) (hs : Nums w a len cap xs) :
    Calls Try.prog 12 #[.slice a len cap] w fun e w' => e = .returned (.tuple #[.int .u64 (sumN xs).1, .int .i64 (sumN xs).2]) ∧ w = w' := by
  obtain ⟨hlen, hcap, hmax, hx, hcell⟩ := hs
  obtain ⟨⟨r, e⟩, hR⟩ : ∃ t, sumN xs = t := ⟨_, rfl⟩
  rw [hR]
  have HR := Lib.hid hR
  have HL := Lib.hid hlen
  have HM : len ≤ 9223372036854775807 := by unfold maxLen at hmax; omega
  clear hR hlen hcap hmax
  go_enter Try.func12, Try.ntmps12
  go_wp2
  go_loop [4, 10] (fun s i => ∃ k t : Nat, k ≤ len ∧ i = .int .i64 k ∧ s = .int .u64 t ∧ t < 18446744073709551616 ∧ t = totalL (xs.take k)) (fun _ i => len - (intOf i).toNat)
  case atStart => exact ⟨0, 0, Nat.zero_le _, rfl, rfl, by omega, rfl⟩
  case round =>
    obtain ⟨k, t, hk, rfl, rfl, ht, htt⟩ := hrel
    have HT := Lib.hid htt
    clear htt
    by_cases hlt : k < len
    · rcases hcell with h0 | ⟨p, rfl, hc⟩
      · omega
      obtain ⟨x, hxk⟩ : ∃ x, xs[k]? = some x := ⟨xs[k]'(by rw [HL.out]; exact hlt), List.getElem?_eq_getElem _⟩
      have hcx := hc k x hxk
      have hxb := hx x (List.mem_of_getElem? hxk)
      have hA := fun w => add_any t x w ht hxb
      have HN := Lib.hid (totalL_take xs k x hxk)
      clear hc hx hxk
      unfold addN at hA
      by_cases ho : t + x < 18446744073709551616
      · simp only [if_pos ho] at hA
        obtain ⟨s, hss⟩ : ∃ s, t + x = s := ⟨_, rfl⟩
        rw [hss] at hA ho
        have HS := Lib.hid hss
        have HO := Lib.hid ho
        clear hss ho
        go_wp2_with (go_at_call 10; refine (hA _).mono ?_; rintro e w' ⟨rfl, rfl⟩)
        go_round
        case rel => exact ⟨k + 1, s, by omega, by go_num, rfl, HO.out, by rw [HN.out, ← HT.out, HS.out]⟩
        case measure => simp [intOf]; omega
      · simp only [if_neg ho] at hA
        have hno : sumN xs = (0, 9) := by
          unfold sumN
          have := totalL_le xs (k + 1)
          rw [HN.out, ← HT.out] at this
          rw [if_neg (by omega)]
        have hz := HR.out.symm.trans hno
        simp only [Prod.mk.injEq] at hz
        obtain ⟨rfl, rfl⟩ := hz
        clear ho hno
        go_wp2_with (go_at_call 10; refine (hA _).mono ?_; rintro e w' ⟨rfl, rfl⟩)
        go_ret2
        exact ⟨rfl, rfl⟩
    · have hkk : k = len := by omega
      subst hkk
      have hyes : sumN xs = (t, 0) := by
        have h := HT.out
        rw [List.take_of_length_le (by rw [HL.out]; exact Nat.le_refl _)] at h
        unfold sumN
        rw [← h, if_pos ht]
      have hz := HR.out.symm.trans hyes
      simp only [Prod.mk.injEq] at hz
      obtain ⟨rfl, rfl⟩ := hz
      clear hyes hcell hx
      go_wp2
      go_ret2
      exact ⟨rfl, rfl⟩

end Go.Proofs.Ytjfanlajoedfbaa.Wide
