/- WideSums, WideKnown. -/
import Derived.Test.YtjfanlajoedfbaaWideX
import Derived.Test.YtjfanlajoedfbaaWideL2
import Derived.ShutString
import Derived.ChangeOld
namespace Go.Proofs.Ytjfanlajoedfbaa.Wide
open Go.RowKit

set_option maxRecDepth 100000 in
set_option maxHeartbeats 1600000 in
theorem sums_long (a b : Nat) (l : Option Addr) (len cap : Nat) (w : World) (hlen : 4096 < len) (hm : len ≤ 9223372036854775807) :
    Calls Try.prog 4 #[.int .u64 a, .int .u64 b, .slice l len cap] w fun e w' => e = .returned (.bool true) ∧ Below w.heap.size w w' := by
  go_enter Try.func4, Try.ntmps4
  go_wp2_with (go_at_call 14; refine (works_any _).mono ?_; rintro e w' ⟨rfl, hb⟩)
  go_ret
  exact ⟨rfl, by assumption⟩

theorem Nums.kept {w w' : World} {a : Option Addr} {len cap : Nat} {xs : List Nat} (n : Nums w a len cap xs) (h : Below w.heap.size w w') : Nums w' a len cap xs := by
  obtain ⟨h1, h2, h3, h4, h5⟩ := n
  refine ⟨h1, h2, h3, h4, ?_⟩
  rcases h5 with h0 | ⟨p, hp, hc⟩
  · exact .inl h0
  · exact .inr ⟨p, hp, fun i x hx => Wide.kept h (hc i x hx)⟩

set_option maxRecDepth 100000 in
set_option maxHeartbeats 1600000 in
theorem sums_true (a b : Nat) (l : Option Addr) (len cap : Nat) (xs : List Nat) (w : World) (h1 : a < 18446744073709551616) (h2 : b < 18446744073709551616) (hs : Nums w l len cap xs) :
    Calls Try.prog 4 #[.int .u64 a, .int .u64 b, .slice l len cap] w fun e w' => e = .returned (.bool true) ∧ Below w.heap.size w w' := by
  by_cases hlong : 4096 < len
  · exact sums_long a b l len cap w hlong (by have h2 := hs.2.1; have h3 := hs.2.2.1; unfold maxLen at h3; omega)
  · have hA := fun w => add_any a b w h1 h2
    have hB := fun w => refAdd_any a b w h1 h2
    have hC := fun w => sub_any a b w h1 h2
    obtain ⟨⟨x, e⟩, hx⟩ : ∃ t, addN a b = t := ⟨_, rfl⟩
    obtain ⟨⟨y, f⟩, hy⟩ : ∃ t, sumN xs = t := ⟨_, rfl⟩
    rw [hx] at hA hB
    dsimp only at hA hB
    have HY := Lib.hid hy
    clear hx hy
    have hD := sum_any l len cap xs w hs
    rw [HY.out] at hD
    dsimp only at hD
    have HS := Lib.hid hs
    have hn : ¬ (4096 : Int) < (len : Int) := by omega
    have hlen : len ≤ 4096 := by omega
    clear hs hlong
    unfold subN at hC
    by_cases hlt : a < b
    · simp only [if_pos hlt] at hC
      go_enter Try.func4, Try.ntmps4
      go_wp2_with fail
      refine (hA _).mono ?_
      rintro r w' ⟨rfl, rfl⟩
      go_wp2_with fail
      refine (hB _).mono ?_
      rintro r w1 ⟨rfl, hb1⟩
      have hS1 := HS.out.kept hb1
      have hD1 := sum_any l len cap xs w1 hS1
      have hE1 := refSum_any l len cap xs w1 hS1 hlen
      rw [HY.out] at hD1 hE1
      dsimp only at hD1 hE1
      clear hD hS1
      go_wp2_with fail
      refine hD1.mono ?_
      rintro r w2 ⟨rfl, rfl⟩
      clear hD1
      go_wp2_with fail
      refine (carry (w0 := w) hE1 hb1).mono ?_
      rintro r w3 ⟨rfl, hb3⟩
      clear hE1
      go_wp2_with fail
      refine (hC _).mono ?_
      rintro r w4 ⟨rfl, rfl⟩
      go_wp2_with (go_at_call 14; refine (carry (w0 := w) (works_any _) hb3).mono ?_; rintro e w' ⟨rfl, hb⟩)
      go_ret
      exact ⟨rfl, by assumption⟩
    · simp only [if_neg hlt] at hC
      have hd : IntKind.u64.wrap ((a : Int) - (b : Int)) = ((a - b : Nat) : Int) := by
        rw [IntWalk.u64_in _ ⟨by omega, by omega⟩]
        omega
      obtain ⟨d, hdd⟩ : ∃ d, a - b = d := ⟨_, rfl⟩
      rw [hdd] at hd hC
      clear hdd
      go_enter Try.func4, Try.ntmps4
      go_wp2_with fail
      refine (hA _).mono ?_
      rintro r w' ⟨rfl, rfl⟩
      go_wp2_with fail
      refine (hB _).mono ?_
      rintro r w1 ⟨rfl, hb1⟩
      have hS1 := HS.out.kept hb1
      have hD1 := sum_any l len cap xs w1 hS1
      have hE1 := refSum_any l len cap xs w1 hS1 hlen
      rw [HY.out] at hD1 hE1
      dsimp only at hD1 hE1
      clear hD hS1
      go_wp2_with fail
      refine hD1.mono ?_
      rintro r w2 ⟨rfl, rfl⟩
      clear hD1
      go_wp2_with fail
      refine (carry (w0 := w) hE1 hb1).mono ?_
      rintro r w3 ⟨rfl, hb3⟩
      clear hE1
      go_wp2_with fail
      refine (hC _).mono ?_
      rintro r w4 ⟨rfl, rfl⟩
      go_wp2_with (go_at_call 14; refine (carry (w0 := w) (works_any _) hb3).mono ?_; rintro e w' ⟨rfl, hb⟩)
      go_ret
      exact ⟨rfl, by assumption⟩

/-- The numbers that came in, as natural ones. -/
theorem nums_of {w : World} {a : Option Addr} {len cap : Nat} {zs : List Int}
    (h : (a = none ∧ len = 0 ∧ cap = 0 ∧ zs = []) ∨ ∃ x, a = some x ∧ len ≤ cap ∧ cap ≤ maxLen ∧ zs.length = cap ∧ (∀ i, i < zs.length → w.cell? (x.add i) = some (.int .u64 (zs.getD i 0))) ∧ ∀ n ∈ zs, (Lit.int .u64 n).wf = true) :
    ∃ xs, Nums w a len cap xs := by
  rcases h with ⟨rfl, rfl, rfl, rfl⟩ | ⟨x, rfl, hl, hc, hz, hcell, hwf⟩
  · exact ⟨[], rfl, Nat.le_refl _, Nat.zero_le _, by simp, .inl rfl⟩
  · refine ⟨(zs.take len).map Int.toNat, by simp; omega, hl, hc, ?_, .inr ⟨x, rfl, ?_⟩⟩
    · intro n hn
      obtain ⟨z, hzz, rfl⟩ := List.mem_map.1 hn
      have := bounds_u64 (hwf z (List.mem_of_mem_take hzz))
      omega
    · intro i n hn
      rw [List.getElem?_map, List.getElem?_take] at hn
      split at hn
      · rename_i hil
        obtain ⟨hi, hii⟩ : ∃ hi : i < zs.length, zs[i].toNat = n := by
          cases hq : zs[i]? with
          | none => simp [hq] at hn
          | some v =>
            obtain ⟨hi, hv⟩ := List.getElem?_eq_some_iff.1 hq
            refine ⟨hi, ?_⟩
            simp [hq] at hn
            rw [hv]
            exact hn
        have hb := bounds_u64 (hwf zs[i] (List.getElem_mem hi))
        rw [hcell i hi]
        congr 2
        rw [← hii]
        simp [List.getD, List.getElem?_eq_getElem hi]
        omega
      · simp at hn

theorem law_WideSums (a0 a1 : Int) (a2 : Option Addr) (len2 cap2 : Nat) (z2 : List Int) (w : World) (w0 : (Lit.int .u64 a0).wf = true) (w1 : (Lit.int .u64 a1).wf = true)
    (h : (a2 = none ∧ len2 = 0 ∧ cap2 = 0 ∧ z2 = []) ∨ ∃ x, a2 = some x ∧ len2 ≤ cap2 ∧ cap2 ≤ maxLen ∧ z2.length = cap2 ∧ (∀ i, i < z2.length → w.cell? (x.add i) = some (.int .u64 (z2.getD i 0))) ∧ ∀ n ∈ z2, (Lit.int .u64 n).wf = true) :
    Calls Try.prog 4 #[.int .u64 a0, .int .u64 a1, .slice a2 len2 cap2] w fun e w' => e = .returned (.bool true) ∧ Below w.heap.size w w' := by
  obtain ⟨a, rfl, h0⟩ := nat_of w0
  obtain ⟨b, rfl, h1⟩ := nat_of w1
  obtain ⟨xs, hs⟩ := nums_of h
  exact sums_true a b a2 len2 cap2 xs w h0 h1 hs

end Go.Proofs.Ytjfanlajoedfbaa.Wide
