/- origin: the document's Param; the coins of origins. -/
import Derived.Test.YtdgaoebjbhomdaaDoorOgW
import Derived.Test.YtdgaoebjbhomdaaDoorBl
import Derived.Test.YtdgaoebjbhomdaaDoorEqA
import Derived.Test.YtdgaoebjbhomdaaDoorM7
import Derived.DeepKeys
namespace Go.Proofs.YtdgaoebjbhomdaaDoor.Og
open Go.RowKit Go.Proofs.YtdgaoebjbhomdaaDoor.Sha Go.Proofs.YtdgaoebjbhomdaaDoor.Gr Go.Proofs.YtdgaoebjbhomdaaDoor.Digit Go.Proofs.YtdgaoebjbhomdaaDoor.Deed Go.Proofs.YtdgaoebjbhomdaaDoor.Tree

theorem parE_in {p n lo hi : Nat} (h8 : p < 8) (hl : loP.getD p 0 = lo) (hh : hiP.getD p 0 = hi) (h1 : lo ≤ n) (h2 : n ≤ hi) : parE p n = 0 := by
  unfold parE inS
  rw [if_neg (by omega), hl, hh, if_pos (by simp [h1, h2])]
theorem parE_out {p n lo hi : Nat} (h8 : p < 8) (hl : loP.getD p 0 = lo) (hh : hiP.getD p 0 = hi) (h : ¬ (lo ≤ n ∧ n ≤ hi)) : parE p n = 2 := by
  unfold parE inS
  rw [if_neg (by omega), hl, hh, if_neg (by simp; omega)]

set_option maxRecDepth 100000 in
set_option maxHeartbeats 800000 in
theorem ref_Param0 (n : Nat) (w : World) : Calls Tryd.prog 15 #[.int .u64 0, .int .u64 n] w fun e w' => e = .returned (.int .i64 (parE 0 n)) ∧ Below w.heap.size w w' := by
  by_cases hn : (n : Int) < 1099511627776
  · rw [parE_in (p := 0) (n := n) (lo := 0) (hi := 1099511627775) (by decide) rfl rfl (by omega) (by omega)]
    go_enter Tryd.func15, Tryd.ntmps15
    go_wp2
    go_ret
    exact ⟨rfl, Below.refl _ _⟩
  · rw [parE_out (p := 0) (n := n) (lo := 0) (hi := 1099511627775) (by decide) rfl rfl (by omega)]
    go_enter Tryd.func15, Tryd.ntmps15
    go_wp2
    go_ret
    exact ⟨rfl, Below.refl _ _⟩

set_option maxRecDepth 100000 in
set_option maxHeartbeats 800000 in
theorem ref_Param1 (n : Nat) (w : World) : Calls Tryd.prog 15 #[.int .u64 1, .int .u64 n] w fun e w' => e = .returned (.int .i64 (parE 1 n)) ∧ Below w.heap.size w w' := by
  by_cases hn : (n : Int) < 1048576
  · rw [parE_in (p := 1) (n := n) (lo := 0) (hi := 1048575) (by decide) rfl rfl (by omega) (by omega)]
    go_enter Tryd.func15, Tryd.ntmps15
    go_wp2
    go_ret
    exact ⟨rfl, Below.refl _ _⟩
  · rw [parE_out (p := 1) (n := n) (lo := 0) (hi := 1048575) (by decide) rfl rfl (by omega)]
    go_enter Tryd.func15, Tryd.ntmps15
    go_wp2
    go_ret
    exact ⟨rfl, Below.refl _ _⟩

set_option maxRecDepth 100000 in
set_option maxHeartbeats 800000 in
theorem ref_Param2 (n : Nat) (w : World) : Calls Tryd.prog 15 #[.int .u64 2, .int .u64 n] w fun e w' => e = .returned (.int .i64 (parE 2 n)) ∧ Below w.heap.size w w' := by
  by_cases hn : (n : Int) < 1099511627776
  · rw [parE_in (p := 2) (n := n) (lo := 0) (hi := 1099511627775) (by decide) rfl rfl (by omega) (by omega)]
    go_enter Tryd.func15, Tryd.ntmps15
    go_wp2
    go_ret
    exact ⟨rfl, Below.refl _ _⟩
  · rw [parE_out (p := 2) (n := n) (lo := 0) (hi := 1099511627775) (by decide) rfl rfl (by omega)]
    go_enter Tryd.func15, Tryd.ntmps15
    go_wp2
    go_ret
    exact ⟨rfl, Below.refl _ _⟩

set_option maxRecDepth 100000 in
set_option maxHeartbeats 800000 in
theorem ref_Param3 (n : Nat) (w : World) : Calls Tryd.prog 15 #[.int .u64 3, .int .u64 n] w fun e w' => e = .returned (.int .i64 (parE 3 n)) ∧ Below w.heap.size w w' := by
  by_cases hn : (n : Int) < 1099511627776
  · rw [parE_in (p := 3) (n := n) (lo := 0) (hi := 1099511627775) (by decide) rfl rfl (by omega) (by omega)]
    go_enter Tryd.func15, Tryd.ntmps15
    go_wp2
    go_ret
    exact ⟨rfl, Below.refl _ _⟩
  · rw [parE_out (p := 3) (n := n) (lo := 0) (hi := 1099511627775) (by decide) rfl rfl (by omega)]
    go_enter Tryd.func15, Tryd.ntmps15
    go_wp2
    go_ret
    exact ⟨rfl, Below.refl _ _⟩

set_option maxRecDepth 100000 in
set_option maxHeartbeats 800000 in
theorem ref_Param4 (n : Nat) (w : World) : Calls Tryd.prog 15 #[.int .u64 4, .int .u64 n] w fun e w' => e = .returned (.int .i64 (parE 4 n)) ∧ Below w.heap.size w w' := by
  by_cases hn : (n : Int) ≤ 1000
  · rw [parE_in (p := 4) (n := n) (lo := 0) (hi := 1000) (by decide) rfl rfl (by omega) (by omega)]
    go_enter Tryd.func15, Tryd.ntmps15
    go_wp2
    go_ret
    exact ⟨rfl, Below.refl _ _⟩
  · rw [parE_out (p := 4) (n := n) (lo := 0) (hi := 1000) (by decide) rfl rfl (by omega)]
    go_enter Tryd.func15, Tryd.ntmps15
    go_wp2
    go_ret
    exact ⟨rfl, Below.refl _ _⟩

set_option maxRecDepth 100000 in
set_option maxHeartbeats 800000 in
theorem ref_Param5 (n : Nat) (w : World) : Calls Tryd.prog 15 #[.int .u64 5, .int .u64 n] w fun e w' => e = .returned (.int .i64 (parE 5 n)) ∧ Below w.heap.size w w' := by
  by_cases hn : (n : Int) ≤ 1000
  · rw [parE_in (p := 5) (n := n) (lo := 0) (hi := 1000) (by decide) rfl rfl (by omega) (by omega)]
    go_enter Tryd.func15, Tryd.ntmps15
    go_wp2
    go_ret
    exact ⟨rfl, Below.refl _ _⟩
  · rw [parE_out (p := 5) (n := n) (lo := 0) (hi := 1000) (by decide) rfl rfl (by omega)]
    go_enter Tryd.func15, Tryd.ntmps15
    go_wp2
    go_ret
    exact ⟨rfl, Below.refl _ _⟩

set_option maxRecDepth 100000 in
set_option maxHeartbeats 800000 in
theorem ref_Param6 (n : Nat) (w : World) : Calls Tryd.prog 15 #[.int .u64 6, .int .u64 n] w fun e w' => e = .returned (.int .i64 (parE 6 n)) ∧ Below w.heap.size w w' := by
  by_cases hn : (1 : Int) ≤ (n : Int)
  · by_cases hm : (n : Int) ≤ 1000
    · rw [parE_in (p := 6) (n := n) (lo := 1) (hi := 1000) (by decide) rfl rfl (by omega) (by omega)]
      go_enter Tryd.func15, Tryd.ntmps15
      go_wp2
      go_ret
      exact ⟨rfl, Below.refl _ _⟩
    · rw [parE_out (p := 6) (n := n) (lo := 1) (hi := 1000) (by decide) rfl rfl (by omega)]
      go_enter Tryd.func15, Tryd.ntmps15
      go_wp2
      go_ret
      exact ⟨rfl, Below.refl _ _⟩
  · rw [parE_out (p := 6) (n := n) (lo := 1) (hi := 1000) (by decide) rfl rfl (by omega)]
    go_enter Tryd.func15, Tryd.ntmps15
    go_wp2
    go_ret
    exact ⟨rfl, Below.refl _ _⟩

set_option maxRecDepth 100000 in
set_option maxHeartbeats 800000 in
theorem ref_Param7 (n : Nat) (w : World) : Calls Tryd.prog 15 #[.int .u64 7, .int .u64 n] w fun e w' => e = .returned (.int .i64 (parE 7 n)) ∧ Below w.heap.size w w' := by
  by_cases hn : (1 : Int) ≤ (n : Int)
  · by_cases hm : (n : Int) ≤ 32768
    · rw [parE_in (p := 7) (n := n) (lo := 1) (hi := 32768) (by decide) rfl rfl (by omega) (by omega)]
      go_enter Tryd.func15, Tryd.ntmps15
      go_wp2
      go_ret
      exact ⟨rfl, Below.refl _ _⟩
    · rw [parE_out (p := 7) (n := n) (lo := 1) (hi := 32768) (by decide) rfl rfl (by omega)]
      go_enter Tryd.func15, Tryd.ntmps15
      go_wp2
      go_ret
      exact ⟨rfl, Below.refl _ _⟩
  · rw [parE_out (p := 7) (n := n) (lo := 1) (hi := 32768) (by decide) rfl rfl (by omega)]
    go_enter Tryd.func15, Tryd.ntmps15
    go_wp2
    go_ret
    exact ⟨rfl, Below.refl _ _⟩

set_option maxRecDepth 100000 in
set_option maxHeartbeats 800000 in
theorem ref_ParamX (p n : Nat) (w : World) (h8 : 8 ≤ p) : Calls Tryd.prog 15 #[.int .u64 p, .int .u64 n] w fun e w' => e = .returned (.int .i64 (parE p n)) ∧ Below w.heap.size w w' := by
  rw [show parE p n = 5 by unfold parE; rw [if_pos h8]]
  have h0n : ¬ (p = 0) := by omega
  have h0i : ¬ ((p : Int) = 0) := by omega
  have h1n : ¬ (p = 1) := by omega
  have h1i : ¬ ((p : Int) = 1) := by omega
  have h2n : ¬ (p = 2) := by omega
  have h2i : ¬ ((p : Int) = 2) := by omega
  have h3n : ¬ (p = 3) := by omega
  have h3i : ¬ ((p : Int) = 3) := by omega
  have h4n : ¬ (p = 4) := by omega
  have h4i : ¬ ((p : Int) = 4) := by omega
  have h5n : ¬ (p = 5) := by omega
  have h5i : ¬ ((p : Int) = 5) := by omega
  have h6n : ¬ (p = 6) := by omega
  have h6i : ¬ ((p : Int) = 6) := by omega
  have h7n : ¬ (p = 7) := by omega
  have h7i : ¬ ((p : Int) = 7) := by omega
  clear h8
  go_enter Tryd.func15, Tryd.ntmps15
  go_wp2
  go_ret
  exact ⟨rfl, Below.refl _ _⟩
theorem ref_Param (p n : Nat) (w : World) : Calls Tryd.prog 15 #[.int .u64 p, .int .u64 n] w fun e w' => e = .returned (.int .i64 (parE p n)) ∧ Below w.heap.size w w' := by
  by_cases h8 : 8 ≤ p
  · exact ref_ParamX p n w h8
  · have h : p = 0 ∨ p = 1 ∨ p = 2 ∨ p = 3 ∨ p = 4 ∨ p = 5 ∨ p = 6 ∨ p = 7 := by omega
    rcases h with rfl | rfl | rfl | rfl | rfl | rfl | rfl | rfl
    · exact ref_Param0 n w
    · exact ref_Param1 n w
    · exact ref_Param2 n w
    · exact ref_Param3 n w
    · exact ref_Param4 n w
    · exact ref_Param5 n w
    · exact ref_Param6 n w
    · exact ref_Param7 n w

end Go.Proofs.YtdgaoebjbhomdaaDoor.Og
