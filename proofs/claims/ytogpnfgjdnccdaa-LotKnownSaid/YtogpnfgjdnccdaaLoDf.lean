/- lot: the code's Least: a search by halves. -/
import Derived.Test.YtogpnfgjdnccdaaLoDe
namespace Go.Proofs.Ytogpnfgjdnccdaa.Lot
open Go.RowKit Go.Proofs.Ytogpnfgjdnccdaa.Wide

set_option maxRecDepth 100000 in
set_option maxHeartbeats 3200000 in
theorem code_LeastL (s L a b : Nat) (w : World) :
    Calls Try.prog 10 #[.int .u64 s, .int .u64 L, .int .u64 a, .int .u64 b] w fun e w' => e = .returned (.tuple #[.int .u64 (leastE s L a b), .int .i64 (if mayN s L a b then 0 else 2)]) ∧ Below w.heap.size w w' := by
  have HMA := Lib.hid (fun w => code_may s L a b w)
  unfold leastE
  cases hm : mayN s L a b with
  | false =>
    rw [hm] at HMA
    clear hm
    go_enter Try.func10, Try.ntmps10
    go_wp2_with fail
    refine (HMA.out _).mono ?_
    rintro e w1 ⟨rfl, hb1⟩
    go_wp2_with fail
    go_ret2
    exact ⟨rfl, hb1⟩
  | true =>
    rw [hm] at HMA
    have h := may_iff.1 hm
    have HWN := Lib.hid (fun w => code_winner s L a b (by omega) (by omega) w)
    have HW1 := Lib.hid (fun k hk g h p q w hW => code_wins1 k s L a b g h p q w hW hk (by omega) (by omega) (by omega) (by omega))
    have HLT := Lib.hid (fun k => wins_least (n := k) hm)
    have HTOP := Lib.hid (least_top hm)
    obtain ⟨T, hT⟩ : ∃ T, leastN s L a b = T := ⟨_, rfl⟩
    simp only [hT] at HLT
    rw [hT] at HTOP
    simp only [if_true, hT]
    clear hm h hT
    go_enter Try.func10, Try.ntmps10
    go_wp2_with fail
    refine (HMA.out _).mono ?_
    rintro e w1 ⟨rfl, hb1⟩
    go_wp2_with fail
    refine (HWN.out _).mono ?_
    rintro e w2 ⟨g, h, p, q, rfl, hW2, hb2⟩
    have HB2 := Lib.hid (hb1.trans (hb2.mono hb1.size))
    have HW2 := Lib.hid hW2
    clear hb1 hb2 hW2
    unfold winsF
    go_wp2_with fail
    go_loopw [11, 12] (fun lv mv wr => ∃ lo hi : Nat, lv = .int .u64 lo ∧ mv = .int .u64 hi ∧ lo ≤ T ∧ T ≤ hi ∧ hi ≤ 4294967296 ∧ Below w2.heap.size w2 wr) (fun lv mv _ => (intOf mv).toNat - (intOf lv).toNat)
    case atStart => exact ⟨0, 4294967296, rfl, rfl, Nat.zero_le _, HTOP.out, Nat.le_refl _, Below.refl _ _⟩
    case round =>
      obtain ⟨lo, hi, rfl, rfl, h1, h2, h3, hb3⟩ := hrel
      have HB3 := Lib.hid hb3
      clear hb3
      by_cases hlt : lo < hi
      · obtain ⟨k, hk⟩ : ∃ k, (lo + hi) / 2 = k := ⟨_, rfl⟩
        have hq : ((lo : Int) + (hi : Int)) / 2 = (k : Int) := by omega
        have hm0 : 0 ≤ (lo : Int) + (hi : Int) ∧ (lo : Int) + (hi : Int) ≤ 8589934592 := by omega
        have hlti : (lo : Int) < (hi : Int) := by omega
        have HW3 := Lib.hid (HW2.out.kept HB3.out)
        have hw1 := HW1.out k (by omega) g h p q wr HW3.out
        have hlk := HLT.out k
        have hk1 : IntKind.u64.wrap ((k : Int) + 1) = ((k + 1 : Nat) : Int) := by rw [IntWalk.u64_in _ ⟨by omega, by omega⟩]; omega
        cases hr : winsN k s L a b with
        | true =>
          rw [hr] at hlk hw1
          have hkT : k < T := of_decide_eq_true hlk
          have HWK := Lib.hid hw1
          have HAR := Lib.hid (show lo < hi ∧ k < hi ∧ k + 1 ≤ T ∧ lo ≤ k from ⟨by omega, by omega, by omega, by omega⟩)
          clear hlk hw1 hr hkT hk hlt
          go_wp2_with fail
          try rw [hq]
          refine HWK.out.mono ?_
          rintro e w3 ⟨rfl, hb3⟩
          have HB4 := Lib.hid (HB3.out.trans (hb3.mono HB3.out.size))
          clear hb3
          go_wp2_with fail
          go_roundw
          case rel => exact ⟨k + 1, hi, by first | rfl | go_num, rfl, HAR.out.2.2.1, h2, h3, HB4.out⟩
          all_goals (have := HAR.out; simp [intOf]; omega)
        | false =>
          rw [hr] at hlk hw1
          have hkT : ¬ k < T := of_decide_eq_false hlk
          have HWK := Lib.hid hw1
          have HAR := Lib.hid (show lo < hi ∧ k < hi ∧ T ≤ k ∧ lo ≤ k from ⟨by omega, by omega, by omega, by omega⟩)
          clear hlk hw1 hr hkT hk hlt
          go_wp2_with fail
          try rw [hq]
          refine HWK.out.mono ?_
          rintro e w3 ⟨rfl, hb3⟩
          have HB4 := Lib.hid (HB3.out.trans (hb3.mono HB3.out.size))
          clear hb3
          go_wp2_with fail
          go_roundw
          case rel => exact ⟨lo, k, rfl, rfl, h1, HAR.out.2.2.1, by have := HAR.out; omega, HB4.out⟩
          all_goals (have := HAR.out; simp [intOf]; omega)
      · obtain rfl : lo = T := by omega
        have hlti : ¬ (lo : Int) < (hi : Int) := by omega
        have HB4 := Lib.hid (HB2.out.trans (HB3.out.mono HB2.out.size))
        clear h1 h2 h3 hlt
        go_wp2_with fail
        go_ret2
        exact ⟨by simp, HB4.out⟩

end Go.Proofs.Ytogpnfgjdnccdaa.Lot
