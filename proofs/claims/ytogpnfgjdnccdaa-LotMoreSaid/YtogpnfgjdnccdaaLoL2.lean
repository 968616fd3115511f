/- lot: the law LotMore. -/
import Derived.Test.YtogpnfgjdnccdaaLoL1
namespace Go.Proofs.Ytogpnfgjdnccdaa.Lot
open Go.RowKit Go.Proofs.Ytogpnfgjdnccdaa.Sha Go.Proofs.Ytogpnfgjdnccdaa.Tree

set_option maxHeartbeats 6400000 in
theorem more_true (n m s t L a b : Nat) (hn : n < 4294967296) (hm : m < 4294967296) (w : World) :
    Calls Try.prog 6 #[.int .u32 n, .int .u32 m, .int .u64 s, .int .u64 t, .int .u64 L, .int .u64 a, .int .u64 b] w fun e w' => e = .returned (.bool true) ∧ Below w.heap.size w w' := by
  have HW := Lib.hid (fun w => code_WinsL n s L a b hn w)
  have HL := Lib.hid (fun w => code_LeastL s L a b w)
  have HK := Lib.hid works_any
  have HB0 := Lib.hid (Below.refl w.heap.size w)
  cases hy : mayN s L a b with
  | false =>
    rw [wins_err hy, hy] at HW
    clear HL hy
    go_enter Try.func6, Try.ntmps6
    go_wp2_with fail
    refine (HW.out _).mono ?_
    rintro e w1 ⟨rfl, hb⟩
    have HB1 := Lib.hid (HB0.out.trans (hb.mono HB0.out.size))
    clear hb
    go_wp2_with fail
    refine (HK.out _).mono ?_
    rintro e w2 ⟨rfl, hb⟩
    have HB2 := Lib.hid (HB1.out.trans (hb.mono HB1.out.size))
    clear hb
    go_wp2_with fail
    go_ret
    exact ⟨rfl, HB2.out⟩
  | true =>
    have hmay := may_iff.1 hy
    have hl := wins_least (n := n) hy
    have ht := least_top hy
    rw [wins_ok hy, hy] at HW
    rw [show leastE s L a b = leastN s L a b by unfold leastE; rw [hy, if_pos rfl], hy] at HL
    obtain ⟨l, hll⟩ : ∃ l, leastN s L a b = l := ⟨_, rfl⟩
    rw [hll] at HL hl ht
    cases hr : winsN n s L a b with
    | false =>
      rw [hr] at HW hl
      have i0 : ¬ (n : Int) < (l : Int) := by have := of_decide_eq_false hl; omega
      have i1 : ¬ (4294967296 : Int) < (l : Int) := by omega
      clear hr hl hll hy hmay
      go_enter Try.func6, Try.ntmps6
      go_wp2_with fail
      refine (HW.out _).mono ?_
      rintro e w1 ⟨rfl, hb⟩
      have HB1 := Lib.hid (HB0.out.trans (hb.mono HB0.out.size))
      clear hb
      go_wp2_with fail
      refine (HL.out _).mono ?_
      rintro e w2 ⟨rfl, hb⟩
      have HB2 := Lib.hid (HB1.out.trans (hb.mono HB1.out.size))
      clear hb
      go_wp2_with fail
      refine (HK.out _).mono ?_
      rintro e w3 ⟨rfl, hb⟩
      have HB3 := Lib.hid (HB2.out.trans (hb.mono HB2.out.size))
      clear hb
      go_wp2_with fail
      go_ret
      exact ⟨rfl, HB3.out⟩
    | true =>
      rw [hr] at HW hl
      have i0 : (n : Int) < (l : Int) := by have := of_decide_eq_true hl; omega
      have i1 : ¬ (4294967296 : Int) < (l : Int) := by omega
      have HT := Lib.hid (show s ≤ t → t ≤ L → ∀ w, Calls Try.prog 12 #[.int .u32 n, .int .u64 t, .int .u64 L, .int .u64 a, .int .u64 b] w fun e w' => e = .returned (.bool true) ∧ Below w.heap.size w w' from fun h1 h2 w => by
        have h := wins_any n t L a b hn w
        rw [wins_ok (may_iff.2 ⟨h2, hmay.2⟩), wins_more h1 hr] at h
        exact h)
      have HN := Lib.hid (show m < n → ∀ w, Calls Try.prog 13 #[.int .u32 m, .int .u64 s, .int .u64 L, .int .u64 a, .int .u64 b] w fun e w' => e = .returned (.bool false) ∧ Below w.heap.size w w' from fun h1 w => by
        have h := not_any m s L a b hm w
        rw [hy, wins_less (Nat.le_of_lt h1) hr] at h
        exact h)
      have HA := Lib.hid (show a < b → ∀ w, Calls Try.prog 13 #[.int .u32 n, .int .u64 s, .int .u64 L, .int .u64 ((a : Int) + 1), .int .u64 b] w fun e w' => e = .returned (.bool false) ∧ Below w.heap.size w w' from fun h1 w => by
        have h := not_any n s L (a + 1) b hn w
        rw [may_iff.2 ⟨hmay.1, hmay.2.1, hmay.2.2.1, h1, hmay.2.2.2.2⟩, wins_rate (Nat.le_succ a) hr] at h
        exact h)
      have ha6 : a ≤ 65536 := by omega
      clear hr hl hll hy hmay ht
      go_enter Try.func6, Try.ntmps6
      go_wp2_with fail
      refine (HW.out _).mono ?_
      rintro e w1 ⟨rfl, hb⟩
      have HB1 := Lib.hid (HB0.out.trans (hb.mono HB0.out.size))
      clear hb
      go_wp2_with fail
      refine (HL.out _).mono ?_
      rintro e w2 ⟨rfl, hb⟩
      have HB2 := Lib.hid (HB1.out.trans (hb.mono HB1.out.size))
      clear hb
      go_upto_region 9 with (fail)
      by_cases h3 : m < n
      · have i3 : (m : Int) < (n : Int) := by omega
        have HN1 := Lib.hid (HN.out h3)
        by_cases h4 : a < b
        · have i4 : (a : Int) < (b : Int) := by omega
          have HA1 := Lib.hid (HA.out h4)
          go_wp2_with fail
          refine (HN1.out _).mono ?_
          rintro e w3 ⟨rfl, hb⟩
          have HB3 := Lib.hid (HB2.out.trans (hb.mono HB2.out.size))
          clear hb
          go_wp2_with fail
          refine (HA1.out _).mono ?_
          rintro e w4 ⟨rfl, hb⟩
          have HB4 := Lib.hid (HB3.out.trans (hb.mono HB3.out.size))
          clear hb
          by_cases h5 : t < s
          · have i5 : (t : Int) < (s : Int) := by omega
            go_wp2_with fail
            refine (HK.out _).mono ?_
            rintro e w5 ⟨rfl, hb⟩
            have HB5 := Lib.hid (HB4.out.trans (hb.mono HB4.out.size))
            clear hb
            go_wp2_with fail
            go_ret
            exact ⟨rfl, HB5.out⟩
          · have i5 : ¬ (t : Int) < (s : Int) := by omega
            by_cases h6 : L < t
            · have i6 : (L : Int) < (t : Int) := by omega
              go_wp2_with fail
              refine (HK.out _).mono ?_
              rintro e w5 ⟨rfl, hb⟩
              have HB5 := Lib.hid (HB4.out.trans (hb.mono HB4.out.size))
              clear hb
              go_wp2_with fail
              go_ret
              exact ⟨rfl, HB5.out⟩
            · have i6 : ¬ (L : Int) < (t : Int) := by omega
              have HT1 := Lib.hid (HT.out (by omega) (by omega))
              go_wp2_with fail
              refine (HK.out _).mono ?_
              rintro e w5 ⟨rfl, hb⟩
              have HB5 := Lib.hid (HB4.out.trans (hb.mono HB4.out.size))
              clear hb
              go_wp2_with fail
              refine (HT1.out _).mono ?_
              rintro e w6 ⟨rfl, hb⟩
              have HB6 := Lib.hid (HB5.out.trans (hb.mono HB5.out.size))
              clear hb
              go_wp2_with fail
              go_ret
              exact ⟨rfl, HB6.out⟩
        · have i4 : ¬ (a : Int) < (b : Int) := by omega
          go_wp2_with fail
          refine (HN1.out _).mono ?_
          rintro e w3 ⟨rfl, hb⟩
          have HB3 := Lib.hid (HB2.out.trans (hb.mono HB2.out.size))
          clear hb
          by_cases h5 : t < s
          · have i5 : (t : Int) < (s : Int) := by omega
            go_wp2_with fail
            refine (HK.out _).mono ?_
            rintro e w4 ⟨rfl, hb⟩
            have HB4 := Lib.hid (HB3.out.trans (hb.mono HB3.out.size))
            clear hb
            go_wp2_with fail
            go_ret
            exact ⟨rfl, HB4.out⟩
          · have i5 : ¬ (t : Int) < (s : Int) := by omega
            by_cases h6 : L < t
            · have i6 : (L : Int) < (t : Int) := by omega
              go_wp2_with fail
              refine (HK.out _).mono ?_
              rintro e w4 ⟨rfl, hb⟩
              have HB4 := Lib.hid (HB3.out.trans (hb.mono HB3.out.size))
              clear hb
              go_wp2_with fail
              go_ret
              exact ⟨rfl, HB4.out⟩
            · have i6 : ¬ (L : Int) < (t : Int) := by omega
              have HT1 := Lib.hid (HT.out (by omega) (by omega))
              go_wp2_with fail
              refine (HK.out _).mono ?_
              rintro e w4 ⟨rfl, hb⟩
              have HB4 := Lib.hid (HB3.out.trans (hb.mono HB3.out.size))
              clear hb
              go_wp2_with fail
              refine (HT1.out _).mono ?_
              rintro e w5 ⟨rfl, hb⟩
              have HB5 := Lib.hid (HB4.out.trans (hb.mono HB4.out.size))
              clear hb
              go_wp2_with fail
              go_ret
              exact ⟨rfl, HB5.out⟩
      · have i3 : ¬ (m : Int) < (n : Int) := by omega
        by_cases h4 : a < b
        · have i4 : (a : Int) < (b : Int) := by omega
          have HA1 := Lib.hid (HA.out h4)
          go_wp2_with fail
          refine (HA1.out _).mono ?_
          rintro e w3 ⟨rfl, hb⟩
          have HB3 := Lib.hid (HB2.out.trans (hb.mono HB2.out.size))
          clear hb
          by_cases h5 : t < s
          · have i5 : (t : Int) < (s : Int) := by omega
            go_wp2_with fail
            refine (HK.out _).mono ?_
            rintro e w4 ⟨rfl, hb⟩
            have HB4 := Lib.hid (HB3.out.trans (hb.mono HB3.out.size))
            clear hb
            go_wp2_with fail
            go_ret
            exact ⟨rfl, HB4.out⟩
          · have i5 : ¬ (t : Int) < (s : Int) := by omega
            by_cases h6 : L < t
            · have i6 : (L : Int) < (t : Int) := by omega
              go_wp2_with fail
              refine (HK.out _).mono ?_
              rintro e w4 ⟨rfl, hb⟩
              have HB4 := Lib.hid (HB3.out.trans (hb.mono HB3.out.size))
              clear hb
              go_wp2_with fail
              go_ret
              exact ⟨rfl, HB4.out⟩
            · have i6 : ¬ (L : Int) < (t : Int) := by omega
              have HT1 := Lib.hid (HT.out (by omega) (by omega))
              go_wp2_with fail
              refine (HK.out _).mono ?_
              rintro e w4 ⟨rfl, hb⟩
              have HB4 := Lib.hid (HB3.out.trans (hb.mono HB3.out.size))
              clear hb
              go_wp2_with fail
              refine (HT1.out _).mono ?_
              rintro e w5 ⟨rfl, hb⟩
              have HB5 := Lib.hid (HB4.out.trans (hb.mono HB4.out.size))
              clear hb
              go_wp2_with fail
              go_ret
              exact ⟨rfl, HB5.out⟩
        · have i4 : ¬ (a : Int) < (b : Int) := by omega
          by_cases h5 : t < s
          · have i5 : (t : Int) < (s : Int) := by omega
            go_wp2_with fail
            refine (HK.out _).mono ?_
            rintro e w3 ⟨rfl, hb⟩
            have HB3 := Lib.hid (HB2.out.trans (hb.mono HB2.out.size))
            clear hb
            go_wp2_with fail
            go_ret
            exact ⟨rfl, HB3.out⟩
          · have i5 : ¬ (t : Int) < (s : Int) := by omega
            by_cases h6 : L < t
            · have i6 : (L : Int) < (t : Int) := by omega
              go_wp2_with fail
              refine (HK.out _).mono ?_
              rintro e w3 ⟨rfl, hb⟩
              have HB3 := Lib.hid (HB2.out.trans (hb.mono HB2.out.size))
              clear hb
              go_wp2_with fail
              go_ret
              exact ⟨rfl, HB3.out⟩
            · have i6 : ¬ (L : Int) < (t : Int) := by omega
              have HT1 := Lib.hid (HT.out (by omega) (by omega))
              go_wp2_with fail
              refine (HK.out _).mono ?_
              rintro e w3 ⟨rfl, hb⟩
              have HB3 := Lib.hid (HB2.out.trans (hb.mono HB2.out.size))
              clear hb
              go_wp2_with fail
              refine (HT1.out _).mono ?_
              rintro e w4 ⟨rfl, hb⟩
              have HB4 := Lib.hid (HB3.out.trans (hb.mono HB3.out.size))
              clear hb
              go_wp2_with fail
              go_ret
              exact ⟨rfl, HB4.out⟩

theorem law_LotMore (a0 a1 a2 a3 a4 a5 a6 : Int) (w0 : (Lit.int .u32 a0).wf = true) (w1 : (Lit.int .u32 a1).wf = true) (w2 : (Lit.int .u64 a2).wf = true) (w3 : (Lit.int .u64 a3).wf = true) (w4 : (Lit.int .u64 a4).wf = true) (w5 : (Lit.int .u64 a5).wf = true) (w6 : (Lit.int .u64 a6).wf = true) (w : World) :
    Calls Try.prog 6 #[.int .u32 a0, .int .u32 a1, .int .u64 a2, .int .u64 a3, .int .u64 a4, .int .u64 a5, .int .u64 a6] w fun e w' => e = .returned (.bool true) ∧ Below w.heap.size w w' := by
  obtain ⟨n, rfl, h0⟩ := nat_32 w0
  obtain ⟨m, rfl, h1⟩ := nat_32 w1
  obtain ⟨s, rfl, _⟩ := nat_64 w2
  obtain ⟨t, rfl, _⟩ := nat_64 w3
  obtain ⟨L, rfl, _⟩ := nat_64 w4
  obtain ⟨a, rfl, _⟩ := nat_64 w5
  obtain ⟨b, rfl, _⟩ := nat_64 w6
  exact more_true n m s t L a b h0 h1 w

end Go.Proofs.Ytogpnfgjdnccdaa.Lot
