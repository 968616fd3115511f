/- lot: the laws LotEnds, LotParts. -/
import Derived.Test.YtogpnfgjdnccdaaLoL1
namespace Go.Proofs.Ytogpnfgjdnccdaa.Lot
open Go.RowKit Go.Proofs.Ytogpnfgjdnccdaa.Sha Go.Proofs.Ytogpnfgjdnccdaa.Tree

set_option maxHeartbeats 6400000 in
theorem ends_true (n L b : Nat) (hn : n < 4294967296) (w : World) :
    Calls Try.prog 7 #[.int .u32 n, .int .u64 L, .int .u64 b] w fun e w' => e = .returned (.bool true) ∧ Below w.heap.size w w' := by
  have HK := Lib.hid works_any
  have HB0 := Lib.hid (Below.refl w.heap.size w)
  by_cases h0 : L = 0
  · have i0 : (L : Int) = 0 := by omega
    have j0 : ((L : Int) == 0) = true := beq_iff_eq.2 (by omega)
    go_enter Try.func7, Try.ntmps7
    go_wp2_with fail
    refine (HK.out _).mono ?_
    rintro e w1 ⟨rfl, hb⟩
    have HB1 := Lib.hid (HB0.out.trans (hb.mono HB0.out.size))
    clear hb
    go_wp2_with fail
    go_ret
    exact ⟨rfl, HB1.out⟩
  · have i0 : ¬ (L : Int) = 0 := by omega
    have j0 : ((L : Int) == 0) = false := beq_eq_false_iff_ne.2 (by omega)
    by_cases h1 : 9223372036854775808 ≤ L
    · have i1 : (9223372036854775808 : Int) ≤ (L : Int) := by omega
      go_enter Try.func7, Try.ntmps7
      go_wp2_with fail
      refine (HK.out _).mono ?_
      rintro e w1 ⟨rfl, hb⟩
      have HB1 := Lib.hid (HB0.out.trans (hb.mono HB0.out.size))
      clear hb
      go_wp2_with fail
      go_ret
      exact ⟨rfl, HB1.out⟩
    · have i1 : ¬ (9223372036854775808 : Int) ≤ (L : Int) := by omega
      by_cases h2 : b = 0
      · have i2 : (b : Int) = 0 := by omega
        have j2 : ((b : Int) == 0) = true := beq_iff_eq.2 (by omega)
        go_enter Try.func7, Try.ntmps7
        go_wp2_with fail
        refine (HK.out _).mono ?_
        rintro e w1 ⟨rfl, hb⟩
        have HB1 := Lib.hid (HB0.out.trans (hb.mono HB0.out.size))
        clear hb
        go_wp2_with fail
        go_ret
        exact ⟨rfl, HB1.out⟩
      · have i2 : ¬ (b : Int) = 0 := by omega
        have j2 : ((b : Int) == 0) = false := beq_eq_false_iff_ne.2 (by omega)
        by_cases h3 : 65536 < b
        · have i3 : (65536 : Int) < (b : Int) := by omega
          go_enter Try.func7, Try.ntmps7
          go_wp2_with fail
          refine (HK.out _).mono ?_
          rintro e w1 ⟨rfl, hb⟩
          have HB1 := Lib.hid (HB0.out.trans (hb.mono HB0.out.size))
          clear hb
          go_wp2_with fail
          go_ret
          exact ⟨rfl, HB1.out⟩
        · have i3 : ¬ (65536 : Int) < (b : Int) := by omega
          have hm1 : mayN 0 L b b = true := may_iff.2 ⟨by omega, by omega, by omega, by omega, by omega, by omega⟩
          have hm2 : mayN L L 0 b = true := may_iff.2 ⟨by omega, by omega, by omega, by omega, by omega, by omega⟩
          have hm3 : mayN L L b b = true := may_iff.2 ⟨by omega, by omega, by omega, by omega, by omega, by omega⟩
          have H1 := Lib.hid (show ∀ w, Calls Try.prog 13 #[.int .u32 n, .int .u64 0, .int .u64 L, .int .u64 b, .int .u64 b] w fun e w' => e = .returned (.bool true) ∧ Below w.heap.size w w' from fun w => by
            have h := not_any n 0 L b b hn w
            rw [hm1, wins_none] at h
            exact h)
          have H2 := Lib.hid (show ∀ w, Calls Try.prog 13 #[.int .u32 n, .int .u64 L, .int .u64 L, .int .u64 0, .int .u64 b] w fun e w' => e = .returned (.bool true) ∧ Below w.heap.size w w' from fun w => by
            have h := not_any n L L 0 b hn w
            rw [hm2, wins_rate0] at h
            exact h)
          have H3 := Lib.hid (show ∀ w, Calls Try.prog 12 #[.int .u32 n, .int .u64 L, .int .u64 L, .int .u64 b, .int .u64 b] w fun e w' => e = .returned (.bool true) ∧ Below w.heap.size w w' from fun w => by
            have h := wins_any n L L b b hn w
            rw [wins_ok hm3, wins_all hn (by omega) (by omega)] at h
            exact h)
          clear hm1 hm2 hm3
          go_enter Try.func7, Try.ntmps7
          go_wp2_with fail
          refine (H1.out _).mono ?_
          rintro e w1 ⟨rfl, hb⟩
          have HB1 := Lib.hid (HB0.out.trans (hb.mono HB0.out.size))
          clear hb
          go_wp2_with fail
          refine (H2.out _).mono ?_
          rintro e w2 ⟨rfl, hb⟩
          have HB2 := Lib.hid (HB1.out.trans (hb.mono HB1.out.size))
          clear hb
          go_wp2_with fail
          refine (H3.out _).mono ?_
          rintro e w3 ⟨rfl, hb⟩
          have HB3 := Lib.hid (HB2.out.trans (hb.mono HB2.out.size))
          clear hb
          go_wp2_with fail
          refine (HK.out _).mono ?_
          rintro e w4 ⟨rfl, hb⟩
          have HB4 := Lib.hid (HB3.out.trans (hb.mono HB3.out.size))
          clear hb
          go_wp2_with fail
          go_ret
          exact ⟨rfl, HB4.out⟩

theorem law_LotEnds (a0 a1 a2 : Int) (w0 : (Lit.int .u32 a0).wf = true) (w1 : (Lit.int .u64 a1).wf = true) (w2 : (Lit.int .u64 a2).wf = true) (w : World) :
    Calls Try.prog 7 #[.int .u32 a0, .int .u64 a1, .int .u64 a2] w fun e w' => e = .returned (.bool true) ∧ Below w.heap.size w w' := by
  obtain ⟨n, rfl, h0⟩ := nat_32 w0
  obtain ⟨L, rfl, _⟩ := nat_64 w1
  obtain ⟨b, rfl, _⟩ := nat_64 w2
  exact ends_true n L b h0 w

set_option maxHeartbeats 6400000 in
theorem parts_true (x y L a b : Nat) (w : World) :
    Calls Try.prog 8 #[.int .u64 x, .int .u64 y, .int .u64 L, .int .u64 a, .int .u64 b] w fun e w' => e = .returned (.bool true) ∧ Below w.heap.size w w' := by
  have HK := Lib.hid works_any
  have HB0 := Lib.hid (Below.refl w.heap.size w)
  by_cases h0 : 4611686018427387904 < x
  · have i0 : (4611686018427387904 : Int) < (x : Int) := by omega
    go_enter Try.func8, Try.ntmps8
    go_wp2_with fail
    refine (HK.out _).mono ?_
    rintro e w1 ⟨rfl, hb⟩
    have HB1 := Lib.hid (HB0.out.trans (hb.mono HB0.out.size))
    clear hb
    go_wp2_with fail
    go_ret
    exact ⟨rfl, HB1.out⟩
  · have i0 : ¬ (4611686018427387904 : Int) < (x : Int) := by omega
    by_cases h1 : 4611686018427387904 < y
    · have i1 : (4611686018427387904 : Int) < (y : Int) := by omega
      go_enter Try.func8, Try.ntmps8
      go_wp2_with fail
      refine (HK.out _).mono ?_
      rintro e w1 ⟨rfl, hb⟩
      have HB1 := Lib.hid (HB0.out.trans (hb.mono HB0.out.size))
      clear hb
      go_wp2_with fail
      go_ret
      exact ⟨rfl, HB1.out⟩
    · have i1 : ¬ (4611686018427387904 : Int) < (y : Int) := by omega
      by_cases h2 : L < x + y
      · have i2 : (L : Int) < (x : Int) + (y : Int) := by omega
        go_enter Try.func8, Try.ntmps8
        go_wp2_with fail
        refine (HK.out _).mono ?_
        rintro e w1 ⟨rfl, hb⟩
        have HB1 := Lib.hid (HB0.out.trans (hb.mono HB0.out.size))
        clear hb
        go_wp2_with fail
        go_ret
        exact ⟨rfl, HB1.out⟩
      · have i2 : ¬ (L : Int) < (x : Int) + (y : Int) := by omega
        by_cases h3 : 9223372036854775808 ≤ L
        · have i3 : (9223372036854775808 : Int) ≤ (L : Int) := by omega
          go_enter Try.func8, Try.ntmps8
          go_wp2_with fail
          refine (HK.out _).mono ?_
          rintro e w1 ⟨rfl, hb⟩
          have HB1 := Lib.hid (HB0.out.trans (hb.mono HB0.out.size))
          clear hb
          go_wp2_with fail
          go_ret
          exact ⟨rfl, HB1.out⟩
        · have i3 : ¬ (9223372036854775808 : Int) ≤ (L : Int) := by omega
          by_cases h4 : L = 0
          · have i4 : (L : Int) = 0 := by omega
            have j4 : ((L : Int) == 0) = true := beq_iff_eq.2 (by omega)
            go_enter Try.func8, Try.ntmps8
            go_wp2_with fail
            refine (HK.out _).mono ?_
            rintro e w1 ⟨rfl, hb⟩
            have HB1 := Lib.hid (HB0.out.trans (hb.mono HB0.out.size))
            clear hb
            go_wp2_with fail
            go_ret
            exact ⟨rfl, HB1.out⟩
          · have i4 : ¬ (L : Int) = 0 := by omega
            have j4 : ((L : Int) == 0) = false := beq_eq_false_iff_ne.2 (by omega)
            by_cases h5 : b < a
            · have i5 : (b : Int) < (a : Int) := by omega
              go_enter Try.func8, Try.ntmps8
              go_wp2_with fail
              refine (HK.out _).mono ?_
              rintro e w1 ⟨rfl, hb⟩
              have HB1 := Lib.hid (HB0.out.trans (hb.mono HB0.out.size))
              clear hb
              go_wp2_with fail
              go_ret
              exact ⟨rfl, HB1.out⟩
            · have i5 : ¬ (b : Int) < (a : Int) := by omega
              by_cases h6 : b = 0
              · have i6 : (b : Int) = 0 := by omega
                have j6 : ((b : Int) == 0) = true := beq_iff_eq.2 (by omega)
                go_enter Try.func8, Try.ntmps8
                go_wp2_with fail
                refine (HK.out _).mono ?_
                rintro e w1 ⟨rfl, hb⟩
                have HB1 := Lib.hid (HB0.out.trans (hb.mono HB0.out.size))
                clear hb
                go_wp2_with fail
                go_ret
                exact ⟨rfl, HB1.out⟩
              · have i6 : ¬ (b : Int) = 0 := by omega
                have j6 : ((b : Int) == 0) = false := beq_eq_false_iff_ne.2 (by omega)
                by_cases h7 : 65536 < b
                · have i7 : (65536 : Int) < (b : Int) := by omega
                  go_enter Try.func8, Try.ntmps8
                  go_wp2_with fail
                  refine (HK.out _).mono ?_
                  rintro e w1 ⟨rfl, hb⟩
                  have HB1 := Lib.hid (HB0.out.trans (hb.mono HB0.out.size))
                  clear hb
                  go_wp2_with fail
                  go_ret
                  exact ⟨rfl, HB1.out⟩
                · have i7 : ¬ (65536 : Int) < (b : Int) := by omega
                  have H1 := Lib.hid (show ∀ w, Calls Try.prog 10 #[.int .u64 x, .int .u64 L, .int .u64 a, .int .u64 b] w fun e w' => e = .returned (.tuple #[.int .u64 (leastN x L a b : Nat), .int .i64 0]) ∧ Below w.heap.size w w' from fun w => by
                    have h := code_LeastL x L a b w
                    have hy : mayN x L a b = true := may_iff.2 ⟨by omega, by omega, by omega, by omega, by omega, by omega⟩
                    rw [show leastE x L a b = leastN x L a b by unfold leastE; rw [hy, if_pos rfl], hy] at h
                    exact h)
                  have H2 := Lib.hid (show ∀ w, Calls Try.prog 10 #[.int .u64 y, .int .u64 L, .int .u64 a, .int .u64 b] w fun e w' => e = .returned (.tuple #[.int .u64 (leastN y L a b : Nat), .int .i64 0]) ∧ Below w.heap.size w w' from fun w => by
                    have h := code_LeastL y L a b w
                    have hy : mayN y L a b = true := may_iff.2 ⟨by omega, by omega, by omega, by omega, by omega, by omega⟩
                    rw [show leastE y L a b = leastN y L a b by unfold leastE; rw [hy, if_pos rfl], hy] at h
                    exact h)
                  have H3 := Lib.hid (show ∀ w, Calls Try.prog 10 #[.int .u64 ((x : Int) + (y : Int)), .int .u64 L, .int .u64 a, .int .u64 b] w fun e w' => e = .returned (.tuple #[.int .u64 (leastN (x + y) L a b : Nat), .int .i64 0]) ∧ Below w.heap.size w w' from fun w => by
                    have h := code_LeastL (x + y) L a b w
                    have hy : mayN (x + y) L a b = true := may_iff.2 ⟨by omega, by omega, by omega, by omega, by omega, by omega⟩
                    rw [show leastE (x + y) L a b = leastN (x + y) L a b by unfold leastE; rw [hy, if_pos rfl], hy] at h
                    exact h)
                  have hp := least_parts (s := x) (t := y) (L := L) (a := a) (b := b) (by omega) (by omega)
                  have t1 : leastN x L a b ≤ 4294967296 := least_top (may_iff.2 ⟨by omega, by omega, by omega, by omega, by omega, by omega⟩)
                  have t2 : leastN y L a b ≤ 4294967296 := least_top (may_iff.2 ⟨by omega, by omega, by omega, by omega, by omega, by omega⟩)
                  have t3 : leastN (x + y) L a b ≤ 4294967296 := least_top (may_iff.2 ⟨by omega, by omega, by omega, by omega, by omega, by omega⟩)
                  obtain ⟨l, hl⟩ : ∃ l, leastN x L a b = l := ⟨_, rfl⟩
                  obtain ⟨m, hm⟩ : ∃ l, leastN y L a b = l := ⟨_, rfl⟩
                  obtain ⟨n, hn⟩ : ∃ l, leastN (x + y) L a b = l := ⟨_, rfl⟩
                  rw [hl] at H1 hp t1
                  rw [hm] at H2 hp t2
                  rw [hn] at H3 hp t3
                  clear hl hm hn
                  rcases hp with hp | hp
                  · have e1 : ((n : Int) == (l : Int) + (m : Int)) = true := beq_iff_eq.2 (by omega)
                    clear hp
                    go_enter Try.func8, Try.ntmps8
                    go_wp2_with fail
                    refine (H1.out _).mono ?_
                    rintro e w1 ⟨rfl, hb⟩
                    have HB1 := Lib.hid (HB0.out.trans (hb.mono HB0.out.size))
                    clear hb
                    go_wp2_with fail
                    refine (H2.out _).mono ?_
                    rintro e w2 ⟨rfl, hb⟩
                    have HB2 := Lib.hid (HB1.out.trans (hb.mono HB1.out.size))
                    clear hb
                    go_wp2_with fail
                    refine (H3.out _).mono ?_
                    rintro e w3 ⟨rfl, hb⟩
                    have HB3 := Lib.hid (HB2.out.trans (hb.mono HB2.out.size))
                    clear hb
                    go_wp2_with fail
                    refine (HK.out _).mono ?_
                    rintro e w4 ⟨rfl, hb⟩
                    have HB4 := Lib.hid (HB3.out.trans (hb.mono HB3.out.size))
                    clear hb
                    go_wp2_with fail
                    go_ret
                    exact ⟨rfl, HB4.out⟩
                  · have e1 : ((n : Int) == (l : Int) + (m : Int)) = false := beq_eq_false_iff_ne.2 (by omega)
                    have e2 : ((n : Int) + 1 == (l : Int) + (m : Int)) = true := beq_iff_eq.2 (by omega)
                    clear hp
                    go_enter Try.func8, Try.ntmps8
                    go_wp2_with fail
                    refine (H1.out _).mono ?_
                    rintro e w1 ⟨rfl, hb⟩
                    have HB1 := Lib.hid (HB0.out.trans (hb.mono HB0.out.size))
                    clear hb
                    go_wp2_with fail
                    refine (H2.out _).mono ?_
                    rintro e w2 ⟨rfl, hb⟩
                    have HB2 := Lib.hid (HB1.out.trans (hb.mono HB1.out.size))
                    clear hb
                    go_wp2_with fail
                    refine (H3.out _).mono ?_
                    rintro e w3 ⟨rfl, hb⟩
                    have HB3 := Lib.hid (HB2.out.trans (hb.mono HB2.out.size))
                    clear hb
                    go_wp2_with fail
                    refine (HK.out _).mono ?_
                    rintro e w4 ⟨rfl, hb⟩
                    have HB4 := Lib.hid (HB3.out.trans (hb.mono HB3.out.size))
                    clear hb
                    go_wp2_with fail
                    go_ret
                    exact ⟨rfl, HB4.out⟩

theorem law_LotParts (a0 a1 a2 a3 a4 : Int) (w0 : (Lit.int .u64 a0).wf = true) (w1 : (Lit.int .u64 a1).wf = true) (w2 : (Lit.int .u64 a2).wf = true) (w3 : (Lit.int .u64 a3).wf = true) (w4 : (Lit.int .u64 a4).wf = true) (w : World) :
    Calls Try.prog 8 #[.int .u64 a0, .int .u64 a1, .int .u64 a2, .int .u64 a3, .int .u64 a4] w fun e w' => e = .returned (.bool true) ∧ Below w.heap.size w w' := by
  obtain ⟨x, rfl, _⟩ := nat_64 w0
  obtain ⟨y, rfl, _⟩ := nat_64 w1
  obtain ⟨L, rfl, _⟩ := nat_64 w2
  obtain ⟨a, rfl, _⟩ := nat_64 w3
  obtain ⟨b, rfl, _⟩ := nat_64 w4
  exact parts_true x y L a b w

end Go.Proofs.Ytogpnfgjdnccdaa.Lot
