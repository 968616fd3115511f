/- origin: the code's Param and what numbers may be. -/
import Derived.Test.YtdgaoebjbhomdaaDoorOgD
import Derived.Deep.QuietTactic
import Derived.Lib.QuietBelow
namespace Go.Proofs.YtdgaoebjbhomdaaDoor.Og
open Go.RowKit Go.Proofs.YtdgaoebjbhomdaaDoor.Sha Go.Proofs.YtdgaoebjbhomdaaDoor.Gr Go.Proofs.YtdgaoebjbhomdaaDoor.Digit Go.Proofs.YtdgaoebjbhomdaaDoor.Deed

/-- The table that the program lays. -/
def Tab (w : World) : Prop := ∀ i, i < 8 → w.cell? ⟨0, i * 2, none⟩ = some (.int .u64 ((loP.getD i 0 : Nat) : Int)) ∧ w.cell? ⟨0, i * 2 + 1, none⟩ = some (.int .u64 ((hiP.getD i 0 : Nat) : Int))
theorem Tab.kept {w w' : World} (h : Tab w) (hb : Below w.heap.size w w') : Tab w' := fun i hi => by
  obtain ⟨h1, h2⟩ := h i hi
  rw [hb.cell (World.block_lt_of_cell? _ _ h1), hb.cell (World.block_lt_of_cell? _ _ h2)]
  exact ⟨h1, h2⟩
theorem box_o {w : World} {o : OriginD} {c s t : Value} (h : OAt w o c s t) : OPart (w.alloc (.cells (cellsO o c s t).toArray 34)) w.heap.size o c s t ∧ OAt (w.alloc (.cells (cellsO o c s t).toArray 34)) o c s t ∧ Below w.heap.size w (w.alloc (.cells (cellsO o c s t).toArray 34)) ∧ w.heap.size < (w.alloc (.cells (cellsO o c s t).toArray 34)).heap.size := by
  have hb : Below w.heap.size w (w.alloc (.cells (cellsO o c s t).toArray 34)) := (Below.refl _ _).alloc (Nat.le_refl _) _
  exact ⟨O_parts h.n (range_new w _ _), h.kept hb, hb, by simp⟩
theorem OriginD.num_nV (o : OriginD) (i : Nat) : nV (o.n.getD i 0) = .int .u64 (o.num i : Nat) := rfl
theorem OriginD.num_lt (o : OriginD) (i : Nat) : o.num i < 18446744073709551616 := (o.n.getD i 0).toNat_lt

set_option maxRecDepth 100000 in
set_option maxHeartbeats 400000 in
theorem code_within (n a b : Nat) (w : World) : Calls Tryd.prog 22 #[.int .u64 n, .int .u64 a, .int .u64 b] w fun e w' => e = .returned (.bool (inS n a b)) ∧ w' = w := by
  unfold inS
  by_cases h1 : a ≤ n
  · have hi : (a : Int) ≤ (n : Int) := by omega
    by_cases h2 : n ≤ b
    · have hj : (n : Int) ≤ (b : Int) := by omega
      go_enter Tryd.func22, Tryd.ntmps22
      go_wp2
      go_ret
      exact ⟨by simp [h1, h2], rfl⟩
    · have hj : ¬ (n : Int) ≤ (b : Int) := by omega
      go_enter Tryd.func22, Tryd.ntmps22
      go_wp2
      go_ret
      exact ⟨by simp, rfl⟩
  · have hi : ¬ (a : Int) ≤ (n : Int) := by omega
    go_enter Tryd.func22, Tryd.ntmps22
    go_wp2
    go_ret
    exact ⟨by simp, rfl⟩
set_option maxRecDepth 100000 in
set_option maxHeartbeats 800000 in
attribute [local irreducible] Go.wpQuiet in
theorem code_Param (p n : Nat) (w : World) (ht : Tab w) (hp : p < 18446744073709551616) : Calls Tryd.prog 11 #[.int .u64 p, .int .u64 n] w fun e w' => e = .returned (.int .i64 (parE p n)) ∧ Below w.heap.size w w' := by
  by_cases h8 : 8 ≤ p
  · have h8i : (8 : Int) ≤ (p : Int) := by omega
    rw [show parE p n = 5 by unfold parE; rw [if_pos h8]]
    go_enter Tryd.func11, Tryd.ntmps11
    go_wp2
    go_ret
    exact ⟨rfl, Below.refl _ _⟩
  · have h8i : ¬ (8 : Int) ≤ (p : Int) := by omega
    have hlt : (p : Int) < 8 := by omega
    obtain ⟨c0, c1⟩ := ht p (by omega)
    have HW := Lib.hid (fun w => code_within n (loP.getD p 0) (hiP.getD p 0) w)
    have HE := Lib.hid (show parE p n = if inS n (loP.getD p 0) (hiP.getD p 0) = true then 0 else 2 by unfold parE; rw [if_neg h8])
    obtain ⟨lo, hlo⟩ : ∃ x, loP.getD p 0 = x := ⟨_, rfl⟩
    obtain ⟨hi, hhi⟩ : ∃ x, hiP.getD p 0 = x := ⟨_, rfl⟩
    rw [hlo] at c0 HW HE
    rw [hhi] at c1 HW HE
    obtain ⟨b, hb⟩ : ∃ b, inS n lo hi = b := ⟨_, rfl⟩
    rw [hb] at HE
    simp only [hb] at HW
    clear hb hlo hhi
    have c0q : ∀ d os, (Sort.grow (redrawn w d) os).cell? ⟨0, p * 2, none⟩ = some (.int .u64 (lo : Int)) := fun d os => cell_regrown c0 d os
    have c1q : ∀ d os, (Sort.grow (redrawn w d) os).cell? ⟨0, p * 2 + 1, none⟩ = some (.int .u64 (hi : Int)) := fun d os => cell_regrown c1 d os
    have HWB := Lib.hid (fun w => (HW.out w).mono (R' := fun e w' => e = .returned (.bool b) ∧ Below w.heap.size w w') fun e w' h => ⟨h.1, by rw [h.2]; exact Below.refl _ _⟩)
    cases b with
    | true =>
      rw [HE.out, if_pos rfl]
      go_enter Tryd.func11, Tryd.ntmps11
      go_upto_region 3 with (fail)
      refine wp_region_quiet_below (by kernel_rfl) (by kernel_rfl) ?_
      repeat (quiet_step (with_reducible exact Calls.regrown_of (HWB.out _)))
      refine wpQuiet_nil ?_
      rintro _ ⟨⟨dq, osq⟩, rfl⟩
      have HBQ := Lib.hid (below_regrown w dq osq)
      dsimp only
      generalize Sort.grow (redrawn w dq) osq = w5 at HBQ ⊢
      go_wp2
      go_ret
      exact ⟨rfl, HBQ.out⟩
    | false =>
      rw [HE.out, if_neg (by simp)]
      go_enter Tryd.func11, Tryd.ntmps11
      go_upto_region 3 with (fail)
      refine wp_region_quiet_below (by kernel_rfl) (by kernel_rfl) ?_
      repeat (quiet_step (with_reducible exact Calls.regrown_of (HWB.out _)))
      refine wpQuiet_nil ?_
      rintro _ ⟨⟨dq, osq⟩, rfl⟩
      have HBQ := Lib.hid (below_regrown w dq osq)
      dsimp only
      generalize Sort.grow (redrawn w dq) osq = w5 at HBQ ⊢
      go_wp2
      go_ret
      exact ⟨rfl, HBQ.out⟩


set_option maxRecDepth 100000 in
set_option maxHeartbeats 800000 in
theorem code_mayCount {w : World} {o : OriginD} {c s t : Value} (h : OAt w o c s t) : Calls Tryd.prog 43 #[oV o c s t] w fun e w' => e = .returned (.bool (cntB o)) ∧ Below w.heap.size w w' := by
  unfold cntB
  obtain ⟨a1, k1, rfl, _⟩ := h.coins.form
  obtain ⟨a2, k2, rfl, _⟩ := h.seats.form
  obtain ⟨a3, k3, rfl, _⟩ := h.trusts.form
  obtain ⟨nc, hnc⟩ : ∃ n, o.coins.length = n := ⟨_, rfl⟩
  obtain ⟨ns, hns⟩ : ∃ n, o.seats.length = n := ⟨_, rfl⟩
  obtain ⟨nt, hnt⟩ : ∃ n, o.trusts.length = n := ⟨_, rfl⟩
  rw [hnc, hns, hnt] at h ⊢
  obtain ⟨h1, h2, h3, h4⟩ := box_o h
  unfold oV
  have HP := Lib.hid h1
  have HO := Lib.hid h2
  have HBW := Lib.hid h3
  have HLT := Lib.hid h4
  clear h1 h2 h3 h4
  obtain ⟨C, hC⟩ : ∃ C, (cellsO o (.slice a1 nc k1) (.slice a2 ns k2) (.slice a3 nt k3)).toArray = C := ⟨_, rfl⟩
  have HC := Lib.hid hC
  rw [hC] at HP HO HBW HLT
  rw [hC]
  clear hC
  go_enter Tryd.func43, Tryd.ntmps43
  go_upto_region 1 with (fail)
  generalize w.alloc (.cells C 34) = W at HP HO HBW HLT ⊢
  obtain ⟨g, hg⟩ : ∃ g, w.heap.size = g := ⟨_, rfl⟩
  have HG := Lib.hid hg
  rw [hg] at HP HBW HLT
  rw [hg]
  clear hg
  have c1 := HP.out.c
  have c2 := HP.out.s
  have c3 := HP.out.t
  by_cases e1 : nc ≤ 32
  · have i1 : (nc : Int) ≤ 32 := by omega
    by_cases e2 : ns ≤ 16
    · have i2 : (ns : Int) ≤ 16 := by omega
      by_cases e3 : nt ≤ 32
      · have i3 : (nt : Int) ≤ 32 := by omega
        go_wp2_with fail
        go_ret
        exact ⟨by simp; exact ⟨e1, e2, e3⟩, by rw [HG.out]; exact HBW.out⟩
      · have i3 : ¬ (nt : Int) ≤ 32 := by omega
        go_wp2_with fail
        go_ret
        exact ⟨by simp, by rw [HG.out]; exact HBW.out⟩
    · have i2 : ¬ (ns : Int) ≤ 16 := by omega
      go_wp2_with fail
      go_ret
      exact ⟨by simp, by rw [HG.out]; exact HBW.out⟩
  · have i1 : ¬ (nc : Int) ≤ 32 := by omega
    go_wp2_with fail
    go_ret
    exact ⟨by simp, by rw [HG.out]; exact HBW.out⟩


set_option maxRecDepth 100000 in
set_option maxHeartbeats 800000 in
theorem code_mayNumbers {w : World} {o : OriginD} {c s t : Value} (h : OAt w o c s t) : Calls Tryd.prog 44 #[oV o c s t] w fun e w' => e = .returned (.bool (numsB o)) ∧ Below w.heap.size w w' := by
  unfold numsB
  have H0 := Lib.hid (fun w => show Calls Tryd.prog 22 #[.int .u64 (o.num 0 : Nat), .int .u64 1, .int .u64 4096] w (fun e w' => e = .returned (.bool (inS (o.num 0) 1 4096)) ∧ w' = w) from code_within (o.num 0) 1 4096 w)
  have H1 := Lib.hid (fun w => show Calls Tryd.prog 22 #[.int .u64 (o.num 1 : Nat), .int .u64 1, .int .u64 1048576] w (fun e w' => e = .returned (.bool (inS (o.num 1) 1 1048576)) ∧ w' = w) from code_within (o.num 1) 1 1048576 w)
  have H2 := Lib.hid (fun w => show Calls Tryd.prog 22 #[.int .u64 (o.num 2 : Nat), .int .u64 1, .int .u64 1048576] w (fun e w' => e = .returned (.bool (inS (o.num 2) 1 1048576)) ∧ w' = w) from code_within (o.num 2) 1 1048576 w)
  have H4 := Lib.hid (fun w => show Calls Tryd.prog 22 #[.int .u64 (o.num 4 : Nat), .int .u64 1, .int .u64 65536] w (fun e w' => e = .returned (.bool (inS (o.num 4) 1 65536)) ∧ w' = w) from code_within (o.num 4) 1 65536 w)
  have H3 := Lib.hid (fun w => show Calls Tryd.prog 22 #[.int .u64 (o.num 3 : Nat), .int .u64 1, .int .u64 (o.num 4 : Nat)] w (fun e w' => e = .returned (.bool (inS (o.num 3) 1 (o.num 4))) ∧ w' = w) from code_within (o.num 3) 1 (o.num 4) w)
  obtain ⟨n0, hn0⟩ : ∃ n, o.num 0 = n := ⟨_, rfl⟩
  have HN0 := Lib.hid hn0
  simp only [hn0] at H0 ⊢
  clear hn0
  obtain ⟨n1, hn1⟩ : ∃ n, o.num 1 = n := ⟨_, rfl⟩
  have HN1 := Lib.hid hn1
  simp only [hn1] at H1 ⊢
  clear hn1
  obtain ⟨n2, hn2⟩ : ∃ n, o.num 2 = n := ⟨_, rfl⟩
  have HN2 := Lib.hid hn2
  simp only [hn2] at H2 ⊢
  clear hn2
  obtain ⟨n3, hn3⟩ : ∃ n, o.num 3 = n := ⟨_, rfl⟩
  have HN3 := Lib.hid hn3
  simp only [hn3] at H3 ⊢
  clear hn3
  obtain ⟨n4, hn4⟩ : ∃ n, o.num 4 = n := ⟨_, rfl⟩
  have HN4 := Lib.hid hn4
  simp only [hn4] at H4 H3 ⊢
  clear hn4
  obtain ⟨b0, hb0⟩ : ∃ b, inS n0 1 4096 = b := ⟨_, rfl⟩
  rw [hb0]
  simp only [hb0] at H0
  clear hb0
  obtain ⟨b1, hb1⟩ : ∃ b, inS n1 1 1048576 = b := ⟨_, rfl⟩
  rw [hb1]
  simp only [hb1] at H1
  clear hb1
  obtain ⟨b2, hb2⟩ : ∃ b, inS n2 1 1048576 = b := ⟨_, rfl⟩
  rw [hb2]
  simp only [hb2] at H2
  clear hb2
  obtain ⟨b4, hb4⟩ : ∃ b, inS n4 1 65536 = b := ⟨_, rfl⟩
  rw [hb4]
  simp only [hb4] at H4
  clear hb4
  obtain ⟨b3, hb3⟩ : ∃ b, inS n3 1 n4 = b := ⟨_, rfl⟩
  rw [hb3]
  simp only [hb3] at H3
  clear hb3
  obtain ⟨h1, h2, h3, h4⟩ := box_o h
  unfold oV
  have HP := Lib.hid h1
  have HO := Lib.hid h2
  have HBW := Lib.hid h3
  have HLT := Lib.hid h4
  clear h1 h2 h3 h4
  obtain ⟨C, hC⟩ : ∃ C, (cellsO o c s t).toArray = C := ⟨_, rfl⟩
  have HC := Lib.hid hC
  rw [hC] at HP HO HBW HLT
  rw [hC]
  clear hC
  go_enter Tryd.func44, Tryd.ntmps44
  go_upto_region 1 with (fail)
  generalize w.alloc (.cells C 34) = W at HP HO HBW HLT ⊢
  obtain ⟨g, hg⟩ : ∃ g, w.heap.size = g := ⟨_, rfl⟩
  have HG := Lib.hid hg
  rw [hg] at HP HBW HLT
  rw [hg]
  clear hg
  have q0 := HP.out.num 0 (by decide)
  rw [OriginD.num_nV, HN0.out] at q0
  have q1 := HP.out.num 1 (by decide)
  rw [OriginD.num_nV, HN1.out] at q1
  have q2 := HP.out.num 2 (by decide)
  rw [OriginD.num_nV, HN2.out] at q2
  have q3 := HP.out.num 3 (by decide)
  rw [OriginD.num_nV, HN3.out] at q3
  have q4 := HP.out.num 4 (by decide)
  rw [OriginD.num_nV, HN4.out] at q4
  cases b0 with
  | false =>
    go_wp2_with (first
      | (go_at_call 22; with_reducible refine (H0.out _).mono ?_; rintro e w1 ⟨rfl, rfl⟩))
    go_ret
    exact ⟨by simp, by rw [HG.out]; exact HBW.out⟩
  | true =>
    cases b1 with
    | false =>
      go_wp2_with (first
        | (go_at_call 22; with_reducible refine (H0.out _).mono ?_; rintro e w1 ⟨rfl, rfl⟩)
        | (go_at_call 22; with_reducible refine (H1.out _).mono ?_; rintro e w1 ⟨rfl, rfl⟩))
      go_ret
      exact ⟨by simp, by rw [HG.out]; exact HBW.out⟩
    | true =>
      cases b2 with
      | false =>
        go_wp2_with (first
          | (go_at_call 22; with_reducible refine (H0.out _).mono ?_; rintro e w1 ⟨rfl, rfl⟩)
          | (go_at_call 22; with_reducible refine (H1.out _).mono ?_; rintro e w1 ⟨rfl, rfl⟩)
          | (go_at_call 22; with_reducible refine (H2.out _).mono ?_; rintro e w1 ⟨rfl, rfl⟩))
        go_ret
        exact ⟨by simp, by rw [HG.out]; exact HBW.out⟩
      | true =>
        cases b4 with
        | false =>
          go_wp2_with (first
            | (go_at_call 22; with_reducible refine (H0.out _).mono ?_; rintro e w1 ⟨rfl, rfl⟩)
            | (go_at_call 22; with_reducible refine (H1.out _).mono ?_; rintro e w1 ⟨rfl, rfl⟩)
            | (go_at_call 22; with_reducible refine (H2.out _).mono ?_; rintro e w1 ⟨rfl, rfl⟩)
            | (go_at_call 22; with_reducible refine (H4.out _).mono ?_; rintro e w1 ⟨rfl, rfl⟩))
          go_ret
          exact ⟨by simp, by rw [HG.out]; exact HBW.out⟩
        | true =>
          cases b3 with
          | false =>
            go_wp2_with (first
              | (go_at_call 22; with_reducible refine (H0.out _).mono ?_; rintro e w1 ⟨rfl, rfl⟩)
              | (go_at_call 22; with_reducible refine (H1.out _).mono ?_; rintro e w1 ⟨rfl, rfl⟩)
              | (go_at_call 22; with_reducible refine (H2.out _).mono ?_; rintro e w1 ⟨rfl, rfl⟩)
              | (go_at_call 22; with_reducible refine (H4.out _).mono ?_; rintro e w1 ⟨rfl, rfl⟩)
              | (go_at_call 22; with_reducible refine (H3.out _).mono ?_; rintro e w1 ⟨rfl, rfl⟩))
            go_ret
            exact ⟨by simp, by rw [HG.out]; exact HBW.out⟩
          | true =>
            go_wp2_with (first
              | (go_at_call 22; with_reducible refine (H0.out _).mono ?_; rintro e w1 ⟨rfl, rfl⟩)
              | (go_at_call 22; with_reducible refine (H1.out _).mono ?_; rintro e w1 ⟨rfl, rfl⟩)
              | (go_at_call 22; with_reducible refine (H2.out _).mono ?_; rintro e w1 ⟨rfl, rfl⟩)
              | (go_at_call 22; with_reducible refine (H4.out _).mono ?_; rintro e w1 ⟨rfl, rfl⟩)
              | (go_at_call 22; with_reducible refine (H3.out _).mono ?_; rintro e w1 ⟨rfl, rfl⟩))
            go_ret
            exact ⟨by simp, by rw [HG.out]; exact HBW.out⟩


theorem params_len {o : OriginD} (hn : o.n.length = 15) : ((o.n.drop 5).take 8).length = 8 := by
  rw [List.length_take, List.length_drop, hn]
  rfl
theorem params_get {o : OriginD} (hn : o.n.length = 15) (i : Nat) (hi : i < 8) : (((o.n.drop 5).take 8).map nV)[i]? = some (.int .u64 (o.num (5 + i))) := by
  rw [List.getElem?_map, List.getElem?_take_of_lt hi, List.getElem?_drop, List.getElem?_eq_getElem (by omega)]
  unfold OriginD.num
  rw [List.getD_eq_getElem?_getD, List.getElem?_eq_getElem (by omega)]
  rfl

end Go.Proofs.YtdgaoebjbhomdaaDoor.Og
