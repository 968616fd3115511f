/- TreeRoots, TreeLengths. -/
import Derived.Test.YtckpgnncmmjnnaaTrW
namespace Go.Proofs.Ytckpgnncmmjnnaa.Tree
open Go.RowKit Go.Proofs.Ytckpgnncmmjnnaa.Sha

theorem slice_of {w : World} {v : Value} {L : List (List UInt8)} (h : Hashes w v L) : ∃ a cap, v = .slice a L.length cap := by
  rcases h with ⟨a, cap, rfl, rfl⟩ | ⟨g, o, cap, rfl, _, _⟩
  · exact ⟨a, cap, rfl⟩
  · exact ⟨_, cap, rfl⟩

set_option maxRecDepth 100000 in
set_option maxHeartbeats 1600000 in
theorem law_TreeRoots (v0 : Value) (a0 : List (List UInt8)) (w : World) (w0 : Hashes w v0 a0) (x0 : H32 a0) (y0 : a0.length ≤ maxLen) : Calls Try.prog 6 #[v0] w fun e w' => e = .returned (.bool true) ∧ Below w.heap.size w w' := by
  obtain ⟨a, cap, rfl⟩ := slice_of w0
  have hm : a0.length ≤ 9223372036854775807 := y0
  by_cases hbig : 300 < a0.length
  · obtain ⟨n, hn⟩ : ∃ n, a0.length = n := ⟨_, rfl⟩
    rw [hn] at hbig hm
    rw [hn]
    have hb : (300 : Int) < (n : Int) := by omega
    clear hn w0 x0 y0
    go_enter Try.func6, Try.ntmps6
    go_wp2_with (go_at_call 20; refine (works4 _).mono ?_; rintro e w' ⟨rfl, hb⟩)
    go_ret
    exact ⟨rfl, by assumption⟩
  · have HRT := Lib.hid (code_Root (.slice a a0.length cap) a0 w w0 x0 (by omega))
    have HRR := Lib.hid (fun W (hb : Below w.heap.size w W) => ref_Root (.slice a a0.length cap) a0 W (w0.kept hb) x0 (by omega))
    have HE := fun w => eqIn_hash (rootA a0) (rootA a0) rfl rfl w
    rw [show (rootA a0 == rootA a0) = true by simp] at HE
    obtain ⟨C, hC⟩ : ∃ C, (valsB (rootA a0)).toArray = C := ⟨_, rfl⟩
    rw [hC] at HRT HRR HE
    obtain ⟨n, hn⟩ : ∃ n, a0.length = n := ⟨_, rfl⟩
    rw [hn] at hbig hm HRT HRR
    rw [hn]
    have hb : ¬ (300 : Int) < (n : Int) := by omega
    clear hn hC w0 x0 y0 hbig
    go_enter Try.func6, Try.ntmps6
    go_wp2_with fail
    refine HRT.out.mono ?_
    rintro e w1 ⟨rfl, hb1⟩
    have HB1 := Lib.hid hb1
    clear hb1
    go_wp2_with fail
    refine (HRR.out _ HB1.out).mono ?_
    rintro e w2 ⟨rfl, hb2⟩
    have HB2 := Lib.hid (HB1.out.trans (hb2.mono HB1.out.size))
    clear hb2
    go_wp2_with fail
    refine (works4 _).mono ?_
    rintro e w3 ⟨rfl, hb3⟩
    have HB3 := Lib.hid (HB2.out.trans (hb3.mono HB2.out.size))
    clear hb3
    go_wp2_with fail
    go_ret
    exact ⟨rfl, HB3.out⟩

/-- How many binary digits a number has. -/
def digN : Nat → Nat → Nat
  | 0, _ => 0
  | f + 1, n => if n = 0 then 0 else 1 + digN f (n / 2)
theorem digN_fuel : ∀ (f g n : Nat), n ≤ f → n ≤ g → digN f n = digN g n
  | 0, 0, _, _, _ => rfl
  | 0, g + 1, n, h, _ => by rw [digN, digN, if_pos (by omega)]
  | f + 1, 0, n, _, h => by rw [digN, digN, if_pos (by omega)]
  | f + 1, g + 1, n, h1, h2 => by
    rw [digN, digN]
    split
    · rfl
    · rw [digN_fuel f g (n / 2) (by omega) (by omega)]
def digs (n : Nat) : Nat := digN n n
theorem digs_zero : digs 0 = 0 := rfl
theorem digs_pos (n : Nat) (h : 0 < n) : digs n = 1 + digs (n / 2) := by
  unfold digs
  obtain ⟨m, rfl⟩ : ∃ m, n = m + 1 := ⟨n - 1, by omega⟩
  rw [digN, if_neg (by omega), digN_fuel m ((m + 1) / 2) _ (by omega) (Nat.le_refl _)]
theorem digs_le (f : Nat) : ∀ n, n ≤ f → digs n ≤ n := by
  induction f with
  | zero =>
    intro n h
    obtain rfl : n = 0 := by omega
    exact Nat.le_refl _
  | succ f ih =>
    intro n h
    by_cases h0 : n = 0
    · subst h0; exact Nat.le_refl _
    · rw [digs_pos n (by omega)]
      have := ih (n / 2) (by omega)
      omega
theorem proof_len (f : Nat) : ∀ (M : List (List UInt8)) (i : Nat), M.length ≤ f → 0 < M.length → (proofA M i).length ≤ digs (M.length - 1) ∧ (proofA M 0).length = digs (M.length - 1) := by
  induction f with
  | zero => intro M i h h0; omega
  | succ f ih =>
    intro M i h h0
    by_cases h1 : M.length ≤ 1
    · rw [proofA_one M i h1, proofA_one M 0 h1, show M.length - 1 = 0 by omega]
      exact ⟨Nat.le_refl _, rfl⟩
    · have hu := upF_len M
      have hd : (upF M).length - 1 = (M.length - 1) / 2 := by omega
      obtain ⟨h2, _⟩ := ih (upF M) (i / 2) (by omega) (by omega)
      obtain ⟨_, h3⟩ := ih (upF M) 0 (by omega) (by omega)
      rw [hd] at h2 h3
      rw [proofA_step M i (by omega), proofA_step M 0 (by omega), digs_pos (M.length - 1) (by omega), List.length_append, List.length_append]
      have h4 : (M[oth i]?).toList.length ≤ 1 := by cases M[oth i]? <;> simp
      have h5 : (M[oth 0]?).toList.length = 1 := by
        have : oth 0 = 1 := rfl
        rw [this, List.getElem?_eq_getElem (by omega)]
        rfl
      refine ⟨by omega, ?_⟩
      rw [show (0 : Nat) / 2 = 0 from rfl]
      omega

theorem own_slice {B : Nat} {v : Value} {P : List (List UInt8)} {w : World} (h : OwnH B v P w) : ∃ a c, v = .slice a P.length c := by
  rcases h.shape with ⟨rfl, rfl⟩ | ⟨g, cap, rfl, _, _⟩
  · exact ⟨_, _, rfl⟩
  · exact ⟨_, _, rfl⟩

set_option maxRecDepth 100000 in
set_option maxHeartbeats 1600000 in
theorem law_TreeLengths (v0 : Value) (a0 : List (List UInt8)) (w : World) (w0 : Hashes w v0 a0) (x0 : H32 a0) (y0 : a0.length ≤ maxLen) : Calls Try.prog 10 #[v0] w fun e w' => e = .returned (.bool true) ∧ Below w.heap.size w w' := by
  obtain ⟨a, cap, rfl⟩ := slice_of w0
  have hm : a0.length ≤ 9223372036854775807 := y0
  by_cases hbig : 300 < a0.length ∨ a0.length = 0
  · obtain ⟨n, hn⟩ : ∃ n, a0.length = n := ⟨_, rfl⟩
    rw [hn] at hbig hm
    rw [hn]
    clear hn w0 x0 y0
    rcases hbig with hb | hb
    · have hb : (300 : Int) < (n : Int) := by omega
      go_enter Try.func10, Try.ntmps10
      go_wp2_with (go_at_call 20; refine (works4 _).mono ?_; rintro e w' ⟨rfl, hb⟩)
      go_ret
      exact ⟨rfl, by assumption⟩
    · subst hb
      go_enter Try.func10, Try.ntmps10
      go_wp2_with (go_at_call 20; refine (works4 _).mono ?_; rintro e w' ⟨rfl, hb⟩)
      go_ret
      exact ⟨rfl, by assumption⟩
  · have h1 : a0.length ≤ 300 := by omega
    have h2 : 0 < a0.length := by omega
    have HP0 := Lib.hid (code_Prove (.slice a a0.length cap) a0 0 w w0 x0 (by omega) h2)
    have HP1 := Lib.hid (fun W (hb : Below w.heap.size w W) => code_Prove (.slice a a0.length cap) a0 (a0.length - 1) W (w0.kept hb) x0 (by omega) (by omega))
    have hl := proof_len a0.length (a0.map leafF) (a0.length - 1) (by rw [List.length_map]; exact Nat.le_refl _) (by rw [List.length_map]; exact h2)
    rw [List.length_map] at hl
    obtain ⟨P0, hP0⟩ : ∃ P, proofA (a0.map leafF) 0 = P := ⟨_, rfl⟩
    obtain ⟨P1, hP1⟩ : ∃ P, proofA (a0.map leafF) (a0.length - 1) = P := ⟨_, rfl⟩
    rw [hP0] at HP0 hl
    rw [hP1] at HP1 hl
    obtain ⟨n, hn⟩ : ∃ n, a0.length = n := ⟨_, rfl⟩
    rw [hn] at hbig hm HP0 HP1 hl h1 h2
    rw [hn]
    obtain ⟨k, hk⟩ : ∃ k, n - 1 = k := ⟨_, rfl⟩
    rw [hk] at HP1 hl
    have hki : (n : Int) - 1 = (k : Int) := by omega
    have hk300 : k < 300 := by omega
    have HL := Lib.hid hl
    have hd := digs_le k k (Nat.le_refl _)
    have hb : ¬ (300 : Int) < (n : Int) := by omega
    have hb0 : ((n : Int) == 0) = false := by simp; omega
    clear hn hP0 hP1 hk w0 x0 y0 hbig hl
    go_enter Try.func10, Try.ntmps10
    go_wp2_with fail
    go_loop [3, 4] (fun d m => ∃ x y : Nat, d = .int .i64 x ∧ m = .int .i64 y ∧ x + digs y = digs k ∧ y ≤ k) (fun _ m => (intOf m).toNat)
    case atStart => exact ⟨0, k, rfl, rfl, by omega, Nat.le_refl _⟩
    case round =>
      obtain ⟨x, y, rfl, rfl, hxy, hyk⟩ := hrel
      by_cases hy : 0 < y
      · obtain ⟨z, hz⟩ : ∃ z, y / 2 = z := ⟨_, rfl⟩
        have hzi : (y : Int) / 2 = (z : Int) := by omega
        have hyi : (0 : Int) < (y : Int) := by omega
        have hd2 := digs_pos y hy
        rw [hz] at hd2
        have hxs : x < 300 := by omega
        have HXY := Lib.hid (show x + 1 + digs z = digs k ∧ z ≤ k ∧ z < y by omega)
        clear hd2 hxy hz
        go_wp2_with fail
        go_round
        case rel => exact ⟨x + 1, z, by go_num, rfl, HXY.out.1, HXY.out.2.1⟩
        case measure =>
          have := HXY.out
          simp [intOf]
          omega
      · obtain rfl : y = 0 := by omega
        have HX := Lib.hid (show x = digs k by rw [digs_zero] at hxy; omega)
        clear hxy hy hyk
        have hxs : x < 300 := by have := HX.out; omega
        go_wp2_with fail
        refine HP0.out.mono ?_
        rintro e w1 ⟨v1, B1, rfl, hB1, hown1, hb1⟩
        obtain ⟨s1, c1, rfl⟩ := own_slice hown1
        have HB1 := Lib.hid hb1
        clear hb1 hown1 hB1
        go_wp2_with fail
        refine (HP1.out _ HB1.out).mono ?_
        rintro e w2 ⟨v2, B2, rfl, hB2, hown2, hb2⟩
        obtain ⟨s2, c2, rfl⟩ := own_slice hown2
        have HB2 := Lib.hid (HB1.out.trans (hb2.mono HB1.out.size))
        clear hb2 hown2 hB2
        have he0 : ((P0.length : Int) == (x : Int)) = true := by
          have := HL.out.2
          have := HX.out
          simp
          omega
        have he1 : (P1.length : Int) ≤ (x : Int) := by
          have := HL.out.1
          have := HX.out
          omega
        go_wp2_with fail
        refine (works4 _).mono ?_
        rintro e w3 ⟨rfl, hb3⟩
        have HB3 := Lib.hid (HB2.out.trans (hb3.mono HB2.out.size))
        clear hb3
        go_wp2_with fail
        go_ret
        exact ⟨rfl, HB3.out⟩

end Go.Proofs.Ytckpgnncmmjnnaa.Tree
