/- The document's own answers: which of two rows of digits is less. -/
import Derived.Test.YtnfoegiogldidaaShaB
namespace Go.Proofs.Ytnfoegiogldidaa.Sha
open Go.RowKit

/-- What the first k digits tell. -/
def lowV (xs : List Nat) : Nat → Nat
  | 0 => 0
  | k + 1 => lowV xs k + 65536 ^ k * xs.getD k 0

theorem lowV_cons (x : Nat) (xs : List Nat) (k : Nat) : lowV (x :: xs) (k + 1) = x + 65536 * lowV xs k := by
  induction k with
  | zero => simp [lowV]
  | succ k ih =>
    rw [lowV, ih, lowV, List.getD_cons_succ, Nat.pow_succ, Nat.mul_add, Nat.mul_comm (65536 ^ k) 65536, Nat.mul_assoc]
    omega

theorem lowV_all (xs : List Nat) (k : Nat) (h : xs.length ≤ k) : lowV xs k = val16 xs := by
  induction xs generalizing k with
  | nil =>
    have : ∀ k, lowV [] k = 0 := by
      intro k
      induction k with
      | zero => rfl
      | succ k ih => simp [lowV, ih]
    rw [this]
    rfl
  | cons x xs ih =>
    cases k with
    | zero => simp at h
    | succ k => rw [lowV_cons, ih k (by simpa using h), val16]

theorem lowV_lt (xs : List Nat) (hx : ∀ x ∈ xs, x < 65536) (k : Nat) : lowV xs k < 65536 ^ k := by
  induction k with
  | zero => simp [lowV]
  | succ k ih =>
    have hd : xs.getD k 0 ≤ 65535 := by
      rw [List.getD_eq_getElem?_getD]
      cases hq : xs[k]? with
      | none => simp
      | some v =>
        have := hx v (List.mem_of_getElem? hq)
        simp
        omega
    have h2 : 65536 ^ k * xs.getD k 0 ≤ 65536 ^ k * 65535 := Nat.mul_le_mul_left _ hd
    rw [lowV, Nat.pow_succ]
    omega

theorem lowV_less (a b : List Nat) (ha : ∀ x ∈ a, x < 65536) (k x y : Nat) (hx : a.getD k 0 = x) (hy : b.getD k 0 = y) (h : x < y) : lowV a (k + 1) < lowV b (k + 1) := by
  have h1 := lowV_lt a ha k
  have h2 : 65536 ^ k * (x + 1) ≤ 65536 ^ k * y := Nat.mul_le_mul_left _ h
  rw [lowV, lowV, hx, hy]
  rw [Nat.mul_add, Nat.mul_one] at h2
  omega

/-- A digit, or nought behind the last one. -/
theorem digit_of (xs : List Nat) (k : Nat) : (k < xs.length ∧ ∃ x, xs[k]? = some x ∧ xs.getD k 0 = x) ∨ (¬ k < xs.length ∧ xs.getD k 0 = 0) := by
  by_cases h : k < xs.length
  · refine .inl ⟨h, xs[k], List.getElem?_eq_getElem h, ?_⟩
    rw [List.getD_eq_getElem?_getD, List.getElem?_eq_getElem h]
    rfl
  · refine .inr ⟨h, ?_⟩
    rw [List.getD_eq_getElem?_getD, List.getElem?_eq_none (by omega)]
    rfl

set_option maxRecDepth 100000 in
set_option maxHeartbeats 3200000 in
theorem less_any (g g' cap cap' la lb : Nat) (a b : List Nat) (w : World) (hda : Dig w g a) (hdb : Dig w g' b) (hla : a.length = la) (hlb : b.length = lb) (h1 : la ≤ 100) (h2 : lb ≤ 100) (ha : ∀ x ∈ a, x < 65536) (hb : ∀ x ∈ b, x < 65536) :
    Calls Try.prog 70 #[.slice (some ⟨g, 0, none⟩) la cap, .slice (some ⟨g', 0, none⟩) lb cap'] w fun e w' => e = .returned (.bool (decide (val16 a < val16 b))) ∧ w = w' := by
  obtain ⟨R, hR⟩ : ∃ R, decide (val16 a < val16 b) = R := ⟨_, rfl⟩
  rw [hR]
  have HR := Lib.hid hR
  have HLA := Lib.hid hla
  have HLB := Lib.hid hlb
  clear hR
  rcases Nat.lt_or_ge la lb with hlt | hlt
  · have HIFF := Lib.hid (show (lowV a lb < lowV b lb ↔ val16 a < val16 b) by rw [lowV_all a lb (by omega), lowV_all b lb (by omega)])
    clear hla hlb
    go_enter Try.func70, Try.ntmps70
    go_wp2
    go_loop [5] (fun i => ∃ (k : Nat) (iv : Int), k ≤ lb ∧ iv = (k : Int) - 1 ∧ i = .int .i64 iv ∧ (lowV a k < lowV b k ↔ val16 a < val16 b)) (fun i => (intOf i + 1).toNat)
    case atStart => exact ⟨lb, (lb : Int) - 1, Nat.le_refl _, rfl, by go_num, HIFF.out⟩
    case round =>
      obtain ⟨k, iv, hk, hiv, rfl, hkk⟩ := hrel
      have HK := Lib.hid hkk
      clear hkk
      cases k with
      | zero =>
        obtain rfl : iv = -1 := by omega
        have hR1 : R = false := by rw [← HR.out, decide_eq_false_iff_not, ← HK.out]; simp [lowV]
        subst hR1
        clear hiv hk hda hdb ha hb
        go_wp2
        all_goals (go_ret; exact ⟨rfl, rfl⟩)
      | succ j =>
        obtain rfl : iv = (j : Int) := by omega
        clear hiv
        have hj0 : (0 : Int) ≤ (j : Int) := by omega
        rcases digit_of a j with ⟨hja, x, hxk, hxd⟩ | ⟨hja, hxd⟩
        · rw [HLA.out] at hja
          have hcx := hda j x hxk
          rcases digit_of b j with ⟨hjb, y, hyk, hyd⟩ | ⟨hjb, hyd⟩
          · rw [HLB.out] at hjb
            have hcy := hdb j y hyk
            rcases Nat.lt_trichotomy x y with h | h | h
            · have hR1 : R = true := by rw [← HR.out, decide_eq_true_iff, ← HK.out]; exact lowV_less a b ha j _ _ hxd hyd h
              subst hR1
              have hne : ¬ (x : Nat) = y := by omega
              clear hda hdb ha hb hxd hyd hxk hyk
              go_wp2
              all_goals (go_ret; exact ⟨rfl, rfl⟩)
            · subst h
              have hnew : lowV a j < lowV b j ↔ val16 a < val16 b := by
                rw [← HK.out, lowV, lowV, hxd, hyd]
                omega
              have HNEW := Lib.hid hnew
              clear hnew
              clear hda hdb ha hb hxd hyd hxk hyk
              go_wp2
              go_round
              case rel => exact ⟨j, (j : Int) - 1, by omega, rfl, by go_num, HNEW.out⟩
              case measure => simp [intOf]
            · have hR1 : R = false := by
                have h2 := lowV_less b a hb j _ _ hyd hxd h
                rw [← HR.out, decide_eq_false_iff_not, ← HK.out]
                omega
              subst hR1
              have hng : ¬ x < y := by omega
              have hne : ¬ (x : Nat) = y := by omega
              clear hda hdb ha hb hxd hyd hxk hyk
              go_wp2
              all_goals (go_ret; exact ⟨rfl, rfl⟩)
          · rw [HLB.out] at hjb
            rcases Nat.lt_trichotomy x 0 with h | h | h
            · have hR1 : R = true := by rw [← HR.out, decide_eq_true_iff, ← HK.out]; exact lowV_less a b ha j _ _ hxd hyd h
              subst hR1
              have hne : ¬ (x : Nat) = 0 := by omega
              clear hda hdb ha hb hxd hyd hxk
              go_wp2
              all_goals (go_ret; exact ⟨rfl, rfl⟩)
            · subst h
              have hnew : lowV a j < lowV b j ↔ val16 a < val16 b := by
                rw [← HK.out, lowV, lowV, hxd, hyd]
                omega
              have HNEW := Lib.hid hnew
              clear hnew
              clear hda hdb ha hb hxd hyd hxk
              go_wp2
              go_round
              case rel => exact ⟨j, (j : Int) - 1, by omega, rfl, by go_num, HNEW.out⟩
              case measure => simp [intOf]
            · have hR1 : R = false := by
                have h2 := lowV_less b a hb j _ _ hyd hxd h
                rw [← HR.out, decide_eq_false_iff_not, ← HK.out]
                omega
              subst hR1
              have hne : ¬ (x : Nat) = 0 := by omega
              clear hda hdb ha hb hxd hyd hxk
              go_wp2
              all_goals (go_ret; exact ⟨rfl, rfl⟩)
        · rw [HLA.out] at hja
          rcases digit_of b j with ⟨hjb, y, hyk, hyd⟩ | ⟨hjb, hyd⟩
          · rw [HLB.out] at hjb
            have hcy := hdb j y hyk
            rcases Nat.lt_trichotomy 0 y with h | h | h
            · have hR1 : R = true := by rw [← HR.out, decide_eq_true_iff, ← HK.out]; exact lowV_less a b ha j _ _ hxd hyd h
              subst hR1
              have hne : ¬ (0 : Nat) = y := by omega
              clear hda hdb ha hb hxd hyd hyk
              go_wp2
              all_goals (go_ret; exact ⟨rfl, rfl⟩)
            · subst h
              have hnew : lowV a j < lowV b j ↔ val16 a < val16 b := by
                rw [← HK.out, lowV, lowV, hxd, hyd]
                omega
              have HNEW := Lib.hid hnew
              clear hnew
              clear hda hdb ha hb hxd hyd hyk
              go_wp2
              go_round
              case rel => exact ⟨j, (j : Int) - 1, by omega, rfl, by go_num, HNEW.out⟩
              case measure => simp [intOf]
            · have hR1 : R = false := by
                have h2 := lowV_less b a hb j _ _ hyd hxd h
                rw [← HR.out, decide_eq_false_iff_not, ← HK.out]
                omega
              subst hR1
              have hne : ¬ (0 : Nat) = y := by omega
              clear hda hdb ha hb hxd hyd hyk
              go_wp2
              all_goals (go_ret; exact ⟨rfl, rfl⟩)
          · rw [HLB.out] at hjb
            have hnew : lowV a j < lowV b j ↔ val16 a < val16 b := by
              rw [← HK.out, lowV, lowV, hxd, hyd]
              omega
            have HNEW := Lib.hid hnew
            clear hnew
            clear hda hdb ha hb hxd hyd
            go_wp2
            go_round
            case rel => exact ⟨j, (j : Int) - 1, by omega, rfl, by go_num, HNEW.out⟩
            case measure => simp [intOf]
  · have HIFF := Lib.hid (show (lowV a la < lowV b la ↔ val16 a < val16 b) by rw [lowV_all a la (by omega), lowV_all b la (by omega)])
    have hnlt : ¬ la < lb := by omega
    clear hla hlb
    go_enter Try.func70, Try.ntmps70
    go_wp2
    go_loop [5] (fun i => ∃ (k : Nat) (iv : Int), k ≤ la ∧ iv = (k : Int) - 1 ∧ i = .int .i64 iv ∧ (lowV a k < lowV b k ↔ val16 a < val16 b)) (fun i => (intOf i + 1).toNat)
    case atStart => exact ⟨la, (la : Int) - 1, Nat.le_refl _, rfl, by go_num, HIFF.out⟩
    case round =>
      obtain ⟨k, iv, hk, hiv, rfl, hkk⟩ := hrel
      have HK := Lib.hid hkk
      clear hkk
      cases k with
      | zero =>
        obtain rfl : iv = -1 := by omega
        have hR1 : R = false := by rw [← HR.out, decide_eq_false_iff_not, ← HK.out]; simp [lowV]
        subst hR1
        clear hiv hk hda hdb ha hb
        go_wp2
        all_goals (go_ret; exact ⟨rfl, rfl⟩)
      | succ j =>
        obtain rfl : iv = (j : Int) := by omega
        clear hiv
        have hj0 : (0 : Int) ≤ (j : Int) := by omega
        rcases digit_of a j with ⟨hja, x, hxk, hxd⟩ | ⟨hja, hxd⟩
        · rw [HLA.out] at hja
          have hcx := hda j x hxk
          rcases digit_of b j with ⟨hjb, y, hyk, hyd⟩ | ⟨hjb, hyd⟩
          · rw [HLB.out] at hjb
            have hcy := hdb j y hyk
            rcases Nat.lt_trichotomy x y with h | h | h
            · have hR1 : R = true := by rw [← HR.out, decide_eq_true_iff, ← HK.out]; exact lowV_less a b ha j _ _ hxd hyd h
              subst hR1
              have hne : ¬ (x : Nat) = y := by omega
              clear hda hdb ha hb hxd hyd hxk hyk
              go_wp2
              all_goals (go_ret; exact ⟨rfl, rfl⟩)
            · subst h
              have hnew : lowV a j < lowV b j ↔ val16 a < val16 b := by
                rw [← HK.out, lowV, lowV, hxd, hyd]
                omega
              have HNEW := Lib.hid hnew
              clear hnew
              clear hda hdb ha hb hxd hyd hxk hyk
              go_wp2
              go_round
              case rel => exact ⟨j, (j : Int) - 1, by omega, rfl, by go_num, HNEW.out⟩
              case measure => simp [intOf]
            · have hR1 : R = false := by
                have h2 := lowV_less b a hb j _ _ hyd hxd h
                rw [← HR.out, decide_eq_false_iff_not, ← HK.out]
                omega
              subst hR1
              have hng : ¬ x < y := by omega
              have hne : ¬ (x : Nat) = y := by omega
              clear hda hdb ha hb hxd hyd hxk hyk
              go_wp2
              all_goals (go_ret; exact ⟨rfl, rfl⟩)
          · rw [HLB.out] at hjb
            rcases Nat.lt_trichotomy x 0 with h | h | h
            · have hR1 : R = true := by rw [← HR.out, decide_eq_true_iff, ← HK.out]; exact lowV_less a b ha j _ _ hxd hyd h
              subst hR1
              have hne : ¬ (x : Nat) = 0 := by omega
              clear hda hdb ha hb hxd hyd hxk
              go_wp2
              all_goals (go_ret; exact ⟨rfl, rfl⟩)
            · subst h
              have hnew : lowV a j < lowV b j ↔ val16 a < val16 b := by
                rw [← HK.out, lowV, lowV, hxd, hyd]
                omega
              have HNEW := Lib.hid hnew
              clear hnew
              clear hda hdb ha hb hxd hyd hxk
              go_wp2
              go_round
              case rel => exact ⟨j, (j : Int) - 1, by omega, rfl, by go_num, HNEW.out⟩
              case measure => simp [intOf]
            · have hR1 : R = false := by
                have h2 := lowV_less b a hb j _ _ hyd hxd h
                rw [← HR.out, decide_eq_false_iff_not, ← HK.out]
                omega
              subst hR1
              have hne : ¬ (x : Nat) = 0 := by omega
              clear hda hdb ha hb hxd hyd hxk
              go_wp2
              all_goals (go_ret; exact ⟨rfl, rfl⟩)
        · rw [HLA.out] at hja
          rcases digit_of b j with ⟨hjb, y, hyk, hyd⟩ | ⟨hjb, hyd⟩
          · rw [HLB.out] at hjb
            have hcy := hdb j y hyk
            rcases Nat.lt_trichotomy 0 y with h | h | h
            · have hR1 : R = true := by rw [← HR.out, decide_eq_true_iff, ← HK.out]; exact lowV_less a b ha j _ _ hxd hyd h
              subst hR1
              have hne : ¬ (0 : Nat) = y := by omega
              clear hda hdb ha hb hxd hyd hyk
              go_wp2
              all_goals (go_ret; exact ⟨rfl, rfl⟩)
            · subst h
              have hnew : lowV a j < lowV b j ↔ val16 a < val16 b := by
                rw [← HK.out, lowV, lowV, hxd, hyd]
                omega
              have HNEW := Lib.hid hnew
              clear hnew
              clear hda hdb ha hb hxd hyd hyk
              go_wp2
              go_round
              case rel => exact ⟨j, (j : Int) - 1, by omega, rfl, by go_num, HNEW.out⟩
              case measure => simp [intOf]
            · have hR1 : R = false := by
                have h2 := lowV_less b a hb j _ _ hyd hxd h
                rw [← HR.out, decide_eq_false_iff_not, ← HK.out]
                omega
              subst hR1
              have hne : ¬ (0 : Nat) = y := by omega
              clear hda hdb ha hb hxd hyd hyk
              go_wp2
              all_goals (go_ret; exact ⟨rfl, rfl⟩)
          · rw [HLB.out] at hjb
            have hnew : lowV a j < lowV b j ↔ val16 a < val16 b := by
              rw [← HK.out, lowV, lowV, hxd, hyd]
              omega
            have HNEW := Lib.hid hnew
            clear hnew
            clear hda hdb ha hb hxd hyd
            go_wp2
            go_round
            case rel => exact ⟨j, (j : Int) - 1, by omega, rfl, by go_num, HNEW.out⟩
            case measure => simp [intOf]

end Go.Proofs.Ytnfoegiogldidaa.Sha
