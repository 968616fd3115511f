/- The document's own answers: the first primes. -/
import Derived.Test.YtnfoegiogldidaaShaE
namespace Go.Proofs.Ytnfoegiogldidaa.Sha
open Go.RowKit

/-- The primes below m, of the table's. -/
def pb (m : Nat) : List Nat := primes64.filter fun q => decide (q < m)
theorem pb_yes : ∀ m, m < 312 → decide (m ∈ primes64) = true → pb (m + 1) = pb m ++ [m] := by decide +kernel
theorem pb_no : ∀ m, m < 312 → decide (m ∈ primes64) = false → pb (m + 1) = pb m := by decide +kernel
theorem pb_take : ∀ m, m < 313 → pb m = primes64.take (pb m).length := by decide +kernel
theorem pb_is : ∀ m, m < 312 → 2 ≤ m → ((pb m).all fun q => m % q != 0) = decide (m ∈ primes64) := by decide +kernel
theorem pb_pos : ∀ q ∈ primes64, 0 < q := by decide +kernel
theorem pb_end : (pb 312).length = 64 := by decide +kernel
theorem pb_mem (m q : Nat) (h : q ∈ pb m) : 0 < q := pb_pos q (List.mem_filter.1 h).1

theorem all_next (D : List Nat) (m t q : Nat) (h : D[t]? = some q) : ((D.take (t + 1)).all fun q => m % q != 0) = (((D.take t).all fun q => m % q != 0) && (m % q != 0)) := by
  rw [List.take_add_one, h]
  simp

set_option maxRecDepth 100000 in
set_option maxHeartbeats 3200000 in
theorem primes_any (many : Nat) (w : World) (hm : many ≤ 64) (hpos : 0 < many) :
    Calls Try.prog 55 #[.int .i64 many] w fun e w' => ∃ g cap, e = .returned (.slice (some ⟨g, 0, none⟩) many cap) ∧ Dig w' g (primes64.take many) ∧ Below w.heap.size w w' := by
  obtain ⟨i0, hi, hz0, hz1, hz2⟩ := info_parts info64
  generalize hB : w.heap.size = B
  have HB := Lib.hid hB
  clear hB
  go_enter Try.func55, Try.ntmps55
  go_wp2_with fail
  go_loopw [3, 4] (fun v n wr => ∃ m len : Nat, 2 ≤ m ∧ m ≤ 312 ∧ n = .int .u64 m ∧ (pb m).length = len ∧ len ≤ many ∧ wr.ownsRow B 70 1 v len (vals (pb m)) ∧ Below B w wr) (fun _ n _ => 312 - (intOf n).toNat)
  case atStart => exact ⟨2, 0, by omega, by omega, rfl, by decide, by omega, World.ownsRow_nil _ _ _ _, Below.refl _ _⟩
  case round =>
    obtain ⟨m, len, hm2, hm3, rfl, hlen, hle, hown, hbel⟩ := hrel
    have HO := Lib.hid hown
    have HLEN := Lib.hid hlen
    have hbase := Nat.le_trans (Nat.le_of_eq HB.out.symm) hbel.size
    clear hown hlen
    by_cases hlt : len < many
    · have hm4 : m < 312 := by
        rcases Nat.lt_or_ge m 312 with h | h
        · exact h
        · obtain rfl : m = 312 := by omega
          have := HLEN.out
          rw [pb_end] at this
          omega
      have HIS := Lib.hid (pb_is m hm4 hm2)
      rcases Go.Joins.ownsRow_forms HO.out with ⟨rfl, h0⟩ | ⟨g, cap, rfl⟩
      · subst h0
        have hnil : pb m = [] := List.eq_nil_of_length_eq_zero HLEN.out
        have hyes : decide (m ∈ primes64) = true := by rw [← HIS.out, hnil]; rfl
        have HNEXT := Lib.hid (pb_yes m hm4 hyes)
        clear hyes
        go_wp2_with fail
        go_loop [5, 6] (fun b i => b = .bool true ∧ i = .int .i64 0) (fun _ _ => 0)
        case atStart => exact ⟨rfl, rfl⟩
        case round =>
          obtain ⟨rfl, rfl⟩ := hrel
          go_wp2_with (at_builtin; refine wpList_append_lies _ rfl (.tmp 27) (.tmp 29) 81 rfl B 70 i0 (.int .u64 0) 1 8 Try.underlying81 hi hz0 hz1 hz2 rfl (by decide) _ 0 (vals (pb m)) rfl (HO.out.alloc _) ⟨wr.heap.size, 0, none⟩ 1 1 [.int .u64 m] rfl rfl (news_one _ _ _) (news_oneCell m) (by decide) (by unfold maxLen; omega) (by omega) (Nat.le_trans hbase (by simp)) _ rfl ?_; intro g1 cap1 w1 hown1 hgrow1 hat hlt1)
          have hbel1 := (hbel.alloc hbase (.cells #[.int .u64 m] 70)).grown hgrow1 (Nat.le_trans hbase (by simp)) (own_base HO.out)
          rw [vals_snoc, ← HNEXT.out] at hown1
          have HO1 := Lib.hid hown1
          clear hown1 hgrow1 hat
          go_wp2_with fail
          go_roundw
          case rel => exact ⟨m + 1, 1, by omega, by omega, by go_num, by rw [HNEXT.out, List.length_append, HLEN.out]; rfl, by omega, HO1.out, hbel1⟩
          case measure => simp [intOf]; omega
      · go_wp2_with fail
        go_loop [5, 6] (fun b i => ∃ (t : Nat) (c : Bool), t ≤ len ∧ i = .int .i64 t ∧ b = .bool c ∧ ((pb m).take t).all (fun q => m % q != 0) = c) (fun _ i => len - (intOf i).toNat)
        case atStart => exact ⟨0, true, Nat.zero_le _, rfl, rfl, rfl⟩
        case round =>
          obtain ⟨t, c, ht, rfl, rfl, hc⟩ := hrel
          have HC := Lib.hid hc
          clear hc
          by_cases hlt2 : t < len
          · obtain ⟨q, hq⟩ : ∃ q, (pb m)[t]? = some q := ⟨(pb m)[t]'(by rw [HLEN.out]; exact hlt2), List.getElem?_eq_getElem _⟩
            have hq0 := pb_mem m q (List.mem_of_getElem? hq)
            have hcq := own_cells HO.out t q hq
            have HN := Lib.hid (all_next (pb m) m t q hq)
            have hqne : ¬ q = 0 := by omega
            have hrem : (m : Int) % (q : Int) = ((m % q : Nat) : Int) := (Int.natCast_emod m q).symm
            by_cases hz : m % q = 0
            · rw [hz] at hrem
              have hnew := HN.out
              rw [hz] at hnew
              have HNEW := Lib.hid hnew
              clear hz hnew hq hq0
              go_wp2_with fail
              go_round
              case rel => exact ⟨t + 1, false, by omega, by go_num, rfl, by rw [HNEW.out]; simp⟩
              case measure => simp [intOf]; omega
            · have hne : ¬ (m : Int) % (q : Int) = 0 := by rw [hrem]; omega
              have hnew := HN.out
              rw [show (m % q != 0) = true by simp [hz], Bool.and_true, HC.out] at hnew
              have HNEW := Lib.hid hnew
              clear hz hnew hq hq0 hrem
              go_wp2_with fail
              go_round
              case rel => exact ⟨t + 1, c, by omega, by go_num, rfl, HNEW.out⟩
              case measure => simp [intOf]; omega
          · have htt : t = len := by omega
            subst htt
            have hcc : c = decide (m ∈ primes64) := by
              rw [← HC.out, ← HIS.out, List.take_of_length_le (by rw [HLEN.out]; exact Nat.le_refl _)]
            cases c with
            | true =>
              have HNEXT := Lib.hid (pb_yes m hm4 hcc.symm)
              clear hcc
              go_wp2_with (at_builtin; refine wpList_append_lies _ rfl (.tmp 27) (.tmp 29) 81 rfl B 70 i0 (.int .u64 0) 1 8 Try.underlying81 hi hz0 hz1 hz2 rfl (by decide) _ t (vals (pb m)) rfl (HO.out.alloc _) ⟨wr.heap.size, 0, none⟩ 1 1 [.int .u64 m] rfl rfl (news_one _ _ _) (news_oneCell m) (by decide) (by unfold maxLen; omega) (by omega) (Nat.le_trans hbase (by simp)) _ rfl ?_; intro g1 cap1 w1 hown1 hgrow1 hat hlt1)
              have hbel1 := (hbel.alloc hbase (.cells #[.int .u64 m] 70)).grown hgrow1 (Nat.le_trans hbase (by simp)) (own_base HO.out)
              rw [vals_snoc, ← HNEXT.out] at hown1
              have HO1 := Lib.hid hown1
              clear hown1 hgrow1 hat
              go_wp2_with fail
              go_roundw
              case rel => exact ⟨m + 1, t + 1, by omega, by omega, by go_num, by rw [HNEXT.out, List.length_append, HLEN.out]; rfl, by omega, HO1.out, hbel1⟩
              case measure => simp [intOf]; omega
            | false =>
              have HNEXT := Lib.hid (pb_no m hm4 hcc.symm)
              clear hcc
              go_wp2_with fail
              go_roundw
              case rel => exact ⟨m + 1, t, by omega, by omega, by go_num, by rw [HNEXT.out]; exact HLEN.out, by omega, by rw [HNEXT.out]; exact HO.out, hbel⟩
              case measure => simp [intOf]; omega
    · have hll : len = many := by omega
      subst hll
      obtain ⟨g, cap, rfl⟩ := Go.Joins.ownsRow_form HO.out hpos
      have hdig : Dig wr g (primes64.take len) := by
        have := own_cells HO.out
        rw [pb_take m (by omega), HLEN.out] at this
        exact this
      go_wp2_with fail
      go_ret
      exact ⟨g, cap, rfl, hdig, hbel⟩

end Go.Proofs.Ytnfoegiogldidaa.Sha
