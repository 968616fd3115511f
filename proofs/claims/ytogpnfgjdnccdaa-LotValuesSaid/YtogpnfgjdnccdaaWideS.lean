/- The document's own answers: digits times one of 32 bits. -/
import Derived.Test.YtogpnfgjdnccdaaWideR
import Derived.Laws.OwnMore
import Derived.Lib.SmallJoins
namespace Go.Proofs.Ytogpnfgjdnccdaa.Wide
open Go.RowKit

/-- Digits times one digit. -/
def byL (n : Nat) : Nat → List Nat → List Nat
  | o, [] => [o]
  | o, x :: xs => (x * n + o) % 4294967296 :: byL n ((x * n + o) / 4294967296) xs

theorem byL_at (xs : List Nat) (n k o x : Nat) (h : xs[k]? = some x) : byL n o (xs.drop k) = (x * n + o) % 4294967296 :: byL n ((x * n + o) / 4294967296) (xs.drop (k + 1)) := by
  obtain ⟨hk, rfl⟩ := List.getElem?_eq_some_iff.1 h
  rw [List.drop_eq_getElem_cons hk, byL]

theorem set_next (ys : List Nat) (m k r : Nat) (hy : ys.length = k) : (vals (ys ++ List.replicate (m + 1) 0)).set k (.int .u64 (r : Int)) = vals ((ys ++ [r]) ++ List.replicate m 0) := by
  subst hy
  simp [vals, List.replicate_succ]

theorem get_next (ys : List Nat) (m k : Nat) (hy : ys.length = k) : (vals (ys ++ List.replicate (m + 1) 0))[k]? = some (.int .u64 ((0 : Nat) : Int)) := by
  subst hy
  simp [vals, List.replicate_succ]

set_option maxRecDepth 100000 in
set_option maxHeartbeats 1600000 in
theorem by_digits (g cap n : Nat) (xs : List Nat) (w : World) (hd : Dig w g xs) (hlen : xs.length ≤ 100) (hpos : 0 < xs.length) (hx : ∀ x ∈ xs, x < 4294967296) (hn : n < 4294967296) :
    Calls Try.prog 40 #[.slice (some ⟨g, 0, none⟩) xs.length cap, .int .u64 n] w fun e w' => ∃ g' cap', e = .returned (.slice (some ⟨g', 0, none⟩) (xs.length + 1) cap') ∧ Dig w' g' (byL n 0 xs) ∧ Below w.heap.size w w' := by
  obtain ⟨i0, hi, hz0, hz1, hz2⟩ := info_parts info22
  generalize hB : w.heap.size = B
  go_enter Try.func40, Try.ntmps40
  go_wp2
  go_loopw [5, 6] (fun v i wr => ∃ k : Nat, k ≤ xs.length ∧ i = .int .i64 k ∧ wr.ownsRow B 26 1 v k (vals (List.replicate k 0)) ∧ Below B w wr)
    (fun _ i _ => xs.length - (intOf i).toNat)
  case atStart => exact ⟨0, Nat.zero_le _, rfl, World.ownsRow_nil _ _ _ _, Below.refl _ _⟩
  case round =>
    obtain ⟨k, hk, rfl, hown, hbel⟩ := hrel
    have HO := Lib.hid hown
    have HB := Lib.hid hB
    have hbase := Nat.le_trans (Nat.le_of_eq hB.symm) hbel.size
    clear hown hB
    by_cases hlt : k < xs.length
    · clear hd hx
      go_wp2_with (at_builtin; refine wpList_append_lies _ rfl (.tmp 16) (.tmp 17) 63 rfl B 26 i0 (.int .u64 0) 1 8 Try.underlying63 hi hz0 hz1 hz2 rfl (by decide) _ k (vals (List.replicate k 0)) rfl (HO.out.alloc _) ⟨wr.heap.size, 0, none⟩ 1 1 [.int .u64 ((0 : Nat) : Int)] rfl rfl (news_one _ _ _) (news_oneCell 0) (by decide) (by unfold maxLen; omega) (by omega) (Nat.le_trans hbase (by simp)) _ rfl ?_; intro g1 cap1 w1 hown1 hgrow1 hat hlt1)
      have hbel1 := (hbel.alloc hbase (.cells #[.int .u64 ((0 : Nat) : Int)] 26)).grown hgrow1 (Nat.le_trans hbase (by simp)) (own_base HO.out)
      rw [vals_snoc, ← List.replicate_succ'] at hown1
      have HO1 := Lib.hid hown1
      clear hown1 hgrow1 hat
      go_wp2
      go_roundw
      case rel => exact ⟨k + 1, by omega, by go_num, HO1.out, hbel1⟩
      case measure => simp [intOf]; omega
    · have hkk : k = xs.length := by omega
      subst hkk
      obtain ⟨g1, cap1, rfl⟩ := Go.Joins.ownsRow_form HO.out hpos
      go_wp2
      go_loopw [7, 8] (fun o i wr => ∃ k ov : Nat, ∃ ys : List Nat, k ≤ xs.length ∧ i = .int .i64 k ∧ o = .int .u64 ov ∧ ov < 4294967296 ∧ ys.length = k ∧ wr.ownsRow B 26 1 (.slice (some ⟨g1, 0, none⟩) xs.length cap1) xs.length (vals (ys ++ List.replicate (xs.length - k) 0)) ∧ ys ++ byL n ov (xs.drop k) = byL n 0 xs ∧ Below B w wr)
        (fun _ i _ => xs.length - (intOf i).toNat)
      case atStart => exact ⟨0, 0, [], Nat.zero_le _, rfl, rfl, by omega, rfl, HO.out, rfl, hbel⟩
      case round =>
        clear hbel HO hbase hlt
        obtain ⟨k, ov, ys, hk2, rfl, rfl, hov, hyl, hown, hys, hbel⟩ := hrel
        have hbase := Nat.le_trans (Nat.le_of_eq HB.out.symm) hbel.size
        have HY := Lib.hid hys
        have HYL := Lib.hid hyl
        have HO := Lib.hid hown
        clear hys hyl hown
        by_cases hlt : k < xs.length
        · obtain ⟨x, hxk⟩ : ∃ x, xs[k]? = some x := ⟨xs[k], List.getElem?_eq_getElem hlt⟩
          have hmem := hx x (List.mem_of_getElem? hxk)
          have hcx : wr.cell? ⟨g, k, none⟩ = some (.int .u64 x) := by
            have hc := hd k x hxk
            rw [hbel.cell (by have := World.block_lt_of_cell? _ _ hc; have := HB.out; simp only at *; omega)]
            exact hc
          obtain ⟨m, hm⟩ : ∃ m, xs.length - k = m + 1 := ⟨xs.length - k - 1, by omega⟩
          have hown := HO.out
          rw [hm] at hown
          have hco : wr.cell? ⟨g1, k, none⟩ = some (.int .u64 ((0 : Nat) : Int)) := by
            rw [hown.cellAt k (by omega)]
            exact get_next ys m k HYL.out
          have hfo := hown.frozenAt k
          have hst := hown.stored k (.int .u64 ((((x * n + ov) % 4294967296 : Nat)) : Int))
          rw [set_next _ _ _ _ HYL.out] at hst
          have hp : x * n ≤ 4294967295 * 4294967295 := Nat.mul_le_mul (by omega) (by omega)
          have zz : IntKind.u64.wrap ((x : Int) * (n : Int)) = ((x * n : Nat) : Int) := by
            rw [← Int.natCast_mul, IntWalk.u64_in _ ⟨by omega, by omega⟩]
          have hc := Lib.hid (byL_at xs n k ov x hxk)
          generalize x * n = p at hp zz hst hc
          have z0 : IntKind.u64.wrap ((p : Int) + (ov : Int)) = ((p + ov : Nat) : Int) := by rw [IntWalk.u64_in _ ⟨by omega, by omega⟩]; omega
          have z1 : ((p + ov : Nat) : Int) % 4294967296 = (((p + ov) % 4294967296 : Nat) : Int) := by omega
          have z2 : IntKind.u64.wrap (((p + ov : Nat) : Int) / 4294967296) = (((p + ov) / 4294967296 : Nat) : Int) := by rw [IntWalk.u64_in _ ⟨by omega, by omega⟩]; omega
          have hq : (p + ov) / 4294967296 < 4294967296 := by omega
          obtain ⟨r, hrr⟩ : ∃ r, (p + ov) % 4294967296 = r := ⟨_, rfl⟩
          obtain ⟨q, hqq⟩ : ∃ q, (p + ov) / 4294967296 = q := ⟨_, rfl⟩
          rw [hrr, hqq] at hc
          rw [hrr] at z1 hst
          rw [hqq] at z2 hq
          clear hrr hqq hown
          generalize p + ov = s at z0 z1 z2
          have hb1 : B ≤ g1 := own_base HO.out g1 rfl
          have HST := Lib.hid hst
          have HM := Lib.hid hm
          have HQ := Lib.hid hq
          clear hmem hov hp hst hm hq
          go_wp2
          go_roundw
          case rel =>
            refine ⟨k + 1, q, ys ++ [r], by omega, by go_num, rfl, HQ.out, by rw [List.length_append, HYL.out]; rfl, ?_, ?_, hbel.setCell hb1 _⟩
            · rw [show xs.length - (k + 1) = m by have := HM.out; omega]
              exact HST.out.1
            · rw [List.append_assoc, List.singleton_append, ← hc.out]
              exact HY.out
          case measure => simp [intOf]; omega
        · have hkk : k = xs.length := by omega
          subst hkk
          have hnil : byL n ov (xs.drop xs.length) = [ov] := by rw [List.drop_length]; rfl
          have HN := Lib.hid hnil
          have hown := HO.out
          rw [Nat.sub_self, List.replicate_zero, List.append_nil] at hown
          have HO2 := Lib.hid hown
          clear hnil hd hx hown HO
          go_wp2_with (at_builtin; refine wpList_append_lies _ rfl (.tmp 40) (.tmp 42) 63 rfl B 26 i0 (.int .u64 0) 1 8 Try.underlying63 hi hz0 hz1 hz2 rfl (by decide) _ xs.length (vals ys) rfl (HO2.out.alloc _) ⟨wr.heap.size, 0, none⟩ 1 1 [.int .u64 ov] rfl rfl (news_one _ _ _) (news_oneCell ov) (by decide) (by unfold maxLen; omega) (by omega) (Nat.le_trans hbase (by simp)) _ rfl ?_; intro g2 cap2 w2 hown2 hgrow2 hat2 hlt2)
          have hbel2 := (hbel.alloc hbase (.cells #[.int .u64 ov] 26)).grown hgrow2 (Nat.le_trans hbase (by simp)) (own_base HO2.out)
          rw [vals_snoc] at hown2
          have hdig := own_cells hown2
          have heq : ys ++ [ov] = byL n 0 xs := by rw [← HY.out, HN.out]
          rw [heq] at hdig
          clear hown2 hgrow2 hat2 heq
          go_wp2
          go_ret
          exact ⟨_, _, rfl, hdig, hbel2⟩

end Go.Proofs.Ytogpnfgjdnccdaa.Wide
