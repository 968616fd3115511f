/- The document's own answers: the roots' words. -/
import Derived.Test.YtnfoegiogldidaaShaF
import Derived.Test.YtnfoegiogldidaaShaV
namespace Go.Proofs.Ytnfoegiogldidaa.Sha
open Go.RowKit

theorem Dig32.kept {w w' : World} {g : Nat} {xs : List Nat} (d : Dig32 w g xs) (h : Below w.heap.size w w') : Dig32 w' g xs := fun i x hx => Sha.kept h (d i x hx)
theorem own_kept {w w' : World} {B : Nat} {e : TypeId} {v : Value} {n : Nat} {xs : List Value} (h : w.ownsRow B e 1 v n xs) (hb : Below w.heap.size w w') : w'.ownsRow B e 1 v n xs :=
  h.kept (row := none) ⟨hb.os, hb.tape, hb.output, hb.size, fun k hk _ => hb.block k hk⟩ (by cases hv : v.ownBlock <;> simp)

/-- The roots' words of the first so many primes. -/
def rootsL (many p : Nat) : List Nat := (primes64.take many).map fun n => rootF n p 40 0 % 4294967296

set_option maxRecDepth 100000 in
set_option maxHeartbeats 3200000 in
theorem roots_any (many p : Nat) (w : World) (hm : many ≤ 64) (hpos : 0 < many) (hp : p ≤ 3) :
    Calls Try.prog 39 #[.int .i64 many, .int .u64 p] w fun e w' => ∃ g cap, e = .returned (.slice (some ⟨g, 0, none⟩) many cap) ∧ Dig32 w' g (rootsL many p) ∧ Below w.heap.size w w' := by
  obtain ⟨i0, hi, hz0, hz1, hz2⟩ := info_parts info32
  go_enter Try.func39, Try.ntmps39
  go_wp2_with fail
  refine (primes_any many w hm hpos).mono ?_
  rintro e w1 ⟨gp, capp, rfl, hdp, hb1⟩
  generalize hB : w1.heap.size = B
  have HB := Lib.hid hB
  clear hB
  have hlenp : (primes64.take many).length = many := by
    rw [List.length_take]
    have : primes64.length = 64 := rfl
    omega
  have HLP := Lib.hid hlenp
  clear hlenp
  go_wp2_with fail
  go_loopw [6, 7] (fun v i wr => ∃ k : Nat, k ≤ many ∧ i = .int .i64 k ∧ wr.ownsRow B 58 1 v k (vals32 (rootsL k p)) ∧ Below B w1 wr) (fun _ i _ => many - (intOf i).toNat)
  case atStart => exact ⟨0, Nat.zero_le _, rfl, World.ownsRow_nil _ _ _ _, Below.refl _ _⟩
  case round =>
    obtain ⟨k, hk, rfl, hown, hbel⟩ := hrel
    have HO := Lib.hid hown
    have hbase := Nat.le_trans (Nat.le_of_eq HB.out.symm) hbel.size
    clear hown
    by_cases hlt : k < many
    · obtain ⟨q, hq⟩ : ∃ q, (primes64.take many)[k]? = some q := ⟨(primes64.take many)[k]'(by rw [HLP.out]; exact hlt), List.getElem?_eq_getElem _⟩
      have hcq : wr.cell? ⟨gp, k, none⟩ = some (.int .u64 q) := by
        have hc := hdp k q hq
        rw [hbel.cell (show gp < B from HB.out ▸ World.block_lt_of_cell? _ _ hc)]
        exact hc
      have hq64 : primes64[k]? = some q := by
        rw [List.getElem?_take, if_pos hlt] at hq
        exact hq
      have hqs : q < 65536 := by
        have h : ∀ x ∈ primes64, x < 65536 := by decide +kernel
        exact h q (List.mem_of_getElem? hq64)
      have HSN := Lib.hid (show rootsL (k + 1) p = rootsL k p ++ [rootF q p 40 0 % 4294967296] by
        unfold rootsL
        rw [List.take_add_one, hq64, List.map_append]
        rfl)
      have hR := root_any q p wr hqs hp
      obtain ⟨r, hr⟩ : ∃ r, rootF q p 40 0 % 4294967296 = r := ⟨_, rfl⟩
      rw [hr] at hR HSN
      clear hr hq hq64 hqs hdp
      go_wp2_with fail
      refine hR.mono ?_
      rintro e w2 ⟨rfl, hb2⟩
      have HO2 := Lib.hid (own_kept HO.out hb2)
      have hbel2 := hbel.trans (hb2.mono hbase)
      have hbase2 := Nat.le_trans hbase hb2.size
      clear hR hcq
      go_wp2_with (at_builtin; refine wpList_append_lies _ rfl (.tmp 16) (.tmp 23) 68 rfl B 58 i0 (.int .u32 0) 1 4 Try.underlying68 hi hz0 hz1 hz2 rfl (by decide) _ k (vals32 (rootsL k p)) rfl (HO2.out.alloc _) ⟨w2.heap.size, 0, none⟩ 1 1 [.int .u32 r] rfl rfl (news_one _ _ _) (news_oneCell32 r) (by decide) (by unfold maxLen; omega) (by omega) (Nat.le_trans hbase2 (by simp)) _ rfl ?_; intro g1 cap1 w3 hown1 hgrow1 hat hlt1)
      have hbel3 := (hbel2.alloc hbase2 (.cells #[.int .u32 r] 58)).grown hgrow1 (Nat.le_trans hbase2 (by simp)) (own_base HO2.out)
      rw [vals32_snoc, ← HSN.out] at hown1
      have HO3 := Lib.hid hown1
      clear hown1 hgrow1 hat
      go_wp2_with fail
      go_roundw
      case rel => exact ⟨k + 1, by omega, by go_num, HO3.out, hbel3⟩
      case measure => simp [intOf]; omega
    · have hkk : k = many := by omega
      subst hkk
      obtain ⟨g, cap, rfl⟩ := Go.Joins.ownsRow_form HO.out hpos
      have hdig := own_cells32 HO.out
      have hbw : Below w.heap.size w wr := hb1.trans (Below.mono (by rw [HB.out]; exact hbel) hb1.size)
      go_wp2_with fail
      go_ret
      exact ⟨g, cap, rfl, hdig, hbw⟩

end Go.Proofs.Ytnfoegiogldidaa.Sha
