/- The document's own answers: a hash's digits. -/
import Derived.Test.YtnfoegiogldidaaShaI
import Derived.Test.YtnfoegiogldidaaShaL2
namespace Go.Proofs.Ytnfoegiogldidaa.Sha
open Go.RowKit

theorem keep_alloc8 {w : World} {a : Addr} {v : Value} {o : Obj} (h : w.cell? a = some v) : (w.alloc o).cell? a = some v := by
  have hb := ((Below.refl w.heap.size w).alloc (Nat.le_refl _) o).cell (p := a) (World.block_lt_of_cell? _ _ h)
  rw [hb]
  exact h
theorem news_two (w : World) (u v : Value) (t : TypeId) : ∀ j x, [u, v][j]? = some x → (w.alloc (.cells #[u, v] t)).cell? ((⟨w.heap.size, 0, none⟩ : Addr).add j) = some x := by
  intro j x hj
  match j, hj with
  | 0, hj => simp at hj; subst hj; simp [Addr.add]
  | 1, hj => simp at hj; subst hj; simp [Addr.add]
theorem two_oneCell (a b : Int) : ∀ u ∈ [Value.int .u8 a, Value.int .u8 b], u.oneCell' = true := by
  intro u hu
  simp at hu
  rcases hu with rfl | rfl <;> rfl
theorem valsB_two (ys : List UInt8) (a b : UInt8) : valsB ys ++ [Value.int .u8 (a.toNat : Int), Value.int .u8 (b.toNat : Int)] = valsB (ys ++ [a, b]) := by simp [valsB]

set_option maxRecDepth 100000 in
set_option maxHeartbeats 3200000 in
theorem hex_any (h : List UInt8) (hl : h.length = 32) (w : World) :
    Calls Try.prog 20 #[.agg (valsB h).toArray] w fun e w' => e = .returned (.string ⟨(hexL h).toArray⟩) ∧ Below w.heap.size w w' := by
  obtain ⟨i0, hi, hz0, hz1, hz2⟩ := info_parts info8
  obtain ⟨C, hC⟩ : ∃ C, (valsB h).toArray = C := ⟨_, rfl⟩
  have hbox : ∀ (w : World) (t : TypeId) (i : Nat) (b : UInt8), h[i]? = some b → (w.alloc (.cells C t)).cell? ⟨w.heap.size, i, none⟩ = some (.int .u8 (b.toNat : Int)) := by
    intro w t i b hb
    rw [← hC]
    exact boxed w h t i b hb
  rw [hC]
  clear hC
  have HBOX := Lib.hid hbox
  clear hbox
  go_enter Try.func20, Try.ntmps20
  go_wp2_with fail
  obtain ⟨B0, hB0⟩ : ∃ B, w.heap.size = B := ⟨_, rfl⟩
  go_loopw [4, 5] (fun v i wr => ∃ k : Nat, k ≤ 32 ∧ i = .int .i64 k ∧ wr.ownsRow (w.heap.size + 1) 5 1 v (2 * k) (valsB (hexL (h.take k))) ∧ (∀ (i : Nat) (b : UInt8), h[i]? = some b → wr.cell? ⟨w.heap.size, i, none⟩ = some (.int .u8 (b.toNat : Int))) ∧ w.heap.size + 1 ≤ wr.heap.size ∧ Below w.heap.size w wr) (fun _ i _ => 32 - (intOf i).toNat)
  case atStart => exact ⟨0, by omega, rfl, World.ownsRow_nil _ _ _ _, fun i b hb => HBOX.out _ _ i b hb, by simp, below_alloc (Below.refl _ _) _⟩
  case round =>
    obtain ⟨k, hk, rfl, hown, hcells, hbase, hbel⟩ := hrel
    have HO := Lib.hid hown
    have HC := Lib.hid hcells
    have HBEL := Lib.hid hbel
    have HB0 := Lib.hid hB0
    clear hown hcells hbel hB0
    by_cases hlt : k < 32
    · obtain ⟨b, hb⟩ : ∃ b, h[k]? = some b := ⟨h[k]'(by omega), List.getElem?_eq_getElem _⟩
      have hcb := HC.out k b hb
      have HT := Lib.hid (show hexL (h.take (k + 1)) = hexL (h.take k) ++ [hexD (b.toNat / 16), hexD (b.toNat % 16)] by rw [List.take_add_one, hb]; exact hexL_snoc _ _)
      have hb8 := b.toNat_lt
      have hi1 := fun w => idx_hex w ((b.toNat : Int) / 16) (b.toNat / 16) (by omega) (by omega)
      have hi2 := fun w => idx_hex w ((b.toNat : Int) % 16) (b.toNat % 16) (by omega) (by omega)
      obtain ⟨x1, hx1⟩ : ∃ d, hexD (b.toNat / 16) = d := ⟨_, rfl⟩
      obtain ⟨x2, hx2⟩ : ∃ d, hexD (b.toNat % 16) = d := ⟨_, rfl⟩
      rw [hx1] at hi1 HT
      rw [hx2] at hi2 HT
      obtain ⟨d1, hd1⟩ : ∃ d : Int, (x1.toNat : Int) = d := ⟨_, rfl⟩
      obtain ⟨d2, hd2⟩ : ∃ d : Int, (x2.toNat : Int) = d := ⟨_, rfl⟩
      rw [hd1] at hi1
      rw [hd2] at hi2
      have HD1 := Lib.hid hd1
      have HD2 := Lib.hid hd2
      have hk0 : (0 : Int) ≤ (k : Int) := by omega
      have hk32 : (k : Int) < 32 := by omega
      obtain ⟨B1, hB1⟩ : ∃ B, w.heap.size + 1 = B := ⟨_, rfl⟩
      have HO' := HO.out
      rw [hB1] at HO' hbase
      have HOO := Lib.hid HO'
      have HB1 := Lib.hid hB1
      have e3 : ((b.toNat : Int)).tdiv 16 = (b.toNat : Int) / 16 := Int.tdiv_eq_ediv_of_nonneg (by omega)
      have e4 : ((b.toNat : Int)).tmod 16 = (b.toNat : Int) % 16 := Int.tmod_eq_emod_of_nonneg (by omega)
      have e1 : IntKind.u8.wrap ((b.toNat : Int) / 16) = (b.toNat : Int) / 16 := IntWalk.u8_in _ ⟨by omega, by omega⟩
      have HLT := Lib.hid (show w.heap.size < B1 by omega)
      have HCB := Lib.hid hcb
      clear hb hx1 hx2 hd1 hd2 HO' hB1 HO
      go_wp2_with fail
      go_region_held3 (fun w' => w'.cell? ⟨w.heap.size, k, none⟩ = some (.int .u8 (b.toNat : Int))) (first | assumption | (refine keep_drew ?_; first | assumption | (refine keep_alloc8 ?_; assumption)) | (refine keep_alloc8 ?_; first | assumption | (refine keep_drew ?_; assumption))) (first
        | (refine step_append_lies _ rfl (.tmp 10) (.tmp 23) 38 rfl B1 5 i0 (.int .u8 0) 1 1 Try.underlying38 hi hz0 hz1 hz2 rfl (by decide) _ (2 * k) (valsB (hexL (h.take k))) (by simp [Act.eval]) (HOO.out.alloc _).drew ⟨wr.heap.size, 0, none⟩ 2 2 [.int .u8 d1, .int .u8 d2] (by simp [Act.eval]) rfl (news_two _ _ _ _) (two_oneCell d1 d2) (by decide) (by unfold maxLen; omega) (by omega) (Nat.le_trans hbase (by simp)) _ rfl ?_; intro g1 cap1 w1 hown1 hgrow1 hat hlt1; have hb1 := ((Below.refl B1 wr).alloc hbase (.cells #[.int .u8 d1, .int .u8 d2] 5)).drew.grown hgrow1 (Nat.le_trans hbase (by simp)) (own_base HOO.out); have kx := (hb1.cell (p := ⟨w.heap.size, k, none⟩) HLT.out).trans HCB.out; have HO1 := Lib.hid hown1; have HB1' := Lib.hid hb1; clear hown1 hgrow1 hat hb1))
      go_wp2
      all_goals
        go_roundw
        case rel =>
          refine ⟨k + 1, by omega, by go_num, ?_, fun i b hb => (HB1'.out.cell (p := ⟨w.heap.size, i, none⟩) HLT.out).trans (HC.out i b hb), ?_, HBEL.out.trans (HB1'.out.mono (Nat.le_of_lt HLT.out))⟩
          · have h1 := HO1.out
            rw [← HD1.out, ← HD2.out, valsB_two, ← HT.out, ← HB1.out] at h1
            rw [show 2 * (k + 1) = 2 * k + 2 by omega]
            exact h1
          · rw [HB1.out]
            exact Nat.le_trans hbase HB1'.out.size
        case measure => simp [intOf]; omega
    · have hkk : k = 32 := by omega
      subst hkk
      obtain ⟨g, cap, rfl⟩ := Go.Joins.ownsRow_form HO.out (by omega)
      have hconv := conv_own wr (w.heap.size + 1) g 64 cap (hexL (h.take 32)) (by rw [hexL_length]; simp [hl]) HO.out
      rw [List.take_of_length_le (by omega)] at hconv
      go_wp2_with fail
      go_ret
      exact ⟨rfl, HBEL.out⟩

end Go.Proofs.Ytnfoegiogldidaa.Sha
