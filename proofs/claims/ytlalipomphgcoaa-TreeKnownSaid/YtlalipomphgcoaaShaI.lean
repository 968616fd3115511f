/- The document's own answers: a hash's bytes. -/
import Derived.Test.YtlalipomphgcoaaShaH
import Derived.Laws.BytesArg
namespace Go.Proofs.Ytlalipomphgcoaa.Sha
open Go.RowKit

theorem info8 : (Try.prog.info? 5).map (fun i => (i.zero, i.size, i.bytes)) = some (some (.int .u8 0), 1, 1) := by kernel_rfl
theorem news_oneCell8 (b : UInt8) : ∀ u ∈ [Value.int .u8 (b.toNat : Int)], u.oneCell' = true := by
  intro u hu
  simp at hu
  subst hu
  rfl

theorem own_cell8 {w : World} {B : Nat} {n : Nat} {xs : List UInt8} {g cap : Nat} (h : w.ownsRow B 5 1 (.slice (some ⟨g, 0, none⟩) n cap) n (valsB xs)) (i : Nat) (b : UInt8) (hb : xs[i]? = some b) : w.cell? ⟨g, i, none⟩ = some (.int .u8 (b.toNat : Int)) := by
  have := h.cells (g := g) rfl i (.int .u8 (b.toNat : Int)) (by simp [valsB, hb])
  have e : (⟨g, 0, none⟩ : Addr).add i = ⟨g, i, none⟩ := by
    unfold Addr.add
    split
    · rename_i h0
      have : i = 0 := by simpa using h0
      subst this
      rfl
    · simp
  rw [e] at this
  exact this

/-- What a slice of bytes of one's own tells as a text. -/
theorem conv_own (w : World) (B g n cap : Nat) (xs : List UInt8) (hn : xs.length = n) (h : w.ownsRow B 5 1 (.slice (some ⟨g, 0, none⟩) n cap) n (valsB xs)) :
    (convert 56 9 (.slice (some ⟨g, 0, none⟩) n cap)).run Try.prog w = .ok (.string ⟨xs.toArray⟩) w := by
  have hr := run_convert_bytes_arg w 56 5 Try.underlying56 Try.underlying5 g 0 n cap (xs.map fun b => (b.toNat : Int)) (by simpa using hn) (fun i hi => by
    rw [Nat.zero_add]
    have hlt : i < xs.length := by omega
    rw [own_cell8 h i xs[i] (List.getElem?_eq_getElem hlt)]
    simp [List.getD, List.getElem?_eq_getElem hlt]) 9 Try.underlying9
  rw [hr]
  have e : strOfNums (xs.map fun b => (b.toNat : Int)) = ⟨xs.toArray⟩ := by
    have e2 : (xs.map fun b => (b.toNat : Int)).map (fun n => UInt8.ofNat n.toNat) = xs := by
      rw [List.map_map]
      conv => rhs; rw [← List.map_id xs]
      apply List.map_congr_left
      intro b _
      simp
    unfold strOfNums
    rw [e2]
  rw [e]

theorem boxed (w : World) (h : List UInt8) (t : TypeId) (i : Nat) (b : UInt8) (hb : h[i]? = some b) : (w.alloc (.cells (valsB h).toArray t)).cell? ⟨w.heap.size, i, none⟩ = some (.int .u8 (b.toNat : Int)) := by
  simp [valsB, hb]

set_option maxRecDepth 100000 in
set_option maxHeartbeats 1600000 in
theorem bytes_any (h : List UInt8) (hl : h.length = 32) (w : World) :
    Calls Try.prog 76 #[.agg (valsB h).toArray] w fun e w' => e = .returned (.string ⟨h.toArray⟩) ∧ Below w.heap.size w w' := by
  obtain ⟨i0, hi, hz0, hz1, hz2⟩ := info_parts info8
  obtain ⟨C, hC⟩ : ∃ C, (valsB h).toArray = C := ⟨_, rfl⟩
  have hbox : ∀ (w : World) (t : TypeId) (i : Nat) (b : UInt8), h[i]? = some b → (w.alloc (.cells C t)).cell? ⟨w.heap.size, i, none⟩ = some (.int .u8 (b.toNat : Int)) := by
    intro w t i b hb
    rw [← hC]
    exact boxed w h t i b hb
  rw [hC]
  clear hC
  have HBOX := Lib.hid hbox
  clear hbox
  go_enter Try.func76, Try.ntmps76
  go_wp2_with fail
  go_loopw [3, 4] (fun v i wr => ∃ k : Nat, k ≤ 32 ∧ i = .int .i64 k ∧ wr.ownsRow (w.heap.size + 1) 5 1 v k (valsB (h.take k)) ∧ (∀ (i : Nat) (b : UInt8), h[i]? = some b → wr.cell? ⟨w.heap.size, i, none⟩ = some (.int .u8 (b.toNat : Int))) ∧ w.heap.size + 1 ≤ wr.heap.size ∧ Below w.heap.size w wr) (fun _ i _ => 32 - (intOf i).toNat)
  case atStart => exact ⟨0, by omega, rfl, World.ownsRow_nil _ _ _ _, fun i b hb => HBOX.out _ _ i b hb, by simp, below_alloc (Below.refl _ _) _⟩
  case round =>
    obtain ⟨k, hk, rfl, hown, hcells, hbase, hbel⟩ := hrel
    have HO := Lib.hid hown
    have HC := Lib.hid hcells
    clear hown hcells
    by_cases hlt : k < 32
    · obtain ⟨b, hb⟩ : ∃ b, h[k]? = some b := ⟨h[k]'(by omega), List.getElem?_eq_getElem _⟩
      have hcb := HC.out k b hb
      have HT := Lib.hid (show h.take (k + 1) = h.take k ++ [b] by rw [List.take_add_one, hb]; rfl)
      have hk0 : (0 : Int) ≤ (k : Int) := by omega
      have hk32 : (k : Int) < 32 := by omega
      clear hb
      go_wp2_with (at_builtin; refine wpList_append_lies _ rfl (.tmp 9) (.tmp 13) 56 rfl (w.heap.size + 1) 5 i0 (.int .u8 0) 1 1 Try.underlying56 hi hz0 hz1 hz2 rfl (by decide) _ k (valsB (h.take k)) rfl (HO.out.alloc _) ⟨wr.heap.size, 0, none⟩ 1 1 [.int .u8 (b.toNat : Int)] rfl rfl (news_one _ _ _) (news_oneCell8 b) (by decide) (by unfold maxLen; omega) (by omega) (Nat.le_trans hbase (by simp)) _ rfl ?_; intro g1 cap1 w1 hown1 hgrow1 hat hlt1)
      have hb1 := ((Below.refl (w.heap.size + 1) wr).alloc hbase (.cells #[.int .u8 (b.toNat : Int)] 5)).grown hgrow1 (Nat.le_trans hbase (by simp)) (own_base HO.out)
      rw [valsB_snoc, ← HT.out] at hown1
      have HO1 := Lib.hid hown1
      have HC1 := Lib.hid (fun (i : Nat) (b : UInt8) (hb : h[i]? = some b) => (hb1.cell (p := ⟨w.heap.size, i, none⟩) (show w.heap.size < w.heap.size + 1 by omega)).trans (HC.out i b hb))
      clear hown1 hgrow1 hat
      go_wp2_with fail
      go_roundw
      case rel => exact ⟨k + 1, by omega, by go_num, HO1.out, HC1.out, Nat.le_trans hbase hb1.size, hbel.trans (hb1.mono (Nat.le_succ _))⟩
      case measure => simp [intOf]; omega
    · have hkk : k = 32 := by omega
      subst hkk
      obtain ⟨g, cap, rfl⟩ := Go.Joins.ownsRow_form HO.out (by omega)
      have hconv := conv_own wr (w.heap.size + 1) g 32 cap (h.take 32) (by simp [hl]) HO.out
      rw [List.take_of_length_le (by omega)] at hconv
      go_wp2_with fail
      go_ret
      exact ⟨rfl, hbel⟩

end Go.Proofs.Ytlalipomphgcoaa.Sha
