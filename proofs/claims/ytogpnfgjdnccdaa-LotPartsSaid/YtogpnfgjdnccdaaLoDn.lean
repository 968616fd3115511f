/- lot: the code's Nonce and Value. -/
import Derived.Test.YtogpnfgjdnccdaaLoDs
import Derived.Laws.BitsAllLaws
namespace Go.Proofs.Ytogpnfgjdnccdaa.Lot
open Go.RowKit Go.Proofs.Ytogpnfgjdnccdaa.Sha Go.Proofs.Ytogpnfgjdnccdaa.Tree

set_option maxRecDepth 100000 in
set_option maxHeartbeats 1600000 in
theorem code_NonceL (h p : List UInt8) (k : Nat) (hh : h.length = 32) (hp : p.length = 32) (hk : k ≤ 18446744073709551615) (w : World) :
    Calls Try.prog 16 #[.agg (valsB h).toArray, .int .u64 k, .agg (valsB p).toArray] w fun e w' => e = .returned (.agg (valsB (nonceF h k p)).toArray) ∧ Below w.heap.size w w' := by
  have H := Lib.hid (show ∀ w, Calls Try.prog 22 #[.string nonceT, .agg (valsB h).toArray, .int .u64 k, .agg (valsB p).toArray] w fun e w' => e = .returned (.agg (valsB (nonceF h k p)).toArray) ∧ Below w.heap.size w w' from fun w => code_sum3 nonceT (by decide) h p k hh hp hk w)
  have HRD := Lib.hid (row32 (nonceF h k p) (ofT_len _ _))
  have HRCA := Lib.hid (row32 h hh)
  have HRCB := Lib.hid (row32 p hp)
  obtain ⟨CA, hCA⟩ : ∃ C, (valsB h).toArray = C := ⟨_, rfl⟩
  obtain ⟨CB, hCB⟩ : ∃ C, (valsB p).toArray = C := ⟨_, rfl⟩
  rw [hCA, hCB] at H
  rw [hCA] at HRCA
  rw [hCB] at HRCB
  rw [hCA, hCB]
  obtain ⟨D, hD⟩ : ∃ C, (valsB (nonceF h k p)).toArray = C := ⟨_, rfl⟩
  rw [hD] at H HRD
  rw [hD]
  clear hCA hCB hD hh hp hk
  go_enter Try.func16, Try.ntmps16
  go_upto_region 1 with (fail)
  rw [zero32]
  obtain ⟨Z, hZ⟩ : ∃ Z, (List.replicate 32 (Value.int .u8 0)).toArray = Z := ⟨_, rfl⟩
  have HZZ := Lib.hid (show Z.size = 32 by rw [← hZ]; rfl)
  rw [hZ]
  clear hZ
  have hs0 : (((w.alloc (.cells CA 32)).alloc (.cells CB 32)).alloc (.cells Z 32)).heap.size = w.heap.size + 3 := by simp
  have hw1 : (w.alloc (.cells CA 32)).heap.size = w.heap.size + 1 := by simp
  have HA0 := Lib.hid ((Below.heap_alloc _ (.cells Z 32) w.heap.size (by simp; omega)).trans (heap_alloc2_old w (.cells CA 32) (.cells CB 32)))
  have HA1 := Lib.hid ((Below.heap_alloc _ (.cells Z 32) (w.heap.size + 1) (by simp)).trans (heap_alloc2_new w (.cells CA 32) (.cells CB 32)))
  have HA2 := Lib.hid (show (((w.alloc (.cells CA 32)).alloc (.cells CB 32)).alloc (.cells Z 32)).heap[w.heap.size + 1 + 1]? = some (.cells Z 32 (0, 0)) by
    have h := heap_alloc2_new (w.alloc (.cells CA 32)) (.cells CB 32) (.cells Z 32)
    rw [hw1] at h
    exact h)
  have HBW := Lib.hid (show Below w.heap.size w (((w.alloc (.cells CA 32)).alloc (.cells CB 32)).alloc (.cells Z 32)) from (((Below.refl _ _).alloc (Nat.le_refl _) _).alloc (by simp) _).alloc (by simp; omega) _)
  clear hw1
  generalize (((w.alloc (.cells CA 32)).alloc (.cells CB 32)).alloc (.cells Z 32)) = W at HA0 HA1 HA2 HBW hs0 ⊢
  obtain ⟨g3, hg3⟩ : ∃ x, w.heap.size = x := ⟨_, rfl⟩
  obtain ⟨g5, hg5⟩ : ∃ x, g3 + 1 = x := ⟨_, rfl⟩
  obtain ⟨g6, hg6⟩ : ∃ x, g5 + 1 = x := ⟨_, rfl⟩
  rw [hg3] at HA0 HA1 HA2 HBW hs0
  rw [hg5] at HA1 HA2
  rw [hg6] at HA2
  rw [hg3, hg5, hg6]
  have HGE := Lib.hid hg3
  have HLT := Lib.hid (show g3 < g5 ∧ g5 < g6 ∧ g6 < W.heap.size by omega)
  clear hg3 hg5 hg6 hs0
  go_wp2_with (first
    | (refine wpList_load_row rfl 32 (.tmp 3) rfl g3 rfl 32 CA (0, 0) _ HA0.out Try.underlying32 rfl HRCA.out.info ?_)
    | (refine wpList_load_row rfl 32 (.tmp 5) rfl g5 rfl 32 CB (0, 0) _ HA1.out Try.underlying32 rfl HRCB.out.info ?_))
  refine (H.out _).mono ?_
  rintro e w1 ⟨rfl, hb1⟩
  have H61 := Lib.hid ((hb1.block g6 (by have := HLT.out; omega)).trans HA2.out)
  have HB1 := Lib.hid (HBW.out.trans (hb1.mono (by have := HLT.out; omega)))
  have HZD := Lib.hid (show Z.size = D.size by rw [HZZ.out, HRD.out.size])
  clear hb1
  go_wp2_with (refine wpList_store_row rfl 32 (.tmp 6) (.tmp 10) rfl g6 D rfl rfl 32 Z H61.out HRD.out.info HZD.out HRD.out.one ?_)
  refine bodyPost_ret (results_cell_row (p := 6) (ty := 32) Try.results16 _ _ g6 32 D (0, 0) _ rfl (setRow_heap _ _ _ _ _ _ H61.out) Try.underlying32 rfl HRD.out.info) rfl ⟨rfl, HGE.out ▸ below_setRow HB1.out (by have := HLT.out; omega) _⟩


/-- The number of the first k bytes. -/
def preN (s : List UInt8) (k : Nat) : Nat := Digit.valB 0 (s.take k)
theorem preN_next (s : List UInt8) (k : Nat) (h : k < s.length) : preN s (k + 1) = preN s k * 256 + (s.getD k 0).toNat := by
  unfold preN
  rw [List.take_succ_eq_append_getElem h, Digit.valB_append, List.getD_eq_getElem?_getD, List.getElem?_eq_getElem h]
  rfl
theorem preN_lt (s : List UInt8) (k : Nat) (h : k ≤ 3) : preN s k < 16777216 := by
  have := Digit.valB_lt (s.take k) 0
  have hp : 256 ^ (s.take k).length ≤ 256 ^ 3 := Nat.pow_le_pow_right (by omega) (Nat.le_trans (List.length_take_le _ _) h)
  have h7 : (256 : Nat) ^ 3 = 16777216 := by decide
  unfold preN
  omega
theorem preN_four (s : List UInt8) (h : 4 ≤ s.length) : preN s 4 = fourN s := by
  rw [preN_next s 3 (by omega), preN_next s 2 (by omega), preN_next s 1 (by omega), preN_next s 0 (by omega)]
  unfold fourN
  have h0 : preN s 0 = 0 := by unfold preN; rw [List.take_zero]; rfl
  omega
theorem or32_byte (x c : Nat) (hx : x < 16777216) (hc : c < 256) : bits .or .u32 ((x : Int) * 256) (c : Int) = (x : Int) * 256 + (c : Int) := by
  have h1 := Go.u32_or_nat (x * 256) c (by omega) (by omega)
  rw [Go.nat_join 8 (x * 256) c (by omega) (by omega)] at h1
  simpa using h1

set_option maxRecDepth 100000 in
set_option maxHeartbeats 1600000 in
theorem code_ValueL (h p : List UInt8) (k : Nat) (hh : h.length = 32) (hp : p.length = 32) (hk : k ≤ 18446744073709551615) (w : World) :
    Calls Try.prog 14 #[.agg (valsB h).toArray, .int .u64 k, .agg (valsB p).toArray] w fun e w' => e = .returned (.int .u32 (lotF h k p)) ∧ Below w.heap.size w w' := by
  have hH : ∀ w, Calls Try.prog 22 #[.string lotT, .agg (valsB h).toArray, .int .u64 k, .agg (valsB p).toArray] w fun e w' => e = .returned (.agg (valsB (ofT lotT (partsF h k p))).toArray) ∧ Below w.heap.size w w' := fun w => code_sum3 lotT (by decide) h p k hh hp hk w
  have HRCA := Lib.hid (row32 h hh)
  have HRCB := Lib.hid (row32 p hp)
  rw [show lotF h k p = fourN (ofT lotT (partsF h k p)) from rfl]
  obtain ⟨s, hs⟩ : ∃ s, ofT lotT (partsF h k p) = s := ⟨_, rfl⟩
  have hsl : s.length = 32 := by rw [← hs]; exact ofT_len _ _
  rw [hs] at hH
  rw [hs, ← preN_four s (by omega)]
  have HRD := Lib.hid (row32 s hsl)
  have HBC := Lib.hid (fun i (hi : i < 32) => byte_cell s i (by omega))
  have HNX := Lib.hid (fun i (hi : i < 32) => preN_next s i (by omega))
  obtain ⟨CA, hCA⟩ : ∃ C, (valsB h).toArray = C := ⟨_, rfl⟩
  obtain ⟨CB, hCB⟩ : ∃ C, (valsB p).toArray = C := ⟨_, rfl⟩
  obtain ⟨D, hD⟩ : ∃ C, (valsB s).toArray = C := ⟨_, rfl⟩
  rw [hCA, hCB, hD] at hH
  rw [hCA] at HRCA
  rw [hCB] at HRCB
  rw [hD] at HRD
  simp only [hD] at HBC
  rw [hCA, hCB]
  have H := Lib.hid hH
  clear hCA hCB hD hs hsl hh hp hk hH
  go_enter Try.func14, Try.ntmps14
  go_upto_region 1 with (fail)
  have HA0 := Lib.hid (heap_alloc2_old w (.cells CA 32) (.cells CB 32))
  have HA1 := Lib.hid (heap_alloc2_new w (.cells CA 32) (.cells CB 32))
  have HBW := Lib.hid (show Below w.heap.size w ((w.alloc (.cells CA 32)).alloc (.cells CB 32)) from ((Below.refl _ _).alloc (Nat.le_refl _) _).alloc (by simp) _)
  have hs0 : ((w.alloc (.cells CA 32)).alloc (.cells CB 32)).heap.size = w.heap.size + 2 := by simp
  generalize ((w.alloc (.cells CA 32)).alloc (.cells CB 32)) = W at HA0 HA1 HBW hs0 ⊢
  obtain ⟨g3, hg3⟩ : ∃ x, w.heap.size = x := ⟨_, rfl⟩
  obtain ⟨g5, hg5⟩ : ∃ x, g3 + 1 = x := ⟨_, rfl⟩
  rw [hg3] at HA0 HA1 HBW hs0
  rw [hg5] at HA1
  rw [hg3, hg5]
  have HGE := Lib.hid hg3
  have HLT := Lib.hid (show g3 < g5 ∧ g5 < W.heap.size by omega)
  clear hg3 hg5 hs0
  go_wp2_with (first
    | (refine wpList_load_row rfl 32 (.tmp 3) rfl g3 rfl 32 CA (0, 0) _ HA0.out Try.underlying32 rfl HRCA.out.info ?_)
    | (refine wpList_load_row rfl 32 (.tmp 5) rfl g5 rfl 32 CB (0, 0) _ HA1.out Try.underlying32 rfl HRCB.out.info ?_))
  refine (H.out _).mono ?_
  rintro e w1 ⟨rfl, hb1⟩
  have HB2 := Lib.hid (HBW.out.trans (hb1.mono (by have := HLT.out; omega)))
  clear hb1
  go_upto_region 2 with (refine wpList_store_row rfl 32 (.tmp 7) (.tmp 13) rfl w1.heap.size D rfl rfl 32 _ (heap_alloc_new _ _) HRD.out.info (by rw [HRD.out.size]; rfl) HRD.out.one ?_; rw [World.setRow_alloc_new])
  have hb3 : Below w1.heap.size w1 (w1.alloc (.cells D 32)) := (Below.refl _ _).alloc (Nat.le_refl _) _
  have h7 := heap_alloc_new w1 (.cells D 32)
  generalize w1.alloc (.cells D 32) = w3 at hb3 h7 ⊢
  have HB3 := Lib.hid (HB2.out.trans (hb3.mono (by have := HB2.out.size; have := HGE.out; omega)))
  obtain ⟨g7, hg7⟩ : ∃ g, w1.heap.size = g := ⟨_, rfl⟩
  rw [hg7] at h7
  rw [hg7]
  have H7 := Lib.hid h7
  clear hb3 h7 hg7
  go_wp2_with fail
  go_loop [8, 14] (fun lv iv => ∃ i : Nat, i ≤ 4 ∧ iv = .int .i64 i ∧ lv = .int .u32 (preN s i)) (fun _ iv => 4 - (intOf iv).toNat)
  case atStart => exact ⟨0, by omega, rfl, rfl⟩
  case round =>
    obtain ⟨i, hi, rfl, rfl⟩ := hrel
    by_cases hlt : i < 4
    · have hx := preN_lt s i (by omega)
      have hc := UInt8.toNat_lt (s.getD i 0)
      have hcell : w3.cell? ⟨g7, i, none⟩ = some (.int .u8 ((s.getD i 0).toNat : Int)) := by rw [Lib.cell_of_heap H7.out]; exact HBC.out i (by omega)
      have HS := Lib.hid (HNX.out i (by omega))
      obtain ⟨c, hcc⟩ : ∃ c, (s.getD i 0).toNat = c := ⟨_, rfl⟩
      rw [hcc] at hcell HS hc
      obtain ⟨x, hxx⟩ : ∃ x, preN s i = x := ⟨_, rfl⟩
      rw [hxx] at HS hx
      rw [hxx]
      have ho := or32_byte x c hx hc
      have hi32 : (i : Int) < 32 := by omega
      have hi0 : (0 : Int) ≤ (i : Int) := by omega
      clear hcc hxx
      go_wp2_with fail
      go_round
      case rel => exact ⟨i + 1, by omega, by go_num, by rw [HS.out]; go_num⟩
      case measure => simp [intOf]; omega
    · obtain rfl : i = 4 := by omega
      go_wp2_with fail
      go_ret
      exact ⟨rfl, HGE.out ▸ HB3.out⟩

end Go.Proofs.Ytogpnfgjdnccdaa.Lot
