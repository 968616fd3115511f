/- lot: the document's parts, Value, Nonce. -/
import Derived.Test.YtogpnfgjdnccdaaTrA
namespace Go.Proofs.Ytogpnfgjdnccdaa.Lot
open Go.RowKit Go.Proofs.Ytogpnfgjdnccdaa.Sha Go.Proofs.Ytogpnfgjdnccdaa.Tree

abbrev lotT : ByteArray := ⟨#[108, 111, 116]⟩
abbrev nonceT : ByteArray := ⟨#[110, 111, 110, 99, 101]⟩
/-- The parts of a sum: a hash's bytes, a number's eight bytes, a hash's bytes. -/
def partsF (h : List UInt8) (k : Nat) (p : List UInt8) : List ByteArray := [⟨h.toArray⟩, ⟨(Digit.eightL k).toArray⟩, ⟨p.toArray⟩]
def nonceF (h : List UInt8) (k : Nat) (p : List UInt8) : List UInt8 := ofT nonceT (partsF h k p)
/-- The number of the first four bytes. -/
def fourN (s : List UInt8) : Nat := (s.getD 0 0).toNat * 16777216 + (s.getD 1 0).toNat * 65536 + (s.getD 2 0).toNat * 256 + (s.getD 3 0).toNat
def lotF (h : List UInt8) (k : Nat) (p : List UInt8) : Nat := fourN (ofT lotT (partsF h k p))
theorem fourN_lt (s : List UInt8) : fourN s < 4294967296 := by
  have h0 := (s.getD 0 0).toNat_lt
  have h1 := (s.getD 1 0).toNat_lt
  have h2 := (s.getD 2 0).toNat_lt
  have h3 := (s.getD 3 0).toNat_lt
  unfold fourN
  omega

theorem parts_bounds (tag : ByteArray) (ht : tag.size ≤ 100) (h p : List UInt8) (k : Nat) (hh : h.length = 32) (hp : p.length = 32) :
    tag.size ≤ 70368744177664 ∧ (∀ s ∈ partsF h k p, s.size ≤ 70368744177664) ∧ (rowL tag (partsF h k p)).length ≤ 1000000000 ∧ (partsF h k p).length ≤ 140737488355328 := by
  have he : (Digit.eightL k).length = 8 := Digit.eightF_len 8 k
  have hm : ∀ s ∈ partsF h k p, s.size ≤ 100 := fun s hs => by
    simp only [partsF, List.mem_cons, List.not_mem_nil, or_false] at hs
    rcases hs with rfl | rfl | rfl
    · rw [size_of h 32 hh]; omega
    · rw [size_of _ 8 he]; omega
    · rw [size_of p 32 hp]; omega
  have hl : ∀ s : ByteArray, s.size ≤ 100 → (Digit.putTextL s.data.toList).length ≤ 110 := fun s h => by
    have h3 := putText_len s.data.toList
    have h4 : s.data.toList.length = s.size := by rw [Array.length_toList]; rfl
    omega
  refine ⟨by omega, fun s hs => by have := hm s hs; omega, ?_, by simp [partsF]⟩
  have h1 := hl tag ht
  have h2 : (Digit.putTextL h).length ≤ 110 := hl ⟨h.toArray⟩ (hm _ (List.mem_cons_self ..))
  have h3 : (Digit.putTextL (Digit.eightL k)).length ≤ 110 := hl ⟨(Digit.eightL k).toArray⟩ (hm _ (List.mem_cons_of_mem _ (List.mem_cons_self ..)))
  have h4 : (Digit.putTextL p).length ≤ 110 := hl ⟨p.toArray⟩ (hm _ (List.mem_cons_of_mem _ (List.mem_cons_of_mem _ (List.mem_cons_self ..))))
  unfold rowL
  rw [List.length_append]
  simp only [partsF, List.flatMap_cons, List.flatMap_nil, List.length_append, List.length_nil]
  omega
theorem texts_three (w : World) (a b c : ByteArray) : Texts (w.alloc (.cells #[.string a, .string b, .string c] 9)) (.slice (some ⟨w.heap.size, 0, none⟩) 3 3) [a, b, c] :=
  Or.inr ⟨w.heap.size, 0, 3, rfl, by simp, fun i s hs => by
    match i, hs with
    | 0, hs => simp at hs; subst hs; simp
    | 1, hs => simp at hs; subst hs; simp
    | 2, hs => simp at hs; subst hs; simp⟩
theorem ref_of3 (tag : ByteArray) (ht : tag.size ≤ 100) (h p : List UInt8) (k : Nat) (hh : h.length = 32) (hp : p.length = 32) (v : Value) (w : World) (hT : Texts w v (partsF h k p)) :
    Calls Try.prog 23 #[.string tag, v] w fun e w' => e = .returned (.agg (valsB (ofT tag (partsF h k p))).toArray) ∧ Below w.heap.size w w' := by
  obtain ⟨h1, h2, h3, h4⟩ := parts_bounds tag ht h p k hh hp
  exact refOf_any tag v _ w hT h1 h2 h3 h4

set_option maxRecDepth 100000 in
set_option maxHeartbeats 1600000 in
theorem ref_parts (h p : List UInt8) (k : Nat) (hh : h.length = 32) (hp : p.length = 32) (hk : k ≤ 18446744073709551615) (w : World) :
    Calls Try.prog 24 #[.agg (valsB h).toArray, .int .u64 k, .agg (valsB p).toArray] w fun e w' => ∃ v, e = .returned v ∧ Texts w' v (partsF h k p) ∧ Below w.heap.size w w' := by
  have HBA := Lib.hid (fun w => bytes_any h hh w)
  have HBB := Lib.hid (fun w => bytes_any p hp w)
  have HEI := Lib.hid (fun w => Digit.refEight_any k w hk)
  have HRCA := Lib.hid (row32 h hh)
  have HRCB := Lib.hid (row32 p hp)
  obtain ⟨CA, hCA⟩ : ∃ C, (valsB h).toArray = C := ⟨_, rfl⟩
  obtain ⟨CB, hCB⟩ : ∃ C, (valsB p).toArray = C := ⟨_, rfl⟩
  rw [hCA] at HBA HRCA
  rw [hCB] at HBB HRCB
  rw [hCA, hCB]
  clear hCA hCB hk
  obtain ⟨SA, hSA⟩ : ∃ S : ByteArray, (⟨h.toArray⟩ : ByteArray) = S := ⟨_, rfl⟩
  obtain ⟨SB, hSB⟩ : ∃ S : ByteArray, (⟨p.toArray⟩ : ByteArray) = S := ⟨_, rfl⟩
  obtain ⟨SE, hSE⟩ : ∃ S : ByteArray, (⟨(Digit.eightL k).toArray⟩ : ByteArray) = S := ⟨_, rfl⟩
  have HPF := Lib.hid (show partsF h k p = [SA, SE, SB] by unfold partsF; rw [hSA, hSB, hSE])
  rw [hSA] at HBA
  rw [hSB] at HBB
  rw [hSE] at HEI
  rw [HPF.out]
  clear hSA hSB hSE hh hp
  go_enter Try.func24, Try.ntmps24
  go_upto_region 1 with (fail)
  have HA0 := Lib.hid (heap_alloc2_old w (.cells CA 32) (.cells CB 32))
  have HA1 := Lib.hid (heap_alloc2_new w (.cells CA 32) (.cells CB 32))
  have HBW := Lib.hid (show Below w.heap.size w ((w.alloc (.cells CA 32)).alloc (.cells CB 32)) from ((Below.refl _ _).alloc (Nat.le_refl _) _).alloc (by simp) _)
  have hs0 : ((w.alloc (.cells CA 32)).alloc (.cells CB 32)).heap.size = w.heap.size + 2 := by simp
  generalize ((w.alloc (.cells CA 32)).alloc (.cells CB 32)) = W at HA0 HA1 HBW hs0 ⊢
  obtain ⟨g3, hg3⟩ : ∃ x, w.heap.size = x := ⟨_, rfl⟩
  obtain ⟨g5, hg5⟩ : ∃ x, g3 + 1 = x := ⟨_, rfl⟩
  rw [hg3] at HA0 HA1 HBW hs0
  rw [hg5] at HA1
  rw [hg3, hg5]
  have HGE := Lib.hid hg3
  have HLT := Lib.hid (show g3 < g5 ∧ g5 < W.heap.size by omega)
  clear hg3 hg5 hs0
  refine QT.wp_region_below_tail 6 (by kernel_rfl) (by kernel_rfl) ?_
  simp only [List.take_succ_cons, List.take_zero, List.drop_succ_cons, List.drop_zero]
  repeat (first
    | (refine wpQuiet_step (fun K hK => ?_); rw [if_pos (by rfl)]; refine quiet_load_row 32 (.tmp 3) rfl g3 rfl 32 CA (0, 0) _ HA0.out Try.underlying32 rfl HRCA.out.info ?_; refine hK _ ?_; clear hK K)
    | (refine wpQuiet_step (fun K hK => ?_); rw [if_pos (by rfl)]; refine quiet_load_row 32 (.tmp 5) rfl g5 rfl 32 CB (0, 0) _ HA1.out Try.underlying32 rfl HRCB.out.info ?_; refine hK _ ?_; clear hK K)
    | (quiet_step (first | (with_reducible exact Calls.regrown_of (HBA.out _)) | (with_reducible exact Calls.regrown_of (HBB.out _)) | (with_reducible exact Calls.regrown_of (HEI.out _))))
  )
  refine wpQuiet_nil ?_
  intro _ hw'
  obtain ⟨⟨dq, osq⟩, hw''⟩ := hw'
  subst hw''
  have hbq := below_regrown W dq osq
  dsimp only
  generalize Sort.grow (redrawn W dq) osq = w3 at hbq ⊢
  have HB3 := Lib.hid (HBW.out.trans (hbq.mono (by have := HLT.out; omega)))
  clear hbq
  go_wp2_with fail
  go_ret
  exact ⟨_, rfl, texts_three w3 SA SE SB, HGE.out ▸ HB3.out.trans ((Below.refl _ _).alloc (by have := HB3.out.size; have := HGE.out; have := HLT.out; omega) _)⟩

set_option maxRecDepth 100000 in
set_option maxHeartbeats 1600000 in
theorem ref_NonceL (h p : List UInt8) (k : Nat) (hh : h.length = 32) (hp : p.length = 32) (hk : k ≤ 18446744073709551615) (w : World) :
    Calls Try.prog 17 #[.agg (valsB h).toArray, .int .u64 k, .agg (valsB p).toArray] w fun e w' => e = .returned (.agg (valsB (nonceF h k p)).toArray) ∧ Below w.heap.size w w' := by
  have HPA := Lib.hid (fun w => ref_parts h p k hh hp hk w)
  have HRCA := Lib.hid (row32 h hh)
  have HRCB := Lib.hid (row32 p hp)
  have HOF := Lib.hid (fun v w hT => ref_of3 nonceT (by decide) h p k hh hp v w hT)
  obtain ⟨CA, hCA⟩ : ∃ C, (valsB h).toArray = C := ⟨_, rfl⟩
  obtain ⟨CB, hCB⟩ : ∃ C, (valsB p).toArray = C := ⟨_, rfl⟩
  rw [hCA, hCB] at HPA
  rw [hCA] at HRCA
  rw [hCB] at HRCB
  rw [hCA, hCB]
  clear hCA hCB hh hp hk
  have HRD := Lib.hid (row32 (nonceF h k p) (ofT_len _ _))
  have HOG := Lib.hid (show ∀ v w, Texts w v (partsF h k p) → Calls Try.prog 23 #[.string nonceT, v] w fun e w' => e = .returned (.agg (valsB (nonceF h k p)).toArray) ∧ Below w.heap.size w w' from HOF.out)
  obtain ⟨D, hD⟩ : ∃ C, (valsB (nonceF h k p)).toArray = C := ⟨_, rfl⟩
  rw [hD] at HRD HOG
  rw [hD]
  clear hD HOF
  go_enter Try.func17, Try.ntmps17
  go_upto_region 1 with (fail)
  rw [zero32]
  obtain ⟨Z, hZ⟩ : ∃ Z, (List.replicate 32 (Value.int .u8 0)).toArray = Z := ⟨_, rfl⟩
  have HZZ := Lib.hid (show Z.size = 32 by rw [← hZ]; rfl)
  rw [hZ]
  clear hZ
  have hs0 : (((w.alloc (.cells CA 32)).alloc (.cells CB 32)).alloc (.cells Z 32)).heap.size = w.heap.size + 3 := by simp
  have hw1 : (w.alloc (.cells CA 32)).heap.size = w.heap.size + 1 := by simp
  have HA0 := Lib.hid ((Below.heap_alloc _ (.cells Z 32) w.heap.size (by simp; omega)).trans (heap_alloc2_old w (.cells CA 32) (.cells CB 32)))
  have HA1 := Lib.hid ((Below.heap_alloc _ (.cells Z 32) (w.heap.size + 1) (by simp)).trans (heap_alloc2_new w (.cells CA 32) (.cells CB 32)))
  have HA2 := Lib.hid (show (((w.alloc (.cells CA 32)).alloc (.cells CB 32)).alloc (.cells Z 32)).heap[w.heap.size + 1 + 1]? = some (.cells Z 32 (0, 0)) by
    have h := heap_alloc2_new (w.alloc (.cells CA 32)) (.cells CB 32) (.cells Z 32)
    rw [hw1] at h
    exact h)
  have HBW := Lib.hid (show Below w.heap.size w (((w.alloc (.cells CA 32)).alloc (.cells CB 32)).alloc (.cells Z 32)) from (((Below.refl _ _).alloc (Nat.le_refl _) _).alloc (by simp) _).alloc (by simp; omega) _)
  clear hw1
  generalize (((w.alloc (.cells CA 32)).alloc (.cells CB 32)).alloc (.cells Z 32)) = W at HA0 HA1 HA2 HBW hs0 ⊢
  obtain ⟨g3, hg3⟩ : ∃ x, w.heap.size = x := ⟨_, rfl⟩
  obtain ⟨g5, hg5⟩ : ∃ x, g3 + 1 = x := ⟨_, rfl⟩
  obtain ⟨g6, hg6⟩ : ∃ x, g5 + 1 = x := ⟨_, rfl⟩
  rw [hg3] at HA0 HA1 HA2 HBW hs0
  rw [hg5] at HA1 HA2
  rw [hg6] at HA2
  rw [hg3, hg5, hg6]
  have HGE := Lib.hid hg3
  have HLT := Lib.hid (show g3 < g5 ∧ g5 < g6 ∧ g6 < W.heap.size by omega)
  clear hg3 hg5 hg6 hs0
  go_wp2_with (first
    | (refine wpList_load_row rfl 32 (.tmp 3) rfl g3 rfl 32 CA (0, 0) _ HA0.out Try.underlying32 rfl HRCA.out.info ?_)
    | (refine wpList_load_row rfl 32 (.tmp 5) rfl g5 rfl 32 CB (0, 0) _ HA1.out Try.underlying32 rfl HRCB.out.info ?_))
  refine (HPA.out _).mono ?_
  rintro e w1 ⟨v, rfl, hT, hb1⟩
  have H61 := Lib.hid ((hb1.block g6 (by have := HLT.out; omega)).trans HA2.out)
  have HB1 := Lib.hid (HBW.out.trans (hb1.mono (by have := HLT.out; omega)))
  have HL1 := Lib.hid (show g6 < w1.heap.size by have := HLT.out; have := hb1.size; omega)
  go_wp2_with fail
  refine (HOG.out v _ hT).mono ?_
  rintro e w2 ⟨rfl, hb2⟩
  have H62 := Lib.hid ((hb2.block g6 HL1.out).trans H61.out)
  have HB2 := Lib.hid (HB1.out.trans (hb2.mono (by have := HLT.out; have := HL1.out; omega)))
  have HZD := Lib.hid (show Z.size = D.size by rw [HZZ.out, HRD.out.size])
  clear hb1 hb2 hT
  go_wp2_with (refine wpList_store_row rfl 32 (.tmp 6) (.tmp 11) rfl g6 D rfl rfl 32 Z H62.out HRD.out.info HZD.out HRD.out.one ?_)
  refine bodyPost_ret (results_cell_row (p := 6) (ty := 32) Try.results17 _ _ g6 32 D (0, 0) _ rfl (setRow_heap _ _ _ _ _ _ H62.out) Try.underlying32 rfl HRD.out.info) rfl ⟨rfl, HGE.out ▸ below_setRow HB2.out (by have := HLT.out; omega) _⟩

theorem byte_cell (s : List UInt8) (i : Nat) (hi : i < s.length) : (valsB s).toArray[i]? = some (.int .u8 ((s.getD i 0).toNat : Int)) := by
  simp [valsB, List.getD_eq_getElem?_getD, hi]

set_option maxRecDepth 100000 in
set_option maxHeartbeats 1600000 in
theorem ref_ValueL (h p : List UInt8) (k : Nat) (hh : h.length = 32) (hp : p.length = 32) (hk : k ≤ 18446744073709551615) (w : World) :
    Calls Try.prog 15 #[.agg (valsB h).toArray, .int .u64 k, .agg (valsB p).toArray] w fun e w' => e = .returned (.int .u32 (lotF h k p)) ∧ Below w.heap.size w w' := by
  have HPA := Lib.hid (fun w => ref_parts h p k hh hp hk w)
  have HRCA := Lib.hid (row32 h hh)
  have HRCB := Lib.hid (row32 p hp)
  have HOF := Lib.hid (fun v w hT => ref_of3 lotT (by decide) h p k hh hp v w hT)
  obtain ⟨CA, hCA⟩ : ∃ C, (valsB h).toArray = C := ⟨_, rfl⟩
  obtain ⟨CB, hCB⟩ : ∃ C, (valsB p).toArray = C := ⟨_, rfl⟩
  rw [hCA, hCB] at HPA
  rw [hCA] at HRCA
  rw [hCB] at HRCB
  rw [hCA, hCB]
  clear hCA hCB hh hp hk
  rw [show lotF h k p = fourN (ofT lotT (partsF h k p)) from rfl]
  obtain ⟨s, hs⟩ : ∃ s, ofT lotT (partsF h k p) = s := ⟨_, rfl⟩
  have hsl : s.length = 32 := by rw [← hs]; exact ofT_len _ _
  rw [hs] at HOF
  rw [hs]
  have HRD := Lib.hid (row32 s hsl)
  have b0 := byte_cell s 0 (by omega)
  have b1 := byte_cell s 1 (by omega)
  have b2 := byte_cell s 2 (by omega)
  have b3 := byte_cell s 3 (by omega)
  have HF := Lib.hid (show fourN s = (s.getD 0 0).toNat * 16777216 + (s.getD 1 0).toNat * 65536 + (s.getD 2 0).toNat * 256 + (s.getD 3 0).toNat from rfl)
  obtain ⟨x0, hx0⟩ : ∃ x, (s.getD 0 0).toNat = x := ⟨_, rfl⟩
  obtain ⟨x1, hx1⟩ : ∃ x, (s.getD 1 0).toNat = x := ⟨_, rfl⟩
  obtain ⟨x2, hx2⟩ : ∃ x, (s.getD 2 0).toNat = x := ⟨_, rfl⟩
  obtain ⟨x3, hx3⟩ : ∃ x, (s.getD 3 0).toNat = x := ⟨_, rfl⟩
  have l0 : x0 < 256 := by rw [← hx0]; exact UInt8.toNat_lt _
  have l1 : x1 < 256 := by rw [← hx1]; exact UInt8.toNat_lt _
  have l2 : x2 < 256 := by rw [← hx2]; exact UInt8.toNat_lt _
  have l3 : x3 < 256 := by rw [← hx3]; exact UInt8.toNat_lt _
  rw [hx0] at b0
  rw [hx1] at b1
  rw [hx2] at b2
  rw [hx3] at b3
  rw [hx0, hx1, hx2, hx3] at HF
  rw [HF.out]
  obtain ⟨D, hD⟩ : ∃ C, (valsB s).toArray = C := ⟨_, rfl⟩
  rw [hD] at HRD HOF b0 b1 b2 b3
  clear hD hs hsl hx0 hx1 hx2 hx3 HF
  go_enter Try.func15, Try.ntmps15
  go_upto_region 1 with (fail)
  have HA0 := Lib.hid (heap_alloc2_old w (.cells CA 32) (.cells CB 32))
  have HA1 := Lib.hid (heap_alloc2_new w (.cells CA 32) (.cells CB 32))
  have HBW := Lib.hid (show Below w.heap.size w ((w.alloc (.cells CA 32)).alloc (.cells CB 32)) from ((Below.refl _ _).alloc (Nat.le_refl _) _).alloc (by simp) _)
  have hs0 : ((w.alloc (.cells CA 32)).alloc (.cells CB 32)).heap.size = w.heap.size + 2 := by simp
  generalize ((w.alloc (.cells CA 32)).alloc (.cells CB 32)) = W at HA0 HA1 HBW hs0 ⊢
  obtain ⟨g3, hg3⟩ : ∃ x, w.heap.size = x := ⟨_, rfl⟩
  obtain ⟨g5, hg5⟩ : ∃ x, g3 + 1 = x := ⟨_, rfl⟩
  rw [hg3] at HA0 HA1 HBW hs0
  rw [hg5] at HA1
  rw [hg3, hg5]
  have HGE := Lib.hid hg3
  have HLT := Lib.hid (show g3 < g5 ∧ g5 < W.heap.size by omega)
  clear hg3 hg5 hs0
  go_wp2_with (first
    | (refine wpList_load_row rfl 32 (.tmp 3) rfl g3 rfl 32 CA (0, 0) _ HA0.out Try.underlying32 rfl HRCA.out.info ?_)
    | (refine wpList_load_row rfl 32 (.tmp 5) rfl g5 rfl 32 CB (0, 0) _ HA1.out Try.underlying32 rfl HRCB.out.info ?_))
  refine (HPA.out _).mono ?_
  rintro e w1 ⟨v, rfl, hT, hb1⟩
  have HB1 := Lib.hid (HBW.out.trans (hb1.mono (by have := HLT.out; omega)))
  clear hb1
  go_wp2_with fail
  refine (HOF.out v _ hT).mono ?_
  rintro e w2 ⟨rfl, hb2⟩
  have HB2 := Lib.hid (HB1.out.trans (hb2.mono (by have := HB1.out.size; have := HGE.out; have := HLT.out; omega)))
  clear hb2 hT
  go_upto_region 2 with (refine wpList_store_row rfl 32 (.tmp 7) (.tmp 12) rfl w2.heap.size D rfl rfl 32 _ (heap_alloc_new _ _) HRD.out.info (by rw [HRD.out.size]; rfl) HRD.out.one ?_; rw [World.setRow_alloc_new])
  have hb3 : Below w2.heap.size w2 (w2.alloc (.cells D 32)) := (Below.refl _ _).alloc (Nat.le_refl _) _
  have h7 := heap_alloc_new w2 (.cells D 32)
  generalize w2.alloc (.cells D 32) = w3 at hb3 h7 ⊢
  have HB3 := Lib.hid (HB2.out.trans (hb3.mono (by have := HB2.out.size; have := HGE.out; omega)))
  have c0 : w3.cell? ⟨w2.heap.size, 0, none⟩ = some (.int .u8 (x0 : Int)) := by rw [Lib.cell_of_heap h7]; exact b0
  have c1 : w3.cell? ⟨w2.heap.size, 1, none⟩ = some (.int .u8 (x1 : Int)) := by rw [Lib.cell_of_heap h7]; exact b1
  have c2 : w3.cell? ⟨w2.heap.size, 2, none⟩ = some (.int .u8 (x2 : Int)) := by rw [Lib.cell_of_heap h7]; exact b2
  have c3 : w3.cell? ⟨w2.heap.size, 3, none⟩ = some (.int .u8 (x3 : Int)) := by rw [Lib.cell_of_heap h7]; exact b3
  clear hb3 h7 b0 b1 b2 b3
  go_wp2_with fail
  go_ret
  exact ⟨by go_num, HGE.out ▸ HB3.out⟩

end Go.Proofs.Ytogpnfgjdnccdaa.Lot
