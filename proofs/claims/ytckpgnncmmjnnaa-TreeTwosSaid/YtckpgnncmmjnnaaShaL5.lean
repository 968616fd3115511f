/- ShaSums; the document's own Of; ShaParts. -/
import Derived.Test.YtckpgnncmmjnnaaSm
import Derived.Test.YtckpgnncmmjnnaaShaL4
namespace Go.Proofs.Ytckpgnncmmjnnaa.Sha
open Go.RowKit

set_option maxRecDepth 100000 in
set_option maxHeartbeats 1600000 in
theorem law_ShaSums (a0 : ByteArray) (w0 : a0.size ≤ maxLen) (w : World) : Calls Try.prog 3 #[.string a0] w fun e w' => e = .returned (.bool true) ∧ Below w.heap.size w w' := by
  have h0m : a0.size ≤ 9223372036854775807 := w0
  clear w0
  by_cases hbig : 16384 < a0.size
  · have hb : (16384 : Int) < (a0.size : Int) := by omega
    go_enter Try.func3, Try.ntmps3
    go_wp2_with (go_at_call 12; refine (works_any _).mono ?_; rintro e w' ⟨rfl, hb⟩)
    go_ret
    exact ⟨rfl, by assumption⟩
  · have h16 : a0.size ≤ 16384 := by omega
    clear hbig
    have HSU := Lib.hid (fun w => code_sum a0 (by omega) w)
    have HRS := Lib.hid (fun w => sum_any a0 (by omega) w)
    have HE := fun w => eqIn_hash (shaS a0) (shaS a0) rfl rfl w
    rw [show (shaS a0 == shaS a0) = true by simp] at HE
    obtain ⟨C, hC⟩ : ∃ C, (valsB (shaS a0)).toArray = C := ⟨_, rfl⟩
    rw [hC] at HSU HRS HE
    clear hC
    go_enter Try.func3, Try.ntmps3
    go_wp2_with fail
    refine (HSU.out _).mono ?_
    rintro e w1 ⟨rfl, hb1⟩
    have HB1 := Lib.hid hb1
    clear hb1
    go_wp2_with fail
    refine (HRS.out _).mono ?_
    rintro e w2 ⟨rfl, hb2⟩
    have HB2 := Lib.hid (HB1.out.trans (hb2.mono HB1.out.size))
    clear hb2
    go_wp2_with fail
    go_ret
    exact ⟨rfl, HB2.out⟩

set_option maxRecDepth 100000 in
set_option maxHeartbeats 1600000 in
/-- The document's own Of: the sum of the told texts. -/
theorem refOf_any (tag : ByteArray) (v : Value) (P : List ByteArray) (w : World) (hT : Texts w v P) (ht : tag.size ≤ 70368744177664) (hm : ∀ s ∈ P, s.size ≤ 70368744177664) (hsum : (rowL tag P).length ≤ 1000000000) (hlen : P.length ≤ 140737488355328) :
    Calls Try.prog 16 #[.string tag, v] w fun e w' => e = .returned (.agg (valsB (shaS ⟨(rowL tag P).toArray⟩)).toArray) ∧ Below w.heap.size w w' := by
  obtain ⟨a, n, cap, hv, hn, hcells⟩ : ∃ a n cap, v = .slice a n cap ∧ P.length = n ∧ ∀ (i : Nat) (s : ByteArray), P[i]? = some s → ∃ g o, a = some ⟨g, o, none⟩ ∧ w.cell? ⟨g, o + i, none⟩ = some (.string s) := by
    rcases hT with ⟨a, cap, rfl, rfl⟩ | ⟨g, o, cap, rfl, _, hc⟩
    · exact ⟨a, 0, cap, rfl, rfl, fun i s h => by simp at h⟩
    · exact ⟨_, _, cap, rfl, rfl, fun i s h => ⟨g, o, rfl, hc i s h⟩⟩
  subst hv
  have HSUM := Lib.hid hsum
  have HM := Lib.hid hm
  have HC := Lib.hid hcells
  have HN := Lib.hid hn
  have hn0 : n ≤ 140737488355328 := by omega
  have HPT := Lib.hid (fun w => Digit.refPutText_any tag w ht)
  clear hsum hm hT hcells hn hlen
  go_enter Try.func16, Try.ntmps16
  go_upto_region 1 with (fail)
  obtain ⟨Z, hZ⟩ : ∃ Z, (List.replicate 32 (Value.int .u8 0)).toArray = Z := ⟨_, rfl⟩
  have HZS := Lib.hid (show Z.size = 32 by rw [← hZ]; rfl)
  rw [show #[Value.int .u8 0, .int .u8 0, .int .u8 0, .int .u8 0, .int .u8 0, .int .u8 0, .int .u8 0, .int .u8 0, .int .u8 0, .int .u8 0, .int .u8 0, .int .u8 0, .int .u8 0, .int .u8 0, .int .u8 0, .int .u8 0,
    .int .u8 0, .int .u8 0, .int .u8 0, .int .u8 0, .int .u8 0, .int .u8 0, .int .u8 0, .int .u8 0, .int .u8 0, .int .u8 0, .int .u8 0, .int .u8 0, .int .u8 0, .int .u8 0, .int .u8 0, .int .u8 0] = (List.replicate 32 (Value.int .u8 0)).toArray from rfl, hZ]
  clear hZ
  have hba : Below w.heap.size w (w.alloc (.cells Z 24)) := (Below.refl _ _).alloc (Nat.le_refl _) _
  have HG0 := Lib.hid (heap_alloc_new w (.cells Z 24))
  have HW := Lib.hid (show w.heap.size < (w.alloc (.cells Z 24)).heap.size by simp)
  have HBA := Lib.hid hba
  clear hba
  generalize w.alloc (.cells Z 24) = W0 at HG0 HBA HW ⊢
  go_wp2_with fail
  refine (HPT.out _).mono ?_
  rintro e w1 ⟨rfl, hb1⟩
  have HB1 := Lib.hid hb1
  clear hb1
  have hrow0 : ByteArray.mk (Digit.putTextL tag.data.toList).toArray = ⟨(rowL tag (P.take 0)).toArray⟩ := by
    rw [List.take_zero]
    simp [rowL]
  rw [hrow0]
  clear hrow0
  go_wp2_with fail
  go_loopw [5, 6] (fun al i wr => ∃ k : Nat, k ≤ n ∧ i = .int .i64 k ∧ al = .string ⟨(rowL tag (P.take k)).toArray⟩ ∧ Below W0.heap.size W0 wr) (fun _ i _ => n - (intOf i).toNat)
  case atStart => exact ⟨0, by omega, rfl, rfl, HB1.out⟩
  case round =>
    obtain ⟨k, hk, rfl, rfl, hbel⟩ := hrel
    have HB := Lib.hid hbel
    clear hbel
    by_cases hlt : k < n
    · obtain ⟨s, hs⟩ : ∃ s, P[k]? = some s := ⟨P[k]'(by rw [HN.out]; exact hlt), List.getElem?_eq_getElem _⟩
      obtain ⟨g, o, rfl, hcell⟩ := HC.out k s hs
      have hg := World.block_lt_of_cell? _ _ hcell
      have hcs : wr.cell? ⟨g, o + k, none⟩ = some (.string s) := by
        rw [HB.out.cell (show g < W0.heap.size from Nat.lt_trans hg HW.out), HBA.out.cell hg]
        exact hcell
      have hsm := HM.out s (List.mem_of_getElem? hs)
      have HT := Lib.hid (told_snoc tag P k s hs)
      have HPS := Lib.hid (fun w => Digit.refPutText_any s w hsm)
      have hrl := Nat.le_trans (rowL_le tag P k) HSUM.out
      have hrl2 := Nat.le_trans (rowL_le tag P (k + 1)) HSUM.out
      obtain ⟨A, hA⟩ : ∃ A : ByteArray, (⟨(rowL tag (P.take k)).toArray⟩ : ByteArray) = A := ⟨_, rfl⟩
      obtain ⟨D, hD⟩ : ∃ A : ByteArray, (⟨(Digit.putTextL s.data.toList).toArray⟩ : ByteArray) = A := ⟨_, rfl⟩
      have hAs : A.size ≤ 1000000000 := by rw [← hA, size_mk]; exact hrl
      have hDs : D.size ≤ 1000000000 := by
        rw [List.take_add_one, hs] at hrl2
        have hx := rowL_snoc tag (P.take k) s
        rw [show (some s).toList = [s] from rfl, hx, List.length_append] at hrl2
        rw [← hD, size_mk]
        omega
      rw [hA, hD] at HT
      rw [hD] at HPS
      rw [hA]
      have hk0 : (0 : Int) ≤ (k : Int) := by omega
      have hkn : (k : Int) < (n : Int) := by omega
      clear hs hcell hrl hrl2 hA hD hg hsm
      go_wp2_with fail
      refine (HPS.out _).mono ?_
      rintro e w3 ⟨rfl, hb3⟩
      have HB3 := Lib.hid (HB.out.trans (hb3.mono HB.out.size))
      clear hb3
      go_wp2_with fail
      go_roundw
      case rel =>
        first
          | exact ⟨k + 1, by omega, by go_num, by rw [HT.out], HB3.out⟩
          | ((repeat apply Exists.intro)
             exact ⟨⟨k + 1, by omega, by go_num, by rw [HT.out], HB3.out⟩, rfl⟩)
      case measure => simp [intOf]; omega
    · obtain rfl : n = k := by omega
      rw [List.take_of_length_le (Nat.le_of_eq HN.out)]
      have HSM := Lib.hid (fun w => sum_any ⟨(rowL tag P).toArray⟩ (by rw [size_mk]; exact HSUM.out) w)
      obtain ⟨T, hT⟩ : ∃ T : ByteArray, (⟨(rowL tag P).toArray⟩ : ByteArray) = T := ⟨_, rfl⟩
      rw [hT] at HSM
      rw [hT]
      have HTT := Lib.hid hT
      clear hT hk hlt
      go_wp2_with fail
      refine (HSM.out _).mono ?_
      rintro e w4 ⟨rfl, hb4⟩
      have HB4 := Lib.hid (HB.out.trans (hb4.mono HB.out.size))
      have HZ := Lib.hid ((HB4.out.block _ HW.out).trans HG0.out)
      clear hb4
      have hsz : (valsB (shaS T)).toArray.size = 32 := by rw [valsB_size]; rfl
      have hone : (valsB (shaS T)).toArray.all (·.oneCell') = true := by simp [valsB, Value.oneCell']
      obtain ⟨C, hC⟩ : ∃ C, (valsB (shaS T)).toArray = C := ⟨_, rfl⟩
      rw [hC] at hsz hone
      rw [hC]
      have HINF := Lib.hid (show (Try.prog.info? 24).map (·.size) = some C.size by rw [hsz]; exact info_hash)
      have HZC := Lib.hid (show Z.size = C.size by rw [HZS.out, hsz])
      have HCC := Lib.hid hC
      clear hC hsz
      go_wp2_with (refine wpList_store_row rfl 24 (.tmp 4) (.tmp 23) rfl w.heap.size C rfl rfl 24 Z HZ.out HINF.out HZC.out hone ?_)
      refine bodyPost_ret (results_cell_row (p := 4) (ty := 24) Try.results16 _ _ w.heap.size 24 C (0, 0) _ rfl (setRow_heap _ _ _ _ _ _ HZ.out) Try.underlying24 rfl HINF.out) rfl ⟨by rw [HTT.out, HCC.out], below_setRow (HBA.out.trans (HB4.out.mono (Nat.le_of_lt HW.out))) (Nat.le_refl _) _⟩

set_option maxRecDepth 100000 in
set_option maxHeartbeats 1600000 in
theorem law_ShaParts (a0 : ByteArray) (v1 : Value) (a1 : List ByteArray) (w : World) (w0 : a0.size ≤ maxLen) (w1 : Texts w v1 a1) (x1 : ∀ s ∈ a1, s.size ≤ maxLen) (y1 : a1.length ≤ maxLen) :
    Calls Try.prog 4 #[.string a0, v1] w fun e w' => e = .returned (.bool true) ∧ Below w.heap.size w w' := by
  have HTX := Lib.hid w1
  obtain ⟨a, n, cap, hv, hn, hcells⟩ : ∃ a n cap, v1 = .slice a n cap ∧ a1.length = n ∧ ∀ (i : Nat) (s : ByteArray), a1[i]? = some s → ∃ g o, a = some ⟨g, o, none⟩ ∧ w.cell? ⟨g, o + i, none⟩ = some (.string s) := by
    rcases w1 with ⟨a, cap, rfl, rfl⟩ | ⟨g, o, cap, rfl, _, hc⟩
    · exact ⟨a, 0, cap, rfl, rfl, fun i s h => by simp at h⟩
    · exact ⟨_, _, cap, rfl, rfl, fun i s h => ⟨g, o, rfl, hc i s h⟩⟩
  subst hv
  have HC := Lib.hid hcells
  have HN := Lib.hid hn
  have HX := Lib.hid x1
  have hnm : n ≤ 9223372036854775807 := by unfold maxLen at y1; omega
  have h0m : a0.size ≤ 9223372036854775807 := w0
  clear hcells hn x1 y1 w0 w1
  go_enter Try.func4, Try.ntmps4
  go_wp2_with fail
  go_loop [5, 10] (fun t i => ∃ k : Nat, k ≤ n ∧ i = .int .i64 k ∧ t = .int .i64 (totN (a1.take k)) ∧ totN (a1.take k) ≤ 16384) (fun _ i => n - (intOf i).toNat)
  case atStart => exact ⟨0, by omega, rfl, rfl, by simp [totN]⟩
  case round =>
    obtain ⟨k, hk, rfl, rfl, htot⟩ := hrel
    by_cases hlt : k < n
    · obtain ⟨s, hs⟩ : ∃ s, a1[k]? = some s := ⟨a1[k]'(by rw [HN.out]; exact hlt), List.getElem?_eq_getElem _⟩
      obtain ⟨g, o, rfl, hcell⟩ := HC.out k s hs
      have hsm : s.size ≤ 9223372036854775807 := HX.out s (List.mem_of_getElem? hs)
      have HT := Lib.hid (totN_take a1 k s hs)
      obtain ⟨m, hm⟩ : ∃ m, min s.size 16384 = m := ⟨_, rfl⟩
      have hmin : min (s.size : Int) 16384 = (m : Int) := by omega
      have hm2 : m ≤ 16384 := by omega
      rw [hm] at HT
      obtain ⟨T, hT⟩ : ∃ T, totN (a1.take k) = T := ⟨_, rfl⟩
      rw [hT] at HT htot
      rw [hT]
      have hk0 : (0 : Int) ≤ (k : Int) := by omega
      have hkn : (k : Int) < (n : Int) := by omega
      clear hs hm hT
      by_cases hover : 16384 < T + (m + 1)
      · go_wp2_with (go_at_call 12; refine (works_any _).mono ?_; rintro e w' ⟨rfl, hb⟩)
        go_ret
        exact ⟨rfl, by assumption⟩
      · have hle : T + (m + 1) ≤ 16384 := by omega
        clear hover
        go_wp2_with fail
        go_round
        case rel => exact ⟨k + 1, by omega, by go_num, by rw [HT.out]; go_num, by rw [HT.out]; exact hle⟩
        case measure => simp [intOf]; omega
    · obtain rfl : n = k := by omega
      rw [List.take_of_length_le (Nat.le_of_eq HN.out)] at htot
      by_cases hbig : 16384 < a0.size
      · go_wp2_with (go_at_call 12; refine (works_any _).mono ?_; rintro e w' ⟨rfl, hb⟩)
        go_ret
        exact ⟨rfl, by assumption⟩
      · have h16 : a0.size ≤ 16384 := by omega
        clear hbig
        have HSM := Lib.hid (totN_small a1 htot)
        have HRL := Lib.hid (rowL_len a0 a1 h16 htot)
        have HOF := Lib.hid (fun wr (hb : Below w.heap.size w wr) => code_of a0 (.slice a n cap) a1 wr (HTX.out.kept hb) (by omega) (fun s hs => by have := HSM.out.2 s hs; omega) (by have := HRL.out; omega) (by have := HN.out; have := HSM.out.1; omega))
        have HRO := Lib.hid (fun wr (hb : Below w.heap.size w wr) => refOf_any a0 (.slice a n cap) a1 wr (HTX.out.kept hb) (by omega) (fun s hs => by have := HSM.out.2 s hs; omega) (by have := HRL.out; omega) (by have := HN.out; have := HSM.out.1; omega))
        have HE := fun w => eqIn_hash (shaS ⟨(rowL a0 a1).toArray⟩) (shaS ⟨(rowL a0 a1).toArray⟩) rfl rfl w
        rw [show (shaS ⟨(rowL a0 a1).toArray⟩ == shaS ⟨(rowL a0 a1).toArray⟩) = true by simp] at HE
        obtain ⟨C, hC⟩ : ∃ C, (valsB (shaS ⟨(rowL a0 a1).toArray⟩)).toArray = C := ⟨_, rfl⟩
        rw [hC] at HOF HRO HE
        clear hC hlt hk htot
        go_wp2_with fail
        refine (HOF.out _ (Below.refl _ _)).mono ?_
        rintro e w3 ⟨rfl, hb3⟩
        have HB3 := Lib.hid hb3
        clear hb3
        go_wp2_with fail
        refine (HRO.out _ HB3.out).mono ?_
        rintro e w4 ⟨rfl, hb4⟩
        have HB4 := Lib.hid (HB3.out.trans (hb4.mono HB3.out.size))
        clear hb4
        go_wp2_with fail
        go_ret
        exact ⟨rfl, HB4.out⟩

end Go.Proofs.Ytckpgnncmmjnnaa.Sha
