/- ShaSums; the document's own Of; ShaParts. -/
import Derived.Test.YtogpnfgjdnccdaaSm
import Derived.Test.YtogpnfgjdnccdaaShaL4
namespace Go.Proofs.Ytogpnfgjdnccdaa.Sha
open Go.RowKit

set_option maxRecDepth 100000 in
set_option maxHeartbeats 1600000 in
/-- The document's own Of: the sum of the told texts. -/
theorem refOf_any (tag : ByteArray) (v : Value) (P : List ByteArray) (w : World) (hT : Texts w v P) (ht : tag.size ≤ 70368744177664) (hm : ∀ s ∈ P, s.size ≤ 70368744177664) (hsum : (rowL tag P).length ≤ 1000000000) (hlen : P.length ≤ 140737488355328) :
    Calls Try.prog 23 #[.string tag, v] w fun e w' => e = .returned (.agg (valsB (shaS ⟨(rowL tag P).toArray⟩)).toArray) ∧ Below w.heap.size w w' := by
  obtain ⟨a, n, cap, hv, hn, hcells⟩ : ∃ a n cap, v = .slice a n cap ∧ P.length = n ∧ ∀ (i : Nat) (s : ByteArray), P[i]? = some s → ∃ g o, a = some ⟨g, o, none⟩ ∧ w.cell? ⟨g, o + i, none⟩ = some (.string s) := by
    rcases hT with ⟨a, cap, rfl, rfl⟩ | ⟨g, o, cap, rfl, _, hc⟩
    · exact ⟨a, 0, cap, rfl, rfl, fun i s h => by simp at h⟩
    · exact ⟨_, _, cap, rfl, rfl, fun i s h => ⟨g, o, rfl, hc i s h⟩⟩
  subst hv
  have HSUM := Lib.hid hsum
  have HM := Lib.hid hm
  have HC := Lib.hid hcells
  have HN := Lib.hid hn
  have hn0 : n ≤ 140737488355328 := by omega
  have HPT := Lib.hid (fun w => Digit.refPutText_any tag w ht)
  clear hsum hm hT hcells hn hlen
  go_enter Try.func23, Try.ntmps23
  go_upto_region 1 with (fail)
  obtain ⟨Z, hZ⟩ : ∃ Z, (List.replicate 32 (Value.int .u8 0)).toArray = Z := ⟨_, rfl⟩
  have HZS := Lib.hid (show Z.size = 32 by rw [← hZ]; rfl)
  rw [show #[Value.int .u8 0, .int .u8 0, .int .u8 0, .int .u8 0, .int .u8 0, .int .u8 0, .int .u8 0, .int .u8 0, .int .u8 0, .int .u8 0, .int .u8 0, .int .u8 0, .int .u8 0, .int .u8 0, .int .u8 0, .int .u8 0,
    .int .u8 0, .int .u8 0, .int .u8 0, .int .u8 0, .int .u8 0, .int .u8 0, .int .u8 0, .int .u8 0, .int .u8 0, .int .u8 0, .int .u8 0, .int .u8 0, .int .u8 0, .int .u8 0, .int .u8 0, .int .u8 0] = (List.replicate 32 (Value.int .u8 0)).toArray from rfl, hZ]
  clear hZ
  have hba : Below w.heap.size w (w.alloc (.cells Z 32)) := (Below.refl _ _).alloc (Nat.le_refl _) _
  have HG0 := Lib.hid (heap_alloc_new w (.cells Z 32))
  have HW := Lib.hid (show w.heap.size < (w.alloc (.cells Z 32)).heap.size by simp)
  have HBA := Lib.hid hba
  clear hba
  generalize w.alloc (.cells Z 32) = W0 at HG0 HBA HW ⊢
  go_wp2_with fail
  refine (HPT.out _).mono ?_
  rintro e w1 ⟨rfl, hb1⟩
  have HB1 := Lib.hid hb1
  clear hb1
  have hrow0 : ByteArray.mk (Digit.putTextL tag.data.toList).toArray = ⟨(rowL tag (P.take 0)).toArray⟩ := by
    rw [List.take_zero]
    simp [rowL]
  rw [hrow0]
  clear hrow0
  go_wp2_with fail
  go_loopw [5, 6] (fun al i wr => ∃ k : Nat, k ≤ n ∧ i = .int .i64 k ∧ al = .string ⟨(rowL tag (P.take k)).toArray⟩ ∧ Below W0.heap.size W0 wr) (fun _ i _ => n - (intOf i).toNat)
  case atStart => exact ⟨0, by omega, rfl, rfl, HB1.out⟩
  case round =>
    obtain ⟨k, hk, rfl, rfl, hbel⟩ := hrel
    have HB := Lib.hid hbel
    clear hbel
    by_cases hlt : k < n
    · obtain ⟨s, hs⟩ : ∃ s, P[k]? = some s := ⟨P[k]'(by rw [HN.out]; exact hlt), List.getElem?_eq_getElem _⟩
      obtain ⟨g, o, rfl, hcell⟩ := HC.out k s hs
      have hg := World.block_lt_of_cell? _ _ hcell
      have hcs : wr.cell? ⟨g, o + k, none⟩ = some (.string s) := by
        rw [HB.out.cell (show g < W0.heap.size from Nat.lt_trans hg HW.out), HBA.out.cell hg]
        exact hcell
      have hsm := HM.out s (List.mem_of_getElem? hs)
      have HT := Lib.hid (told_snoc tag P k s hs)
      have HPS := Lib.hid (fun w => Digit.refPutText_any s w hsm)
      have hrl := Nat.le_trans (rowL_le tag P k) HSUM.out
      have hrl2 := Nat.le_trans (rowL_le tag P (k + 1)) HSUM.out
      obtain ⟨A, hA⟩ : ∃ A : ByteArray, (⟨(rowL tag (P.take k)).toArray⟩ : ByteArray) = A := ⟨_, rfl⟩
      obtain ⟨D, hD⟩ : ∃ A : ByteArray, (⟨(Digit.putTextL s.data.toList).toArray⟩ : ByteArray) = A := ⟨_, rfl⟩
      have hAs : A.size ≤ 1000000000 := by rw [← hA, size_mk]; exact hrl
      have hDs : D.size ≤ 1000000000 := by
        rw [List.take_add_one, hs] at hrl2
        have hx := rowL_snoc tag (P.take k) s
        rw [show (some s).toList = [s] from rfl, hx, List.length_append] at hrl2
        rw [← hD, size_mk]
        omega
      rw [hA, hD] at HT
      rw [hD] at HPS
      rw [hA]
      have hk0 : (0 : Int) ≤ (k : Int) := by omega
      have hkn : (k : Int) < (n : Int) := by omega
      clear hs hcell hrl hrl2 hA hD hg hsm
      go_wp2_with fail
      refine (HPS.out _).mono ?_
      rintro e w3 ⟨rfl, hb3⟩
      have HB3 := Lib.hid (HB.out.trans (hb3.mono HB.out.size))
      clear hb3
      go_wp2_with fail
      go_roundw
      case rel =>
        first
          | exact ⟨k + 1, by omega, by go_num, by rw [HT.out], HB3.out⟩
          | ((repeat apply Exists.intro)
             exact ⟨⟨k + 1, by omega, by go_num, by rw [HT.out], HB3.out⟩, rfl⟩)
      case measure => simp [intOf]; omega
    · obtain rfl : n = k := by omega
      rw [List.take_of_length_le (Nat.le_of_eq HN.out)]
      have HSM := Lib.hid (fun w => sum_any ⟨(rowL tag P).toArray⟩ (by rw [size_mk]; exact HSUM.out) w)
      obtain ⟨T, hT⟩ : ∃ T : ByteArray, (⟨(rowL tag P).toArray⟩ : ByteArray) = T := ⟨_, rfl⟩
      rw [hT] at HSM
      rw [hT]
      have HTT := Lib.hid hT
      clear hT hk hlt
      go_wp2_with fail
      refine (HSM.out _).mono ?_
      rintro e w4 ⟨rfl, hb4⟩
      have HB4 := Lib.hid (HB.out.trans (hb4.mono HB.out.size))
      have HZ := Lib.hid ((HB4.out.block _ HW.out).trans HG0.out)
      clear hb4
      have hsz : (valsB (shaS T)).toArray.size = 32 := by rw [valsB_size]; rfl
      have hone : (valsB (shaS T)).toArray.all (·.oneCell') = true := by simp [valsB, Value.oneCell']
      obtain ⟨C, hC⟩ : ∃ C, (valsB (shaS T)).toArray = C := ⟨_, rfl⟩
      rw [hC] at hsz hone
      rw [hC]
      have HINF := Lib.hid (show (Try.prog.info? 32).map (·.size) = some C.size by rw [hsz]; exact info_hash)
      have HZC := Lib.hid (show Z.size = C.size by rw [HZS.out, hsz])
      have HCC := Lib.hid hC
      clear hC hsz
      go_wp2_with (refine wpList_store_row rfl 32 (.tmp 4) (.tmp 23) rfl w.heap.size C rfl rfl 32 Z HZ.out HINF.out HZC.out hone ?_)
      refine bodyPost_ret (results_cell_row (p := 4) (ty := 32) Try.results23 _ _ w.heap.size 32 C (0, 0) _ rfl (setRow_heap _ _ _ _ _ _ HZ.out) Try.underlying32 rfl HINF.out) rfl ⟨by rw [HTT.out, HCC.out], below_setRow (HBA.out.trans (HB4.out.mono (Nat.le_of_lt HW.out))) (Nat.le_refl _) _⟩

end Go.Proofs.Ytogpnfgjdnccdaa.Sha
