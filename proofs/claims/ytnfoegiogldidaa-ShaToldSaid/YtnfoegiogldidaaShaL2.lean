/- works, ShaKnown, ShaRoots. -/
import Derived.Test.YtnfoegiogldidaaShaOf
import Derived.Test.YtnfoegiogldidaaShaH
namespace Go.Proofs.Ytnfoegiogldidaa.Sha
open Go.RowKit

def abcS : List UInt8 := [186, 120, 22, 191, 143, 1, 207, 234, 65, 65, 64, 222, 93, 174, 34, 35, 176, 3, 97, 163, 150, 23, 122, 156, 180, 16, 255, 97, 242, 0, 21, 173]
def noneS : List UInt8 := [227, 176, 196, 66, 152, 252, 28, 20, 154, 251, 244, 200, 153, 111, 185, 36, 39, 174, 65, 228, 100, 155, 147, 76, 164, 149, 153, 27, 120, 82, 184, 85]
theorem shaS_abc : shaS ⟨#[97, 98, 99]⟩ = abcS := by
  have h : natsOf ⟨#[97, 98, 99]⟩ = [97, 98, 99] := rfl
  unfold shaS
  rw [h, sha_abc]
  rfl
theorem shaS_none : shaS ⟨#[]⟩ = noneS := by
  have h : natsOf ⟨#[]⟩ = [] := rfl
  unfold shaS
  rw [h, sha_none]
  rfl
theorem hex_abc : ByteArray.mk (hexL abcS).toArray = ⟨#[98, 97, 55, 56, 49, 54, 98, 102, 56, 102, 48, 49, 99, 102, 101, 97, 52, 49, 52, 49, 52, 48, 100, 101, 53, 100, 97, 101, 50, 50, 50, 51, 98, 48, 48, 51, 54, 49, 97, 51, 57, 54, 49, 55, 55, 97, 57, 99, 98, 52, 49, 48, 102, 102, 54, 49, 102, 50, 48, 48, 49, 53, 97, 100]⟩ := by rfl
theorem hex_none : ByteArray.mk (hexL noneS).toArray = ⟨#[101, 51, 98, 48, 99, 52, 52, 50, 57, 56, 102, 99, 49, 99, 49, 52, 57, 97, 102, 98, 102, 52, 99, 56, 57, 57, 54, 102, 98, 57, 50, 52, 50, 55, 97, 101, 52, 49, 101, 52, 54, 52, 57, 98, 57, 51, 52, 99, 97, 52, 57, 53, 57, 57, 49, 98, 55, 56, 53, 50, 98, 56, 53, 53]⟩ := by rfl

theorem sum_abc (w : World) : Calls Try.prog 14 #[.string ⟨#[97, 98, 99]⟩] w fun e w' => e = .returned (.agg (valsB abcS).toArray) ∧ Below w.heap.size w w' := by
  have h := code_sum ⟨#[97, 98, 99]⟩ (by decide) w
  rw [shaS_abc] at h
  exact h
theorem sum_none (w : World) : Calls Try.prog 14 #[.string ⟨#[]⟩] w fun e w' => e = .returned (.agg (valsB noneS).toArray) ∧ Below w.heap.size w w' := by
  have h := code_sum ⟨#[]⟩ (by decide) w
  rw [shaS_none] at h
  exact h
theorem hexs_abc (w : World) : Calls Try.prog 13 #[.agg (valsB abcS).toArray] w fun e w' => e = .returned (.string ⟨#[98, 97, 55, 56, 49, 54, 98, 102, 56, 102, 48, 49, 99, 102, 101, 97, 52, 49, 52, 49, 52, 48, 100, 101, 53, 100, 97, 101, 50, 50, 50, 51, 98, 48, 48, 51, 54, 49, 97, 51, 57, 54, 49, 55, 55, 97, 57, 99, 98, 52, 49, 48, 102, 102, 54, 49, 102, 50, 48, 48, 49, 53, 97, 100]⟩) ∧ Below w.heap.size w w' := by
  have h := code_hex abcS rfl w
  rw [hex_abc] at h
  exact h
theorem hexs_none (w : World) : Calls Try.prog 13 #[.agg (valsB noneS).toArray] w fun e w' => e = .returned (.string ⟨#[101, 51, 98, 48, 99, 52, 52, 50, 57, 56, 102, 99, 49, 99, 49, 52, 57, 97, 102, 98, 102, 52, 99, 56, 57, 57, 54, 102, 98, 57, 50, 52, 50, 55, 97, 101, 52, 49, 101, 52, 54, 52, 57, 98, 57, 51, 52, 99, 97, 52, 57, 53, 57, 57, 49, 98, 55, 56, 53, 50, 98, 56, 53, 53]⟩) ∧ Below w.heap.size w w' := by
  have h := code_hex noneS rfl w
  rw [hex_none] at h
  exact h

set_option maxRecDepth 100000 in
set_option maxHeartbeats 1600000 in
theorem works_any (w : World) : Calls Try.prog 12 #[] w fun e w' => e = .returned (.bool true) ∧ Below w.heap.size w w' := by
  have HS := Lib.hid (fun w => sum_abc w)
  have HX := Lib.hid (fun w => hexs_abc w)
  obtain ⟨C, hC⟩ : ∃ C, (valsB abcS).toArray = C := ⟨_, rfl⟩
  rw [hC] at HS HX
  clear hC
  go_enter Try.func12, Try.ntmps12
  go_wp2_with fail
  refine (HS.out _).mono ?_
  rintro e w1 ⟨rfl, hb1⟩
  go_wp2_with fail
  refine (HX.out _).mono ?_
  rintro e w2 ⟨rfl, hb2⟩
  go_wp2_with fail
  go_ret
  exact ⟨by simp, hb1.trans (hb2.mono hb1.size)⟩

theorem has_none : Lib.contains (hexL noneS) [101, 51, 98, 48, 99, 52, 52, 50] = true := by decide +kernel

set_option maxRecDepth 100000 in
set_option maxHeartbeats 1600000 in
theorem law_ShaRoots (m : Int) (w : World) (hm : w.cell? ⟨0, 0, none⟩ = some (.int .i64 m)) : Calls Try.prog 4 #[] w fun e w' => e = .returned (.bool true) ∧ Below w.heap.size w w' := by
  have HS := Lib.hid (fun w => sum_none w)
  have HX := Lib.hid (fun w => hexs_none w)
  have HC := Lib.hid (fun (w : World) (hm : w.cell? ⟨0, 0, none⟩ = some (.int .i64 m)) => Try.strings_Contains ⟨#[101, 51, 98, 48, 99, 52, 52, 50, 57, 56, 102, 99, 49, 99, 49, 52, 57, 97, 102, 98, 102, 52, 99, 56, 57, 57, 54, 102, 98, 57, 50, 52, 50, 55, 97, 101, 52, 49, 101, 52, 54, 52, 57, 98, 57, 51, 52, 99, 97, 52, 57, 53, 57, 57, 49, 98, 55, 56, 53, 50, 98, 56, 53, 53]⟩ ⟨#[101, 51, 98, 48, 99, 52, 52, 50]⟩ m w (by decide) hm)
  have HM := Lib.hid hm
  have hB := Nat.lt_of_le_of_lt (Nat.zero_le _) (World.block_lt_of_cell? _ _ hm)
  obtain ⟨C, hC⟩ : ∃ C, (valsB noneS).toArray = C := ⟨_, rfl⟩
  rw [hC] at HS HX
  clear hC hm
  go_enter Try.func4, Try.ntmps4
  go_wp2_with fail
  refine (HS.out _).mono ?_
  rintro e w1 ⟨rfl, hb1⟩
  go_wp2_with fail
  refine (HX.out _).mono ?_
  rintro e w2 ⟨rfl, hb2⟩
  have HB := Lib.hid (hb1.trans (hb2.mono hb1.size))
  go_wp2_with fail
  refine (HC.out _ ((HB.out.cell (p := ⟨0, 0, none⟩) hB).trans HM.out)).mono ?_
  rintro e w3 ⟨rfl, rfl⟩
  have hct : Lib.contains (ByteArray.mk #[101, 51, 98, 48, 99, 52, 52, 50, 57, 56, 102, 99, 49, 99, 49, 52, 57, 97, 102, 98, 102, 52, 99, 56, 57, 57, 54, 102, 98, 57, 50, 52, 50, 55, 97, 101, 52, 49, 101, 52, 54, 52, 57, 98, 57, 51, 52, 99, 97, 52, 57, 53, 57, 57, 49, 98, 55, 56, 53, 50, 98, 56, 53, 53]).data.toList (ByteArray.mk #[101, 51, 98, 48, 99, 52, 52, 50]).data.toList = true := has_none
  rw [hct]
  clear hct
  go_wp2_with (go_at_call 17; refine (rooted_any _).mono ?_; rintro e w4 ⟨rfl, hb4⟩)
  go_ret
  exact ⟨rfl, HB.out.trans (Below.mono (by assumption) HB.out.size)⟩

def nought63 : ByteArray := ⟨(Lib.repeatL [48] 63).toArray⟩
theorem rep63 (w : World) : Calls Try.prog 11 #[.string ⟨#[48]⟩, .int .i64 63] w fun e w' => e = .returned (.string nought63) ∧ Below w.heap.size w w' :=
  Try.strings_Repeat ⟨#[48]⟩ 63 w (by decide) (by decide)
theorem size63 : nought63.size = 63 := by decide
theorem read63 (w : World) : Calls Try.prog 10 #[.string nought63] w fun e w' => e = .returned (.tuple #[.agg zeroB, .int .i64 2]) ∧ Below w.heap.size w w' :=
  read_long nought63 (by rw [size63]; decide) w
theorem readA (w : World) : Calls Try.prog 10 #[.string (nought63 ++ ⟨#[65]⟩)] w fun e w' => e = .returned (.tuple #[.agg zeroB, .int .i64 2]) ∧ Below w.heap.size w w' := by
  have h := code_read (nought63 ++ ⟨#[65]⟩) w
  have hl : (nought63 ++ ByteArray.mk #[65]).data.toList = Lib.repeatL [48] 63 ++ [65] := by
    rw [ByteArray.data_append, Array.toList_append]
    rfl
  rw [hl, readF_not _ 63 65 (by decide) (by decide)] at h
  exact h

theorem row_t : rowL ⟨#[116]⟩ [⟨#[97, 98]⟩] = [1, 116, 2, 97, 98] := by decide
theorem of_t (w : World) : Calls Try.prog 15 #[.string ⟨#[116]⟩, .slice (some ⟨w.heap.size, 0, none⟩) 1 1] (w.alloc (.cells #[.string ⟨#[97, 98]⟩] 9))
    fun e w' => e = .returned (.agg (valsB (shaS ⟨#[1, 116, 2, 97, 98]⟩)).toArray) ∧ Below w.heap.size w w' := by
  have h := code_of ⟨#[116]⟩ (.slice (some ⟨w.heap.size, 0, none⟩) 1 1) [⟨#[97, 98]⟩] (w.alloc (.cells #[.string ⟨#[97, 98]⟩] 9))
    (Or.inr ⟨w.heap.size, 0, 1, rfl, by decide, fun i s hs => by
      match i, hs with
      | 0, hs =>
        simp at hs
        subst hs
        rw [World.cell?_alloc_mark]
        rfl⟩) (by decide) (fun s hs => by simp at hs; subst hs; decide) (by rw [row_t]; decide) (by decide)
  rw [row_t] at h
  refine h.mono ?_
  rintro e w' ⟨he, hb⟩
  exact ⟨he, ((Below.refl _ _).alloc (Nat.le_refl _) _).trans (hb.mono (by simp))⟩

set_option maxRecDepth 100000 in
set_option maxHeartbeats 1600000 in
theorem law_ShaKnown (w : World) : Calls Try.prog 3 #[] w fun e w' => e = .returned (.bool true) ∧ Below w.heap.size w w' := by
  go_enter Try.func3, Try.ntmps3
  go_wp2_with fail
  refine (rep63 _).mono ?_
  rintro e w1 ⟨rfl, hb1⟩
  go_wp2_with fail
  refine (read63 _).mono ?_
  rintro e w2 ⟨rfl, hb2⟩
  have HB2 := Lib.hid (hb1.trans (hb2.mono hb1.size))
  clear hb1 hb2
  have h63 := size63
  go_wp2_with (refine wpList_store_row rfl 23 (.tmp 1) (.tmp 8) rfl w2.heap.size zeroB rfl rfl 23 _ (heap_alloc_new _ _) zeroB_info rfl zeroB_one ?_; rw [World.setRow_alloc_new])
  refine (rep63 _).mono ?_
  rintro e w3 ⟨rfl, hb3⟩
  have HB3 := Lib.hid ((HB2.out.alloc HB2.out.size (.cells zeroB 23)).trans (hb3.mono (Nat.le_trans HB2.out.size (by simp))))
  clear hb3
  go_wp2_with fail
  refine (readA _).mono ?_
  rintro e w4 ⟨rfl, hb4⟩
  have HB4 := Lib.hid (HB3.out.trans (hb4.mono HB3.out.size))
  clear hb4
  go_wp2_with (refine wpList_store_row rfl 23 (.tmp 3) (.tmp 14) rfl w4.heap.size zeroB rfl rfl 23 _ (heap_alloc_new _ _) zeroB_info rfl zeroB_one ?_; rw [World.setRow_alloc_new])
  refine (works_any _).mono ?_
  rintro e w5 ⟨rfl, hb5⟩
  have HB5 := Lib.hid ((HB4.out.alloc HB4.out.size (.cells zeroB 23)).trans (hb5.mono (Nat.le_trans HB4.out.size (by simp))))
  clear hb5
  go_wp2_with fail
  refine (sum_none _).mono ?_
  rintro e w6 ⟨rfl, hb6⟩
  have HB6 := Lib.hid (HB5.out.trans (hb6.mono HB5.out.size))
  clear hb6
  go_wp2_with fail
  refine (hexs_none _).mono ?_
  rintro e w7 ⟨rfl, hb7⟩
  have HB7 := Lib.hid (HB6.out.trans (hb7.mono HB6.out.size))
  clear hb7
  go_wp2_with fail
  refine (of_t _).mono ?_
  rintro e w8 ⟨rfl, hb8⟩
  have HB8 := Lib.hid (HB7.out.trans (hb8.mono HB7.out.size))
  clear hb8
  go_wp2_with fail
  refine (code_sum ⟨#[1, 116, 2, 97, 98]⟩ (by decide) _).mono ?_
  rintro e w9 ⟨rfl, hb9⟩
  have HB9 := Lib.hid (HB8.out.trans (hb9.mono HB8.out.size))
  clear hb9
  have E := fun w => eqIn_hash (shaS ⟨#[1, 116, 2, 97, 98]⟩) (shaS ⟨#[1, 116, 2, 97, 98]⟩) rfl rfl w
  rw [show ((shaS ⟨#[1, 116, 2, 97, 98]⟩) == (shaS ⟨#[1, 116, 2, 97, 98]⟩)) = true by simp] at E
  generalize (valsB (shaS ⟨#[1, 116, 2, 97, 98]⟩)).toArray = C at E ⊢
  go_wp2
  go_ret
  exact ⟨rfl, HB9.out⟩

end Go.Proofs.Ytnfoegiogldidaa.Sha
