/- shelf: ShelfKnown. -/
import Derived.Test.YtpepijoppgbbfaaSfK
namespace Go.Proofs.Ytpepijoppgbbfaa.Shf
open Go.RowKit Go.Shelf Go.Proofs.Ytpepijoppgbbfaa.Gr

abbrev keyC : ByteArray := ⟨#[99]⟩
abbrev keyKK : ByteArray := ⟨#[107, 107]⟩
abbrev keyNone : ByteArray := ⟨#[]⟩
abbrev twoL : List Th := [(keyB, 2), (keyK, 1)]

set_option maxRecDepth 100000 in
set_option maxHeartbeats 6400000 in
theorem law_ShelfKnown (w : World) : Calls Try.prog 3 #[] w fun e w' => e = .returned (.bool true) ∧ Below w.heap.size w w' := by
  have HN := Lib.hid (fun w => code_NewS w)
  have HWK := Lib.hid works_any
  have HP1 := Lib.hid (fun S w (h : ShelfAt w.heap.size w S []) => show Calls Try.prog 9 #[.agg S, .string keyK, .int .u64 1] w fun e w' => ∃ S', e = .returned (.agg S') ∧ ShelfAt w'.heap.size w' S' (putL [] keyK 1) ∧ Below w.heap.size w w' from code_PutS S [] keyK 1 w h (by simp))
  have HP2 := Lib.hid (fun S w (h : ShelfAt w.heap.size w S (putL [] keyK 1)) => show Calls Try.prog 9 #[.agg S, .string keyB, .int .u64 2] w fun e w' => ∃ S', e = .returned (.agg S') ∧ ShelfAt w'.heap.size w' S' (putL (putL [] keyK 1) keyB 2) ∧ Below w.heap.size w w' from code_PutS S _ keyB 2 w h (by decide))
  have HD := Lib.hid (fun S w (h : ShelfAt w.heap.size w S twoL) => code_DropS S _ keyK w h (by decide))
  simp only [works_two] at HP2
  simp only [works_one] at HD
  have HG1 := Lib.hid (fun S w (h : ShelfAt w.heap.size w S twoL) => show Calls Try.prog 10 #[.agg S, .string keyK] w fun e w' => e = .returned (.tuple #[.int .u64 1, .bool true]) ∧ Below w.heap.size w w' by
    have h1 := code_GetS S _ keyK w h (by decide)
    rw [show getL twoL keyK = some 1 by decide] at h1
    exact h1)
  have HG2 := Lib.hid (fun S w (h : ShelfAt w.heap.size w S [(keyB, 2)]) => show Calls Try.prog 10 #[.agg S, .string keyK] w fun e w' => e = .returned (.tuple #[.int .u64 0, .bool false]) ∧ Below w.heap.size w w' by
    have h1 := code_GetS S _ keyK w h (by decide)
    rw [show getL [(keyB, 2)] keyK = none by decide] at h1
    exact h1)
  have HN1 := Lib.hid (fun S w (h : ShelfAt w.heap.size w S twoL) => show Calls Try.prog 12 #[.agg S, .string keyNone] w fun e w' => e = .returned (.tuple #[.string keyB, .int .u64 2, .bool true]) ∧ Below w.heap.size w w' by
    have h1 := code_NextS S _ keyNone w h (by decide)
    rw [show nextL twoL keyNone = some (keyB, 2) by decide] at h1
    exact h1)
  have HN2 := Lib.hid (fun S w (h : ShelfAt w.heap.size w S twoL) => show Calls Try.prog 12 #[.agg S, .string keyC] w fun e w' => e = .returned (.tuple #[.string keyK, .int .u64 1, .bool true]) ∧ Below w.heap.size w w' by
    have h1 := code_NextS S _ keyC w h (by decide)
    rw [show nextL twoL keyC = some (keyK, 1) by decide] at h1
    exact h1)
  have HN3 := Lib.hid (fun S w (h : ShelfAt w.heap.size w S twoL) => show Calls Try.prog 12 #[.agg S, .string keyKK] w fun e w' => e = .returned (.tuple #[.string keyNone, .int .u64 0, .bool false]) ∧ Below w.heap.size w w' by
    have h1 := code_NextS S _ keyKK w h (by decide)
    rw [show nextL twoL keyKK = none by decide] at h1
    exact h1)
  go_enter Try.func3, Try.ntmps3
  go_wp2_with fail
  refine (HN.out _).mono ?_
  rintro e w1 ⟨S0, rfl, hS0, hb1⟩
  go_wp2_with fail
  refine (HP1.out _ _ hS0).mono ?_
  rintro e w2 ⟨S1, rfl, hS1, hb2⟩
  go_wp2_with fail
  refine (HP2.out _ _ hS1).mono ?_
  rintro e w3 ⟨S2, rfl, hS2, hb3⟩
  have HB3 := Lib.hid ((hb1.trans (hb2.mono hb1.size)).trans (hb3.mono (hb1.trans (hb2.mono hb1.size)).size))
  have HR2 := Lib.hid hS2.row
  have HS2 := Lib.hid hS2
  clear hS0 hS1 hS2 hb1 hb2 hb3 HN HP1 HP2
  go_upto_region 2 with (refine wpList_store_row rfl 24 (.tmp 1) (.tmp 17) rfl w3.heap.size S2 rfl rfl 24 _ (heap_alloc_new _ _) HR2.out.info HR2.out.size.symm HR2.out.one ?_; rw [World.setRow_alloc_new])
  have hb4 : Below w3.heap.size w3 (w3.alloc (.cells S2 24)) := (Below.refl _ _).alloc (Nat.le_refl _) _
  have h1 := heap_alloc_new w3 (.cells S2 24)
  have hs4 : (w3.alloc (.cells S2 24)).heap.size = w3.heap.size + 1 := by simp
  generalize w3.alloc (.cells S2 24) = w4 at hb4 h1 hs4 ⊢
  obtain ⟨g1, hg1⟩ : ∃ g, w3.heap.size = g := ⟨_, rfl⟩
  have HS4 := Lib.hid (HS2.out.below hb4 hb4.size)
  have HB4 := Lib.hid (HB3.out.trans (hb4.mono HB3.out.size))
  rw [hg1] at h1 hs4
  rw [hg1]
  have H14 := Lib.hid h1
  have HL4 := Lib.hid (show g1 < w4.heap.size by omega)
  clear hb4 h1 hs4 hg1 HB3 HS2
  go_wp2_with (refine wpList_load_row rfl 24 (.tmp 1) rfl g1 rfl 24 S2 (0, 0) _ H14.out Try.underlying24 rfl HR2.out.info ?_)
  refine (HG1.out _ _ HS4.out).mono ?_
  rintro e w5 ⟨rfl, hb⟩
  have HS5 := Lib.hid (HS4.out.below hb hb.size)
  have H15 := Lib.hid ((hb.block g1 HL4.out).trans H14.out)
  have HB5 := Lib.hid (HB4.out.trans (hb.mono HB4.out.size))
  have HL5 := Lib.hid (Nat.lt_of_lt_of_le HL4.out hb.size)
  clear hb HS4 H14 HB4 HL4
  go_wp2_with (refine wpList_load_row rfl 24 (.tmp 1) rfl g1 rfl 24 S2 (0, 0) _ H15.out Try.underlying24 rfl HR2.out.info ?_)
  refine (HD.out _ _ HS5.out).mono ?_
  rintro e w6 ⟨S3, rfl, hS3, hb⟩
  go_wp2_with fail
  refine (HG2.out _ _ hS3).mono ?_
  rintro e w7 ⟨rfl, hb2⟩
  have hb3 := hb.trans (hb2.mono hb.size)
  have HS7 := Lib.hid (HS5.out.below hb3 hb3.size)
  have H17 := Lib.hid ((hb3.block g1 HL5.out).trans H15.out)
  have HB7 := Lib.hid (HB5.out.trans (hb3.mono HB5.out.size))
  have HL7 := Lib.hid (Nat.lt_of_lt_of_le HL5.out hb3.size)
  clear hb hb2 hb3 hS3 HS5 H15 HB5 HL5
  go_wp2_with (refine wpList_load_row rfl 24 (.tmp 1) rfl g1 rfl 24 S2 (0, 0) _ H17.out Try.underlying24 rfl HR2.out.info ?_)
  refine (HN1.out _ _ HS7.out).mono ?_
  rintro e w8 ⟨rfl, hb⟩
  have HS8 := Lib.hid (HS7.out.below hb hb.size)
  have H18 := Lib.hid ((hb.block g1 HL7.out).trans H17.out)
  have HB8 := Lib.hid (HB7.out.trans (hb.mono HB7.out.size))
  have HL8 := Lib.hid (Nat.lt_of_lt_of_le HL7.out hb.size)
  clear hb HS7 H17 HB7 HL7
  go_wp2_with (refine wpList_load_row rfl 24 (.tmp 1) rfl g1 rfl 24 S2 (0, 0) _ H18.out Try.underlying24 rfl HR2.out.info ?_)
  refine (HN2.out _ _ HS8.out).mono ?_
  rintro e w9 ⟨rfl, hb⟩
  have HS9 := Lib.hid (HS8.out.below hb hb.size)
  have H19 := Lib.hid ((hb.block g1 HL8.out).trans H18.out)
  have HB9 := Lib.hid (HB8.out.trans (hb.mono HB8.out.size))
  have HL9 := Lib.hid (Nat.lt_of_lt_of_le HL8.out hb.size)
  clear hb HS8 H18 HB8 HL8
  go_wp2_with (refine wpList_load_row rfl 24 (.tmp 1) rfl g1 rfl 24 S2 (0, 0) _ H19.out Try.underlying24 rfl HR2.out.info ?_)
  refine (HN3.out _ _ HS9.out).mono ?_
  rintro e w10 ⟨rfl, hb⟩
  have HS10 := Lib.hid (HS9.out.below hb hb.size)
  have H110 := Lib.hid ((hb.block g1 HL9.out).trans H19.out)
  have HB10 := Lib.hid (HB9.out.trans (hb.mono HB9.out.size))
  have HL10 := Lib.hid (Nat.lt_of_lt_of_le HL9.out hb.size)
  clear hb HS9 H19 HB9 HL9
  go_wp2_with fail
  refine (HWK.out _).mono ?_
  rintro e w11 ⟨rfl, hb⟩
  have HB11 := Lib.hid (HB10.out.trans (hb.mono HB10.out.size))
  clear hb
  go_wp2_with fail
  go_ret
  exact ⟨rfl, HB11.out⟩

end Go.Proofs.Ytpepijoppgbbfaa.Shf
