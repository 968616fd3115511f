/- works, ShaKnown, ShaRoots. -/
import Derived.Test.YtlalipomphgcoaaShaOf
import Derived.Test.YtlalipomphgcoaaShaH
namespace Go.Proofs.Ytlalipomphgcoaa.Sha
open Go.RowKit

def abcS : List UInt8 := [186, 120, 22, 191, 143, 1, 207, 234, 65, 65, 64, 222, 93, 174, 34, 35, 176, 3, 97, 163, 150, 23, 122, 156, 180, 16, 255, 97, 242, 0, 21, 173]
def noneS : List UInt8 := [227, 176, 196, 66, 152, 252, 28, 20, 154, 251, 244, 200, 153, 111, 185, 36, 39, 174, 65, 228, 100, 155, 147, 76, 164, 149, 153, 27, 120, 82, 184, 85]
theorem shaS_abc : shaS ⟨#[97, 98, 99]⟩ = abcS := by
  have h : natsOf ⟨#[97, 98, 99]⟩ = [97, 98, 99] := rfl
  unfold shaS
  rw [h, sha_abc]
  rfl
theorem shaS_none : shaS ⟨#[]⟩ = noneS := by
  have h : natsOf ⟨#[]⟩ = [] := rfl
  unfold shaS
  rw [h, sha_none]
  rfl
theorem hex_abc : ByteArray.mk (hexL abcS).toArray = ⟨#[98, 97, 55, 56, 49, 54, 98, 102, 56, 102, 48, 49, 99, 102, 101, 97, 52, 49, 52, 49, 52, 48, 100, 101, 53, 100, 97, 101, 50, 50, 50, 51, 98, 48, 48, 51, 54, 49, 97, 51, 57, 54, 49, 55, 55, 97, 57, 99, 98, 52, 49, 48, 102, 102, 54, 49, 102, 50, 48, 48, 49, 53, 97, 100]⟩ := by rfl
theorem hex_none : ByteArray.mk (hexL noneS).toArray = ⟨#[101, 51, 98, 48, 99, 52, 52, 50, 57, 56, 102, 99, 49, 99, 49, 52, 57, 97, 102, 98, 102, 52, 99, 56, 57, 57, 54, 102, 98, 57, 50, 52, 50, 55, 97, 101, 52, 49, 101, 52, 54, 52, 57, 98, 57, 51, 52, 99, 97, 52, 57, 53, 57, 57, 49, 98, 55, 56, 53, 50, 98, 56, 53, 53]⟩ := by rfl

theorem sum_abc (w : World) : Calls Try.prog 11 #[.string ⟨#[97, 98, 99]⟩] w fun e w' => e = .returned (.agg (valsB abcS).toArray) ∧ Below w.heap.size w w' := by
  have h := code_sum ⟨#[97, 98, 99]⟩ (by decide) w
  rw [shaS_abc] at h
  exact h
theorem sum_none (w : World) : Calls Try.prog 11 #[.string ⟨#[]⟩] w fun e w' => e = .returned (.agg (valsB noneS).toArray) ∧ Below w.heap.size w w' := by
  have h := code_sum ⟨#[]⟩ (by decide) w
  rw [shaS_none] at h
  exact h
def nought63 : ByteArray := ⟨(Lib.repeatL [48] 63).toArray⟩
theorem rep63 (w : World) : Calls Try.prog 18 #[.string ⟨#[48]⟩, .int .i64 63] w fun e w' => e = .returned (.string nought63) ∧ Below w.heap.size w w' :=
  Try.strings_Repeat ⟨#[48]⟩ 63 w (by decide) (by decide)
theorem size63 : nought63.size = 63 := by decide
theorem row_t : rowL ⟨#[116]⟩ [⟨#[97, 98]⟩] = [1, 116, 2, 97, 98] := by decide
theorem of_t (w : World) : Calls Try.prog 13 #[.string ⟨#[116]⟩, .slice (some ⟨w.heap.size, 0, none⟩) 1 1] (w.alloc (.cells #[.string ⟨#[97, 98]⟩] 9))
    fun e w' => e = .returned (.agg (valsB (shaS ⟨#[1, 116, 2, 97, 98]⟩)).toArray) ∧ Below w.heap.size w w' := by
  have h := code_of ⟨#[116]⟩ (.slice (some ⟨w.heap.size, 0, none⟩) 1 1) [⟨#[97, 98]⟩] (w.alloc (.cells #[.string ⟨#[97, 98]⟩] 9))
    (Or.inr ⟨w.heap.size, 0, 1, rfl, by decide, fun i s hs => by
      match i, hs with
      | 0, hs =>
        simp at hs
        subst hs
        rw [World.cell?_alloc_mark]
        rfl⟩) (by decide) (fun s hs => by simp at hs; subst hs; decide) (by rw [row_t]; decide) (by decide)
  rw [row_t] at h
  refine h.mono ?_
  rintro e w' ⟨he, hb⟩
  exact ⟨he, ((Below.refl _ _).alloc (Nat.le_refl _) _).trans (hb.mono (by simp))⟩

end Go.Proofs.Ytlalipomphgcoaa.Sha
