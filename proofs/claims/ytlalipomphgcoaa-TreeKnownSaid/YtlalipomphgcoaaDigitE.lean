/- The document's own answers: mintageref01.Put. -/
import Derived.Test.YtlalipomphgcoaaDigitD
import Derived.Deep.RegionWith
namespace Go.Proofs.Ytlalipomphgcoaa.Digit
open Go.RowKit

def byteIn : Option Value → Int
  | some (.int _ x) => x
  | _ => 0
def isByte : Option Value → Bool
  | some (.int .u8 _) => true
  | _ => false

@[go_sem] theorem isByte_int (x : Int) : isByte (some (.int .u8 x)) = true := rfl
@[go_sem] theorem byteIn_int (x : Int) : byteIn (some (.int .u8 x)) = x := rfl

@[go_sem] theorem strOne_size (x : Int) : (strOfNums [x]).size = 1 := rfl

@[go_sem] theorem conv_one (wx : World) (b : Nat) (h : isByte (wx.cell? ⟨b, 0, none⟩) = true) :
    (convert 56 9 (.slice (some ⟨b, 0, none⟩) 1 1)).run Try.prog wx = .ok (.string (strOfNums [byteIn (wx.cell? ⟨b, 0, none⟩)])) wx := by
  unfold isByte at h
  split at h
  · rename_i x hx
    refine conv_row wx b 1 1 _ rfl fun i hi => ?_
    obtain rfl : i = 0 := by omega
    rw [hx]
    rfl
  · simp at h

theorem cast128 (n : Nat) : ((n : Int) % 128 + 128).toNat = n % 128 + 128 := by omega

theorem bcell {W w1 : World} (hb : Below W.heap.size W w1) : (∀ b o, b < W.heap.size → w1.cell? ⟨b, o, none⟩ = W.cell? ⟨b, o, none⟩) ∧ (∀ b o, b < W.heap.size → w1.frozen? ⟨b, o, none⟩ = W.frozen? ⟨b, o, none⟩) :=
  ⟨fun b o h => hb.cell (p := ⟨b, o, none⟩) h, fun b o h => hb.frozen (p := ⟨b, o, none⟩) h⟩

set_option maxRecDepth 100000 in
set_option maxHeartbeats 400000 in
theorem refPut_low (n : Nat) (w : World) (h : n < 128) :
    Calls Try.prog 89 #[.int .u64 n] w fun e w' => e = .returned (.string ⟨#[UInt8.ofNat n]⟩) ∧ Below w.heap.size w w' := by
  go_enter Try.func89, Try.ntmps89
  go_wp2_with fail
  go_ret
  exact ⟨ret_str (by simp [strOfNums]), (Below.refl _ _).alloc (Nat.le_refl _) _⟩

set_option maxRecDepth 100000 in
set_option maxHeartbeats 400000 in
theorem refPut_any (f : Nat) : ∀ (n : Nat) (w : World), n < 128 ^ (f + 1) → n ≤ 18446744073709551615 → f ≤ 9 →
    Calls Try.prog 89 #[.int .u64 n] w fun e w' => e = .returned (.string ⟨(putF (f + 1) n).toArray⟩) ∧ Below w.heap.size w w' := by
  induction f with
  | zero =>
    intro n w h _ _
    have h' : n < 128 := by simpa using h
    refine (refPut_low n w h').mono fun e w' hh => ?_
    rw [putF, if_pos h']
    exact hh
  | succ f ih =>
    intro n w h h64 hf
    rw [putF]
    by_cases h' : n < 128
    · rw [if_pos h']
      exact refPut_low n w h'
    · rw [if_neg h']
      have IH := Lib.hid (fun w => ih (n / 128) w (by rw [Nat.pow_succ] at h; omega) (by omega) (by omega))
      clear h
      have hr : ((n : Int)).tmod 128 = ((n % 128 : Nat) : Int) := Int.tmod_eq_emod_of_nonneg (by omega)
      have hw : IntKind.u64.wrap (((n % 128 : Nat) : Int) + 128) = ((n % 128 + 128 : Nat) : Int) := by rw [IntWalk.u64_in _ ⟨by omega, by omega⟩]; rfl
      have hw8 : IntKind.u8.wrap ((n % 128 + 128 : Nat) : Int) = ((n % 128 + 128 : Nat) : Int) := IntWalk.u8_in _ ⟨by omega, by omega⟩
      have hq : IntKind.u64.wrap ((n : Int) / 128) = ((n / 128 : Nat) : Int) := by rw [IntWalk.u64_in _ ⟨by omega, by omega⟩]; rfl
      have hlen := putF_len (f + 1) (n / 128)
      go_enter Try.func89, Try.ntmps89
      go_wp2_with fail
      go_region_with ((go_at_call 89; refine (IH.out _).mono ?_; rintro e w' ⟨rfl, hb⟩; obtain ⟨hc, hf⟩ := bcell hb))
      all_goals
        go_wp2
        go_ret
        refine ⟨ret_str (bytes_eq (by simp [strOfNums, cast128])), ?_⟩
        first
          | exact (((Below.refl _ _).alloc (Nat.le_refl _) _).drew).trans (hb.mono (by simp))
          | exact ((Below.refl _ _).drew.trans (hb.mono (Nat.le_refl _))).alloc hb.size _

end Go.Proofs.Ytlalipomphgcoaa.Digit
