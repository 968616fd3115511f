/- digit.PutText, digit.TakeText. -/
import Derived.Test.YtlalipomphgcoaaDigitC
namespace Go.Proofs.Ytlalipomphgcoaa.Digit
open Go.RowKit

theorem bytes_eq {a : ByteArray} {l : List UInt8} (h : a.data.toList = l) : a = ⟨l.toArray⟩ := by
  apply ByteArray.ext
  apply Array.toList_inj.1
  rw [h]

set_option maxRecDepth 100000 in
set_option maxHeartbeats 400000 in
/-- digit.PutText -/
theorem putText_any (s : ByteArray) (w : World) (hs : s.size ≤ 70368744177664) :
    Calls Try.prog 36 #[.string s] w fun e w' => e = .returned (.string ⟨(putTextL s.data.toList).toArray⟩) ∧ Below w.heap.size w w' := by
  have hl := putL_len s.size
  go_enter Try.func36, Try.ntmps36
  go_wp2_with (go_at_call 66; refine (put_any _ _ (by omega)).mono ?_; rintro e w' ⟨rfl, hb⟩)
  go_ret
  exact ⟨ret_str (bytes_eq (by simp [putTextL])), hb⟩

theorem takeText_err (l : List UInt8) (most : Int) (h : (takeL l).2.2 ≠ 0) : takeTextL l most = ([], 0, (takeL l).2.2) := by
  unfold takeTextL
  rw [if_pos h]
theorem takeText_long (l : List UInt8) (most : Int) (n k : Nat) (ht : takeL l = (n, k, 0)) (h : most < 0 ∨ most < n) : takeTextL l most = ([], 0, 3) := by
  unfold takeTextL
  rw [ht]
  rw [if_neg (by simp), if_pos h]
theorem takeText_short (l : List UInt8) (most : Int) (n k : Nat) (ht : takeL l = (n, k, 0)) (h0 : ¬ most < 0) (h1 : ¬ most < n) (h : l.length - k < n) : takeTextL l most = ([], 0, 10) := by
  unfold takeTextL
  rw [ht]
  rw [if_neg (by simp), if_neg (by rintro (h | h) <;> contradiction), if_pos h]
theorem takeText_fits (l : List UInt8) (most : Int) (n k : Nat) (ht : takeL l = (n, k, 0)) (h0 : ¬ most < 0) (h1 : ¬ most < n) (h : ¬ l.length - k < n) : takeTextL l most = ((l.drop k).take n, k + n, 0) := by
  unfold takeTextL
  rw [ht]
  rw [if_neg (by simp), if_neg (by rintro (h | h) <;> contradiction), if_neg h]
theorem ret3_text {a b : ByteArray} {x y : Int} {k : IntKind} {c : Value} (h : a = b) (g : x = y) : Ending.returned (.tuple #[.string a, .int k x, c]) = .returned (.tuple #[.string b, .int k y, c]) := by rw [h, g]

end Go.Proofs.Ytlalipomphgcoaa.Digit
