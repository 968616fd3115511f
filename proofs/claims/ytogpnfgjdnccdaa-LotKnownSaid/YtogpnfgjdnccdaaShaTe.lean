/- ShaTold's own: untold. -/
import Derived.Test.YtogpnfgjdnccdaaShaTd
namespace Go.Proofs.Ytogpnfgjdnccdaa.Sha
open Go.RowKit

theorem byte_at (S : ByteArray) (N j : Nat) (q : List UInt8) (h : S.data.toList = Digit.putL N ++ q) (hj : j < (Digit.putL N).length) (hs : j < S.size) (b : UInt8) (hb : (Digit.putL N)[j]? = some b) : S[j] = b := by
  have h1 : S.data.toList[j]? = some b := by rw [h, List.getElem?_append_left hj]; exact hb
  obtain ⟨_, h2⟩ := List.getElem?_eq_some_iff.1 h1
  rw [Array.getElem_toList] at h2
  exact h2

theorem rest_texts (S : ByteArray) (t r : List UInt8) (L : Nat) (h : S.data.toList = Digit.putTextL t ++ r) (hL : (Digit.putL t.length).length = L) :
    (S.extract L S.size).extract 0 t.length = ⟨t.toArray⟩ ∧ (S.extract L S.size).extract t.length (S.size - L) = ⟨r.toArray⟩ := by
  have hd : (S.extract L S.size).data.toList = t ++ r := by
    rw [Lib.extract_data, h, Digit.putTextL, List.append_assoc, List.drop_append_of_le_length (by omega), List.drop_of_length_le (by omega), List.nil_append, List.take_of_length_le]
    have : S.data.toList.length = S.size := by rw [Array.length_toList]; rfl
    rw [h, Digit.putTextL] at this
    simp at this
    simp
    omega
  have hsz : S.size - L = t.length + r.length := by
    have : S.data.toList.length = S.size := by rw [Array.length_toList]; rfl
    rw [h, Digit.putTextL] at this
    simp at this
    omega
  constructor
  · apply Digit.bytes_eq
    rw [Lib.extract_data, hd]
    simp
  · apply Digit.bytes_eq
    rw [Lib.extract_data, hd, hsz]
    simp

end Go.Proofs.Ytogpnfgjdnccdaa.Sha
