/- ShaTold. -/
import Derived.Test.YtogpnfgjdnccdaaShaTe
namespace Go.Proofs.Ytogpnfgjdnccdaa.Sha
open Go.RowKit

/-- What the laws count of texts. -/
def totN (l : List ByteArray) : Nat := (l.map fun s => min s.size 16384 + 1).sum
theorem totN_snoc (l : List ByteArray) (s : ByteArray) : totN (l ++ [s]) = totN l + (min s.size 16384 + 1) := by simp [totN]
theorem totN_take (l : List ByteArray) (k : Nat) (s : ByteArray) (h : l[k]? = some s) : totN (l.take (k + 1)) = totN (l.take k) + (min s.size 16384 + 1) := by
  rw [List.take_add_one, h]
  exact totN_snoc _ _
theorem totN_small (l : List ByteArray) (h : totN l ≤ 16384) : l.length ≤ 16384 ∧ ∀ s ∈ l, s.size < 16384 := by
  induction l with
  | nil => simp
  | cons a l ih =>
    have e : totN (a :: l) = (min a.size 16384 + 1) + totN l := by simp [totN]
    rw [e] at h
    have hi := ih (by omega)
    have hl : l.length + 1 ≤ totN l + 1 := by
      clear ih hi h e
      induction l with
      | nil => simp [totN]
      | cons b l ih2 =>
        have e2 : totN (b :: l) = (min b.size 16384 + 1) + totN l := by simp [totN]
        rw [e2, List.length_cons]
        omega
    refine ⟨by rw [List.length_cons]; omega, ?_⟩
    intro s hs
    rcases List.mem_cons.1 hs with rfl | hs
    · omega
    · exact hi.2 s hs
theorem putText_len (l : List UInt8) : (Digit.putTextL l).length ≤ l.length + 10 := by
  have := Digit.putL_len l.length
  rw [Digit.putTextL, List.length_append]
  omega
theorem flat_len (l : List ByteArray) (h : ∀ s ∈ l, s.size < 16384) : (l.flatMap fun s => Digit.putTextL s.data.toList).length ≤ 11 * totN l := by
  induction l with
  | nil => simp
  | cons a l ih =>
    have e : totN (a :: l) = (min a.size 16384 + 1) + totN l := by simp [totN]
    have h1 := putText_len a.data.toList
    have h2 : a.data.toList.length = a.size := by rw [Array.length_toList]; rfl
    have h3 := h a (by simp)
    have h4 := ih fun s hs => h s (by simp [hs])
    rw [e, List.flatMap_cons, List.length_append]
    omega
theorem rowL_len (tag : ByteArray) (Q : List ByteArray) (ht : tag.size ≤ 16384) (h : totN Q ≤ 16384) : (rowL tag Q).length ≤ 200000 := by
  have h1 := putText_len tag.data.toList
  have h2 : tag.data.toList.length = tag.size := by rw [Array.length_toList]; rfl
  have h3 := flat_len Q (totN_small Q h).2
  unfold rowL
  rw [List.length_append]
  omega

theorem told_snoc (tag : ByteArray) (Q : List ByteArray) (k : Nat) (s : ByteArray) (h : Q[k]? = some s) :
    (ByteArray.mk (rowL tag (Q.take k)).toArray) ++ ⟨(Digit.putTextL s.data.toList).toArray⟩ = ⟨(rowL tag (Q.take (k + 1))).toArray⟩ := by
  rw [List.take_add_one, h]
  apply Digit.bytes_eq
  rw [ByteArray.data_append, Array.toList_append]
  exact (rowL_snoc tag (Q.take k) s).symm

/-- What is left of the told texts behind k of them. -/
def restL (Q : List ByteArray) (k : Nat) : List UInt8 := (Q.drop k).flatMap fun s => Digit.putTextL s.data.toList
theorem restL_at (Q : List ByteArray) (k : Nat) (s : ByteArray) (h : Q[k]? = some s) : restL Q k = Digit.putTextL s.data.toList ++ restL Q (k + 1) := by
  obtain ⟨hk, rfl⟩ := List.getElem?_eq_some_iff.1 h
  unfold restL
  rw [List.drop_eq_getElem_cons hk, List.flatMap_cons]
theorem rowL_rest (tag : ByteArray) (Q : List ByteArray) : rowL tag Q = Digit.putTextL tag.data.toList ++ restL Q 0 := rfl
theorem restL_len (Q : List ByteArray) (k : Nat) (h : totN Q ≤ 16384) : (restL Q k).length ≤ 200000 := by
  have h3 := flat_len Q (totN_small Q h).2
  have e : (Q.flatMap fun s => Digit.putTextL s.data.toList) = ((Q.take k).flatMap fun s => Digit.putTextL s.data.toList) ++ restL Q k := by
    unfold restL
    rw [← List.flatMap_append, List.take_append_drop]
  rw [e, List.length_append] at h3
  omega

end Go.Proofs.Ytogpnfgjdnccdaa.Sha
