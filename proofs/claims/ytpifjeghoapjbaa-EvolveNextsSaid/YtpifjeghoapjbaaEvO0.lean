/- evolve: signatures: the plain functions of Check. -/
import Derived.Test.YtpifjeghoapjbaaEvJ
namespace Go.Proofs.Ytpifjeghoapjbaa.Evolve
open Go.RowKit Go.Proofs.Ytpifjeghoapjbaa.Sha Go.Proofs.Ytpifjeghoapjbaa.Tree Go.Proofs.Ytpifjeghoapjbaa.Once

/-- The sides that a signature brings. -/
def sideL (sig : ByteArray) (d : Nat) : List (List UInt8) := (List.range d).map fun i => (sig.data.toList.drop (1024 + 32 * i)).take 32
theorem sideL_len (sig : ByteArray) (d : Nat) : (sideL sig d).length = d := by simp [sideL]
theorem sideL_get (sig : ByteArray) (d i : Nat) (hi : i < d) : (sideL sig d)[i]? = some ((sig.data.toList.drop (1024 + 32 * i)).take 32) := by simp [sideL, hi]
theorem sideL_succ (sig : ByteArray) (d : Nat) : sideL sig (d + 1) = sideL sig d ++ [(sig.data.toList.drop (1024 + 32 * d)).take 32] := by simp [sideL, List.range_succ]
theorem sideL_32 (sig : ByteArray) (d : Nat) (hs : sig.size = 1024 + 32 * d) : H32 (sideL sig d) := by
  intro h hh
  obtain ⟨i, hi, rfl⟩ := List.mem_map.1 hh
  rw [List.mem_range] at hi
  rw [List.length_take, List.length_drop, Array.length_toList, show sig.data.size = sig.size from rfl]
  omega
/-- Is a signature right, of a way that there is, of as many bytes as it must have? -/
def checkE (pub : List UInt8) (d p : Nat) (m : List UInt8) (sig : ByteArray) : Bool := overE (digitsE d p) (sideL sig d) 0 d (tellK m (sig.extract 0 1024).data.toList) == pub
theorem told_first (m : List UInt8) (sig : ByteArray) (d : Nat) (hs : sig.size = 1024 + 32 * d) : tellsH m (sig.extract 0 1024) = tellK m (sig.extract 0 1024).data.toList ∧ tellsE (sig.extract 0 1024) = 0 := by
  have h : (sig.extract 0 1024).size = 1024 := by rw [extract_size _ _ _ (by omega) (by omega)]
  exact ⟨if_pos h, if_pos h⟩

end Go.Proofs.Ytpifjeghoapjbaa.Evolve
