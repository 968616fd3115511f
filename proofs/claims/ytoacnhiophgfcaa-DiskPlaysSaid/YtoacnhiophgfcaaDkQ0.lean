/- disk: scripts. -/
import Derived.Test.YtoacnhiophgfcaaDkR
import Derived.Deep.Cut
namespace Go.Proofs.Ytoacnhiophgfcaa.Dk
open Go.RowKit Go.Proofs.Ytoacnhiophgfcaa.Gr

/-- A script's call; its Keep as the slice that it is. -/
structure OpT where
  kind : Int
  file : Int
  at_ : Int
  n : Int
  s : ByteArray
  kA : Option Addr
  kN : Nat
  kC : Nat
def OpT.cells (x : OpT) : List Value := [.int .i64 x.kind, .int .i64 x.file, .int .i64 x.at_, .int .i64 x.n, .string x.s, .slice x.kA x.kN x.kC]
def KO : Kind Try.prog OpT where
  T := 41
  size := 6
  bytes := 72
  zero := .agg #[.int .i64 0, .int .i64 0, .int .i64 0, .int .i64 0, .string ⟨#[]⟩, .slice none 0 0]
  enc := OpT.cells
  info := by kernel_rfl
  zsize := rfl
  pos := by decide
  len _ := rfl
  one x u hu := by simp [OpT.cells] at hu; rcases hu with rfl | rfl | rfl | rfl | rfl | rfl <;> rfl
theorem at_op {w : World} {g o : Nat} {L : List OpT} (hr : w.rangeAt g o (KO.flat L)) {i : Nat} {x : OpT} (hi : L[i]? = some x) : w.rangeAt g (o + i * 6) x.cells := fun j u hj => by
  have := range_thing (K := KO) hr hi (j := j) (u := u) hj
  rw [show o + i * 6 + j = o + (i * 6 + j) by omega]
  exact this
theorem op_info : (Try.prog.info? 41).map (·.size) = some 6 := by kernel_rfl

end Go.Proofs.Ytoacnhiophgfcaa.Dk
