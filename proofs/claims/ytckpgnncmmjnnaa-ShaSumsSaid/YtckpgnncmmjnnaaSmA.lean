/- The document's own Sum: its statements by their numbers. -/
import Derived.Test.YtckpgnncmmjnnaaOwnB
import Derived.Test.YtckpgnncmmjnnaaShaRt
import Derived.Test.YtckpgnncmmjnnaaQTail
import Derived.Deep.OwnRows
import Derived.Deep.Cut
import Derived.BigQuiet
namespace Go.Proofs.Ytckpgnncmmjnnaa.Sha
open Go.RowKit

/-- The statement with this number. -/
def blkIn (n : Nat) : Code → Option Code
  | .block m c => if m = n then some (.block m c) else blkIn n c
  | .loop c => blkIn n c
  | .seq a b => match blkIn n a with
    | some c => some c
    | none => blkIn n b
  | .cond _ a b => match blkIn n a with
    | some c => some c
    | none => blkIn n b
  | _ => none
noncomputable def blkS (n : Nat) : Code := ((Try.f14.body.bind (blkIn n)).getD .skip)

theorem keep_frozen {w : World} {a : Addr} (h : w.frozen? a = false) : w.drew.frozen? a = false := h
theorem turn_quiet (x n : Nat) (z : Int) (w : World) (k : Nat) (hz : z = (n : Int)) (hx : x < 4294967296) (hn : n ≤ 31) :
    Calls Try.prog 36 #[.int .u32 x, .int .i64 z] (w.drewN k) fun e w' => e = .returned (.int .u32 (turnN x n)) ∧ ∃ m, w' = w.drewN m :=
  (turn_drew x n z (w.drewN k) hz hx hn).mono fun _ _ ⟨he, hw⟩ => ⟨he, k + 1, hw⟩
theorem big_x (h s c k w : Nat) : (((h : Int) + s + c + k) % 4294967296 + w) % 4294967296 = ((h + s + c + k + w) % 4294967296 : Nat) := by omega
theorem big_y (s m : Nat) : ((s : Int) + m) % 4294967296 = ((s + m) % 4294967296 : Nat) := by omega
theorem mix_x (ve vf vg vh kk ww : Nat) (le : ve < 4294967296) (lf : vf < 4294967296) (lg : vg < 4294967296) :
    (((vh : Int) + bits BinOp.xor IntKind.u32 (bits BinOp.xor IntKind.u32 (turnN ve 6) (turnN ve 11)) (turnN ve 25) +
          bits BinOp.or IntKind.u32 (bits BinOp.and IntKind.u32 ve vf) (bits BinOp.and IntKind.u32 (bits BinOp.xor IntKind.u32 ve 4294967295) vg) + kk) % 4294967296 + ww) % 4294967296 =
      (((vh + S1 ve + ch ve vf vg + kk + ww) % 4294967296 : Nat) : Int) := by
  rw [xor3 _ _ _ (turnN_lt ve 6 le (by omega)) (turnN_lt ve 11 le (by omega)) (turnN_lt ve 25 le (by omega)), ch_walk ve vf vg le lf lg, big_x]
  rfl
theorem mix_y (va vb vc : Nat) (la : va < 4294967296) (lb : vb < 4294967296) (lc : vc < 4294967296) :
    (bits BinOp.xor IntKind.u32 (bits BinOp.xor IntKind.u32 (turnN va 2) (turnN va 13)) (turnN va 22) +
        bits BinOp.or IntKind.u32 (bits BinOp.or IntKind.u32 (bits BinOp.and IntKind.u32 va vb) (bits BinOp.and IntKind.u32 va vc)) (bits BinOp.and IntKind.u32 vb vc)) % 4294967296 =
      (((S0 va + maj va vb vc) % 4294967296 : Nat) : Int) := by
  rw [xor3 _ _ _ (turnN_lt va 2 la (by omega)) (turnN_lt va 13 la (by omega)) (turnN_lt va 22 la (by omega)), maj_walk va vb vc la lb lc, big_y]
  rfl
/-- Eight words, those from k on moved up by one. -/
def shv (l : List Nat) (k : Nat) : List Nat := l.take (k + 1) ++ (l.drop k).take (7 - k)
theorem shv_at (l : List Nat) (hl : l.length = 8) (j : Nat) (hj : j < 7) : ∃ a b, (shv l (j + 1))[j]? = some a ∧ (shv l (j + 1))[j + 1]? = some b ∧ (shv l (j + 1)).set (j + 1) a = shv l j := by
  match l, hl with
  | [x0, x1, x2, x3, x4, x5, x6, x7], _ =>
    have h : j = 0 ∨ j = 1 ∨ j = 2 ∨ j = 3 ∨ j = 4 ∨ j = 5 ∨ j = 6 := by omega
    rcases h with rfl | rfl | rfl | rfl | rfl | rfl | rfl <;> exact ⟨_, _, rfl, rfl, rfl⟩
end Go.Proofs.Ytckpgnncmmjnnaa.Sha
