/- The document's own answers: sums of wide numbers. -/
import Derived.Test.YtogpnfgjdnccdaaWideW
import Derived.Deep.RegionHeld3
namespace Go.Proofs.Ytogpnfgjdnccdaa.Wide
open Go.RowKit

/-- Digit by digit. -/
def sumsL (ah al bh bl : Nat) : List Nat := [al % 4294967296 + bl % 4294967296, al / 4294967296 + bl / 4294967296, ah % 4294967296 + bh % 4294967296, ah / 4294967296 + bh / 4294967296]

theorem sumsL_at (ah al bh bl k x y : Nat) (hx : (ofL ah al)[k]? = some x) (hy : (ofL bh bl)[k]? = some y) : (sumsL ah al bh bl)[k]? = some (x + y) := by
  unfold ofL at hx hy
  unfold sumsL
  match k, hx, hy with
  | 0, hx, hy => simp at hx hy ⊢; omega
  | 1, hx, hy => simp at hx hy ⊢; omega
  | 2, hx, hy => simp at hx hy ⊢; omega
  | 3, hx, hy => simp at hx hy ⊢; omega
  | k + 4, hx, _ => simp at hx

theorem ofL_at (h l k : Nat) (hk : k < 4) (hh : h < 18446744073709551616) (hl : l < 18446744073709551616) : ∃ x, (ofL h l)[k]? = some x ∧ x < 4294967296 := by
  unfold ofL
  match k, hk with
  | 0, _ => exact ⟨_, rfl, by omega⟩
  | 1, _ => exact ⟨_, rfl, by omega⟩
  | 2, _ => exact ⟨_, rfl, by omega⟩
  | 3, _ => exact ⟨_, rfl, by omega⟩

/-- What the carried sums tell. -/
theorem sums_told (ah al bh bl : Nat) :
    ∃ s0 s1 s2 s3 o, carryL 0 (sumsL ah al bh bl) = [s0, s1, s2, s3, o] ∧ s0 < 4294967296 ∧ s1 < 4294967296 ∧ s2 < 4294967296 ∧ s3 < 4294967296 ∧
      (s3 * 4294967296 + s2) * 18446744073709551616 + (s1 * 4294967296 + s0) + o * 340282366920938463463374607431768211456 = ah * 18446744073709551616 + al + (bh * 18446744073709551616 + bl) := by
  refine ⟨_, _, _, _, _, rfl, Nat.mod_lt _ (by omega), Nat.mod_lt _ (by omega), Nat.mod_lt _ (by omega), Nat.mod_lt _ (by omega), ?_⟩
  omega

theorem own_take (w : World) (B g cap ah al bh bl : Nat) (h : w.ownsRow B 26 1 (.slice (some ⟨g, 0, none⟩) 4 cap) 4 (vals ((sumsL ah al bh bl).take 4))) : Dig w g (sumsL ah al bh bl) := by
  have e : (sumsL ah al bh bl).take 4 = sumsL ah al bh bl := List.take_of_length_le (Nat.le_refl 4)
  rw [e] at h
  exact own_cells h

theorem carry_sums (g cap ah al bh bl : Nat) (w : World) (hd : Dig w g (sumsL ah al bh bl)) (h1 : ah < 18446744073709551616) (h2 : al < 18446744073709551616) (h3 : bh < 18446744073709551616) (h4 : bl < 18446744073709551616) :
    Calls Try.prog 43 #[.slice (some ⟨g, 0, none⟩) 4 cap] w fun e w' => ∃ g' cap', e = .returned (.slice (some ⟨g', 0, none⟩) 5 cap') ∧ Dig w' g' (carryL 0 (sumsL ah al bh bl)) ∧ Below w.heap.size w w' :=
  carry_digits g cap (sumsL ah al bh bl) w hd (by simp [sumsL]) (by
    intro x hx
    simp [sumsL] at hx
    omega)

theorem wide_sums (g cap ah al bh bl X e : Nat) (w : World) (hd : Dig w g (carryL 0 (sumsL ah al bh bl)))
    (hX : plusN (ah * 18446744073709551616 + al) (bh * 18446744073709551616 + bl) = (X, e)) :
    ∃ ok : Bool, Calls Try.prog 42 #[.slice (some ⟨g, 0, none⟩) 5 cap] w (fun r w' =>
      r = .returned (.tuple #[.agg #[.int .u64 (hiN X), .int .u64 (loN X)], .bool ok]) ∧ Below w.heap.size w w') ∧ (ok = true → e = 0) ∧ (ok = false → e = 9 ∧ hiN X = 0 ∧ loN X = 0) := by
  obtain ⟨a0, a1, a2, a3, o, hcl, b0, b1, b2, b3, hval⟩ := sums_told ah al bh bl
  rw [hcl] at hd
  unfold plusN at hX
  obtain ⟨S, hS⟩ : ∃ S, ah * 18446744073709551616 + al + (bh * 18446744073709551616 + bl) = S := ⟨_, rfl⟩
  rw [hS] at hX hval
  clear hS hcl
  refine wide_told g cap 5 [a0, a1, a2, a3, o] a0 a1 a2 a3 _ X e w hd rfl (by omega) rfl rfl rfl rfl b0 b1 b2 b3 ?_ ?_ hX
  · intro hS
    have ho : o = 0 := by omega
    refine ⟨?_, by omega⟩
    intro i x hi hx
    match i, hi, hx with
    | 4, _, hx => simp at hx; omega
    | i + 5, _, hx => simp at hx
  · intro hS
    exact ⟨4, o, by omega, rfl, by omega⟩

end Go.Proofs.Ytogpnfgjdnccdaa.Wide
