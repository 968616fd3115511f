/- shelf: heavy; calls in a script. -/
import Derived.Test.YtpepijoppgbbfaaSfK
namespace Go.Proofs.Ytpepijoppgbbfaa.Shf
open Go.RowKit Go.Proofs.Ytpepijoppgbbfaa.Gr

/-- A call in a script. -/
structure OpT where
  kind : Int
  n : Int
  key : ByteArray
  v : Nat
def KO : Kind Try.prog OpT where
  T := 39
  size := 4
  bytes := 40
  zero := .agg #[.int .i64 0, .int .i64 0, .string ⟨#[]⟩, .int .u64 0]
  enc x := [.int .i64 x.kind, .int .i64 x.n, .string x.key, .int .u64 x.v]
  info := by kernel_rfl
  zsize := rfl
  pos := by decide
  len _ := rfl
  one x u hu := by
    simp at hu
    rcases hu with rfl | rfl | rfl | rfl <;> rfl

theorem op_cells {w : World} {l : List OpT} {g o : Nat} (hr : w.rangeAt g o (KO.flat l)) {i : Nat} {x : OpT} (hi : l[i]? = some x) :
    w.cell? ⟨g, o + i * 4, none⟩ = some (.int .i64 x.kind) ∧ w.cell? ⟨g, o + i * 4 + 1, none⟩ = some (.int .i64 x.n) ∧ w.cell? ⟨g, o + i * 4 + 2, none⟩ = some (.string x.key) ∧ w.cell? ⟨g, o + i * 4 + 3, none⟩ = some (.int .u64 x.v) := by
  have h0 := range_thing hr hi (j := 0) (u := .int .i64 x.kind) rfl
  have h1 := range_thing hr hi (j := 1) (u := .int .i64 x.n) rfl
  have h2 := range_thing hr hi (j := 2) (u := .string x.key) rfl
  have h3 := range_thing hr hi (j := 3) (u := .int .u64 x.v) rfl
  rw [← Nat.add_assoc] at h0 h1 h2 h3
  exact ⟨h0, h1, h2, h3⟩

set_option maxRecDepth 100000 in
set_option maxHeartbeats 3200000 in
theorem heavy_any (v : Value) (l : List OpT) (w : World) (hT : KO.At w v l) (hl : l.length ≤ 9223372036854775807) :
    Calls Try.prog 14 #[v] w fun e w' => ∃ b, e = .returned (.bool b) ∧ (b = false → l.length ≤ 300) ∧ Below w.heap.size w w' := by
  obtain ⟨av, cap, rfl, hcap⟩ := hT.form
  have HT := Lib.hid hT
  clear hT
  go_enter Try.func14, Try.ntmps14
  go_wp2_with fail
  go_loopw [3, 8] (fun nv iv wr => ∃ (i m : Nat), i ≤ l.length ∧ m ≤ 16384 ∧ iv = .int .i64 i ∧ nv = .int .i64 m ∧ Below w.heap.size w wr) (fun _ iv _ => l.length - (intOf iv).toNat)
  case atStart => exact ⟨0, 0, Nat.zero_le _, by omega, rfl, rfl, Below.refl _ _⟩
  case round =>
    obtain ⟨i, m, hi, hm, rfl, rfl, hb⟩ := hrel
    have HB := Lib.hid hb
    by_cases hlt : i < l.length
    · obtain ⟨g, o, cap', hav, _, hr⟩ := (HT.out.kept hb).some (by omega)
      have hx := List.getElem?_eq_getElem hlt
      obtain ⟨x, hxx⟩ : ∃ x, l[i] = x := ⟨_, rfl⟩
      rw [hxx] at hx
      obtain ⟨c0, c1, c2, c3⟩ := op_cells hr hx
      injection hav with hav1 _ hav2
      subst hav1 hav2
      have hlti : (i : Int) < (l.length : Int) := by omega
      clear hxx hr hx hb
      obtain ⟨q, hq⟩ : ∃ q : Nat, min (x.key.size : Int) 4096 = (q : Int) := ⟨min x.key.size 4096, by omega⟩
      have hq4 : q ≤ 4096 := by omega
      by_cases h16 : m + q ≤ 16384
      · have h16i : (m : Int) + (q : Int) ≤ 16384 := by omega
        have h16j : ¬ (16384 < (m : Int) + (q : Int)) := by omega
        go_wp2_with fail
        go_roundw
        case rel => exact ⟨i + 1, m + q, by omega, h16, by go_num, by go_num, HB.out.alloc HB.out.size _⟩
        case measure => simp [intOf]; omega
      · have h16i : ¬ (m : Int) + (q : Int) ≤ 16384 := by omega
        have h16j : 16384 < (m : Int) + (q : Int) := by omega
        go_wp2_with fail
        go_ret
        first
          | exact ⟨true, rfl, fun h => (by cases h), HB.out.alloc HB.out.size _⟩
          | exact Or.inr ⟨rfl, HB.out.alloc HB.out.size _⟩
    · obtain rfl : i = l.length := by omega
      have hlti : ¬ ((l.length : Int) < (l.length : Int)) := by omega
      clear hb
      by_cases h300 : l.length ≤ 300
      · have h3i : ¬ (300 < (l.length : Int)) := by omega
        go_wp2_with fail
        go_ret
        first
          | exact ⟨false, rfl, fun _ => h300, HB.out⟩
          | exact Or.inl ⟨rfl, h300, HB.out⟩
          | exact Or.inl ⟨rfl, HB.out⟩
          | exact ⟨Or.inl rfl, HB.out⟩
          | exact ⟨rfl, h300, HB.out⟩
      · have h3i : 300 < (l.length : Int) := by omega
        go_wp2_with fail
        go_ret
        first
          | exact ⟨true, rfl, fun h => (by cases h), HB.out⟩
          | exact Or.inr ⟨rfl, HB.out⟩
          | exact ⟨Or.inr rfl, HB.out⟩
          | exact ⟨rfl, HB.out⟩

end Go.Proofs.Ytpepijoppgbbfaa.Shf
