/- disk: how long a script may be. -/
import Derived.Test.YtoacnhiophgfcaaDkQ0
namespace Go.Proofs.Ytoacnhiophgfcaa.Dk
open Go.RowKit Go.Proofs.Ytoacnhiophgfcaa.Gr

def hN (L : List OpT) : Nat → Nat
  | 0 => 0
  | i + 1 => hN L i + (min ((L[i]?.map (·.s.size)).getD 0) 16384 + 8)
theorem hN_succ {L : List OpT} {i : Nat} {x : OpT} (h : L[i]? = some x) : hN L (i + 1) = hN L i + (min x.s.size 16384 + 8) := by rw [hN, h]; rfl
/-- What a script that is not too much is. -/
def Light (L : List OpT) : Prop := L.length ≤ 200 ∧ ∀ (i : Nat) (x : OpT), L[i]? = some x → x.s.size ≤ 16384 ∧ x.kN ≤ 1024

/-- What heavy answers. -/
def HeavyPost (L : List OpT) (w : World) (e : Ending) (w' : World) : Prop := (∃ b : Bool, e = .returned (.bool b) ∧ (b = false → Light L)) ∧ Below w.heap.size w w'

set_option maxRecDepth 100000 in
set_option maxHeartbeats 1600000 in
theorem code_heavy (v : Value) (L : List OpT) (w : World) (hA : KO.At w v L) (hL : L.length ≤ 9223372036854775807) :
    Calls Try.prog 22 #[v] w (HeavyPost L w) := by
  obtain ⟨va, vc, rfl, hvc⟩ := hA.form
  have HA := Lib.hid hA
  obtain ⟨m, hm⟩ : ∃ m, L.length = m := ⟨_, rfl⟩
  rw [hm] at hL hvc HA ⊢
  have HM := Lib.hid hm
  clear hA hm
  go_enter Try.func22, Try.ntmps22
  go_wp2_with fail
  go_loopw [3, 8] (fun nv iv wr => ∃ i : Nat, i ≤ m ∧ iv = .int .i64 i ∧ nv = .int .i64 (hN L i) ∧ hN L i ≤ 16384 ∧ (∀ (j : Nat) (x : OpT), j < i → L[j]? = some x → x.s.size ≤ 16384 ∧ x.kN ≤ 1024) ∧ Below w.heap.size w wr) (fun _ iv _ => m - (intOf iv).toNat)
  case atStart => exact ⟨0, Nat.zero_le _, rfl, rfl, Nat.zero_le _, fun j x hj => by omega, Below.refl _ _⟩
  case round =>
    obtain ⟨i, hi, rfl, rfl, hn, hall, hb⟩ := hrel
    by_cases hlt : i < m
    · have hlt2 : (i : Int) < (m : Int) := by omega
      obtain ⟨g, o, cap', hav, _, hr⟩ := (HA.out.kept hb).some (by rw [HM.out]; omega)
      injection hav with hav1 hav2 hav3
      subst hav1
      clear hav2 hav3
      have hx := List.getElem?_eq_getElem (show i < L.length by rw [HM.out]; exact hlt)
      obtain ⟨x, hxx⟩ : ∃ x, L[i]'(by rw [HM.out]; exact hlt) = x := ⟨_, rfl⟩
      rw [hxx] at hx
      have HX := Lib.hid (at_op hr hx)
      have HHN := Lib.hid (hN_succ hx)
      have HXX := Lib.hid hx
      have HB := Lib.hid hb
      have HALL := Lib.hid hall
      obtain ⟨a, ha⟩ : ∃ a, hN L i = a := ⟨_, rfl⟩
      rw [ha] at hn HHN
      rw [ha]
      have hai : (a : Int) ≤ 16384 := by omega
      have hq := heap_alloc_new wr (.cells #[.int .i64 x.kind, .int .i64 x.file, .int .i64 x.at_, .int .i64 x.n, .string x.s, .slice x.kA x.kN x.kC] 41)
      have hbq : Below w.heap.size w (wr.alloc (.cells #[.int .i64 x.kind, .int .i64 x.file, .int .i64 x.at_, .int .i64 x.n, .string x.s, .slice x.kA x.kN x.kC] 41)) := hb.alloc hb.size _
      clear hxx hr hx hb ha hall
      go_upto_region 5 with (refine wpList_load_mid rfl 41 (.tmp 10) rfl g (o + i * 6) rfl [.int .i64 x.kind, .int .i64 x.file, .int .i64 x.at_, .int .i64 x.n, .string x.s, .slice x.kA x.kN x.kC] _ HX.out Try.underlying41 rfl op_info ?_)
      generalize wr.alloc (.cells #[.int .i64 x.kind, .int .i64 x.file, .int .i64 x.at_, .int .i64 x.n, .string x.s, .slice x.kA x.kN x.kC] 41) = w2 at hq hbq ⊢
      obtain ⟨q, hqe⟩ : ∃ q, wr.heap.size = q := ⟨_, rfl⟩
      rw [hqe] at hq
      rw [hqe]
      have c4 := Lib.cell_of_heap hq 4
      have c5 := Lib.cell_of_heap hq 5
      have HB2 := Lib.hid hbq
      clear hq hbq hqe HX HB
      rcases Nat.lt_or_ge 16384 x.s.size with hs | hs
      · have hs1 : (16384 : Int) < (x.s.size : Int) := by omega
        have hbig : (16384 : Int) < (a : Int) + 16392 := by omega
        go_wp2_with fail
        go_ret
        exact ⟨⟨true, rfl, fun h => by cases h⟩, HB2.out⟩
      · have hs1 : ¬ (16384 : Int) < (x.s.size : Int) := by omega
        have hnn : hN L (i + 1) = a + (x.s.size + 8) := by rw [HHN.out, Nat.min_eq_left hs]
        have HNN := Lib.hid hnn
        clear hnn
        by_cases hbig : 16384 < a + (x.s.size + 8)
        · have hbi : (16384 : Int) < (a : Int) + ((x.s.size : Int) + 8) := by omega
          have hsz : (x.s.size : Int) ≤ 16384 := by omega
          go_wp2_with fail
          go_ret
          exact ⟨⟨true, rfl, fun h => by cases h⟩, HB2.out⟩
        · have hbi : ¬ (16384 : Int) < (a : Int) + ((x.s.size : Int) + 8) := by omega
          have hsz : (x.s.size : Int) ≤ 16384 := by omega
          by_cases hk : 1024 < x.kN
          · have hki : (1024 : Int) < (x.kN : Int) := by omega
            go_wp2_with fail
            go_ret
            exact ⟨⟨true, rfl, fun h => by cases h⟩, HB2.out⟩
          · have hki : ¬ (1024 : Int) < (x.kN : Int) := by omega
            go_wp2_with fail
            go_roundw
            case rel => exact ⟨i + 1, by omega, by go_num, by rw [HNN.out]; go_num, by rw [HNN.out]; omega, fun j y hj hy => by
              by_cases e : j = i
              · subst e
                rw [HXX.out] at hy
                injection hy with hy
                subst hy
                exact ⟨hs, by omega⟩
              · exact HALL.out j y (by omega) hy, HB2.out⟩
            case measure => simp [intOf]; omega
    · obtain rfl : i = m := by omega
      have HB := Lib.hid hb
      have HALL := Lib.hid hall
      by_cases h200 : 200 < i
      · have h2 : (200 : Int) < (i : Int) := by omega
        clear hb hall
        go_wp2_with fail
        go_ret
        exact ⟨⟨true, rfl, fun h => by cases h⟩, HB.out⟩
      · have h2 : ¬ (200 : Int) < (i : Int) := by omega
        clear hb hall
        go_wp2_with fail
        go_ret
        exact ⟨⟨false, rfl, fun _ => ⟨by rw [HM.out]; omega, fun j x hx => HALL.out j x (by rw [← HM.out]; exact (List.getElem?_eq_some_iff.1 hx).1) hx⟩⟩, HB.out⟩
end Go.Proofs.Ytoacnhiophgfcaa.Dk
