/- reel: scripts; how long one may be. -/
import Derived.Test.YtepcfmigkhacgaaDoorRmG
import Derived.Deep.Cut
namespace Go.Proofs.YtepcfmigkhacgaaDoor.Rl
open Go.RowKit Go.Proofs.YtepcfmigkhacgaaDoor.Gr Go.Proofs.YtepcfmigkhacgaaDoor.Frame Go.Proofs.YtepcfmigkhacgaaDoor.Dk

/-- A script's call; its Keep as the slice that it is. -/
structure OpR where
  kind : Int
  n : Int
  s : ByteArray
  kA : Option Addr
  kN : Nat
  kC : Nat
def OpR.cells (x : OpR) : List Value := [.int .i64 x.kind, .int .i64 x.n, .string x.s, .slice x.kA x.kN x.kC]
def KE : Kind Tryd.prog OpR where
  T := 45
  size := 4
  bytes := 56
  zero := .agg #[.int .i64 0, .int .i64 0, .string ⟨#[]⟩, .slice none 0 0]
  enc := OpR.cells
  info := by kernel_rfl
  zsize := rfl
  pos := by decide
  len _ := rfl
  one x u hu := by simp [OpR.cells] at hu; rcases hu with rfl | rfl | rfl | rfl <;> rfl
theorem at_opR {w : World} {g o : Nat} {L : List OpR} (hr : w.rangeAt g o (KE.flat L)) {i : Nat} {x : OpR} (hi : L[i]? = some x) : w.rangeAt g (o + i * 4) x.cells := fun j u hj => by
  have := range_thing (K := KE) hr hi (j := j) (u := u) hj
  rw [show o + i * 4 + j = o + (i * 4 + j) by omega]
  exact this
theorem opR_info : (Tryd.prog.info? 45).map (·.size) = some 4 := by kernel_rfl

def hR (L : List OpR) : Nat → Nat
  | 0 => 0
  | i + 1 => hR L i + (min ((L[i]?.map (·.s.size)).getD 0) 16384 + 4)
theorem hR_succ {L : List OpR} {i : Nat} {x : OpR} (h : L[i]? = some x) : hR L (i + 1) = hR L i + (min x.s.size 16384 + 4) := by rw [hR, h]; rfl
/-- What a script that is not too much is. -/
def LightR (L : List OpR) : Prop := L.length ≤ 200 ∧ ∀ (i : Nat) (x : OpR), L[i]? = some x → x.s.size ≤ 16384 ∧ x.kN ≤ 1024

/-- What heavy answers. -/
def HeavyR (L : List OpR) (w : World) (e : Ending) (w' : World) : Prop := (∃ b : Bool, e = .returned (.bool b) ∧ (b = false → LightR L)) ∧ Below w.heap.size w w'

set_option maxRecDepth 100000 in
set_option maxHeartbeats 1600000 in
theorem heavy_any (v : Value) (L : List OpR) (w : World) (hA : KE.At w v L) (hL : L.length ≤ 9223372036854775807) :
    Calls Tryd.prog 19 #[v] w (HeavyR L w) := by
  obtain ⟨va, vc, rfl, hvc⟩ := hA.form
  have HA := Lib.hid hA
  obtain ⟨m, hm⟩ : ∃ m, L.length = m := ⟨_, rfl⟩
  rw [hm] at hL hvc HA ⊢
  have HM := Lib.hid hm
  clear hA hm
  go_enter Tryd.func19, Tryd.ntmps19
  go_wp2_with fail
  go_loopw [3, 8] (fun nv iv wr => ∃ i : Nat, i ≤ m ∧ iv = .int .i64 i ∧ nv = .int .i64 (hR L i) ∧ hR L i ≤ 8192 ∧ (∀ (j : Nat) (x : OpR), j < i → L[j]? = some x → x.s.size ≤ 16384 ∧ x.kN ≤ 1024) ∧ Below w.heap.size w wr) (fun _ iv _ => m - (intOf iv).toNat)
  case atStart => exact ⟨0, Nat.zero_le _, rfl, rfl, Nat.zero_le _, fun j x hj => by omega, Below.refl _ _⟩
  case round =>
    obtain ⟨i, hi, rfl, rfl, hn, hall, hb⟩ := hrel
    by_cases hlt : i < m
    · have hlt2 : (i : Int) < (m : Int) := by omega
      obtain ⟨g, o, cap', hav, _, hr⟩ := (HA.out.kept hb).some (by rw [HM.out]; omega)
      injection hav with hav1 hav2 hav3
      subst hav1
      clear hav2 hav3
      have hx := List.getElem?_eq_getElem (show i < L.length by rw [HM.out]; exact hlt)
      obtain ⟨x, hxx⟩ : ∃ x, L[i]'(by rw [HM.out]; exact hlt) = x := ⟨_, rfl⟩
      rw [hxx] at hx
      have HX := Lib.hid (at_opR hr hx)
      have HHN := Lib.hid (hR_succ hx)
      have HXX := Lib.hid hx
      have HB := Lib.hid hb
      have HALL := Lib.hid hall
      obtain ⟨a, ha⟩ : ∃ a, hR L i = a := ⟨_, rfl⟩
      rw [ha] at hn HHN
      rw [ha]
      have hai : (a : Int) ≤ 8192 := by omega
      have hq := heap_alloc_new wr (.cells #[.int .i64 x.kind, .int .i64 x.n, .string x.s, .slice x.kA x.kN x.kC] 45)
      have hbq : Below w.heap.size w (wr.alloc (.cells #[.int .i64 x.kind, .int .i64 x.n, .string x.s, .slice x.kA x.kN x.kC] 45)) := hb.alloc hb.size _
      clear hxx hr hx hb ha hall
      go_upto_region 5 with (refine wpList_load_mid rfl 45 (.tmp 10) rfl g (o + i * 4) rfl [.int .i64 x.kind, .int .i64 x.n, .string x.s, .slice x.kA x.kN x.kC] _ HX.out Tryd.underlying45 rfl opR_info ?_)
      generalize wr.alloc (.cells #[.int .i64 x.kind, .int .i64 x.n, .string x.s, .slice x.kA x.kN x.kC] 45) = w2 at hq hbq ⊢
      obtain ⟨q, hqe⟩ : ∃ q, wr.heap.size = q := ⟨_, rfl⟩
      rw [hqe] at hq
      rw [hqe]
      have c4 := Lib.cell_of_heap hq 2
      have c5 := Lib.cell_of_heap hq 3
      have HB2 := Lib.hid hbq
      clear hq hbq hqe HX HB
      rcases Nat.lt_or_ge 16384 x.s.size with hs | hs
      · have hs1 : (16384 : Int) < (x.s.size : Int) := by omega
        have hbig : (8192 : Int) < (a : Int) + 16388 := by omega
        go_wp2_with fail
        go_ret
        exact ⟨⟨true, rfl, fun h => by cases h⟩, HB2.out⟩
      · have hs1 : ¬ (16384 : Int) < (x.s.size : Int) := by omega
        have hnn : hR L (i + 1) = a + (x.s.size + 4) := by rw [HHN.out, Nat.min_eq_left hs]
        have HNN := Lib.hid hnn
        clear hnn
        by_cases hbig : 8192 < a + (x.s.size + 4)
        · have hbi : (8192 : Int) < (a : Int) + ((x.s.size : Int) + 4) := by omega
          have hsz : (x.s.size : Int) ≤ 16384 := by omega
          go_wp2_with fail
          go_ret
          exact ⟨⟨true, rfl, fun h => by cases h⟩, HB2.out⟩
        · have hbi : ¬ (8192 : Int) < (a : Int) + ((x.s.size : Int) + 4) := by omega
          have hsz : (x.s.size : Int) ≤ 16384 := by omega
          by_cases hk : 1024 < x.kN
          · have hki : (1024 : Int) < (x.kN : Int) := by omega
            go_wp2_with fail
            go_ret
            exact ⟨⟨true, rfl, fun h => by cases h⟩, HB2.out⟩
          · have hki : ¬ (1024 : Int) < (x.kN : Int) := by omega
            go_wp2_with fail
            go_roundw
            case rel => exact ⟨i + 1, by omega, by go_num, by rw [HNN.out]; go_num, by rw [HNN.out]; omega, fun j y hj hy => by
              by_cases e : j = i
              · subst e
                rw [HXX.out] at hy
                injection hy with hy
                subst hy
                exact ⟨hs, by omega⟩
              · exact HALL.out j y (by omega) hy, HB2.out⟩
            case measure => simp [intOf]; omega
    · obtain rfl : i = m := by omega
      have HB := Lib.hid hb
      have HALL := Lib.hid hall
      by_cases h200 : 200 < i
      · have h2 : (200 : Int) < (i : Int) := by omega
        clear hb hall
        go_wp2_with fail
        go_ret
        exact ⟨⟨true, rfl, fun h => by cases h⟩, HB.out⟩
      · have h2 : ¬ (200 : Int) < (i : Int) := by omega
        clear hb hall
        go_wp2_with fail
        go_ret
        exact ⟨⟨false, rfl, fun _ => ⟨by rw [HM.out]; omega, fun j x hx => HALL.out j x (by rw [← HM.out]; exact (List.getElem?_eq_some_iff.1 hx).1) hx⟩⟩, HB.out⟩
end Go.Proofs.YtepcfmigkhacgaaDoor.Rl
