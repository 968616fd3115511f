/- The document's own answers: the table; Rooted. -/
import Derived.Test.YtnfoegiogldidaaShaG
import Derived.Deep.RegionHeld3
namespace Go.Proofs.Ytnfoegiogldidaa.Sha
open Go.RowKit

theorem keep_drew {w : World} {a : Addr} {v : Value} (h : w.cell? a = some v) : w.drew.cell? a = some v := h

theorem dig32_new (w : World) (xs : List Nat) (t : TypeId) : Dig32 (w.alloc (.cells (vals32 xs).toArray t)) w.heap.size xs := by
  intro i x hx
  simp [vals32, hx]

set_option maxRecDepth 100000 in
set_option maxHeartbeats 1600000 in
theorem cubes_any (w : World) :
    Calls Try.prog 40 #[] w fun e w' => ∃ g cap, e = .returned (.slice (some ⟨g, 0, none⟩) 64 cap) ∧ Dig32 w' g kL ∧ Below w.heap.size w w' := by
  go_enter Try.func40, Try.ntmps40
  go_wp2_with fail
  go_ret
  refine ⟨_, _, rfl, ?_, below_alloc (Below.refl _ _) _⟩
  exact dig32_new w kL 58

theorem roots_cubes : rootsL 64 3 = kL := cubes_told
theorem roots_squares : rootsL 8 2 = hL := squares_told

theorem carry8 (w : World) : Calls Try.prog 39 #[.int .i64 8, .int .u64 2] w fun e w' => ∃ g cap, e = .returned (.slice (some ⟨g, 0, none⟩) 8 cap) ∧ Dig32 w' g hL ∧ Below w.heap.size w w' := by
  refine (roots_any 8 2 w (by omega) (by omega) (by omega)).mono ?_
  rintro e w' ⟨g, cap, he, hd, hb⟩
  rw [roots_squares] at hd
  exact ⟨g, cap, he, hd, hb⟩

set_option maxRecDepth 100000 in
set_option maxHeartbeats 3200000 in
theorem rooted_any (w : World) :
    Calls Try.prog 17 #[] w fun e w' => e = .returned (.bool true) ∧ Below w.heap.size w w' := by
  go_enter Try.func17, Try.ntmps17
  go_wp2_with fail
  refine (roots_any 64 3 w (by omega) (by omega) (by omega)).mono ?_
  rintro e w1 ⟨ga, capa, rfl, hda, hb1⟩
  rw [roots_cubes] at hda
  go_wp2_with fail
  refine (cubes_any w1).mono ?_
  rintro e w2 ⟨gb, capb, rfl, hdb, hb2⟩
  have hda2 := hda.kept hb2
  have hb2' := hb1.trans (hb2.mono hb1.size)
  clear hda hb1 hb2
  go_wp2_with fail
  go_loopw [3] (fun i wr => ∃ k : Nat, k ≤ 64 ∧ i = .int .i64 k ∧ Below w2.heap.size w2 wr) (fun i _ => 64 - (intOf i).toNat)
  case atStart => exact ⟨0, by omega, rfl, Below.refl _ _⟩
  case round =>
    obtain ⟨k, hk, rfl, hbel⟩ := hrel
    by_cases hlt : k < 64
    · obtain ⟨x, hx⟩ : ∃ x, kL[k]? = some x := ⟨kL[k]'hlt, List.getElem?_eq_getElem _⟩
      have hca := kept hbel (hda2 k x hx)
      have hcb := kept hbel (hdb k x hx)
      have hk64 : (k : Int) < 64 := by omega
      have hk0 : (0 : Int) ≤ (k : Int) := by omega
      clear hx hda2 hdb hb2'
      go_wp2_with fail
      go_region_held3 (fun w' => w'.cell? ⟨ga, k, none⟩ = some (.int .u32 x) ∧ w'.cell? ⟨gb, k, none⟩ = some (.int .u32 x)) (refine ⟨?_, ?_⟩ <;> (first | assumption | (refine keep_drew ?_; assumption))) (fail)
      go_wp2_with fail
      go_roundw
      case rel => exact ⟨k + 1, by omega, by go_num, hbel.drew⟩
      case measure => simp [intOf]; omega
    · have hkk : k = 64 := by omega
      subst hkk
      have hbw := hb2'.trans (hbel.mono hb2'.size)
      clear hda2 hdb hb2'
      go_wp2_with fail
      refine (carry8 wr).mono ?_
      rintro e w3 ⟨gc, capc, rfl, hdc, hb3⟩
      have hb3' := hbw.trans (hb3.mono hbw.size)
      have c0 : w3.cell? ⟨gc, 0, none⟩ = some (.int .u32 1779033703) := hdc 0 1779033703 rfl
      have c1 : w3.cell? ⟨gc, 1, none⟩ = some (.int .u32 3144134277) := hdc 1 3144134277 rfl
      have c2 : w3.cell? ⟨gc, 2, none⟩ = some (.int .u32 1013904242) := hdc 2 1013904242 rfl
      have c3 : w3.cell? ⟨gc, 3, none⟩ = some (.int .u32 2773480762) := hdc 3 2773480762 rfl
      have c4 : w3.cell? ⟨gc, 4, none⟩ = some (.int .u32 1359893119) := hdc 4 1359893119 rfl
      have c5 : w3.cell? ⟨gc, 5, none⟩ = some (.int .u32 2600822924) := hdc 5 2600822924 rfl
      have c6 : w3.cell? ⟨gc, 6, none⟩ = some (.int .u32 528734635) := hdc 6 528734635 rfl
      have c7 : w3.cell? ⟨gc, 7, none⟩ = some (.int .u32 1541459225) := hdc 7 1541459225 rfl
      clear hdc hb3 hbw
      go_wp2_with fail
      go_ret
      exact ⟨rfl, hb3'⟩

end Go.Proofs.Ytnfoegiogldidaa.Sha
