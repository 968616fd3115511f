/- The document's own answers: the table; Rooted. -/
import Derived.Test.YtlalipomphgcoaaShaG
import Derived.Deep.RegionHeld3
namespace Go.Proofs.Ytlalipomphgcoaa.Sha
open Go.RowKit

theorem keep_drew {w : World} {a : Addr} {v : Value} (h : w.cell? a = some v) : w.drew.cell? a = some v := h

theorem dig32_new (w : World) (xs : List Nat) (t : TypeId) : Dig32 (w.alloc (.cells (vals32 xs).toArray t)) w.heap.size xs := by
  intro i x hx
  simp [vals32, hx]

set_option maxRecDepth 100000 in
set_option maxHeartbeats 1600000 in
theorem cubes_any (w : World) :
    Calls Try.prog 90 #[] w fun e w' => ∃ g cap, e = .returned (.slice (some ⟨g, 0, none⟩) 64 cap) ∧ Dig32 w' g kL ∧ Below w.heap.size w w' := by
  go_enter Try.func90, Try.ntmps90
  go_wp2_with fail
  go_ret
  refine ⟨_, _, rfl, ?_, below_alloc (Below.refl _ _) _⟩
  exact dig32_new w kL 45

theorem roots_cubes : rootsL 64 3 = kL := cubes_told
theorem roots_squares : rootsL 8 2 = hL := squares_told

end Go.Proofs.Ytlalipomphgcoaa.Sha
