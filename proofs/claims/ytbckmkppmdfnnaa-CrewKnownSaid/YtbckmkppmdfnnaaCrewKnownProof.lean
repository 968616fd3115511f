/-
  The statement CrewKnown: for every input that can be read, on whatever schedule, the law returns true, without a data race, each argument reads as before, and whoever was started has ended or can only leave.
-/
import Derived.Test.YtbckmkppmdfnnaaRows
import Derived.WalkKit
import Derived.ProofKit
import Derived.OpenShut
import Derived.Test.YtbckmkppmdfnnaaCrBa
import Derived.Test.YtbckmkppmdfnnaaCrKb
import Derived.ChangeOld
import Derived.Below
import Derived.Conc.LeavingOf
namespace Go.Proofs.Ytbckmkppmdfnnaa.crewKnown
open Go.ChangeShapes Go.WideShapes Go.ChangeAt Go.RowKit Go.Conc
set_option linter.unusedVariables false

theorem own : ownKnob Try.prog.godebug = none := by kernel_rfl
theorem laidOut : laidOutB Try.prog = true := by kernel_rfl

set_option maxRecDepth 100000 in
theorem lifted (os : Os) (started : os.Started) (H : Type) (enc : TypeId × Value → H) :
    ReturnsInLeavingWide {} Try.checked os 3 .any (Rows.crewKnownSpec.pre6 enc Try.prog Try.f3 Rows.crewKnownRow.domain false) (Rows.crewKnownSpec.post enc Try.prog Try.f3 false true false false) := by
  refine returnsInLeavingWide_of_change_sized (C := Try.checked) own started Try.func3
    (ChangeSpec.witness6 (enc := enc) (C := Try.checked) false ⟨#[], #[], []⟩ 8 (by kernel_rfl) (by kernel_rfl) (by kernel_rfl) (by kernel_rfl)) ?_
  intro W base args ds gs before hval0 hW _ hsz0 _
  have hval : ∀ (j : Nat) t v, Try.f3.params[j]? = some t → args[j]? = some v → Value.okWide Try.prog W .any base t v := hval0
  have hW' := hW
  obtain ⟨p, q, hA0, hV, rfl, hfz, hnd⟩ := hW
  have hA : DataW.TrodAll enc Try.prog W 0 (fun _ => true) true Try.f3.params.toList args.toList ds p := hA0
  rw [Try.params3] at hA hval
  obtain ⟨rfl, rfl, rfl⟩ := trodAll_none hA
  obtain ⟨rfl, rfl⟩ := trodVars_none hV
  clear hsz0

  clear hA0 hval0
  have e : Frame.enter Try.prog 3 #[] .normal = (Go.Conc.base 3).at ⟨#[undef, undef, undef, undef, undef, undef, undef, undef, undef, undef, undef, undef, undef, undef, undef, undef, undef, undef, undef, undef, undef, undef, undef, undef, undef, undef], []⟩ [.code Crew.body3] := by simp [Frame.enter, Frame.at, Try.func3, Go.Conc.base, Crew.body3, Try.f3] <;> rfl
  obtain ⟨M, last, o, w', t', e1, e2, e3, e4⟩ := Crew.run_of_ba (f := 3) (fn := Try.f3) (t := 0) (c := Crew.body3) (fr := #[undef, undef, undef, undef, undef, undef, undef, undef, undef, undef, undef, undef, undef, undef, undef, undef, undef, undef, undef, undef, undef, undef, undef, undef, undef, undef]) (W := W) Try.func3 rfl (by decide) (fun Stop hS => Crew.CrewKnown_ba (Z := fun _ => False) (cs := []) (fun c h => h.elim)  (fun Z' w' hx U todo hU => hS Z' w' hx U todo hU))
  rw [← e] at e1 e2
  refine ⟨M, last, o, w', t', e1, e2, e3, e4.mono fun v hp => ?_⟩
  obtain ⟨hv, bel⟩ := hp
  subst hv
  exact ⟨_, _, _, [], _, [], hW', trodAll_mk1 (shut_bool Try.underlying4 _), rfl, rfl, bel.frame _, fun h => by cases h⟩

theorem over : Rows.crewKnownRow.holds Try.pinned (OpenSpec.ofChange Rows.crewKnownSpec) :=
  OpenClaim.holds_of_wide_leaving 3 Try.f3 rfl rfl rfl rfl rfl rfl rfl ⟨rfl, rfl, rfl, rfl, rfl⟩ rfl rfl rfl rfl rfl (by kernel_rfl) Try.func3 (by kernel_rfl)
    (of_decide_eq_true (by kernel_rfl)) (by unfold Func.isWrapper; first | (rw [if_pos (by decide +kernel)]; kernel_rfl) | (rw [if_neg (by decide +kernel)]; exact ⟨rfl, rfl⟩))
    (fun os started H enc _ => lifted os started H enc)

theorem proved : Rows.CrewKnownSaid := over
#print axioms proved
end Go.Proofs.Ytbckmkppmdfnnaa.crewKnown
