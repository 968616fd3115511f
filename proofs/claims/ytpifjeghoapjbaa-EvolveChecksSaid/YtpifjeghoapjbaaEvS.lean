/- evolve: what is checked: the law EvolveChecks. -/
import Derived.Test.YtpifjeghoapjbaaEvR
import Derived.Test.YtpifjeghoapjbaaEvO
namespace Go.Proofs.Ytpifjeghoapjbaa.Evolve
open Go.RowKit Go.Proofs.Ytpifjeghoapjbaa.Sha Go.Proofs.Ytpifjeghoapjbaa.Tree Go.Proofs.Ytpifjeghoapjbaa.Once

theorem check_both (pub m : List UInt8) (hp : pub.length = 32) (hm : m.length = 32) (d p : Int) (sig : ByteArray) : ∃ b : Bool,
    (∀ w, Calls Try.prog 25 #[.agg (valsB pub).toArray, .int .i64 d, .int .i64 p, .agg (valsB m).toArray, .string sig] w fun e w' => e = .returned (.bool b) ∧ Below w.heap.size w w') ∧
    (∀ w, Calls Try.prog 26 #[.agg (valsB pub).toArray, .int .i64 d, .int .i64 p, .agg (valsB m).toArray, .string sig] w fun e w' => e = .returned (.bool b) ∧ Below w.heap.size w w') := by
  by_cases h : wayP d p ∧ (sig.size : Int) = 1024 + 32 * d
  · obtain ⟨⟨⟨h0, h4⟩, h1, h2⟩, hz⟩ := h
    obtain ⟨d, rfl⟩ : ∃ dn : Nat, d = dn := ⟨d.toNat, by omega⟩
    obtain ⟨p, rfl⟩ : ∃ pn : Nat, p = pn := ⟨p.toNat, by omega⟩
    have hp2 : p < 2 ^ d := by
      have : (p : Int) < ((2 ^ d : Nat) : Int) := by push_cast; simpa using h2
      omega
    exact ⟨_, fun w => code_CheckE pub m hp hm d p (by omega) hp2 sig (by omega) w, fun w => ref_CheckE pub m hp hm d p (by omega) hp2 sig (by omega) w⟩
  · exact ⟨false, fun w => code_CheckE_no pub m hp hm d p sig w h, fun w => ref_CheckE_no pub m hp hm d p sig w h⟩

set_option maxRecDepth 100000 in
set_option maxHeartbeats 6400000 in
theorem law_EvolveChecks (a0 : List UInt8) (a1 a2 : Int) (a3 : List UInt8) (a4 : ByteArray) (w0 : a0.length = 32) (_w1 : (Lit.int .i64 a1).wf = true) (_w2 : (Lit.int .i64 a2).wf = true) (w3 : a3.length = 32) (w4 : a4.size ≤ maxLen) (w : World) :
    Calls Try.prog 6 #[.agg (valsB a0).toArray, .int .i64 a1, .int .i64 a2, .agg (valsB a3).toArray, .string a4] w fun e w' => e = .returned (.bool true) ∧ Below w.heap.size w w' := by
  have HWK := Lib.hid works_any
  have HRP := Lib.hid (row32 a0 w0)
  have HRM := Lib.hid (row32 a3 w3)
  have hs : a4.size ≤ 9223372036854775807 := w4
  obtain ⟨b, hc, hr⟩ := check_both a0 a3 w0 w3 a1 a2 a4
  obtain ⟨CP, hCP⟩ : ∃ C, (valsB a0).toArray = C := ⟨_, rfl⟩
  obtain ⟨CM, hCM⟩ : ∃ C, (valsB a3).toArray = C := ⟨_, rfl⟩
  rw [hCP] at HRP
  rw [hCM] at HRM
  rw [hCP, hCM] at hc hr
  rw [hCP, hCM]
  have HC := Lib.hid hc
  have HR := Lib.hid hr
  clear hCP hCM hc hr w0 w3 w4
  by_cases h : 4096 < a4.size
  · go_enter Try.func6, Try.ntmps6
    go_upto_region 1 with (fail)
    have HA0 := Lib.hid (heap_alloc2_old w (.cells CP 23) (.cells CM 23))
    have HA1 := Lib.hid (heap_alloc2_new w (.cells CP 23) (.cells CM 23))
    have HBW := Lib.hid (show Below w.heap.size w ((w.alloc (.cells CP 23)).alloc (.cells CM 23)) from ((Below.refl _ _).alloc (Nat.le_refl _) _).alloc (by simp) _)
    have hs0 : ((w.alloc (.cells CP 23)).alloc (.cells CM 23)).heap.size = w.heap.size + 2 := by simp
    generalize ((w.alloc (.cells CP 23)).alloc (.cells CM 23)) = W at HA0 HA1 HBW hs0 ⊢
    obtain ⟨g5, hg5⟩ : ∃ x, w.heap.size = x := ⟨_, rfl⟩
    obtain ⟨g8, hg8⟩ : ∃ x, g5 + 1 = x := ⟨_, rfl⟩
    rw [hg5] at HA0 HA1 HBW hs0
    rw [hg8] at HA1
    rw [hg5, hg8]
    have HGE := Lib.hid hg5
    have HLT := Lib.hid (show g5 < g8 ∧ g8 < W.heap.size by omega)
    clear hg5 hg8 hs0
    go_wp2_with fail
    refine (HWK.out _).mono ?_
    rintro e w3 ⟨rfl, hb3⟩
    have HB3 := Lib.hid (HBW.out.trans (hb3.mono (by have := HLT.out; omega)))
    clear hb3
    go_wp2_with fail
    go_ret
    exact ⟨rfl, HGE.out ▸ HB3.out⟩
  · have hbb : (b == b) = true := by simp
    go_enter Try.func6, Try.ntmps6
    go_upto_region 1 with (fail)
    have HA0 := Lib.hid (heap_alloc2_old w (.cells CP 23) (.cells CM 23))
    have HA1 := Lib.hid (heap_alloc2_new w (.cells CP 23) (.cells CM 23))
    have HBW := Lib.hid (show Below w.heap.size w ((w.alloc (.cells CP 23)).alloc (.cells CM 23)) from ((Below.refl _ _).alloc (Nat.le_refl _) _).alloc (by simp) _)
    have hs0 : ((w.alloc (.cells CP 23)).alloc (.cells CM 23)).heap.size = w.heap.size + 2 := by simp
    generalize ((w.alloc (.cells CP 23)).alloc (.cells CM 23)) = W at HA0 HA1 HBW hs0 ⊢
    obtain ⟨g5, hg5⟩ : ∃ x, w.heap.size = x := ⟨_, rfl⟩
    obtain ⟨g8, hg8⟩ : ∃ x, g5 + 1 = x := ⟨_, rfl⟩
    rw [hg5] at HA0 HA1 HBW hs0
    rw [hg8] at HA1
    rw [hg5, hg8]
    have HGE := Lib.hid hg5
    have HLT := Lib.hid (show g5 < g8 ∧ g8 < W.heap.size by omega)
    clear hg5 hg8 hs0
    go_upto_region 3 with (fail)
    refine wp_region_quiet_below (by kernel_rfl) (by kernel_rfl) ?_
    repeat (first
      | (refine wpQuiet_step (fun K hK => ?_); rw [if_pos (by rfl)]; refine quiet_load_row 23 (.tmp 5) rfl g5 rfl 23 CP (0, 0) _ HA0.out Try.underlying23 rfl HRP.out.info ?_; refine hK _ ?_; clear hK K)
      | (refine wpQuiet_step (fun K hK => ?_); rw [if_pos (by rfl)]; refine quiet_load_row 23 (.tmp 8) rfl g8 rfl 23 CM (0, 0) _ HA1.out Try.underlying23 rfl HRM.out.info ?_; refine hK _ ?_; clear hK K)
      | (quiet_step (first | (go_at_call 25; with_reducible exact Calls.regrown_of (HC.out _)) | (go_at_call 26; with_reducible exact Calls.regrown_of (HR.out _)) | (go_at_call 12; with_reducible exact Calls.regrown_of (HWK.out _)))))
    refine wpQuiet_nil ?_
    intro _ hw'
    obtain ⟨⟨dq, osq⟩, hw''⟩ := hw'
    subst hw''
    have hbq := below_regrown W dq osq
    dsimp only
    generalize Sort.grow (redrawn W dq) osq = w5 at hbq ⊢
    have HB5 := Lib.hid (HBW.out.trans (hbq.mono (by have := HLT.out; omega)))
    clear hbq
    go_wp2_with fail
    go_ret
    exact ⟨rfl, HGE.out ▸ HB5.out⟩

end Go.Proofs.Ytpifjeghoapjbaa.Evolve
