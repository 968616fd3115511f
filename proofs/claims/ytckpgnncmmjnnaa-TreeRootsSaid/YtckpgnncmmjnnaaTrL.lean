/- TreeRoots, TreeLengths. -/
import Derived.Test.YtckpgnncmmjnnaaTrW
namespace Go.Proofs.Ytckpgnncmmjnnaa.Tree
open Go.RowKit Go.Proofs.Ytckpgnncmmjnnaa.Sha

theorem slice_of {w : World} {v : Value} {L : List (List UInt8)} (h : Hashes w v L) : ∃ a cap, v = .slice a L.length cap := by
  rcases h with ⟨a, cap, rfl, rfl⟩ | ⟨g, o, cap, rfl, _, _⟩
  · exact ⟨a, cap, rfl⟩
  · exact ⟨_, cap, rfl⟩

set_option maxRecDepth 100000 in
set_option maxHeartbeats 1600000 in
theorem law_TreeRoots (v0 : Value) (a0 : List (List UInt8)) (w : World) (w0 : Hashes w v0 a0) (x0 : H32 a0) (y0 : a0.length ≤ maxLen) : Calls Try.prog 6 #[v0] w fun e w' => e = .returned (.bool true) ∧ Below w.heap.size w w' := by
  obtain ⟨a, cap, rfl⟩ := slice_of w0
  have hm : a0.length ≤ 9223372036854775807 := y0
  by_cases hbig : 300 < a0.length
  · obtain ⟨n, hn⟩ : ∃ n, a0.length = n := ⟨_, rfl⟩
    rw [hn] at hbig hm
    rw [hn]
    have hb : (300 : Int) < (n : Int) := by omega
    clear hn w0 x0 y0
    go_enter Try.func6, Try.ntmps6
    go_wp2_with (go_at_call 20; refine (works4 _).mono ?_; rintro e w' ⟨rfl, hb⟩)
    go_ret
    exact ⟨rfl, by assumption⟩
  · have HRT := Lib.hid (code_Root (.slice a a0.length cap) a0 w w0 x0 (by omega))
    have HRR := Lib.hid (fun W (hb : Below w.heap.size w W) => ref_Root (.slice a a0.length cap) a0 W (w0.kept hb) x0 (by omega))
    have HE := fun w => eqIn_hash (rootA a0) (rootA a0) rfl rfl w
    rw [show (rootA a0 == rootA a0) = true by simp] at HE
    obtain ⟨C, hC⟩ : ∃ C, (valsB (rootA a0)).toArray = C := ⟨_, rfl⟩
    rw [hC] at HRT HRR HE
    obtain ⟨n, hn⟩ : ∃ n, a0.length = n := ⟨_, rfl⟩
    rw [hn] at hbig hm HRT HRR
    rw [hn]
    have hb : ¬ (300 : Int) < (n : Int) := by omega
    clear hn hC w0 x0 y0 hbig
    go_enter Try.func6, Try.ntmps6
    go_wp2_with fail
    refine HRT.out.mono ?_
    rintro e w1 ⟨rfl, hb1⟩
    have HB1 := Lib.hid hb1
    clear hb1
    go_wp2_with fail
    refine (HRR.out _ HB1.out).mono ?_
    rintro e w2 ⟨rfl, hb2⟩
    have HB2 := Lib.hid (HB1.out.trans (hb2.mono HB1.out.size))
    clear hb2
    go_wp2_with fail
    refine (works4 _).mono ?_
    rintro e w3 ⟨rfl, hb3⟩
    have HB3 := Lib.hid (HB2.out.trans (hb3.mono HB2.out.size))
    clear hb3
    go_wp2_with fail
    go_ret
    exact ⟨rfl, HB3.out⟩

end Go.Proofs.Ytckpgnncmmjnnaa.Tree
