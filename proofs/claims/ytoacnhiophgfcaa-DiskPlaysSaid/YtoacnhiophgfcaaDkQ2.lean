/- disk: a script's calls that are no crash, done. -/
import Derived.Test.YtoacnhiophgfcaaDkQ0
import Derived.Deep.Cut
namespace Go.Proofs.Ytoacnhiophgfcaa.Dk
open Go.RowKit Go.Proofs.Ytoacnhiophgfcaa.Gr

def opD (S : St) (x : OpT) : St := if x.kind = 0 then (appendS S x.file x.s).2 else if x.kind = 1 then (cutterS S x.file x.n).2 else if x.kind = 2 then (syncerS S x.file).2 else S
def runS (S : St) (L : List OpT) : St := L.foldl opD S
theorem GoodN.opD {n : Nat} {S : St} (h : GoodN n S) (x : OpT) : GoodN (n + 1) (opD S x) := by
  unfold Dk.opD
  split
  · exact h.append _ _
  · split
    · exact h.cut _ _
    · split
      · exact h.sync _
      · exact h.mono (by omega)
theorem runS_take {S : St} {L : List OpT} {i : Nat} {x : OpT} (h : L[i]? = some x) : runS S (L.take (i + 1)) = opD (runS S (L.take i)) x := by
  rw [List.take_add_one, h]
  unfold runS
  rw [List.foldl_append]
  rfl
theorem GoodN.run {n : Nat} {S : St} (h : GoodN n S) : ∀ (L : List OpT), GoodN (n + L.length) (runS S L)
  | [] => h
  | x :: L => by
    have := (h.opD x).run L
    rw [show n + 1 + L.length = n + (x :: L).length by simp; omega] at this
    exact this
theorem Whole.opD {n : Nat} {S : St} (h : Whole S) (hg : GoodN n S) (x : OpT) : Whole (opD S x) := by
  unfold Dk.opD
  split
  · exact h.append hg _ _
  · split
    · exact h.cut hg _ _
    · split
      · exact h.sync hg _
      · exact h
theorem Whole.run {n : Nat} {S : St} (h : Whole S) (hg : GoodN n S) : ∀ (L : List OpT), Whole (runS S L)
  | [] => h
  | x :: L => (h.opD hg x).run (hg.opD x) L
theorem Sure.opD {f : Nat} {u : ByteArray} {S : St} (h : Sure f u S) (x : OpT) (hne : x.file ≠ f) : Sure f u (opD S x) := by
  unfold Dk.opD
  split
  · exact h.append _ _ hne
  · split
    · exact h.cut _ _ hne
    · split
      · exact h.sync _ hne
      · exact h
theorem at_frm {α : Type} {P : Program} {K : Kind P α} {F : Nat → Prop} {w w' : World} {v : Value} {L : List α} (h : K.At w v L) (hf : Frm F w w') (hv : L ≠ [] → ∀ k, v.ownBlock = some k → ¬ F k) : K.At w' v L := by
  rcases h with ⟨a, cap, rfl, rfl⟩ | ⟨g, o, cap, rfl, h0, hc, hr⟩
  · exact Kind.At.nil _ _
  · refine Or.inr ⟨g, o, cap, rfl, h0, hc, fun j u hj => ?_⟩
    have hcell := hr j u hj
    have hlt : g < w.heap.size := World.block_lt_of_cell? _ _ hcell
    rw [World.cell?_of_block (a := ⟨g, o + j, none⟩) (hf.block g hlt (hv (fun e => by subst e; simp at h0) g rfl))]
    exact hcell
theorem Left.box {w w' : World} {g : Nat} {lv lv' : Value} {S : St} (h : Left w g lv S w' lv') (o : Obj) : Left w g lv S (w'.alloc o) lv' := h.trans (Left.alloc h.at_ o)

set_option maxRecDepth 100000 in
set_option maxHeartbeats 3200000 in
theorem code_run (g : Nat) (lv : Value) (S : St) (v : Value) (L : List OpT) (n : Nat) (w : World) (h : DAt w g lv S) (hG : GoodN n S) (hn : n + L.length ≤ 1000000) (hA : KO.At w v L) (hv : L ≠ [] → ∀ k, v.ownBlock = some k → ¬ foot g lv k) :
    Calls Try.prog 27 #[.pointer (some ⟨g, 0, none⟩), v] w fun e w' => e = .returned (.tuple #[]) ∧ ∃ lv', Left w g lv (runS S L) w' lv' := by
  obtain ⟨va, vc, rfl, hvc⟩ := hA.form
  have HA := Lib.hid hA
  have HV := Lib.hid hv
  have HL := Lib.hid (Left.refl h)
  have HG := Lib.hid hG
  obtain ⟨m, hm⟩ : ∃ m, L.length = m := ⟨_, rfl⟩
  rw [hm] at hn hvc HA HV ⊢
  have HM := Lib.hid hm
  clear hA hm h hG hv
  go_enter Try.func27, Try.ntmps27
  go_wp2_with fail
  go_loopw [8] (fun iv wr => ∃ (i : Nat) (lz : Value), i ≤ m ∧ iv = .int .i64 i ∧ Left w g lv (runS S (L.take i)) wr lz) (fun iv _ => m - (intOf iv).toNat)
  case atStart => exact ⟨0, lv, Nat.zero_le _, rfl, HL.out⟩
  case round =>
    obtain ⟨i, lz, hi, rfl, hL⟩ := hrel
    by_cases hlt : i < m
    · have hlt2 : (i : Int) < (m : Int) := by omega
      have hne : L ≠ [] := fun e => by have := HM.out; rw [e] at this; simp at this; omega
      obtain ⟨gg, o, cap', hav, _, hr⟩ := (at_frm HA.out hL.frm HV.out).some (by rw [HM.out]; omega)
      injection hav with hav1 hav2 hav3
      subst hav1
      clear hav2 hav3
      have hx := List.getElem?_eq_getElem (show i < L.length by rw [HM.out]; exact hlt)
      obtain ⟨x, hxx⟩ : ∃ x, L[i]'(by rw [HM.out]; exact hlt) = x := ⟨_, rfl⟩
      rw [hxx] at hx
      have HX := Lib.hid (at_op hr hx)
      have HST := Lib.hid (runS_take (S := S) hx)
      have hg2 := HG.out.run (L.take i)
      have hg3 : GoodN 1000000 (runS S (L.take i)) := hg2.mono (by rw [List.length_take]; omega)
      obtain ⟨T, hT⟩ : ∃ T, runS S (L.take i) = T := ⟨_, rfl⟩
      rw [hT] at hL hg3 HST
      have hLb := hL.box (.cells #[.int .i64 x.kind, .int .i64 x.file, .int .i64 x.at_, .int .i64 x.n, .string x.s, .slice x.kA x.kN x.kC] 41)
      have hq := heap_alloc_new wr (.cells #[.int .i64 x.kind, .int .i64 x.file, .int .i64 x.at_, .int .i64 x.n, .string x.s, .slice x.kA x.kN x.kC] 41)
      have HF := Lib.hid (hg3.good (by decide)).toFits
      clear hxx hr hx hL hT hg2 hg3 hne
      go_upto_region 3 with (refine wpList_load_mid rfl 41 (.tmp 10) rfl gg (o + i * 6) rfl [.int .i64 x.kind, .int .i64 x.file, .int .i64 x.at_, .int .i64 x.n, .string x.s, .slice x.kA x.kN x.kC] _ HX.out Try.underlying41 rfl op_info ?_)
      generalize wr.alloc (.cells #[.int .i64 x.kind, .int .i64 x.file, .int .i64 x.at_, .int .i64 x.n, .string x.s, .slice x.kA x.kN x.kC] 41) = w2 at hq hLb ⊢
      obtain ⟨q, hqe⟩ : ∃ q, wr.heap.size = q := ⟨_, rfl⟩
      rw [hqe] at hq
      rw [hqe]
      have c0 := Lib.cell_of_heap hq 0
      have c1 := Lib.cell_of_heap hq 1
      have c3 := Lib.cell_of_heap hq 3
      have c4 := Lib.cell_of_heap hq 4
      have HLB := Lib.hid hLb
      clear hq hLb hqe HX
      have c0' : w2.cell? ⟨q, 0, none⟩ = some (.int .i64 x.kind) := c0
      clear c0
      by_cases e0 : x.kind = 0
      · rw [e0] at c0'
        have HO := Lib.hid (show opD T x = (appendS T x.file x.s).2 by unfold opD; rw [if_pos e0])
        clear e0
        go_wp2_with fail
        refine (code_Append g lz T x.file x.s w2 HLB.out.at_ HF.out).mono ?_
        rintro e w3 ⟨rfl, l3, hl3⟩
        have HL3 := Lib.hid (HLB.out.trans hl3)
        clear hl3
        go_wp2_with fail
        go_roundw
        case rel => exact ⟨i + 1, l3, by omega, by go_num, by rw [HST.out, HO.out]; exact HL3.out⟩
        case measure => simp [intOf]; omega
      by_cases e1 : x.kind = 1
      · rw [e1] at c0'
        have HO := Lib.hid (show opD T x = (cutterS T x.file x.n).2 by unfold opD; rw [if_neg e0, if_pos e1])
        clear e0 e1
        go_wp2_with fail
        refine (code_Cut g lz T x.file x.n w2 HLB.out.at_ HF.out).mono ?_
        rintro e w3 ⟨rfl, l3, hl3⟩
        have HL3 := Lib.hid (HLB.out.trans hl3)
        clear hl3
        go_wp2_with fail
        go_roundw
        case rel => exact ⟨i + 1, l3, by omega, by go_num, by rw [HST.out, HO.out]; exact HL3.out⟩
        case measure => simp [intOf]; omega
      by_cases e2 : x.kind = 2
      · rw [e2] at c0'
        have HO := Lib.hid (show opD T x = (syncerS T x.file).2 by unfold opD; rw [if_neg e0, if_neg e1, if_pos e2])
        clear e0 e1 e2
        go_wp2_with fail
        refine (code_Sync g lz T x.file w2 HLB.out.at_ HF.out).mono ?_
        rintro e w3 ⟨rfl, l3, hl3⟩
        have HL3 := Lib.hid (HLB.out.trans hl3)
        clear hl3
        go_wp2_with fail
        go_roundw
        case rel => exact ⟨i + 1, l3, by omega, by go_num, by rw [HST.out, HO.out]; exact HL3.out⟩
        case measure => simp [intOf]; omega
      · have HO := Lib.hid (show opD T x = T by unfold opD; rw [if_neg e0, if_neg e1, if_neg e2])
        have b0 : (x.kind == 0) = false := by simpa using e0
        have b1 : (x.kind == 1) = false := by simpa using e1
        have b2 : (x.kind == 2) = false := by simpa using e2
        clear e0 e1 e2
        go_wp2_with fail
        go_roundw
        case rel => exact ⟨i + 1, lz, by omega, by go_num, by rw [HST.out, HO.out]; exact HLB.out⟩
        case measure => simp [intOf]; omega
    · obtain rfl : i = m := by omega
      have HL2 := Lib.hid hL
      clear hL
      have HEQ := Lib.hid (show L.take i = L by rw [List.take_of_length_le (by rw [HM.out]; exact Nat.le_refl _)])
      go_wp2_with fail
      exact bodyPost_end (results_none Try.results27 _ _ _) rfl ⟨rfl, _, by have := HL2.out; rw [HEQ.out] at this; exact this⟩
end Go.Proofs.Ytoacnhiophgfcaa.Dk
