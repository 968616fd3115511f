/- crew: first behind Wait: close(found), the range over found, the result. Made by wip/tools/crew/mkR.py. -/
import Derived.Test.YtbckmkppmdfnnaaCrQ
namespace Go.Proofs.Ytbckmkppmdfnnaa.Crew
open Go.Conc Go.RowKit Go.Conc.Lib Go.ConcR.Gen
open Go.ConcN (WgLive)
open Go.ConcR (KK wgBlock WgAt stA smA rd wr mk Payload DC0)
section
variable {X : Base} {vP vS vF vI : Nat} {isV : Value} {J : World → Prop}
noncomputable def L2 : Code := match R13 with | .seq _ (.seq (.seq _ (.block _ (.loop c))) _) => c | _ => .skip
noncomputable def R18 : Code := match R13 with | .seq _ (.seq _ c) => c | _ => .skip
/-- The world as it was but channel Cf. -/
structure ButCf (X : Base) (w₀ w : World) (fb : List Nat) : Prop where
  tape : w.tape = w₀.tape
  os : w.os = w₀.os
  output : w.output = w₀.output
  size : w.heap.size = w₀.heap.size
  block : ∀ b, b ≠ X.Cf → w.heap[b]? = w₀.heap[b]?
  cf : ∃ s r, w.heap[X.Cf]? = some (.chan X.n (fb.map ival).toArray true s r false)
theorem at_rely {w₀ w w₁ : World} {fb : List Nat} (h : ButCf X w₀ w fb) (k : AtRel w w₁) : ButCf X w₀ w₁ fb := by
  obtain ⟨d, rfl⟩ := k
  exact ⟨h.tape, h.os, h.output, h.size, h.block, h.cf⟩
def res (M r : Nat) : Value := .int .i64 (if r = M then -1 else (r : Int))
variable {cs : List Frame} {Stop : (Nat → Prop) → Goroutine → World → Prop} {Z : Nat → Prop}
set_option maxRecDepth 100000 in
/-- All have been received. -/
theorem after_range {l : Nat} {w₀ w : World} (hF : ButCf X w₀ w []) (u1 u2 u3 u4 u5 u6 u7 u8 u9 u10 u12 u13 u14 u15 u16 u17 u18 u19 u20 u21 u22 u23 u24 u25 u26 u27 u28 u29 u30 u31 u32 u33 u35 u36 u37 u38 u39 u40 u41 u42 u43 u44 : Value)
    (hS : ∀ (W : Array Value) (w : World), ButCf X w₀ w [] → W.getD 6 undef = res X.M l → ∀ todo, BR Try.prog Stop Z (G { (base 29).at ⟨W, []⟩ todo with mode := .returning } cs) w) :
    Goes Try.prog true AtRel (DZ Z) (fun g w => BR Try.prog Stop Z g w) 20 (G ((base 29).at ⟨#[.int .i64 (X.M : Nat), u1, u2, u3, u4, u5, u6, u7, u8, u9, u10, .int .i64 (l : Nat), u12, u13, u14, u15, u16, u17, u18, u19, u20, u21, u22, u23, u24, u25, u26, u27, u28, u29, u30, u31, u32, u33, .chan (some X.Cf), u35, u36, u37, u38, u39, u40, u41, u42, u43, u44], []⟩ [.code R18]) cs) w := by
  have T := termsZ Z
  simp only [R18, R13, R12, R11, R10, body29, Try.f29, Option.getD_some]
  by_cases hl : l = X.M
  · subst hl
    refine Goes.step rfl (fun _ h₁ => ?_)
    replace hF := at_rely hF h₁
    clear h₁
    rw [stepG_seq]
    simp only [goes_go]
    refine ⟨T.idle _, ?_⟩
    refine Goes.step rfl (fun _ h₁ => ?_)
    replace hF := at_rely hF h₁
    clear h₁
    rw [stepG_seq]
    simp only [goes_go]
    refine ⟨T.idle _, ?_⟩
    refine Goes.step rfl (fun _ h₁ => ?_)
    replace hF := at_rely hF h₁
    clear h₁
    rw [stepG_region]
    simp only [goes_go, List.size_toArray, List.length_cons, List.length_nil, Nat.reduceAdd, Nat.zero_add, List.range, List.range.loop]
    refine ⟨T.idle _, ?_⟩
    refine Goes.step rfl (fun _ h₁ => ?_)
    replace hF := at_rely hF h₁
    clear h₁
    refine goes_oper_k rfl rfl (by k_ne) (fun κ hκ => ?_)
    go_simp
    refine hκ _ _ ⟨idle_of T (fun e he => ?_), ?_⟩
    · have hm := mem_listed he
      simp [go_sem, *] at hm
    clear hκ κ
    refine Goes.step rfl (fun _ h₁ => ?_)
    replace hF := at_rely hF h₁
    clear h₁
    refine goes_oper_k rfl rfl (by k_ne) (fun κ hκ => ?_)
    go_simp
    refine hκ _ _ ⟨idle_of T (fun e he => ?_), ?_⟩
    · have hm := mem_listed he
      simp [go_sem, *] at hm
    clear hκ κ
    refine Goes.step rfl (fun _ h₁ => ?_)
    replace hF := at_rely hF h₁
    clear h₁
    refine goes_oper_k rfl rfl (by k_ne) (fun κ hκ => ?_)
    go_simp
    refine hκ _ _ ⟨idle_of T (fun e he => ?_), ?_⟩
    · have hm := mem_listed he
      simp [go_sem, *] at hm
    clear hκ κ
    refine Goes.step rfl (fun _ h₁ => ?_)
    replace hF := at_rely hF h₁
    clear h₁
    rw [stepG_region_end]
    simp only [goes_go]
    refine ⟨T.idle _, ?_⟩
    refine Goes.step rfl (fun _ h₁ => ?_)
    replace hF := at_rely hF h₁
    clear h₁
    rw [stepG_cond (t := true) rfl]
    simp only [goes_go, ↓reduceIte]
    refine ⟨T.idle _, ?_⟩
    refine Goes.step rfl (fun _ h₁ => ?_)
    replace hF := at_rely hF h₁
    clear h₁
    rw [stepG_seq]
    simp only [goes_go]
    refine ⟨T.idle _, ?_⟩
    refine Goes.step rfl (fun _ h₁ => ?_)
    replace hF := at_rely hF h₁
    clear h₁
    rw [stepG_region]
    simp only [goes_go, List.size_toArray, List.length_cons, List.length_nil, Nat.zero_add, List.range, List.range.loop]
    refine ⟨T.idle _, ?_⟩
    refine Goes.step rfl (fun _ h₁ => ?_)
    replace hF := at_rely hF h₁
    clear h₁
    refine goes_oper_k rfl rfl (by k_ne) (fun κ hκ => ?_)
    go_simp
    refine hκ _ _ ⟨idle_of T (fun e he => ?_), ?_⟩
    · have hm := mem_listed he
      simp [go_sem, *] at hm
    clear hκ κ
    refine Goes.step rfl (fun _ h₁ => ?_)
    replace hF := at_rely hF h₁
    clear h₁
    rw [stepG_region_end]
    simp only [goes_go]
    refine ⟨T.idle _, ?_⟩
    refine Goes.step rfl (fun _ h₁ => ?_)
    replace hF := at_rely hF h₁
    clear h₁
    rw [stepG_ret']
    simp only [goes_go]
    refine ⟨T.idle _, ?_⟩
    exact Goes.stop fun w₁ h₁ => hS _ _ (at_rely hF h₁) (by simp [res]) _
  · have hne : ((l : Int) == (X.M : Int)) = false := by simp; omega
    refine Goes.step rfl (fun _ h₁ => ?_)
    replace hF := at_rely hF h₁
    clear h₁
    rw [stepG_seq]
    simp only [goes_go]
    refine ⟨T.idle _, ?_⟩
    refine Goes.step rfl (fun _ h₁ => ?_)
    replace hF := at_rely hF h₁
    clear h₁
    rw [stepG_seq]
    simp only [goes_go]
    refine ⟨T.idle _, ?_⟩
    refine Goes.step rfl (fun _ h₁ => ?_)
    replace hF := at_rely hF h₁
    clear h₁
    rw [stepG_region]
    simp only [goes_go, List.size_toArray, List.length_cons, List.length_nil, Nat.reduceAdd, Nat.zero_add, List.range, List.range.loop]
    refine ⟨T.idle _, ?_⟩
    refine Goes.step rfl (fun _ h₁ => ?_)
    replace hF := at_rely hF h₁
    clear h₁
    refine goes_oper_k rfl rfl (by k_ne) (fun κ hκ => ?_)
    go_simp
    refine hκ _ _ ⟨idle_of T (fun e he => ?_), ?_⟩
    · have hm := mem_listed he
      simp [go_sem, *] at hm
    clear hκ κ
    refine Goes.step rfl (fun _ h₁ => ?_)
    replace hF := at_rely hF h₁
    clear h₁
    refine goes_oper_k rfl rfl (by k_ne) (fun κ hκ => ?_)
    go_simp
    refine hκ _ _ ⟨idle_of T (fun e he => ?_), ?_⟩
    · have hm := mem_listed he
      simp [go_sem, *] at hm
    clear hκ κ
    refine Goes.step rfl (fun _ h₁ => ?_)
    replace hF := at_rely hF h₁
    clear h₁
    refine goes_oper_k rfl rfl (by k_ne) (fun κ hκ => ?_)
    go_simp
    refine hκ _ _ ⟨idle_of T (fun e he => ?_), ?_⟩
    · have hm := mem_listed he
      simp [go_sem, *] at hm
    clear hκ κ
    refine Goes.step rfl (fun _ h₁ => ?_)
    replace hF := at_rely hF h₁
    clear h₁
    rw [stepG_region_end]
    simp only [goes_go]
    refine ⟨T.idle _, ?_⟩
    refine Goes.step rfl (fun _ h₁ => ?_)
    replace hF := at_rely hF h₁
    clear h₁
    rw [stepG_cond (t := false) rfl]
    simp only [goes_go, Bool.false_eq_true, ↓reduceIte]
    refine ⟨T.idle _, ?_⟩
    refine Goes.step rfl (fun _ h₁ => ?_)
    replace hF := at_rely hF h₁
    clear h₁
    rw [stepG_skip]
    simp only [goes_go]
    refine ⟨T.idle _, ?_⟩
    refine Goes.step rfl (fun _ h₁ => ?_)
    replace hF := at_rely hF h₁
    clear h₁
    rw [stepG_seq]
    simp only [goes_go]
    refine ⟨T.idle _, ?_⟩
    refine Goes.step rfl (fun _ h₁ => ?_)
    replace hF := at_rely hF h₁
    clear h₁
    rw [stepG_region]
    simp only [goes_go, List.size_toArray, List.length_cons, List.length_nil, Nat.reduceAdd, Nat.zero_add, List.range, List.range.loop]
    refine ⟨T.idle _, ?_⟩
    refine Goes.step rfl (fun _ h₁ => ?_)
    replace hF := at_rely hF h₁
    clear h₁
    refine goes_oper_k rfl rfl (by k_ne) (fun κ hκ => ?_)
    go_simp
    refine hκ _ _ ⟨idle_of T (fun e he => ?_), ?_⟩
    · have hm := mem_listed he
      simp [go_sem, *] at hm
    clear hκ κ
    refine Goes.step rfl (fun _ h₁ => ?_)
    replace hF := at_rely hF h₁
    clear h₁
    refine goes_oper_k rfl rfl (by k_ne) (fun κ hκ => ?_)
    go_simp
    refine hκ _ _ ⟨idle_of T (fun e he => ?_), ?_⟩
    · have hm := mem_listed he
      simp [go_sem, *] at hm
    clear hκ κ
    refine Goes.step rfl (fun _ h₁ => ?_)
    replace hF := at_rely hF h₁
    clear h₁
    rw [stepG_region_end]
    simp only [goes_go]
    refine ⟨T.idle _, ?_⟩
    refine Goes.step rfl (fun _ h₁ => ?_)
    replace hF := at_rely hF h₁
    clear h₁
    rw [stepG_ret']
    simp only [goes_go]
    refine ⟨T.idle _, ?_⟩
    exact Goes.stop fun w₁ h₁ => hS _ _ (at_rely hF h₁) (by simp [res, hl]) _

set_option maxRecDepth 100000 in
set_option maxHeartbeats 1000000 in
/-- The range over found. -/
theorem range_found {w₀ : World} : ∀ (fb : List Nat) (l : Nat) (w : World), ButCf X w₀ w fb → ∀ (u1 u2 u3 u4 u5 u6 u7 u8 u9 u10 u12 u13 u14 u15 u16 u17 u18 u19 u20 u21 u22 u23 u24 u25 u26 u27 u28 u29 u30 u31 u32 u33 u35 u36 u37 u38 u39 u40 u41 u42 u43 u44 : Value),
    (∀ (W : Array Value) (w : World), ButCf X w₀ w [] → W.getD 6 undef = res X.M (fb.foldl min l) → ∀ todo, BR Try.prog Stop Z (G { (base 29).at ⟨W, []⟩ todo with mode := .returning } cs) w) →
    BR Try.prog Stop Z (G ((base 29).at ⟨#[.int .i64 (X.M : Nat), u1, u2, u3, u4, u5, u6, u7, u8, u9, u10, .int .i64 (l : Nat), u12, u13, u14, u15, u16, u17, u18, u19, u20, u21, u22, u23, u24, u25, u26, u27, u28, u29, u30, u31, u32, u33, .chan (some X.Cf), u35, u36, u37, u38, u39, u40, u41, u42, u43, u44], []⟩ [.code L2, .inLoop L2, .inBlock 2, .code R18]) cs) w := by
  intro fb
  induction fb with
  | nil =>
    intro l w hF u1 u2 u3 u4 u5 u6 u7 u8 u9 u10 u12 u13 u14 u15 u16 u17 u18 u19 u20 u21 u22 u23 u24 u25 u26 u27 u28 u29 u30 u31 u32 u33 u35 u36 u37 u38 u39 u40 u41 u42 u43 u44 hS
    have T := termsZ Z
    refine BR.of_goes (n := 2) ?_
    simp only [L2, R18, R13, R12, R11, R10, body29, Try.f29, Option.getD_some]
    refine Goes.step rfl (fun _ h₁ => ?_)
    replace hF := at_rely hF h₁
    clear h₁
    rw [stepG_seq]
    simp only [goes_go]
    refine ⟨T.idle _, ?_⟩
    refine Goes.step rfl (fun _ h₁ => ?_)
    replace hF := at_rely hF h₁
    clear h₁
    rw [stepG_region]
    simp only [goes_go, List.size_toArray, List.length_cons, List.length_nil, Nat.reduceAdd, Nat.zero_add, List.range, List.range.loop]
    refine ⟨T.idle _, ?_⟩
    refine Goes.stop fun w₁ h₁ => ?_
    replace hF := at_rely hF h₁
    clear h₁
    obtain ⟨s, r, hcf⟩ := hF.cf
    refine BR.recvClosed (z := .int .i64 0) (ok := true) rfl (fun w₂ k => ?_) (by simpa using hcf) fun w₂ k => ?_
    · rw [stepG_comm (cases := #[rcase X.Cf (.int .i64 0)]) (blocking := true) (shape := .recv true) (w' := w₂) rfl rfl (by k_ne) ?_]
      · congr 1
      · refine eq_of_k fun κ hκ => ?_
        go_simp
        simpa [rcase] using hκ
    replace hF := at_rely hF k
    clear k hcf
    rw [served_G, Frame.finish_at]
    simp only [recvd]
    walk_nrm
    refine BR.of_goes (n := 20 + 5) ?_
    refine Goes.step rfl (fun _ h₁ => ?_)
    replace hF := at_rely hF h₁
    clear h₁
    refine goes_oper_k rfl rfl (by k_ne) (fun κ hκ => ?_)
    go_simp
    refine hκ _ _ ⟨idle_of T (fun e he => ?_), ?_⟩
    · have hm := mem_listed he
      simp [go_sem, *] at hm
    clear hκ κ
    refine Goes.step rfl (fun _ h₁ => ?_)
    replace hF := at_rely hF h₁
    clear h₁
    rw [stepG_region_end]
    simp only [goes_go]
    refine ⟨T.idle _, ?_⟩
    refine Goes.step rfl (fun _ h₁ => ?_)
    replace hF := at_rely hF h₁
    clear h₁
    rw [stepG_seq]
    simp only [goes_go]
    refine ⟨T.idle _, ?_⟩
    refine Goes.step rfl (fun _ h₁ => ?_)
    replace hF := at_rely hF h₁
    clear h₁
    rw [stepG_cond (t := false) rfl]
    simp only [goes_go, Bool.false_eq_true, ↓reduceIte]
    refine ⟨T.idle _, ?_⟩
    refine Goes.step rfl (fun _ h₁ => ?_)
    replace hF := at_rely hF h₁
    clear h₁
    refine goes_exit rfl ?_
    refine ⟨T.idle _, ?_⟩
    exact Goes.mono (n := 20) (after_range hF _ _ _ _ _ _ _ _ _ _ _ _ _ _ _ _ _ _ _ _ _ _ _ _ _ _ _ _ _ _ _ _ _ _ _ _ _ _ _ _ _ _ hS) (by omega)
  | cons p fb ih =>
    intro l w hF u1 u2 u3 u4 u5 u6 u7 u8 u9 u10 u12 u13 u14 u15 u16 u17 u18 u19 u20 u21 u22 u23 u24 u25 u26 u27 u28 u29 u30 u31 u32 u33 u35 u36 u37 u38 u39 u40 u41 u42 u43 u44 hS
    have T := termsZ Z
    refine BR.of_goes (n := 2) ?_
    simp only [L2, R18, R13, R12, R11, R10, body29, Try.f29, Option.getD_some]
    refine Goes.step rfl (fun _ h₁ => ?_)
    replace hF := at_rely hF h₁
    clear h₁
    rw [stepG_seq]
    simp only [goes_go]
    refine ⟨T.idle _, ?_⟩
    refine Goes.step rfl (fun _ h₁ => ?_)
    replace hF := at_rely hF h₁
    clear h₁
    rw [stepG_region]
    simp only [goes_go, List.size_toArray, List.length_cons, List.length_nil, Nat.reduceAdd, Nat.zero_add, List.range, List.range.loop]
    refine ⟨T.idle _, ?_⟩
    refine Goes.stop fun w₁ h₁ => ?_
    replace hF := at_rely hF h₁
    clear h₁
    obtain ⟨s, r, hcf⟩ := hF.cf
    refine BR.recv (z := .int .i64 0) (ok := true) (v := .int .i64 (p : Nat)) rfl (fun w₂ k => ?_) hcf (by simp) (by simp [ival]) fun w₂ k => ?_
    · rw [stepG_comm (cases := #[rcase X.Cf (.int .i64 0)]) (blocking := true) (shape := .recv true) (w' := w₂) rfl rfl (by k_ne) ?_]
      · congr 1
      · refine eq_of_k fun κ hκ => ?_
        go_simp
        simpa [rcase] using hκ
    have hF' : ButCf X w₀ (w₂.setChan X.Cf X.n (((p :: fb).map ival).toArray.extract 1 ((p :: fb).map ival).toArray.size) true s (r + 1) false) fb := by
      have h2 := at_rely hF k
      have hlt : X.Cf < w₂.heap.size := by
        obtain ⟨d, rfl⟩ := k
        exact (Array.getElem?_eq_some_iff.1 hcf).1
      refine ⟨h2.tape, h2.os, h2.output, by simpa [World.setChan] using h2.size, fun b hb => ?_, s, r + 1, ?_⟩
      · rw [← h2.block b hb]
        simp [World.setChan, Array.getElem?_setIfInBounds_ne (Ne.symm hb)]
      · simp [World.setChan, hlt, List.take_of_length_le]
    clear k hcf hF
    have hF := hF'
    clear hF'
    rw [served_G, Frame.finish_at]
    simp only [recvd]
    walk_nrm
    have hmin : (if p < l then (p : Int) else (l : Int)) = ((min l p : Nat) : Int) := by split <;> omega
    refine BR.of_goes (n := 30) ?_
    refine Goes.step rfl (fun _ h₁ => ?_)
    replace hF := at_rely hF h₁
    clear h₁
    refine goes_oper_k rfl rfl (by k_ne) (fun κ hκ => ?_)
    go_simp
    refine hκ _ _ ⟨idle_of T (fun e he => ?_), ?_⟩
    · have hm := mem_listed he
      simp [go_sem, *] at hm
    clear hκ κ
    refine Goes.step rfl (fun _ h₁ => ?_)
    replace hF := at_rely hF h₁
    clear h₁
    rw [stepG_region_end]
    simp only [goes_go]
    refine ⟨T.idle _, ?_⟩
    refine Goes.step rfl (fun _ h₁ => ?_)
    replace hF := at_rely hF h₁
    clear h₁
    rw [stepG_seq]
    simp only [goes_go]
    refine ⟨T.idle _, ?_⟩
    refine Goes.step rfl (fun _ h₁ => ?_)
    replace hF := at_rely hF h₁
    clear h₁
    rw [stepG_cond (t := true) rfl]
    simp only [goes_go, ↓reduceIte]
    refine ⟨T.idle _, ?_⟩
    refine Goes.step rfl (fun _ h₁ => ?_)
    replace hF := at_rely hF h₁
    clear h₁
    rw [stepG_skip]
    simp only [goes_go]
    refine ⟨T.idle _, ?_⟩
    refine Goes.step rfl (fun _ h₁ => ?_)
    replace hF := at_rely hF h₁
    clear h₁
    rw [stepG_block]
    simp only [goes_go]
    refine ⟨T.idle _, ?_⟩
    refine Goes.step rfl (fun _ h₁ => ?_)
    replace hF := at_rely hF h₁
    clear h₁
    rw [stepG_seq]
    simp only [goes_go]
    refine ⟨T.idle _, ?_⟩
    refine Goes.step rfl (fun _ h₁ => ?_)
    replace hF := at_rely hF h₁
    clear h₁
    rw [stepG_region]
    simp only [goes_go, List.size_toArray, List.length_cons, List.length_nil, Nat.reduceAdd, Nat.zero_add, List.range, List.range.loop]
    refine ⟨T.idle _, ?_⟩
    refine Goes.step rfl (fun _ h₁ => ?_)
    replace hF := at_rely hF h₁
    clear h₁
    refine goes_oper_k rfl rfl (by k_ne) (fun κ hκ => ?_)
    go_simp
    refine hκ _ _ ⟨idle_of T (fun e he => ?_), ?_⟩
    · have hm := mem_listed he
      simp [go_sem, *] at hm
    clear hκ κ
    refine Goes.step rfl (fun _ h₁ => ?_)
    replace hF := at_rely hF h₁
    clear h₁
    refine goes_oper_k rfl rfl (by k_ne) (fun κ hκ => ?_)
    go_simp
    refine hκ _ _ ⟨idle_of T (fun e he => ?_), ?_⟩
    · have hm := mem_listed he
      simp [go_sem, *] at hm
    clear hκ κ
    refine Goes.step rfl (fun _ h₁ => ?_)
    replace hF := at_rely hF h₁
    clear h₁
    rw [stepG_region_end]
    simp only [goes_go]
    refine ⟨T.idle _, ?_⟩
    refine Goes.step rfl (fun _ h₁ => ?_)
    replace hF := at_rely hF h₁
    clear h₁
    rw [stepG_region]
    simp only [goes_go, List.size_toArray, List.length_cons, List.length_nil, Nat.reduceAdd, Nat.zero_add, List.range, List.range.loop]
    refine ⟨T.idle _, ?_⟩
    refine Goes.step rfl (fun _ h₁ => ?_)
    replace hF := at_rely hF h₁
    clear h₁
    refine goes_oper_k rfl rfl (by k_ne) (fun κ hκ => ?_)
    go_simp
    refine hκ _ _ ⟨idle_of T (fun e he => ?_), ?_⟩
    · have hm := mem_listed he
      simp [go_sem, *] at hm
    clear hκ κ
    refine Goes.step rfl (fun _ h₁ => ?_)
    replace hF := at_rely hF h₁
    clear h₁
    refine goes_oper_k rfl rfl (by k_ne) (fun κ hκ => ?_)
    go_simp
    refine hκ _ _ ⟨idle_of T (fun e he => ?_), ?_⟩
    · have hm := mem_listed he
      simp [go_sem, *] at hm
    clear hκ κ
    refine Goes.step rfl (fun _ h₁ => ?_)
    replace hF := at_rely hF h₁
    clear h₁
    refine goes_oper_k rfl rfl (by k_ne) (fun κ hκ => ?_)
    go_simp
    refine hκ _ _ ⟨idle_of T (fun e he => ?_), ?_⟩
    · have hm := mem_listed he
      simp [go_sem, Builtin.min_, Builtin.min2] at hm
    clear hκ κ
    refine Goes.step rfl (fun _ h₁ => ?_)
    replace hF := at_rely hF h₁
    clear h₁
    refine goes_oper_k rfl rfl (by k_ne) (fun κ hκ => ?_)
    go_simp
    refine hκ _ _ ⟨idle_of T (fun e he => ?_), ?_⟩
    · have hm := mem_listed he
      simp [go_sem, *] at hm
    clear hκ κ
    refine Goes.step rfl (fun _ h₁ => ?_)
    replace hF := at_rely hF h₁
    clear h₁
    rw [stepG_region_end]
    simp only [goes_go]
    refine ⟨T.idle _, ?_⟩
    refine Goes.step rfl (fun _ h₁ => ?_)
    replace hF := at_rely hF h₁
    clear h₁
    rw [stepG_inBlock]
    simp only [goes_go]
    refine ⟨T.idle _, ?_⟩
    refine Goes.step rfl (fun _ h₁ => ?_)
    replace hF := at_rely hF h₁
    clear h₁
    rw [stepG_inLoop]
    simp only [goes_go]
    refine ⟨T.idle _, ?_⟩
    refine Goes.stop fun w₃ h₃ => ?_
    exact ih (min l p) w₃ (at_rely hF h₃) _ _ _ _ _ _ _ _ _ _ _ _ _ _ _ _ _ _ _ _ _ _ _ _ _ _ _ _ _ _ _ _ _ _ _ _ _ _ _ _ _ _ hS
end
end Go.Proofs.Ytbckmkppmdfnnaa.Crew
