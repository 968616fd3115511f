/- crew: beside leavers: Is, Does, Both; is and does; the document's First, All, Fold; First and All as contracts. Made by wip/tools/crew/mkAv.py. -/
import Derived.Test.YtbckmkppmdfnnaaCrAu
namespace Go.Proofs.Ytbckmkppmdfnnaa.Crew
open Go.Conc Go.RowKit Go.Conc.Lib Go.ConcR.Gen
theorem envZ (Z : Nat → Prop) : Env AtRel (DZ Z) (fun a => ¬ Z a.block) := ⟨termsZ Z, atRel_refl, fun w => ⟨w.drawn + 1, rfl⟩, draw_dz Z, fun w es h e he => by
  obtain ⟨a, ha, rfl⟩ := h e he
  exact evC_cell false ha⟩
section
variable {Z : Nat → Prop}
theorem is_cb (k : Nat) (x : Int) (w : World) : CB 32 #[.int .u8 k, .int .i64 x] Z w (fun Z' v w' => Z' = Z ∧ v = .bool (isF k x) ∧ AtRel w w') := CB.ofC (Post := fun v _ => v = .bool (isF k x)) fun w₁ _ => is_c (envZ Z) k x w₁
theorem does_cb (k : Nat) (x : Int) (w : World) : CB 36 #[.int .u8 k, .int .i64 x] Z w (fun Z' v w' => Z' = Z ∧ v = .int .i64 (doesF k x) ∧ AtRel w w') := CB.ofC (Post := fun v _ => v = .int .i64 (doesF k x)) fun w₁ _ => does_c (envZ Z) k x w₁
def bothF (a b : Int) : Int := IntKind.i64.wrap (IntKind.i64.wrap (3 * a) - b)
noncomputable def body23 : Code := Try.f23.body.getD .skip
set_option maxRecDepth 100000 in
theorem both_cb (a b : Int) (w : World) : CB 23 #[.int .i64 a, .int .i64 b] Z w (fun Z' v w' => Z = Z' ∧ w = w' ∧ v = .int .i64 (bothF a b)) := by
  refine ⟨Try.f23, body23, Try.func23, by kernel_rfl, rfl, fun Stop b₀ a₀ ops i rest kk cs hnx => ?_⟩
  simp only [body23, Try.f23, Option.getD_some]
  walk_nrm
  refine BA.seq ?_
  refine BA.reg ?_
  simp only [List.size_toArray, List.length_cons, List.length_nil, Nat.zero_add, List.range, List.range.loop]
  refine BA.op rfl rfl (by k_ne) fun w₁ r K hK => ?_
  go_simp
  refine hK _ (fun e he => ?_) ?_
  · have hm := mem_listed he
    simp [go_sem] at hm
  clear hK K r w₁
  refine BA.regEnd ?_
  refine BA.seq ?_
  refine BA.reg ?_
  simp only [List.size_toArray, List.length_cons, List.length_nil, Nat.reduceAdd, Nat.zero_add, List.range, List.range.loop]
  refine BA.op rfl rfl (by k_ne) fun w₁ r K hK => ?_
  go_simp
  refine hK _ (fun e he => ?_) ?_
  · have hm := mem_listed he
    simp [go_sem] at hm
  clear hK K r w₁
  refine BA.op rfl rfl (by k_ne) fun w₁ r K hK => ?_
  go_simp
  refine hK _ (fun e he => ?_) ?_
  · have hm := mem_listed he
    simp [go_sem] at hm
  clear hK K r w₁
  refine BA.op rfl rfl (by k_ne) fun w₁ r K hK => ?_
  go_simp
  refine hK _ (fun e he => ?_) ?_
  · have hm := mem_listed he
    simp [go_sem] at hm
  clear hK K r w₁
  refine BA.op rfl rfl (by k_ne) fun w₁ r K hK => ?_
  go_simp
  refine hK _ (fun e he => ?_) ?_
  · have hm := mem_listed he
    simp [go_sem] at hm
  clear hK K r w₁
  refine BA.op rfl rfl (by k_ne) fun w₁ r K hK => ?_
  go_simp
  refine hK _ (fun e he => ?_) ?_
  · have hm := mem_listed he
    simp [go_sem] at hm
  clear hK K r w₁
  refine BA.regEnd ?_
  refine BA.ret ?_
  refine BA.leave1 Try.func23 rfl ?_
  exact hnx _ _ _ ⟨rfl, rfl, rfl⟩
def xorF (a b : Int) : Int := bits .xor .i64 (IntKind.i64.wrap (a * 5)) b
noncomputable def body25 : Code := Try.f25.body.getD .skip
set_option maxRecDepth 100000 in
theorem xor_cb (a b : Int) (w : World) : CB 25 #[.int .i64 a, .int .i64 b] Z w (fun Z' v w' => Z = Z' ∧ w = w' ∧ v = .int .i64 (xorF a b)) := by
  refine ⟨Try.f25, body25, Try.func25, by kernel_rfl, rfl, fun Stop b₀ a₀ ops i rest kk cs hnx => ?_⟩
  simp only [body25, Try.f25, Option.getD_some]
  walk_nrm
  refine BA.seq ?_
  refine BA.reg ?_
  simp only [List.size_toArray, List.length_cons, List.length_nil, Nat.zero_add, List.range, List.range.loop]
  refine BA.op rfl rfl (by k_ne) fun w₁ r K hK => ?_
  go_simp
  refine hK _ (fun e he => ?_) ?_
  · have hm := mem_listed he
    simp [go_sem] at hm
  clear hK K r w₁
  refine BA.regEnd ?_
  refine BA.seq ?_
  refine BA.reg ?_
  simp only [List.size_toArray, List.length_cons, List.length_nil, Nat.reduceAdd, Nat.zero_add, List.range, List.range.loop]
  refine BA.op rfl rfl (by k_ne) fun w₁ r K hK => ?_
  go_simp
  refine hK _ (fun e he => ?_) ?_
  · have hm := mem_listed he
    simp [go_sem] at hm
  clear hK K r w₁
  refine BA.op rfl rfl (by k_ne) fun w₁ r K hK => ?_
  go_simp
  refine hK _ (fun e he => ?_) ?_
  · have hm := mem_listed he
    simp [go_sem] at hm
  clear hK K r w₁
  refine BA.op rfl rfl (by k_ne) fun w₁ r K hK => ?_
  go_simp
  refine hK _ (fun e he => ?_) ?_
  · have hm := mem_listed he
    simp [go_sem] at hm
  clear hK K r w₁
  refine BA.op rfl rfl (by k_ne) fun w₁ r K hK => ?_
  go_simp
  refine hK _ (fun e he => ?_) ?_
  · have hm := mem_listed he
    simp [go_sem] at hm
  clear hK K r w₁
  refine BA.op rfl rfl (by k_ne) fun w₁ r K hK => ?_
  go_simp
  refine hK _ (fun e he => ?_) ?_
  · have hm := mem_listed he
    simp [go_sem] at hm
  clear hK K r w₁
  refine BA.regEnd ?_
  refine BA.ret ?_
  refine BA.leave1 Try.func25 rfl ?_
  exact hnx _ _ _ ⟨rfl, rfl, rfl⟩
noncomputable def body26 : Code := Try.f26.body.getD .skip
set_option maxRecDepth 100000 in
theorem xor_cb2 (a b : Int) (w : World) : CB 26 #[.int .i64 a, .int .i64 b] Z w (fun Z' v w' => Z = Z' ∧ w = w' ∧ v = .int .i64 (xorF a b)) := by
  refine ⟨Try.f26, body26, Try.func26, by kernel_rfl, rfl, fun Stop b₀ a₀ ops i rest kk cs hnx => ?_⟩
  simp only [body26, Try.f26, Option.getD_some]
  walk_nrm
  refine BA.seq ?_
  refine BA.reg ?_
  simp only [List.size_toArray, List.length_cons, List.length_nil, Nat.zero_add, List.range, List.range.loop]
  refine BA.op rfl rfl (by k_ne) fun w₁ r K hK => ?_
  go_simp
  refine hK _ (fun e he => ?_) ?_
  · have hm := mem_listed he
    simp [go_sem] at hm
  clear hK K r w₁
  refine BA.regEnd ?_
  refine BA.seq ?_
  refine BA.reg ?_
  simp only [List.size_toArray, List.length_cons, List.length_nil, Nat.reduceAdd, Nat.zero_add, List.range, List.range.loop]
  refine BA.op rfl rfl (by k_ne) fun w₁ r K hK => ?_
  go_simp
  refine hK _ (fun e he => ?_) ?_
  · have hm := mem_listed he
    simp [go_sem] at hm
  clear hK K r w₁
  refine BA.op rfl rfl (by k_ne) fun w₁ r K hK => ?_
  go_simp
  refine hK _ (fun e he => ?_) ?_
  · have hm := mem_listed he
    simp [go_sem] at hm
  clear hK K r w₁
  refine BA.op rfl rfl (by k_ne) fun w₁ r K hK => ?_
  go_simp
  refine hK _ (fun e he => ?_) ?_
  · have hm := mem_listed he
    simp [go_sem] at hm
  clear hK K r w₁
  refine BA.op rfl rfl (by k_ne) fun w₁ r K hK => ?_
  go_simp
  refine hK _ (fun e he => ?_) ?_
  · have hm := mem_listed he
    simp [go_sem] at hm
  clear hK K r w₁
  refine BA.op rfl rfl (by k_ne) fun w₁ r K hK => ?_
  go_simp
  refine hK _ (fun e he => ?_) ?_
  · have hm := mem_listed he
    simp [go_sem] at hm
  clear hK K r w₁
  refine BA.regEnd ?_
  refine BA.ret ?_
  refine BA.leave1 Try.func26 rfl ?_
  exact hnx _ _ _ ⟨rfl, rfl, rfl⟩
noncomputable def body14 : Code := Try.f14.body.getD .skip
set_option maxRecDepth 100000 in
theorem isK_cb {w0 : World} (hZ : ∀ c, Z c → c < w0.heap.size) (k : Nat) : CB 14 #[.int .u8 k] Z w0 (fun Z' v w' => Ext Z Z' w0 w' ∧ ∃ kb, v = .func (.func 31) #[] #[.pointer (some ⟨kb, 0, none⟩)] ∧ FunAt w' Z' 31 kb (.int .u8 k)) := by
  refine ⟨Try.f14, body14, Try.func14, by kernel_rfl, rfl, fun Stop b₀ a₀ ops i rest kk cs hnx => ?_⟩
  simp only [body14, Try.f14, Option.getD_some]
  walk_nrm
  obtain ⟨w, hw⟩ : ∃ w, w = w0 := ⟨w0, rfl⟩
  have hF : Held Z [] w := by rw [hw]; exact Held.start hZ
  have hX : Ext Z Z w0 w := by rw [hw]; exact Ext.refl hZ
  rw [show BA Stop Z _ w0 = BA Stop Z _ w by rw [hw]]
  clear hw
  refine BA.seq ?_
  refine BA.reg ?_
  simp only [List.size_toArray, List.length_cons, List.length_nil, Nat.reduceAdd, Nat.zero_add, List.range, List.range.loop]
  refine BA.value (v := .pointer (some ⟨w.heap.size, 0, none⟩)) (w' := w.alloc (.cells #[.int .u8 k] 5)) rfl rfl (by k_ne) (fun d => by unfold execOp; simp [go_sem]; exact ⟨rfl, rfl⟩) (fun d e he => ?_) ?_
  · unfold execOp at he
    simp [go_sem] at he
  replace hF := hF.alloc (.cells #[.int .u8 k] 5)
  replace hX := hX.alloc (.cells #[.int .u8 k] 5)
  have ltkb : w.heap.size < (w.alloc (.cells #[.int .u8 k] 5)).heap.size := by rw [heap_al, Array.size_push]; omega
  generalize w.alloc (.cells #[.int .u8 k] 5) = w1 at hF hX ltkb ⊢
  obtain ⟨kb, hkb⟩ : ∃ N, w.heap.size = N := ⟨_, rfl⟩
  rw [hkb] at hF ltkb ⊢
  walk_nrm
  refine BA.op rfl rfl (by k_ne) fun w₁ r K hK => ?_
  go_simp
  refine hK _ (fun e he => ?_) ?_
  · have hm := mem_listed he
    simp [go_sem] at hm
  clear hK K r w₁
  refine BA.regEnd ?_
  refine BA.seq ?_
  refine BA.reg ?_
  simp only [List.size_toArray, List.length_cons, List.length_nil, Nat.reduceAdd, Nat.zero_add, List.range, List.range.loop]
  refine BA.op rfl rfl (by k_ne) fun w₁ r K hK => ?_
  go_simp
  refine hK _ (fun e he => ?_) ?_
  · have hm := mem_listed he
    simp [go_sem, Instr.makeFunc] at hm
  clear hK K r w₁
  refine BA.op rfl rfl (by k_ne) fun w₁ r K hK => ?_
  go_simp
  refine hK _ (fun e he => ?_) ?_
  · have hm := mem_listed he
    simp [go_sem] at hm
  clear hK K r w₁
  refine BA.regEnd ?_
  refine BA.ret ?_
  refine BA.leave1 Try.func14 rfl ?_
  exact hnx _ _ _ ⟨hX, kb, rfl, hF.cell (c := kb) (u := .int .u8 k) (ty := 5) (by simp), ltkb, hF.clean (kb, .cells #[.int .u8 k] 5) (by simp)⟩
noncomputable def body18 : Code := Try.f18.body.getD .skip
set_option maxRecDepth 100000 in
theorem doesK_cb {w0 : World} (hZ : ∀ c, Z c → c < w0.heap.size) (k : Nat) : CB 18 #[.int .u8 k] Z w0 (fun Z' v w' => Ext Z Z' w0 w' ∧ ∃ kb, v = .func (.func 35) #[] #[.pointer (some ⟨kb, 0, none⟩)] ∧ FunAt w' Z' 35 kb (.int .u8 k)) := by
  refine ⟨Try.f18, body18, Try.func18, by kernel_rfl, rfl, fun Stop b₀ a₀ ops i rest kk cs hnx => ?_⟩
  simp only [body18, Try.f18, Option.getD_some]
  walk_nrm
  obtain ⟨w, hw⟩ : ∃ w, w = w0 := ⟨w0, rfl⟩
  have hF : Held Z [] w := by rw [hw]; exact Held.start hZ
  have hX : Ext Z Z w0 w := by rw [hw]; exact Ext.refl hZ
  rw [show BA Stop Z _ w0 = BA Stop Z _ w by rw [hw]]
  clear hw
  refine BA.seq ?_
  refine BA.reg ?_
  simp only [List.size_toArray, List.length_cons, List.length_nil, Nat.reduceAdd, Nat.zero_add, List.range, List.range.loop]
  refine BA.value (v := .pointer (some ⟨w.heap.size, 0, none⟩)) (w' := w.alloc (.cells #[.int .u8 k] 5)) rfl rfl (by k_ne) (fun d => by unfold execOp; simp [go_sem]; exact ⟨rfl, rfl⟩) (fun d e he => ?_) ?_
  · unfold execOp at he
    simp [go_sem] at he
  replace hF := hF.alloc (.cells #[.int .u8 k] 5)
  replace hX := hX.alloc (.cells #[.int .u8 k] 5)
  have ltkb : w.heap.size < (w.alloc (.cells #[.int .u8 k] 5)).heap.size := by rw [heap_al, Array.size_push]; omega
  generalize w.alloc (.cells #[.int .u8 k] 5) = w1 at hF hX ltkb ⊢
  obtain ⟨kb, hkb⟩ : ∃ N, w.heap.size = N := ⟨_, rfl⟩
  rw [hkb] at hF ltkb ⊢
  walk_nrm
  refine BA.op rfl rfl (by k_ne) fun w₁ r K hK => ?_
  go_simp
  refine hK _ (fun e he => ?_) ?_
  · have hm := mem_listed he
    simp [go_sem] at hm
  clear hK K r w₁
  refine BA.regEnd ?_
  refine BA.seq ?_
  refine BA.reg ?_
  simp only [List.size_toArray, List.length_cons, List.length_nil, Nat.reduceAdd, Nat.zero_add, List.range, List.range.loop]
  refine BA.op rfl rfl (by k_ne) fun w₁ r K hK => ?_
  go_simp
  refine hK _ (fun e he => ?_) ?_
  · have hm := mem_listed he
    simp [go_sem, Instr.makeFunc] at hm
  clear hK K r w₁
  refine BA.op rfl rfl (by k_ne) fun w₁ r K hK => ?_
  go_simp
  refine hK _ (fun e he => ?_) ?_
  · have hm := mem_listed he
    simp [go_sem] at hm
  clear hK K r w₁
  refine BA.regEnd ?_
  refine BA.ret ?_
  refine BA.leave1 Try.func18 rfl ?_
  exact hnx _ _ _ ⟨hX, kb, rfl, hF.cell (c := kb) (u := .int .u8 k) (ty := 5) (by simp), ltkb, hF.clean (kb, .cells #[.int .u8 k] 5) (by simp)⟩
noncomputable def body20 : Code := Try.f20.body.getD .skip
noncomputable def L20 : Code := match body20 with | .seq _ (.seq (.seq _ (.block _ (.loop c))) _) => c | _ => .skip
noncomputable def E20 : Code := match body20 with | .seq _ (.seq _ c) => c | _ => .skip
set_option maxRecDepth 100000 in
set_option maxHeartbeats 1000000 in
theorem rFirst_cb {w : World} {oa : Option Addr} {n ca kd : Nat} {xs : Nat → Int} (hn : n ≤ 1000000) (hL : Lists w Z oa n xs) :
    CB 20 #[.slice oa n ca, .int .u8 kd] Z w (fun Z' v w' => Z = Z' ∧ w = w' ∧ ∃ r, v = res n r ∧ Least (fun p => isF kd (xs p)) n r) := by
  refine ⟨Try.f20, body20, Try.func20, by kernel_rfl, rfl, fun Stop b₀ a₀ ops i rest kk cs hnx => ?_⟩
  simp only [body20, Try.f20, Option.getD_some]
  walk_nrm
  have key : ∀ (j k : Nat), j + k = n → (∀ p, p < k → isF kd (xs p) = false) → ∀ u6 u7 u8 u9 u10 u11 u12 u13 u14 u15 u16 u17 u18 : Value, BA Stop Z (G ((base 20).at ⟨#[.slice oa n ca, .int .u8 kd, undef, undef, .int .i64 0, .int .i64 (k : Nat), u6, u7, u8, u9, u10, u11, u12, u13, u14, u15, u16, u17, u18], []⟩ [.code L20, .inLoop L20, .inBlock 0, .code E20]) (b₀.at a₀ (.inRegion ops (i :: rest) :: kk) :: cs)) w := by
    intro j
    induction j with
    | zero =>
      intro k hk hup u6 u7 u8 u9 u10 u11 u12 u13 u14 u15 u16 u17 u18
      obtain rfl : k = n := by omega
      simp only [L20, E20, body20, Try.f20, Option.getD_some]
      refine BA.seq ?_
      refine BA.seq ?_
      refine BA.reg ?_
      simp only [List.size_toArray, List.length_cons, List.length_nil, Nat.reduceAdd, Nat.zero_add, List.range, List.range.loop]
      refine BA.op rfl rfl (by k_ne) fun w₁ r K hK => ?_
      go_simp
      refine hK _ (fun e he => ?_) ?_
      · have hm := mem_listed he
        simp [go_sem] at hm
      clear hK K r w₁
      refine BA.op rfl rfl (by k_ne) fun w₁ r K hK => ?_
      go_simp
      refine hK _ (fun e he => ?_) ?_
      · have hm := mem_listed he
        simp [go_sem] at hm
      clear hK K r w₁
      refine BA.op rfl rfl (by k_ne) fun w₁ r K hK => ?_
      go_simp
      refine hK _ (fun e he => ?_) ?_
      · have hm := mem_listed he
        simp [go_sem] at hm
      clear hK K r w₁
      refine BA.op rfl rfl (by k_ne) fun w₁ r K hK => ?_
      go_simp
      refine hK _ (fun e he => ?_) ?_
      · have hm := mem_listed he
        simp [go_sem] at hm
      clear hK K r w₁
      refine BA.regEnd ?_
      refine BA.condF rfl ?_
      refine BA.exit rfl ?_
      refine BA.seq ?_
      refine BA.reg ?_
      simp only [List.size_toArray, List.length_cons, List.length_nil, Nat.zero_add, List.range, List.range.loop]
      refine BA.op rfl rfl (by k_ne) fun w₁ r K hK => ?_
      go_simp
      refine hK _ (fun e he => ?_) ?_
      · have hm := mem_listed he
        simp [go_sem] at hm
      clear hK K r w₁
      refine BA.regEnd ?_
      refine BA.ret ?_
      refine BA.leave1 Try.func20 rfl ?_
      exact hnx _ _ _ ⟨rfl, rfl, k, by simp [res], Nat.le_refl _, fun h => absurd h (by omega), hup⟩
    | succ j ih =>
      intro k hk hup u6 u7 u8 u9 u10 u11 u12 u13 u14 u15 u16 u17 u18
      have hlt : k < n := by omega
      have hlt' : (k : Int) < (n : Int) := by omega
      obtain ⟨a1, ea⟩ := hL.one (by omega)
      obtain ⟨x1, x2, x3⟩ := hL.el a1 k ea hlt
      have hEA := Go.Lib.hid ea
      clear ea
      have hwr : IntKind.i64.wrap ((k : Int) + 1) = ((k + 1 : Nat) : Int) := by unfold IntKind.wrap; simp [IntKind.bits, IntKind.signed]; omega
      simp only [L20, E20, body20, Try.f20, Option.getD_some]
      refine BA.seq ?_
      refine BA.seq ?_
      refine BA.reg ?_
      simp only [List.size_toArray, List.length_cons, List.length_nil, Nat.reduceAdd, Nat.zero_add, List.range, List.range.loop]
      refine BA.op rfl rfl (by k_ne) fun w₁ r K hK => ?_
      go_simp
      refine hK _ (fun e he => ?_) ?_
      · have hm := mem_listed he
        simp [go_sem] at hm
      clear hK K r w₁
      refine BA.op rfl rfl (by k_ne) fun w₁ r K hK => ?_
      go_simp
      refine hK _ (fun e he => ?_) ?_
      · have hm := mem_listed he
        simp [go_sem] at hm
      clear hK K r w₁
      refine BA.op rfl rfl (by k_ne) fun w₁ r K hK => ?_
      go_simp
      refine hK _ (fun e he => ?_) ?_
      · have hm := mem_listed he
        simp [go_sem] at hm
      clear hK K r w₁
      refine BA.op rfl rfl (by k_ne) fun w₁ r K hK => ?_
      go_simp
      refine hK _ (fun e he => ?_) ?_
      · have hm := mem_listed he
        simp [go_sem] at hm
      clear hK K r w₁
      refine BA.regEnd ?_
      refine BA.condT rfl ?_
      refine BA.skip ?_
      refine BA.seq ?_
      refine BA.block ?_
      refine BA.seq ?_
      refine BA.reg ?_
      simp only [List.size_toArray, List.length_cons, List.length_nil, Nat.reduceAdd, Nat.zero_add, List.range, List.range.loop]
      refine BA.op rfl rfl (by k_ne) fun w₁ r K hK => ?_
      go_simp
      refine hK _ (fun e he => ?_) ?_
      · have hm := mem_listed he
        simp [go_sem] at hm
      clear hK K r w₁
      refine BA.op rfl rfl (by k_ne) fun w₁ r K hK => ?_
      go_simp
      refine hK _ (fun e he => ?_) ?_
      · have hm := mem_listed he
        simp [go_sem] at hm
      clear hK K r w₁
      refine BA.op rfl rfl (by k_ne) fun w₁ r K hK => ?_
      go_simp
      refine hK _ (fun e he => ?_) ?_
      · have hm := mem_listed he
        simp [go_sem] at hm
      clear hK K r w₁
      rw [hEA.out]
      refine BA.op rfl rfl (by k_ne) fun w₁ r K hK => ?_
      go_simp
      refine hK _ (fun e he => ?_) ?_
      · have hm := mem_listed he
        simp [go_sem, hlt] at hm
      clear hK K r w₁
      rw [← hEA.out]
      refine BA.op rfl rfl (by k_ne) fun w₁ r K hK => ?_
      have hcell := cell_atR r (x1)
      go_simp
      refine hK _ (fun e he => ?_) ?_
      · have hm := mem_listed he
        simp [go_sem, hcell] at hm
        subst hm
        exact evC_cell false (x3)
      clear hcell hK K r w₁
      refine BA.call rfl rfl (by k_ne) rfl (by walk_nrm; exact is_cb kd (xs k) w) fun Z1 v1 w1 hp => ?_
      obtain ⟨e1, rfl, hr⟩ := hp
      rw [e1]
      refine BA.at ?_ hr
      clear hr e1 Z1 w1
      walk_nrm
      refine BA.regEnd ?_
      cases hb : isF kd (xs k) with
      | true =>
        refine BA.condT rfl ?_
        refine BA.seq ?_
        refine BA.reg ?_
        simp only [List.size_toArray, List.length_cons, List.length_nil, Nat.reduceAdd, Nat.zero_add, List.range, List.range.loop]
        refine BA.op rfl rfl (by k_ne) fun w₁ r K hK => ?_
        go_simp
        refine hK _ (fun e he => ?_) ?_
        · have hm := mem_listed he
          simp [go_sem] at hm
        clear hK K r w₁
        refine BA.op rfl rfl (by k_ne) fun w₁ r K hK => ?_
        go_simp
        refine hK _ (fun e he => ?_) ?_
        · have hm := mem_listed he
          simp [go_sem] at hm
        clear hK K r w₁
        refine BA.regEnd ?_
        refine BA.ret ?_
        refine BA.leave1 Try.func20 rfl ?_
        have hkn : k ≠ n := by omega
        exact hnx _ _ _ ⟨rfl, rfl, k, by simp [res, hkn], by omega, fun _ => hb, hup⟩
      | false =>
        refine BA.condF rfl ?_
        refine BA.skip ?_
        refine BA.inBlock ?_
        refine BA.reg ?_
        simp only [List.size_toArray, List.length_cons, List.length_nil, Nat.reduceAdd, Nat.zero_add, List.range, List.range.loop]
        refine BA.op rfl rfl (by k_ne) fun w₁ r K hK => ?_
        go_simp
        refine hK _ (fun e he => ?_) ?_
        · have hm := mem_listed he
          simp [go_sem] at hm
        clear hK K r w₁
        refine BA.op rfl rfl (by k_ne) fun w₁ r K hK => ?_
        go_simp
        refine hK _ (fun e he => ?_) ?_
        · have hm := mem_listed he
          simp [go_sem] at hm
        clear hK K r w₁
        refine BA.op rfl rfl (by k_ne) fun w₁ r K hK => ?_
        go_simp
        refine hK _ (fun e he => ?_) ?_
        · have hm := mem_listed he
          simp [go_sem] at hm
        clear hK K r w₁
        refine BA.regEnd ?_
        refine BA.inLoop ?_
        exact ih (k + 1) (by omega) (fun p hp => by
          rcases Nat.lt_or_ge p k with h | h
          · exact hup p h
          · obtain rfl : p = k := by omega
            exact hb) _ _ _ _ _ _ _ _ _ _ _ _ _
  refine BA.seq ?_
  refine BA.reg ?_
  simp only [List.size_toArray, List.length_cons, List.length_nil, Nat.zero_add, List.range, List.range.loop]
  refine BA.op rfl rfl (by k_ne) fun w₁ r K hK => ?_
  go_simp
  refine hK _ (fun e he => ?_) ?_
  · have hm := mem_listed he
    simp [go_sem] at hm
  clear hK K r w₁
  refine BA.regEnd ?_
  refine BA.seq ?_
  refine BA.seq ?_
  refine BA.reg ?_
  simp only [List.size_toArray, List.length_cons, List.length_nil, Nat.zero_add, List.range, List.range.loop]
  refine BA.op rfl rfl (by k_ne) fun w₁ r K hK => ?_
  go_simp
  refine hK _ (fun e he => ?_) ?_
  · have hm := mem_listed he
    simp [go_sem] at hm
  clear hK K r w₁
  refine BA.regEnd ?_
  refine BA.block ?_
  refine BA.loop ?_
  exact key n 0 (by omega) (fun p hp => absurd hp (by omega)) _ _ _ _ _ _ _ _ _ _ _ _ _
noncomputable def body21 : Code := Try.f21.body.getD .skip
noncomputable def L21 : Code := match body21 with | .seq _ (.seq (.seq _ (.block _ (.loop c))) _) => c | _ => .skip
noncomputable def E21 : Code := match body21 with | .seq _ (.seq _ c) => c | _ => .skip
set_option maxRecDepth 100000 in
set_option maxHeartbeats 1000000 in
theorem rAll_cb {w : World} {oa : Option Addr} {n ca kd : Nat} {xs : Nat → Int} (hn : n ≤ 1000000) (hL : Lists w Z oa n xs) :
    CB 21 #[.slice oa n ca, .int .u8 kd] Z w (fun Z' v w' => Z = Z' ∧ w = w' ∧ ∃ r, v = .bool (decide (r = n)) ∧ Least (fun p => !isF kd (xs p)) n r) := by
  refine ⟨Try.f21, body21, Try.func21, by kernel_rfl, rfl, fun Stop b₀ a₀ ops i rest kk cs hnx => ?_⟩
  simp only [body21, Try.f21, Option.getD_some]
  walk_nrm
  have key : ∀ (j k : Nat), j + k = n → (∀ p, p < k → isF kd (xs p) = true) → ∀ u6 u7 u8 u9 u10 u11 u12 u13 u14 u15 u16 u17 u18 : Value, BA Stop Z (G ((base 21).at ⟨#[.slice oa n ca, .int .u8 kd, undef, undef, .bool false, .int .i64 (k : Nat), u6, u7, u8, u9, u10, u11, u12, u13, u14, u15, u16, u17, u18], []⟩ [.code L21, .inLoop L21, .inBlock 0, .code E21]) (b₀.at a₀ (.inRegion ops (i :: rest) :: kk) :: cs)) w := by
    intro j
    induction j with
    | zero =>
      intro k hk hup u6 u7 u8 u9 u10 u11 u12 u13 u14 u15 u16 u17 u18
      obtain rfl : k = n := by omega
      simp only [L21, E21, body21, Try.f21, Option.getD_some]
      refine BA.seq ?_
      refine BA.seq ?_
      refine BA.reg ?_
      simp only [List.size_toArray, List.length_cons, List.length_nil, Nat.reduceAdd, Nat.zero_add, List.range, List.range.loop]
      refine BA.op rfl rfl (by k_ne) fun w₁ r K hK => ?_
      go_simp
      refine hK _ (fun e he => ?_) ?_
      · have hm := mem_listed he
        simp [go_sem] at hm
      clear hK K r w₁
      refine BA.op rfl rfl (by k_ne) fun w₁ r K hK => ?_
      go_simp
      refine hK _ (fun e he => ?_) ?_
      · have hm := mem_listed he
        simp [go_sem] at hm
      clear hK K r w₁
      refine BA.op rfl rfl (by k_ne) fun w₁ r K hK => ?_
      go_simp
      refine hK _ (fun e he => ?_) ?_
      · have hm := mem_listed he
        simp [go_sem] at hm
      clear hK K r w₁
      refine BA.op rfl rfl (by k_ne) fun w₁ r K hK => ?_
      go_simp
      refine hK _ (fun e he => ?_) ?_
      · have hm := mem_listed he
        simp [go_sem] at hm
      clear hK K r w₁
      refine BA.regEnd ?_
      refine BA.condF rfl ?_
      refine BA.exit rfl ?_
      refine BA.seq ?_
      refine BA.reg ?_
      simp only [List.size_toArray, List.length_cons, List.length_nil, Nat.zero_add, List.range, List.range.loop]
      refine BA.op rfl rfl (by k_ne) fun w₁ r K hK => ?_
      go_simp
      refine hK _ (fun e he => ?_) ?_
      · have hm := mem_listed he
        simp [go_sem] at hm
      clear hK K r w₁
      refine BA.regEnd ?_
      refine BA.ret ?_
      refine BA.leave1 Try.func21 rfl ?_
      exact hnx _ _ _ ⟨rfl, rfl, k, by simp, Nat.le_refl _, fun h => absurd h (by omega), fun p hp => by simp [hup p hp]⟩
    | succ j ih =>
      intro k hk hup u6 u7 u8 u9 u10 u11 u12 u13 u14 u15 u16 u17 u18
      have hlt : k < n := by omega
      have hlt' : (k : Int) < (n : Int) := by omega
      obtain ⟨a1, ea⟩ := hL.one (by omega)
      obtain ⟨x1, x2, x3⟩ := hL.el a1 k ea hlt
      have hEA := Go.Lib.hid ea
      clear ea
      have hwr : IntKind.i64.wrap ((k : Int) + 1) = ((k + 1 : Nat) : Int) := by unfold IntKind.wrap; simp [IntKind.bits, IntKind.signed]; omega
      simp only [L21, E21, body21, Try.f21, Option.getD_some]
      refine BA.seq ?_
      refine BA.seq ?_
      refine BA.reg ?_
      simp only [List.size_toArray, List.length_cons, List.length_nil, Nat.reduceAdd, Nat.zero_add, List.range, List.range.loop]
      refine BA.op rfl rfl (by k_ne) fun w₁ r K hK => ?_
      go_simp
      refine hK _ (fun e he => ?_) ?_
      · have hm := mem_listed he
        simp [go_sem] at hm
      clear hK K r w₁
      refine BA.op rfl rfl (by k_ne) fun w₁ r K hK => ?_
      go_simp
      refine hK _ (fun e he => ?_) ?_
      · have hm := mem_listed he
        simp [go_sem] at hm
      clear hK K r w₁
      refine BA.op rfl rfl (by k_ne) fun w₁ r K hK => ?_
      go_simp
      refine hK _ (fun e he => ?_) ?_
      · have hm := mem_listed he
        simp [go_sem] at hm
      clear hK K r w₁
      refine BA.op rfl rfl (by k_ne) fun w₁ r K hK => ?_
      go_simp
      refine hK _ (fun e he => ?_) ?_
      · have hm := mem_listed he
        simp [go_sem] at hm
      clear hK K r w₁
      refine BA.regEnd ?_
      refine BA.condT rfl ?_
      refine BA.skip ?_
      refine BA.seq ?_
      refine BA.block ?_
      refine BA.seq ?_
      refine BA.reg ?_
      simp only [List.size_toArray, List.length_cons, List.length_nil, Nat.reduceAdd, Nat.zero_add, List.range, List.range.loop]
      refine BA.op rfl rfl (by k_ne) fun w₁ r K hK => ?_
      go_simp
      refine hK _ (fun e he => ?_) ?_
      · have hm := mem_listed he
        simp [go_sem] at hm
      clear hK K r w₁
      refine BA.op rfl rfl (by k_ne) fun w₁ r K hK => ?_
      go_simp
      refine hK _ (fun e he => ?_) ?_
      · have hm := mem_listed he
        simp [go_sem] at hm
      clear hK K r w₁
      refine BA.op rfl rfl (by k_ne) fun w₁ r K hK => ?_
      go_simp
      refine hK _ (fun e he => ?_) ?_
      · have hm := mem_listed he
        simp [go_sem] at hm
      clear hK K r w₁
      rw [hEA.out]
      refine BA.op rfl rfl (by k_ne) fun w₁ r K hK => ?_
      go_simp
      refine hK _ (fun e he => ?_) ?_
      · have hm := mem_listed he
        simp [go_sem, hlt] at hm
      clear hK K r w₁
      rw [← hEA.out]
      refine BA.op rfl rfl (by k_ne) fun w₁ r K hK => ?_
      have hcell := cell_atR r (x1)
      go_simp
      refine hK _ (fun e he => ?_) ?_
      · have hm := mem_listed he
        simp [go_sem, hcell] at hm
        subst hm
        exact evC_cell false (x3)
      clear hcell hK K r w₁
      refine BA.call rfl rfl (by k_ne) rfl (by walk_nrm; exact is_cb kd (xs k) w) fun Z1 v1 w1 hp => ?_
      obtain ⟨e1, rfl, hr⟩ := hp
      rw [e1]
      refine BA.at ?_ hr
      clear hr e1 Z1 w1
      walk_nrm
      refine BA.op rfl rfl (by k_ne) fun w₁ r K hK => ?_
      go_simp
      refine hK _ (fun e he => ?_) ?_
      · have hm := mem_listed he
        simp [go_sem, Op.unary] at hm
      clear hK K r w₁
      refine BA.regEnd ?_
      cases hb : isF kd (xs k) with
      | false =>
        refine BA.condT rfl ?_
        refine BA.seq ?_
        refine BA.reg ?_
        simp only [List.size_toArray, List.length_cons, List.length_nil, Nat.zero_add, List.range, List.range.loop]
        refine BA.op rfl rfl (by k_ne) fun w₁ r K hK => ?_
        go_simp
        refine hK _ (fun e he => ?_) ?_
        · have hm := mem_listed he
          simp [go_sem] at hm
        clear hK K r w₁
        refine BA.regEnd ?_
        refine BA.ret ?_
        refine BA.leave1 Try.func21 rfl ?_
        have hkn : k ≠ n := by omega
        exact hnx _ _ _ ⟨rfl, rfl, k, by simp [hkn], by omega, fun _ => by simp [hb], fun p hp => by simp [hup p hp]⟩
      | true =>
        refine BA.condF rfl ?_
        refine BA.skip ?_
        refine BA.inBlock ?_
        refine BA.reg ?_
        simp only [List.size_toArray, List.length_cons, List.length_nil, Nat.reduceAdd, Nat.zero_add, List.range, List.range.loop]
        refine BA.op rfl rfl (by k_ne) fun w₁ r K hK => ?_
        go_simp
        refine hK _ (fun e he => ?_) ?_
        · have hm := mem_listed he
          simp [go_sem] at hm
        clear hK K r w₁
        refine BA.op rfl rfl (by k_ne) fun w₁ r K hK => ?_
        go_simp
        refine hK _ (fun e he => ?_) ?_
        · have hm := mem_listed he
          simp [go_sem] at hm
        clear hK K r w₁
        refine BA.op rfl rfl (by k_ne) fun w₁ r K hK => ?_
        go_simp
        refine hK _ (fun e he => ?_) ?_
        · have hm := mem_listed he
          simp [go_sem] at hm
        clear hK K r w₁
        refine BA.regEnd ?_
        refine BA.inLoop ?_
        exact ih (k + 1) (by omega) (fun p hp => by
          rcases Nat.lt_or_ge p k with h | h
          · exact hup p h
          · obtain rfl : p = k := by omega
            exact hb) _ _ _ _ _ _ _ _ _ _ _ _ _
  refine BA.seq ?_
  refine BA.reg ?_
  simp only [List.size_toArray, List.length_cons, List.length_nil, Nat.zero_add, List.range, List.range.loop]
  refine BA.op rfl rfl (by k_ne) fun w₁ r K hK => ?_
  go_simp
  refine hK _ (fun e he => ?_) ?_
  · have hm := mem_listed he
    simp [go_sem] at hm
  clear hK K r w₁
  refine BA.regEnd ?_
  refine BA.seq ?_
  refine BA.seq ?_
  refine BA.reg ?_
  simp only [List.size_toArray, List.length_cons, List.length_nil, Nat.zero_add, List.range, List.range.loop]
  refine BA.op rfl rfl (by k_ne) fun w₁ r K hK => ?_
  go_simp
  refine hK _ (fun e he => ?_) ?_
  · have hm := mem_listed he
    simp [go_sem] at hm
  clear hK K r w₁
  refine BA.regEnd ?_
  refine BA.block ?_
  refine BA.loop ?_
  exact key n 0 (by omega) (fun p hp => absurd hp (by omega)) _ _ _ _ _ _ _ _ _ _ _ _ _
def foldN (g : Int → Int → Int) (ys : Nat → Int) : Nat → Int
  | 0 => ys 0
  | k + 1 => g (foldN g ys k) (ys (k + 1))
theorem foldN_step (g : Int → Int → Int) (ys : Nat → Int) {k : Nat} (h : 0 < k) : g (foldN g ys (k - 1)) (ys k) = foldN g ys k := by
  obtain ⟨j, rfl⟩ : ∃ j, k = j + 1 := ⟨k - 1, by omega⟩
  rfl
/-- What a fold answers. -/
def foldV (g : Int → Int → Int) (n : Nat) (ys : Nat → Int) : Value := .tuple #[.int .i64 (if n = 0 then 0 else foldN g ys (n - 1)), .bool (decide (0 < n))]
noncomputable def body24 : Code := Try.f24.body.getD .skip
noncomputable def L24 : Code := match body24 with | .seq _ (.seq _ (.seq _ (.seq (.seq _ (.block _ (.loop c))) _))) => c | _ => .skip
noncomputable def E24 : Code := match body24 with | .seq _ (.seq _ (.seq _ (.seq _ c))) => c | _ => .skip
set_option maxRecDepth 100000 in
set_option maxHeartbeats 1000000 in
theorem rFold_cb {w : World} {oa : Option Addr} {n ca kd : Nat} {xs : Nat → Int} (hn : n ≤ 1000000) (hL : Lists w Z oa n xs) :
    CB 24 #[.slice oa n ca, .int .u8 kd] Z w (fun Z' v w' => Z = Z' ∧ w = w' ∧ v = foldV bothF n (fun p => doesF kd (xs p))) := by
  refine ⟨Try.f24, body24, Try.func24, by kernel_rfl, rfl, fun Stop b₀ a₀ ops i rest kk cs hnx => ?_⟩
  simp only [body24, Try.f24, Option.getD_some]
  walk_nrm
  rcases Nat.eq_zero_or_pos n with rfl | h0
  · refine BA.seq ?_
    refine BA.reg ?_
    simp only [List.size_toArray, List.length_cons, List.length_nil, Nat.reduceAdd, Nat.zero_add, List.range, List.range.loop]
    refine BA.op rfl rfl (by k_ne) fun w₁ r K hK => ?_
    go_simp
    refine hK _ (fun e he => ?_) ?_
    · have hm := mem_listed he
      simp [go_sem] at hm
    clear hK K r w₁
    refine BA.op rfl rfl (by k_ne) fun w₁ r K hK => ?_
    go_simp
    refine hK _ (fun e he => ?_) ?_
    · have hm := mem_listed he
      simp [go_sem] at hm
    clear hK K r w₁
    refine BA.regEnd ?_
    refine BA.seq ?_
    refine BA.seq ?_
    refine BA.reg ?_
    simp only [List.size_toArray, List.length_cons, List.length_nil, Nat.reduceAdd, Nat.zero_add, List.range, List.range.loop]
    refine BA.op rfl rfl (by k_ne) fun w₁ r K hK => ?_
    go_simp
    refine hK _ (fun e he => ?_) ?_
    · have hm := mem_listed he
      simp [go_sem] at hm
    clear hK K r w₁
    refine BA.op rfl rfl (by k_ne) fun w₁ r K hK => ?_
    go_simp
    refine hK _ (fun e he => ?_) ?_
    · have hm := mem_listed he
      simp [go_sem] at hm
    clear hK K r w₁
    refine BA.op rfl rfl (by k_ne) fun w₁ r K hK => ?_
    go_simp
    refine hK _ (fun e he => ?_) ?_
    · have hm := mem_listed he
      simp [go_sem] at hm
    clear hK K r w₁
    refine BA.regEnd ?_
    refine BA.condT rfl ?_
    refine BA.seq ?_
    refine BA.reg ?_
    simp only [List.size_toArray, List.length_cons, List.length_nil, Nat.reduceAdd, Nat.zero_add, List.range, List.range.loop]
    refine BA.op rfl rfl (by k_ne) fun w₁ r K hK => ?_
    go_simp
    refine hK _ (fun e he => ?_) ?_
    · have hm := mem_listed he
      simp [go_sem] at hm
    clear hK K r w₁
    refine BA.op rfl rfl (by k_ne) fun w₁ r K hK => ?_
    go_simp
    refine hK _ (fun e he => ?_) ?_
    · have hm := mem_listed he
      simp [go_sem] at hm
    clear hK K r w₁
    refine BA.regEnd ?_
    refine BA.ret ?_
    refine BA.leave2 Try.func24 rfl ?_
    exact hnx _ _ _ ⟨rfl, rfl, by simp [foldV]⟩
  have key : ∀ (j k : Nat), j + k = n → 0 < k → ∀ u8 u9 u10 u11 u12 u13 u14 u15 u16 u17 u18 u19 u20 u21 u22 u23 u24 u25 u26 u27 u28 u29 u30 : Value, BA Stop Z (G ((base 24).at ⟨#[.slice oa n ca, .int .u8 kd, undef, undef, .int .i64 0, .bool false, .int .i64 (foldN bothF (fun p => doesF kd (xs p)) (k - 1)), .int .i64 (k : Nat), u8, u9, u10, u11, u12, u13, u14, u15, u16, u17, u18, u19, u20, u21, u22, u23, u24, u25, u26, u27, u28, u29, u30], []⟩ [.code L24, .inLoop L24, .inBlock 0, .code E24]) (b₀.at a₀ (.inRegion ops (i :: rest) :: kk) :: cs)) w := by
    intro j
    induction j with
    | zero =>
      intro k hk hpos u8 u9 u10 u11 u12 u13 u14 u15 u16 u17 u18 u19 u20 u21 u22 u23 u24 u25 u26 u27 u28 u29 u30
      obtain rfl : k = n := by omega
      simp only [L24, E24, body24, Try.f24, Option.getD_some]
      refine BA.seq ?_
      refine BA.seq ?_
      refine BA.reg ?_
      simp only [List.size_toArray, List.length_cons, List.length_nil, Nat.reduceAdd, Nat.zero_add, List.range, List.range.loop]
      refine BA.op rfl rfl (by k_ne) fun w₁ r K hK => ?_
      go_simp
      refine hK _ (fun e he => ?_) ?_
      · have hm := mem_listed he
        simp [go_sem] at hm
      clear hK K r w₁
      refine BA.op rfl rfl (by k_ne) fun w₁ r K hK => ?_
      go_simp
      refine hK _ (fun e he => ?_) ?_
      · have hm := mem_listed he
        simp [go_sem] at hm
      clear hK K r w₁
      refine BA.op rfl rfl (by k_ne) fun w₁ r K hK => ?_
      go_simp
      refine hK _ (fun e he => ?_) ?_
      · have hm := mem_listed he
        simp [go_sem] at hm
      clear hK K r w₁
      refine BA.op rfl rfl (by k_ne) fun w₁ r K hK => ?_
      go_simp
      refine hK _ (fun e he => ?_) ?_
      · have hm := mem_listed he
        simp [go_sem] at hm
      clear hK K r w₁
      refine BA.regEnd ?_
      refine BA.condF rfl ?_
      refine BA.exit rfl ?_
      refine BA.seq ?_
      refine BA.reg ?_
      simp only [List.size_toArray, List.length_cons, List.length_nil, Nat.reduceAdd, Nat.zero_add, List.range, List.range.loop]
      refine BA.op rfl rfl (by k_ne) fun w₁ r K hK => ?_
      go_simp
      refine hK _ (fun e he => ?_) ?_
      · have hm := mem_listed he
        simp [go_sem] at hm
      clear hK K r w₁
      refine BA.op rfl rfl (by k_ne) fun w₁ r K hK => ?_
      go_simp
      refine hK _ (fun e he => ?_) ?_
      · have hm := mem_listed he
        simp [go_sem] at hm
      clear hK K r w₁
      refine BA.op rfl rfl (by k_ne) fun w₁ r K hK => ?_
      go_simp
      refine hK _ (fun e he => ?_) ?_
      · have hm := mem_listed he
        simp [go_sem] at hm
      clear hK K r w₁
      refine BA.regEnd ?_
      refine BA.ret ?_
      refine BA.leave2 Try.func24 rfl ?_
      exact hnx _ _ _ ⟨rfl, rfl, by simp [foldV, h0]; omega⟩
    | succ j ih =>
      intro k hk hpos u8 u9 u10 u11 u12 u13 u14 u15 u16 u17 u18 u19 u20 u21 u22 u23 u24 u25 u26 u27 u28 u29 u30
      have hlt : k < n := by omega
      have hlt' : (k : Int) < (n : Int) := by omega
      obtain ⟨a1, ea⟩ := hL.one (by omega)
      obtain ⟨x1, x2, x3⟩ := hL.el a1 k ea hlt
      have hEA := Go.Lib.hid ea
      clear ea
      have hwr : IntKind.i64.wrap ((k : Int) + 1) = ((k + 1 : Nat) : Int) := by unfold IntKind.wrap; simp [IntKind.bits, IntKind.signed]; omega
      have hst := foldN_step bothF (fun p => doesF kd (xs p)) hpos
      simp only [L24, E24, body24, Try.f24, Option.getD_some]
      refine BA.seq ?_
      refine BA.seq ?_
      refine BA.reg ?_
      simp only [List.size_toArray, List.length_cons, List.length_nil, Nat.reduceAdd, Nat.zero_add, List.range, List.range.loop]
      refine BA.op rfl rfl (by k_ne) fun w₁ r K hK => ?_
      go_simp
      refine hK _ (fun e he => ?_) ?_
      · have hm := mem_listed he
        simp [go_sem] at hm
      clear hK K r w₁
      refine BA.op rfl rfl (by k_ne) fun w₁ r K hK => ?_
      go_simp
      refine hK _ (fun e he => ?_) ?_
      · have hm := mem_listed he
        simp [go_sem] at hm
      clear hK K r w₁
      refine BA.op rfl rfl (by k_ne) fun w₁ r K hK => ?_
      go_simp
      refine hK _ (fun e he => ?_) ?_
      · have hm := mem_listed he
        simp [go_sem] at hm
      clear hK K r w₁
      refine BA.op rfl rfl (by k_ne) fun w₁ r K hK => ?_
      go_simp
      refine hK _ (fun e he => ?_) ?_
      · have hm := mem_listed he
        simp [go_sem] at hm
      clear hK K r w₁
      refine BA.regEnd ?_
      refine BA.condT rfl ?_
      refine BA.skip ?_
      refine BA.seq ?_
      refine BA.block ?_
      refine BA.reg ?_
      simp only [List.size_toArray, List.length_cons, List.length_nil, Nat.reduceAdd, Nat.zero_add, List.range, List.range.loop]
      refine BA.op rfl rfl (by k_ne) fun w₁ r K hK => ?_
      go_simp
      refine hK _ (fun e he => ?_) ?_
      · have hm := mem_listed he
        simp [go_sem] at hm
      clear hK K r w₁
      refine BA.op rfl rfl (by k_ne) fun w₁ r K hK => ?_
      go_simp
      refine hK _ (fun e he => ?_) ?_
      · have hm := mem_listed he
        simp [go_sem] at hm
      clear hK K r w₁
      refine BA.op rfl rfl (by k_ne) fun w₁ r K hK => ?_
      go_simp
      refine hK _ (fun e he => ?_) ?_
      · have hm := mem_listed he
        simp [go_sem] at hm
      clear hK K r w₁
      refine BA.op rfl rfl (by k_ne) fun w₁ r K hK => ?_
      go_simp
      refine hK _ (fun e he => ?_) ?_
      · have hm := mem_listed he
        simp [go_sem] at hm
      clear hK K r w₁
      rw [hEA.out]
      refine BA.op rfl rfl (by k_ne) fun w₁ r K hK => ?_
      go_simp
      refine hK _ (fun e he => ?_) ?_
      · have hm := mem_listed he
        simp [go_sem, hlt] at hm
      clear hK K r w₁
      rw [← hEA.out]
      refine BA.op rfl rfl (by k_ne) fun w₁ r K hK => ?_
      have hcell := cell_atR r (x1)
      go_simp
      refine hK _ (fun e he => ?_) ?_
      · have hm := mem_listed he
        simp [go_sem, hcell] at hm
        subst hm
        exact evC_cell false (x3)
      clear hcell hK K r w₁
      refine BA.call rfl rfl (by k_ne) rfl (by walk_nrm; exact does_cb kd (xs k) w) fun Z1 v1 w1 hp => ?_
      obtain ⟨e1, rfl, hr⟩ := hp
      rw [e1]
      refine BA.at ?_ hr
      clear hr e1 Z1 w1
      walk_nrm
      refine BA.call rfl rfl (by k_ne) rfl (by walk_nrm; exact both_cb _ _ w) fun Z1 v1 w1 hp => ?_
      obtain ⟨rfl, rfl, rfl⟩ := hp
      walk_nrm
      refine BA.op rfl rfl (by k_ne) fun w₁ r K hK => ?_
      go_simp
      refine hK _ (fun e he => ?_) ?_
      · have hm := mem_listed he
        simp [go_sem] at hm
      clear hK K r w₁
      refine BA.regEnd ?_
      refine BA.inBlock ?_
      refine BA.reg ?_
      simp only [List.size_toArray, List.length_cons, List.length_nil, Nat.reduceAdd, Nat.zero_add, List.range, List.range.loop]
      refine BA.op rfl rfl (by k_ne) fun w₁ r K hK => ?_
      go_simp
      refine hK _ (fun e he => ?_) ?_
      · have hm := mem_listed he
        simp [go_sem] at hm
      clear hK K r w₁
      refine BA.op rfl rfl (by k_ne) fun w₁ r K hK => ?_
      go_simp
      refine hK _ (fun e he => ?_) ?_
      · have hm := mem_listed he
        simp [go_sem] at hm
      clear hK K r w₁
      refine BA.op rfl rfl (by k_ne) fun w₁ r K hK => ?_
      go_simp
      refine hK _ (fun e he => ?_) ?_
      · have hm := mem_listed he
        simp [go_sem] at hm
      clear hK K r w₁
      refine BA.regEnd ?_
      refine BA.inLoop ?_
      exact ih (k + 1) (by omega) (by omega) _ _ _ _ _ _ _ _ _ _ _ _ _ _ _ _ _ _ _ _ _ _ _
  obtain ⟨a1, ea⟩ := hL.one h0
  obtain ⟨x1, x2, x3⟩ := hL.el a1 0 ea h0
  rw [show a1.add 0 = a1 by simp [Addr.add]] at x1 x2 x3
  have hEA := Go.Lib.hid ea
  clear ea
  have hn0 : ((n : Int) == 0) = false := by simp; omega
  refine BA.seq ?_
  refine BA.reg ?_
  simp only [List.size_toArray, List.length_cons, List.length_nil, Nat.reduceAdd, Nat.zero_add, List.range, List.range.loop]
  refine BA.op rfl rfl (by k_ne) fun w₁ r K hK => ?_
  go_simp
  refine hK _ (fun e he => ?_) ?_
  · have hm := mem_listed he
    simp [go_sem] at hm
  clear hK K r w₁
  refine BA.op rfl rfl (by k_ne) fun w₁ r K hK => ?_
  go_simp
  refine hK _ (fun e he => ?_) ?_
  · have hm := mem_listed he
    simp [go_sem] at hm
  clear hK K r w₁
  refine BA.regEnd ?_
  refine BA.seq ?_
  refine BA.seq ?_
  refine BA.reg ?_
  simp only [List.size_toArray, List.length_cons, List.length_nil, Nat.reduceAdd, Nat.zero_add, List.range, List.range.loop]
  refine BA.op rfl rfl (by k_ne) fun w₁ r K hK => ?_
  go_simp
  refine hK _ (fun e he => ?_) ?_
  · have hm := mem_listed he
    simp [go_sem] at hm
  clear hK K r w₁
  refine BA.op rfl rfl (by k_ne) fun w₁ r K hK => ?_
  go_simp
  refine hK _ (fun e he => ?_) ?_
  · have hm := mem_listed he
    simp [go_sem] at hm
  clear hK K r w₁
  refine BA.op rfl rfl (by k_ne) fun w₁ r K hK => ?_
  go_simp
  refine hK _ (fun e he => ?_) ?_
  · have hm := mem_listed he
    simp [go_sem] at hm
  clear hK K r w₁
  refine BA.regEnd ?_
  refine BA.condF rfl ?_
  refine BA.skip ?_
  refine BA.seq ?_
  refine BA.reg ?_
  simp only [List.size_toArray, List.length_cons, List.length_nil, Nat.reduceAdd, Nat.zero_add, List.range, List.range.loop]
  refine BA.op rfl rfl (by k_ne) fun w₁ r K hK => ?_
  go_simp
  refine hK _ (fun e he => ?_) ?_
  · have hm := mem_listed he
    simp [go_sem] at hm
  clear hK K r w₁
  refine BA.op rfl rfl (by k_ne) fun w₁ r K hK => ?_
  go_simp
  refine hK _ (fun e he => ?_) ?_
  · have hm := mem_listed he
    simp [go_sem] at hm
  clear hK K r w₁
  rw [hEA.out]
  refine BA.op rfl rfl (by k_ne) fun w₁ r K hK => ?_
  go_simp
  refine hK _ (fun e he => ?_) ?_
  · have hm := mem_listed he
    simp [go_sem, h0] at hm
  clear hK K r w₁
  refine BA.op rfl rfl (by k_ne) fun w₁ r K hK => ?_
  have hcell := cell_atR r (x1)
  go_simp
  refine hK _ (fun e he => ?_) ?_
  · have hm := mem_listed he
    simp [go_sem, hcell] at hm
    subst hm
    exact evC_cell false (x3)
  clear hcell hK K r w₁
  rw [← hEA.out]
  refine BA.call rfl rfl (by k_ne) rfl (by walk_nrm; exact does_cb kd (xs 0) w) fun Z1 v1 w1 hp => ?_
  obtain ⟨e1, rfl, hr⟩ := hp
  rw [e1]
  refine BA.at ?_ hr
  clear hr e1 Z1 w1
  walk_nrm
  refine BA.op rfl rfl (by k_ne) fun w₁ r K hK => ?_
  go_simp
  refine hK _ (fun e he => ?_) ?_
  · have hm := mem_listed he
    simp [go_sem] at hm
  clear hK K r w₁
  refine BA.regEnd ?_
  refine BA.seq ?_
  refine BA.seq ?_
  refine BA.reg ?_
  simp only [List.size_toArray, List.length_cons, List.length_nil, Nat.zero_add, List.range, List.range.loop]
  refine BA.op rfl rfl (by k_ne) fun w₁ r K hK => ?_
  go_simp
  refine hK _ (fun e he => ?_) ?_
  · have hm := mem_listed he
    simp [go_sem] at hm
  clear hK K r w₁
  refine BA.regEnd ?_
  refine BA.block ?_
  refine BA.loop ?_
  exact key (n - 1) 1 (by omega) (by omega) _ _ _ _ _ _ _ _ _ _ _ _ _ _ _ _ _ _ _ _ _ _ _
theorem First_cb {oa : Option Addr} {len cap kb kd : Nat} {wk : Int} {xs : Nat → Int} {w : World} (hZ : ∀ c, Z c → c < w.heap.size) (hM : len ≤ 1000000) (hL : Lists w Z oa len xs) (hv : FunAt w Z 31 kb (.int .u8 kd)) :
    CB 13 #[.slice oa len cap, .int .i64 wk, .func (.func 31) #[] #[.pointer (some ⟨kb, 0, none⟩)]] Z w (fun Z' v w' => Ext Z Z' w w' ∧ ∃ r, v = res len r ∧ Least (fun p => isF kd (xs p)) len r) := by
  refine ⟨Try.f13, body13, Try.func13, by kernel_rfl, rfl, fun Stop b₀ a₀ ops i rest k cs hn w₁ r => ?_⟩
  simp only [show Try.f13.ntmps = 14 from rfl]
  walk_nrm
  have hs : w₁.heap.size = w.heap.size := by obtain ⟨d, rfl⟩ := r; rfl
  refine First_br (w0 := w₁) (φ := fun x => isF kd x) (fun c hc => by rw [hs]; exact hZ c hc) (by omega) (hL.atR r) (fun w2 Mk ho hMk => old_is (olds_cell ho (by rw [hs]; exact hv.lt) (cell_atR r hv.cell)) ⟨by have := ho.size; have := hv.lt; omega, by have := ho.size; have := hv.lt; omega, hv.clean⟩) fun Wg r' w' hl g1 g2 ho W todo hW => (BA.leave1 Try.func13 rfl ?_).br
  rw [hW]
  exact hn _ _ _ ⟨Ext.wg hZ (((Olds.refl w).at r).trans ho) (by omega) g2, r', rfl, hl⟩
theorem All_cb {oa : Option Addr} {len cap kb kd : Nat} {wk : Int} {xs : Nat → Int} {w : World} (hZ : ∀ c, Z c → c < w.heap.size) (hM : len ≤ 1000000) (hL : Lists w Z oa len xs) (hv : FunAt w Z 31 kb (.int .u8 kd)) :
    CB 15 #[.slice oa len cap, .int .i64 wk, .func (.func 31) #[] #[.pointer (some ⟨kb, 0, none⟩)]] Z w (fun Z' v w' => Ext Z Z' w w' ∧ ∃ r, v = .bool (decide (r = len)) ∧ Least (fun p => !isF kd (xs p)) len r) := by
  refine ⟨Try.f15, body15, Try.func15, by kernel_rfl, rfl, fun Stop b₀ a₀ ops i rest k cs hn w₁ r => ?_⟩
  simp only [show Try.f15.ntmps = 17 from rfl]
  walk_nrm
  have hs : w₁.heap.size = w.heap.size := by obtain ⟨d, rfl⟩ := r; rfl
  refine All_br (w0 := w₁) (φ := fun x => isF kd x) (fun c hc => by rw [hs]; exact hZ c hc) (by omega) (hL.atR r) (fun w2 Mk ho hMk => old_is (olds_cell ho (by rw [hs]; exact hv.lt) (cell_atR r hv.cell)) ⟨by have := ho.size; have := hv.lt; omega, by have := ho.size; have := hv.lt; omega, hv.clean⟩) fun Wg r' w' hl g1 g2 ho W todo hW => (BA.leave1 Try.func15 rfl ?_).br
  rw [hW]
  exact hn _ _ _ ⟨Ext.wg hZ (((Olds.refl w).at r).trans ho) (by omega) g2, r', rfl, hl⟩
end
end Go.Proofs.Ytbckmkppmdfnnaa.Crew
