/- crew: beside leavers: the law CrewKnown walked. Made by wip/tools/crew/mkKb.py. -/
import Derived.Test.YtbckmkppmdfnnaaCrKa
import Derived.Test.YtbckmkppmdfnnaaCrAy
namespace Go.Proofs.Ytbckmkppmdfnnaa.Crew
open Go.Conc Go.RowKit Go.Conc.Lib Go.ConcR.Gen
def subF (a b : Int) : Int := IntKind.i64.wrap (a - b)
section
variable {Z : Nat → Prop}
noncomputable def body11 : Code := Try.f11.body.getD .skip
set_option maxRecDepth 100000 in
theorem sub_cb (a b : Int) (w : World) : CB 11 #[.int .i64 a, .int .i64 b] Z w (fun Z' v w' => Z = Z' ∧ w = w' ∧ v = .int .i64 (subF a b)) := by
  refine ⟨Try.f11, body11, Try.func11, by kernel_rfl, rfl, fun Stop b₀ a₀ ops i rest kk cs hnx => ?_⟩
  simp only [body11, Try.f11, Option.getD_some]
  walk_nrm
  refine BA.seq ?_
  refine BA.reg ?_
  simp only [List.size_toArray, List.length_cons, List.length_nil, Nat.zero_add, List.range, List.range.loop]
  refine BA.op rfl rfl (by k_ne) fun w₁ r K hK => ?_
  go_simp
  refine hK _ (fun e he => ?_) ?_
  · have hm := mem_listed he
    simp [go_sem] at hm
  clear hK K r w₁
  refine BA.regEnd ?_
  refine BA.seq ?_
  refine BA.reg ?_
  simp only [List.size_toArray, List.length_cons, List.length_nil, Nat.reduceAdd, Nat.zero_add, List.range, List.range.loop]
  refine BA.op rfl rfl (by k_ne) fun w₁ r K hK => ?_
  go_simp
  refine hK _ (fun e he => ?_) ?_
  · have hm := mem_listed he
    simp [go_sem] at hm
  clear hK K r w₁
  refine BA.op rfl rfl (by k_ne) fun w₁ r K hK => ?_
  go_simp
  refine hK _ (fun e he => ?_) ?_
  · have hm := mem_listed he
    simp [go_sem] at hm
  clear hK K r w₁
  refine BA.op rfl rfl (by k_ne) fun w₁ r K hK => ?_
  go_simp
  refine hK _ (fun e he => ?_) ?_
  · have hm := mem_listed he
    simp [go_sem] at hm
  clear hK K r w₁
  refine BA.op rfl rfl (by k_ne) fun w₁ r K hK => ?_
  go_simp
  refine hK _ (fun e he => ?_) ?_
  · have hm := mem_listed he
    simp [go_sem] at hm
  clear hK K r w₁
  refine BA.regEnd ?_
  refine BA.ret ?_
  refine BA.leave1 Try.func11 rfl ?_
  exact hnx _ _ _ ⟨rfl, rfl, rfl⟩
end
theorem known_fold : foldV subF 3 (fun p => [1, 2, 3].getD p 0) = .tuple #[.int .i64 (-4), .bool true] := by rfl
theorem known_first {r : Nat} (h : Least (fun p => isF 0 ([5, 7].getD p 0)) 2 r) : r = 2 :=
  h.uniq ⟨by omega, fun h => absurd h (by omega), fun p hp => by
    have : p = 0 ∨ p = 1 := by omega
    rcases this with rfl | rfl <;> decide⟩
noncomputable def body3 : Code := Try.f3.body.getD .skip
set_option maxRecDepth 100000 in
set_option maxHeartbeats 4000000 in
theorem CrewKnown_ba {Stop : (Nat → Prop) → Goroutine → World → Prop} {Z : Nat → Prop} {cs : List Frame} {w0 : World} (hZ : ∀ c, Z c → c < w0.heap.size)
    (hS : ∀ (Z' : Nat → Prop) (w' : World), Ext Z Z' w0 w' → ∀ (W : Array Value) (todo : List Item), W.getD 0 undef = .bool true → BA Stop Z' (G { (base 3).at ⟨W, []⟩ todo with mode := .returning } cs) w') :
    BA Stop Z (G ((base 3).at ⟨#[undef, undef, undef, undef, undef, undef, undef, undef, undef, undef, undef, undef, undef, undef, undef, undef, undef, undef, undef, undef, undef, undef, undef, undef, undef, undef], []⟩ [.code body3]) cs) w0 := by
  simp only [body3, Try.f3, Option.getD_some]
  obtain ⟨w, hw⟩ : ∃ w, w = w0 := ⟨w0, rfl⟩
  have hX : Ext Z Z w0 w := by rw [hw]; exact Ext.refl hZ
  rw [show BA Stop Z _ w0 = BA Stop Z _ w by rw [hw]]
  clear hw
  refine BA.seq ?_
  refine BA.reg ?_
  simp only [List.size_toArray, List.length_cons, List.length_nil, Nat.zero_add, List.range, List.range.loop]
  refine BA.op rfl rfl (by k_ne) fun w₁ r K hK => ?_
  go_simp
  refine hK _ (fun e he => ?_) ?_
  · have hm := mem_listed he
    simp [go_sem] at hm
  clear hK K r w₁
  refine BA.regEnd ?_
  refine BA.seq ?_
  refine BA.reg ?_
  simp only [List.size_toArray, List.length_cons, List.length_nil, Nat.reduceAdd, Nat.zero_add, List.range, List.range.loop]
  refine BA.build rfl rfl (by k_ne) 24 3 3 _ rfl #[.int .i64 1, .int .i64 2, .int .i64 3] Try.underlying24 info3 (by omega) (by walk_nrm; exact fill3 _ _ _) ?_
  have hE := (Ext.refl hX.zlt).alloc (.cells #[.int .i64 1, .int .i64 2, .int .i64 3] 3)
  have hA := Lists.new hX.zlt [1, 2, 3] #[.int .i64 1, .int .i64 2, .int .i64 3] rfl 3
  have hXn := hX.trans hE
  clear hX hE
  have hX := hXn
  clear hXn
  generalize w.alloc (.cells #[.int .i64 1, .int .i64 2, .int .i64 3] 3) = w1 at hX hA ⊢
  obtain ⟨na, ena⟩ : ∃ N, w.heap.size = N := ⟨_, rfl⟩
  rw [ena] at hA ⊢
  clear ena
  walk_nrm
  refine BA.call rfl rfl (by k_ne) rfl (by walk_nrm; exact AtInt.FoldI_cb (g := subF) hX.zlt (by omega) hA (fun Z a b w => sub_cb a b w)) fun Z2 vv w2 hp => ?_
  obtain ⟨hE, rfl⟩ := hp
  have hXn := hX.trans hE
  have hAn := hA.ext hE
  clear hX hA hE
  have hX := hXn
  clear hXn
  have hA := hAn
  clear hAn
  rw [known_fold]
  walk_nrm
  refine BA.op rfl rfl (by k_ne) fun w₁ r K hK => ?_
  go_simp
  refine hK _ (fun e he => ?_) ?_
  · have hm := mem_listed he
    simp [go_sem] at hm
  clear hK K r w₁
  refine BA.op rfl rfl (by k_ne) fun w₁ r K hK => ?_
  go_simp
  refine hK _ (fun e he => ?_) ?_
  · have hm := mem_listed he
    simp [go_sem] at hm
  clear hK K r w₁
  refine BA.op rfl rfl (by k_ne) fun w₁ r K hK => ?_
  go_simp
  refine hK _ (fun e he => ?_) ?_
  · have hm := mem_listed he
    simp [go_sem] at hm
  clear hK K r w₁
  refine BA.op rfl rfl (by k_ne) fun w₁ r K hK => ?_
  go_simp
  refine hK _ (fun e he => ?_) ?_
  · have hm := mem_listed he
    simp [go_sem] at hm
  clear hK K r w₁
  refine BA.op rfl rfl (by k_ne) fun w₁ r K hK => ?_
  go_simp
  refine hK _ (fun e he => ?_) ?_
  · have hm := mem_listed he
    simp [go_sem] at hm
  clear hK K r w₁
  refine BA.regEnd ?_
  refine BA.seq ?_
  refine BA.reg ?_
  simp only [List.size_toArray, List.length_cons, List.length_nil, Nat.reduceAdd, Nat.zero_add, List.range, List.range.loop]
  refine BA.call rfl rfl (by k_ne) rfl (by walk_nrm; exact works_cb hX.zlt) fun Z3 vv w3 hp => ?_
  obtain ⟨hE, rfl⟩ := hp
  have hXn := hX.trans hE
  have hAn := hA.ext hE
  clear hX hA hE
  have hX := hXn
  clear hXn
  have hA := hAn
  clear hAn
  walk_nrm
  refine BA.op rfl rfl (by k_ne) fun w₁ r K hK => ?_
  go_simp
  refine hK _ (fun e he => ?_) ?_
  · have hm := mem_listed he
    simp [go_sem] at hm
  clear hK K r w₁
  refine BA.build rfl rfl (by k_ne) 29 2 2 _ rfl #[.int .i64 5, .int .i64 7] Try.underlying29 info2 (by omega) (by walk_nrm; exact fill2 _ _) ?_
  have hE := (Ext.refl hX.zlt).alloc (.cells #[.int .i64 5, .int .i64 7] 2)
  have hB := Lists.new hX.zlt [5, 7] #[.int .i64 5, .int .i64 7] rfl 2
  have hXn := hX.trans hE
  have hAn := hA.ext hE
  clear hX hA hE
  have hX := hXn
  clear hXn
  have hA := hAn
  clear hAn
  generalize w3.alloc (.cells #[.int .i64 5, .int .i64 7] 2) = w4 at hX hA hB ⊢
  obtain ⟨nb, enb⟩ : ∃ N, w3.heap.size = N := ⟨_, rfl⟩
  rw [enb] at hB ⊢
  clear enb
  walk_nrm
  refine BA.call rfl rfl (by k_ne) rfl (by walk_nrm; exact isK_cb hX.zlt 0) fun Z5 vv w5 hp => ?_
  obtain ⟨hE, kb1, rfl, hK1⟩ := hp
  have hXn := hX.trans hE
  have hAn := hA.ext hE
  have hBn := hB.ext hE
  clear hX hA hB hE
  have hX := hXn
  clear hXn
  have hA := hAn
  clear hAn
  have hB := hBn
  clear hBn
  walk_nrm
  refine BA.call rfl rfl (by k_ne) rfl (by walk_nrm; exact First_cb hX.zlt (by omega) hB hK1) fun Z6 vv w6 hp => ?_
  obtain ⟨hE, rr, rfl, hl⟩ := hp
  have hXn := hX.trans hE
  have hAn := hA.ext hE
  have hBn := hB.ext hE
  have hK1n := hK1.ext hE
  clear hX hA hB hK1 hE
  have hX := hXn
  clear hXn
  have hA := hAn
  clear hAn
  have hB := hBn
  clear hBn
  have hK1 := hK1n
  clear hK1n
  obtain rfl := known_first hl
  rw [show res 2 2 = .int .i64 (-1) from rfl]
  walk_nrm
  refine BA.op rfl rfl (by k_ne) fun w₁ r K hK => ?_
  go_simp
  refine hK _ (fun e he => ?_) ?_
  · have hm := mem_listed he
    simp [go_sem] at hm
  clear hK K r w₁
  refine BA.op rfl rfl (by k_ne) fun w₁ r K hK => ?_
  go_simp
  refine hK _ (fun e he => ?_) ?_
  · have hm := mem_listed he
    simp [go_sem] at hm
  clear hK K r w₁
  refine BA.op rfl rfl (by k_ne) fun w₁ r K hK => ?_
  go_simp
  refine hK _ (fun e he => ?_) ?_
  · have hm := mem_listed he
    simp [go_sem] at hm
  clear hK K r w₁
  refine BA.call rfl rfl (by k_ne) rfl (by walk_nrm; exact isK_cb hX.zlt 0) fun Z7 vv w7 hp => ?_
  obtain ⟨hE, kb2, rfl, hK2⟩ := hp
  have hXn := hX.trans hE
  have hAn := hA.ext hE
  have hBn := hB.ext hE
  have hK1n := hK1.ext hE
  clear hX hA hB hK1 hE
  have hX := hXn
  clear hXn
  have hA := hAn
  clear hAn
  have hB := hBn
  clear hBn
  have hK1 := hK1n
  clear hK1n
  walk_nrm
  refine BA.call rfl rfl (by k_ne) rfl (by walk_nrm; exact All_cb hX.zlt (by omega) (⟨fun h => absurd h (by omega), fun _ p _ hp => absurd hp (by omega)⟩ : Lists w7 Z7 none 0 (fun _ => 0)) hK2) fun Z8 vv w8 hp => ?_
  obtain ⟨hE, r3, rfl, hl3⟩ := hp
  have hXn := hX.trans hE
  have hAn := hA.ext hE
  have hBn := hB.ext hE
  have hK1n := hK1.ext hE
  have hK2n := hK2.ext hE
  clear hX hA hB hK1 hK2 hE
  have hX := hXn
  clear hXn
  have hA := hAn
  clear hAn
  have hB := hBn
  clear hBn
  have hK1 := hK1n
  clear hK1n
  have hK2 := hK2n
  clear hK2n
  obtain rfl : r3 = 0 := Nat.le_zero.1 hl3.le
  rw [show decide ((0 : Nat) = 0) = true from rfl]
  walk_nrm
  refine BA.op rfl rfl (by k_ne) fun w₁ r K hK => ?_
  go_simp
  refine hK _ (fun e he => ?_) ?_
  · have hm := mem_listed he
    simp [go_sem] at hm
  clear hK K r w₁
  refine BA.op rfl rfl (by k_ne) fun w₁ r K hK => ?_
  go_simp
  refine hK _ (fun e he => ?_) ?_
  · have hm := mem_listed he
    simp [go_sem] at hm
  clear hK K r w₁
  refine BA.op rfl rfl (by k_ne) fun w₁ r K hK => ?_
  go_simp
  refine hK _ (fun e he => ?_) ?_
  · have hm := mem_listed he
    simp [go_sem] at hm
  clear hK K r w₁
  refine BA.op rfl rfl (by k_ne) fun w₁ r K hK => ?_
  go_simp
  refine hK _ (fun e he => ?_) ?_
  · have hm := mem_listed he
    simp [go_sem] at hm
  clear hK K r w₁
  refine BA.op rfl rfl (by k_ne) fun w₁ r K hK => ?_
  go_simp
  refine hK _ (fun e he => ?_) ?_
  · have hm := mem_listed he
    simp [go_sem] at hm
  clear hK K r w₁
  refine BA.op rfl rfl (by k_ne) fun w₁ r K hK => ?_
  go_simp
  refine hK _ (fun e he => ?_) ?_
  · have hm := mem_listed he
    simp [go_sem] at hm
  clear hK K r w₁
  refine BA.op rfl rfl (by k_ne) fun w₁ r K hK => ?_
  go_simp
  refine hK _ (fun e he => ?_) ?_
  · have hm := mem_listed he
    simp [go_sem] at hm
  clear hK K r w₁
  refine BA.op rfl rfl (by k_ne) fun w₁ r K hK => ?_
  go_simp
  refine hK _ (fun e he => ?_) ?_
  · have hm := mem_listed he
    simp [go_sem] at hm
  clear hK K r w₁
  refine BA.op rfl rfl (by k_ne) fun w₁ r K hK => ?_
  go_simp
  refine hK _ (fun e he => ?_) ?_
  · have hm := mem_listed he
    simp [go_sem] at hm
  clear hK K r w₁
  refine BA.regEnd ?_
  refine BA.ret ?_
  exact hS _ _ hX _ _ (by simp)
end Go.Proofs.Ytbckmkppmdfnnaa.Crew
