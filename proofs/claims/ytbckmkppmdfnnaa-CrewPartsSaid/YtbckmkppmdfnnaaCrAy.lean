/- crew: beside leavers: works; the laws CrewEach, CrewFirst, CrewFold, CrewMany walked. Made by wip/tools/crew/mkAy.py. -/
import Derived.Test.YtbckmkppmdfnnaaCrAx
namespace Go.Proofs.Ytbckmkppmdfnnaa.Crew
open Go.Conc Go.RowKit Go.Conc.Lib Go.ConcR.Gen
theorem ev_eqb (x y : Bool) (w : World) (es : Array Event) : (binOp .eql 4 (.bool x) (.bool y)).events Try.prog w es = es := by
  simp [binOp, Op.equal, go_sem]
  rw [show Op.maxDepth = (Op.maxDepth - 1) + 1 from rfl]
  unfold Op.equalIn
  simp [go_sem, run_underlying Try.underlying4]
theorem Least.uniq {b : Nat → Bool} {M r s : Nat} (h : Least b M r) (k : Least b M s) : r = s := by
  rcases Nat.lt_trichotomy r s with h1 | h1 | h1
  · have h2 := h.hit (by have := k.le; omega)
    rw [k.miss r h1] at h2
    cases h2
  · exact h1
  · have h2 := k.hit (by have := h.le; omega)
    rw [h.miss s h1] at h2
    cases h2
theorem Lists.new {Z : Nat → Prop} {w : World} (hZ : ∀ c, Z c → c < w.heap.size) (vs : List Int) (cells : Array Value) (hc : cells = (vs.map (Value.int .i64)).toArray) (e : TypeId) : Lists (w.alloc (.cells cells e)) Z (some ⟨w.heap.size, 0, none⟩) vs.length (fun p => vs.getD p 0) := by
  refine ⟨fun _ => ⟨_, rfl⟩, fun a0 p h hp => ?_⟩
  cases h
  rw [show (⟨w.heap.size, 0, none⟩ : Addr).add p = ⟨w.heap.size, p, none⟩ by simp [Addr.add]; exact fun h => h.symm]
  refine ⟨?_, by rw [heap_al, Array.size_push]; exact Nat.lt_succ_self _, fun hz => by have := hZ _ hz; dsimp only at this; omega⟩
  unfold World.cell?
  rw [new_alloc, hc]
  simp [hp]
noncomputable def body12 : Code := Try.f12.body.getD .skip
theorem works1 : ∀ p, p < 3 → doesF 0 ([1, 2, 3].getD p 0) = [2, 4, 6].getD p 0 := fun p hp => by
  have : p = 0 ∨ p = 1 ∨ p = 2 := by omega
  rcases this with rfl | rfl | rfl <;> decide
theorem works2 {r : Nat} (h : Least (fun p => isF 0 ([5, 7, 8, 9, 10].getD p 0)) 5 r) : r = 2 :=
  h.uniq ⟨by omega, fun _ => by decide, fun p hp => by
    have : p = 0 ∨ p = 1 := by omega
    rcases this with rfl | rfl <;> decide⟩
section
variable {Z : Nat → Prop}
set_option maxRecDepth 100000 in
set_option maxHeartbeats 1000000 in
theorem works_cb {w0 : World} (hZ : ∀ c, Z c → c < w0.heap.size) : CB 12 #[] Z w0 (fun Z' v w' => Ext Z Z' w0 w' ∧ v = .bool true) := by
  refine ⟨Try.f12, body12, Try.func12, by kernel_rfl, rfl, fun Stop b₀ a₀ ops i rest kk cs hnx => ?_⟩
  simp only [body12, Try.f12, Option.getD_some]
  walk_nrm
  obtain ⟨w, hw⟩ : ∃ w, w = w0 := ⟨w0, rfl⟩
  have hX : Ext Z Z w0 w := by rw [hw]; exact Ext.refl hZ
  rw [show BA Stop Z _ w0 = BA Stop Z _ w by rw [hw]]
  clear hw
  refine BA.seq ?_
  refine BA.reg ?_
  simp only [List.size_toArray, List.length_cons, List.length_nil, Nat.zero_add, List.range, List.range.loop]
  refine BA.op rfl rfl (by k_ne) fun w₁ r K hK => ?_
  go_simp
  refine hK _ (fun e he => ?_) ?_
  · have hm := mem_listed he
    simp [go_sem] at hm
  clear hK K r w₁
  refine BA.regEnd ?_
  refine BA.seq ?_
  refine BA.reg ?_
  simp only [List.size_toArray, List.length_cons, List.length_nil, Nat.reduceAdd, Nat.zero_add, List.range, List.range.loop]
  refine BA.build rfl rfl (by k_ne) 29 2 3 _ rfl #[.int .i64 1, .int .i64 2, .int .i64 3] Try.underlying29 info2 (by omega) (by walk_nrm; exact fill3 _ _ _) ?_
  have hE := (Ext.refl hX.zlt).alloc (.cells #[.int .i64 1, .int .i64 2, .int .i64 3] 2)
  have hA := Lists.new hX.zlt [1, 2, 3] #[.int .i64 1, .int .i64 2, .int .i64 3] rfl 2
  have hXn := hX.trans hE
  clear hX hE
  have hX := hXn
  clear hXn
  generalize w.alloc (.cells #[.int .i64 1, .int .i64 2, .int .i64 3] 2) = w1 at hX hA ⊢
  obtain ⟨na, ena⟩ : ∃ N, w.heap.size = N := ⟨_, rfl⟩
  rw [ena] at hA ⊢
  clear ena
  walk_nrm
  refine BA.call rfl rfl (by k_ne) rfl (by walk_nrm; exact doesK_cb hX.zlt 0) fun Z2 vv w2 hp => ?_
  obtain ⟨hE, kb1, rfl, hK1⟩ := hp
  have hXn := hX.trans hE
  have hAn := hA.ext hE
  clear hX hA hE
  have hX := hXn
  clear hXn
  have hA := hAn
  clear hAn
  walk_nrm
  refine BA.call rfl rfl (by k_ne) rfl (by walk_nrm; exact EachD_cb hX.zlt (by omega) hA hK1) fun Z3 vv w3 hp => ?_
  obtain ⟨hE, Mk1, rfl, hM1⟩ := hp
  have hXn := hX.trans hE
  have hAn := hA.ext hE
  have hK1n := hK1.ext hE
  clear hX hA hK1 hE
  have hX := hXn
  clear hXn
  have hA := hAn
  clear hAn
  have hK1 := hK1n
  clear hK1n
  walk_nrm
  refine BA.build rfl rfl (by k_ne) 29 2 3 _ rfl #[.int .i64 2, .int .i64 4, .int .i64 6] Try.underlying29 info2 (by omega) (by walk_nrm; exact fill3 _ _ _) ?_
  have hE := (Ext.refl hX.zlt).alloc (.cells #[.int .i64 2, .int .i64 4, .int .i64 6] 2)
  have hB := Lists.new hX.zlt [2, 4, 6] #[.int .i64 2, .int .i64 4, .int .i64 6] rfl 2
  have hXn := hX.trans hE
  have hAn := hA.ext hE
  have hK1n := hK1.ext hE
  have hM1n := hM1.ext hE
  clear hX hA hK1 hM1 hE
  have hX := hXn
  clear hXn
  have hA := hAn
  clear hAn
  have hK1 := hK1n
  clear hK1n
  have hM1 := hM1n
  clear hM1n
  generalize w3.alloc (.cells #[.int .i64 2, .int .i64 4, .int .i64 6] 2) = w4 at hX hA hK1 hM1 hB ⊢
  obtain ⟨nb, enb⟩ : ∃ N, w3.heap.size = N := ⟨_, rfl⟩
  rw [enb] at hB ⊢
  clear enb
  walk_nrm
  refine BA.call rfl rfl (by k_ne) rfl (by walk_nrm; exact Equal_cb (by omega) hM1 hB) fun ZZ vv ww hp => ?_
  obtain ⟨rfl, rfl, tq, rfl, hq⟩ := hp
  obtain rfl : tq = true := hq.2 ⟨rfl, works1⟩
  walk_nrm
  refine BA.op rfl rfl (by k_ne) fun w₁ r K hK => ?_
  go_simp
  refine hK _ (fun e he => ?_) ?_
  · have hm := mem_listed he
    simp [go_sem] at hm
  clear hK K r w₁
  refine BA.build rfl rfl (by k_ne) 29 2 5 _ rfl #[.int .i64 5, .int .i64 7, .int .i64 8, .int .i64 9, .int .i64 10] Try.underlying29 info2 (by omega) (by walk_nrm; exact fill5 _ _ _ _ _) ?_
  have hE := (Ext.refl hX.zlt).alloc (.cells #[.int .i64 5, .int .i64 7, .int .i64 8, .int .i64 9, .int .i64 10] 2)
  have hC := Lists.new hX.zlt [5, 7, 8, 9, 10] #[.int .i64 5, .int .i64 7, .int .i64 8, .int .i64 9, .int .i64 10] rfl 2
  have hXn := hX.trans hE
  have hAn := hA.ext hE
  have hK1n := hK1.ext hE
  have hM1n := hM1.ext hE
  have hBn := hB.ext hE
  clear hX hA hK1 hM1 hB hE
  have hX := hXn
  clear hXn
  have hA := hAn
  clear hAn
  have hK1 := hK1n
  clear hK1n
  have hM1 := hM1n
  clear hM1n
  have hB := hBn
  clear hBn
  generalize w4.alloc (.cells #[.int .i64 5, .int .i64 7, .int .i64 8, .int .i64 9, .int .i64 10] 2) = w5 at hX hA hK1 hM1 hB hC ⊢
  obtain ⟨nc, enc⟩ : ∃ N, w4.heap.size = N := ⟨_, rfl⟩
  rw [enc] at hC ⊢
  clear enc
  walk_nrm
  refine BA.call rfl rfl (by k_ne) rfl (by walk_nrm; exact isK_cb hX.zlt 0) fun Z6 vv w6 hp => ?_
  obtain ⟨hE, kb2, rfl, hK2⟩ := hp
  have hXn := hX.trans hE
  have hAn := hA.ext hE
  have hK1n := hK1.ext hE
  have hM1n := hM1.ext hE
  have hBn := hB.ext hE
  have hCn := hC.ext hE
  clear hX hA hK1 hM1 hB hC hE
  have hX := hXn
  clear hXn
  have hA := hAn
  clear hAn
  have hK1 := hK1n
  clear hK1n
  have hM1 := hM1n
  clear hM1n
  have hB := hBn
  clear hBn
  have hC := hCn
  clear hCn
  walk_nrm
  refine BA.call rfl rfl (by k_ne) rfl (by walk_nrm; exact First_cb hX.zlt (by omega) hC hK2) fun Z7 vv w7 hp => ?_
  obtain ⟨hE, rr, rfl, hl⟩ := hp
  have hXn := hX.trans hE
  have hAn := hA.ext hE
  have hK1n := hK1.ext hE
  have hM1n := hM1.ext hE
  have hBn := hB.ext hE
  have hCn := hC.ext hE
  have hK2n := hK2.ext hE
  clear hX hA hK1 hM1 hB hC hK2 hE
  have hX := hXn
  clear hXn
  have hA := hAn
  clear hAn
  have hK1 := hK1n
  clear hK1n
  have hM1 := hM1n
  clear hM1n
  have hB := hBn
  clear hBn
  have hC := hCn
  clear hCn
  have hK2 := hK2n
  clear hK2n
  obtain rfl := works2 hl
  rw [show res 5 2 = .int .i64 2 from rfl]
  walk_nrm
  refine BA.op rfl rfl (by k_ne) fun w₁ r K hK => ?_
  go_simp
  refine hK _ (fun e he => ?_) ?_
  · have hm := mem_listed he
    simp [go_sem] at hm
  clear hK K r w₁
  refine BA.op rfl rfl (by k_ne) fun w₁ r K hK => ?_
  go_simp
  refine hK _ (fun e he => ?_) ?_
  · have hm := mem_listed he
    simp [go_sem] at hm
  clear hK K r w₁
  refine BA.op rfl rfl (by k_ne) fun w₁ r K hK => ?_
  go_simp
  refine hK _ (fun e he => ?_) ?_
  · have hm := mem_listed he
    simp [go_sem] at hm
  clear hK K r w₁
  refine BA.regEnd ?_
  refine BA.ret ?_
  refine BA.leave1 Try.func12 rfl ?_
  exact hnx _ _ _ ⟨hX, by simp⟩
end
noncomputable def body4 : Code := Try.f4.body.getD .skip
set_option maxRecDepth 100000 in
set_option maxHeartbeats 4000000 in
theorem CrewEach_ba {Stop : (Nat → Prop) → Goroutine → World → Prop} {Z : Nat → Prop} {cs : List Frame} {oa : Option Addr} {n ca kd : Nat} {wk : Int} {xs : Nat → Int} {w0 : World} (hZ : ∀ c, Z c → c < w0.heap.size) (hL : Lists w0 Z oa n xs)
    (hS : ∀ (Z' : Nat → Prop) (w' : World), Ext Z Z' w0 w' → ∀ (W : Array Value) (todo : List Item), W.getD 6 undef = .bool true → BA Stop Z' (G { (base 4).at ⟨W, []⟩ todo with mode := .returning } cs) w') :
    BA Stop Z (G ((base 4).at ⟨#[.slice oa n ca, .int .i64 wk, .int .u8 kd, undef, undef, undef, undef, undef, undef, undef, undef, undef, undef, undef, undef, undef, undef, undef, undef, undef, undef, undef, undef], []⟩ [.code body4]) cs) w0 := by
  simp only [body4, Try.f4, Option.getD_some]
  obtain ⟨w, hw⟩ : ∃ w, w = w0 := ⟨w0, rfl⟩
  have hX : Ext Z Z w0 w := by rw [hw]; exact Ext.refl hZ
  rw [show BA Stop Z _ w0 = BA Stop Z _ w by rw [hw]]
  rw [← hw] at hL
  clear hw
  rcases Nat.lt_or_ge 400 n with hlong | hshort
  · have hli : (400 : Int) < (n : Int) := by omega
    refine BA.seq ?_
    refine BA.reg ?_
    simp only [List.size_toArray, List.length_cons, List.length_nil, Nat.zero_add, List.range, List.range.loop]
    refine BA.op rfl rfl (by k_ne) fun w₁ r K hK => ?_
    go_simp
    refine hK _ (fun e he => ?_) ?_
    · have hm := mem_listed he
      simp [go_sem] at hm
    clear hK K r w₁
    refine BA.regEnd ?_
    refine BA.seq ?_
    refine BA.seq ?_
    refine BA.reg ?_
    simp only [List.size_toArray, List.length_cons, List.length_nil, Nat.reduceAdd, Nat.zero_add, List.range, List.range.loop]
    refine BA.op rfl rfl (by k_ne) fun w₁ r K hK => ?_
    go_simp
    refine hK _ (fun e he => ?_) ?_
    · have hm := mem_listed he
      simp [go_sem] at hm
    clear hK K r w₁
    refine BA.op rfl rfl (by k_ne) fun w₁ r K hK => ?_
    go_simp
    refine hK _ (fun e he => ?_) ?_
    · have hm := mem_listed he
      simp [go_sem] at hm
    clear hK K r w₁
    refine BA.op rfl rfl (by k_ne) fun w₁ r K hK => ?_
    go_simp
    refine hK _ (fun e he => ?_) ?_
    · have hm := mem_listed he
      simp [go_sem] at hm
    clear hK K r w₁
    refine BA.regEnd ?_
    refine BA.condT rfl ?_
    refine BA.seq ?_
    refine BA.reg ?_
    simp only [List.size_toArray, List.length_cons, List.length_nil, Nat.reduceAdd, Nat.zero_add, List.range, List.range.loop]
    refine BA.call rfl rfl (by k_ne) rfl (by walk_nrm; exact works_cb hX.zlt) fun Z1 vv w1 hp => ?_
    obtain ⟨hE, rfl⟩ := hp
    have hXn := hX.trans hE
    clear hX hE
    have hX := hXn
    clear hXn
    walk_nrm
    refine BA.op rfl rfl (by k_ne) fun w₁ r K hK => ?_
    go_simp
    refine hK _ (fun e he => ?_) ?_
    · have hm := mem_listed he
      simp [go_sem] at hm
    clear hK K r w₁
    refine BA.regEnd ?_
    refine BA.ret ?_
    exact hS _ _ hX _ _ (by simp)
  have hli : ¬ ((400 : Int) < (n : Int)) := by omega
  have hlm : n ≤ 1000000 := by omega

  refine BA.seq ?_
  refine BA.reg ?_
  simp only [List.size_toArray, List.length_cons, List.length_nil, Nat.zero_add, List.range, List.range.loop]
  refine BA.op rfl rfl (by k_ne) fun w₁ r K hK => ?_
  go_simp
  refine hK _ (fun e he => ?_) ?_
  · have hm := mem_listed he
    simp [go_sem] at hm
  clear hK K r w₁
  refine BA.regEnd ?_
  refine BA.seq ?_
  refine BA.seq ?_
  refine BA.reg ?_
  simp only [List.size_toArray, List.length_cons, List.length_nil, Nat.reduceAdd, Nat.zero_add, List.range, List.range.loop]
  refine BA.op rfl rfl (by k_ne) fun w₁ r K hK => ?_
  go_simp
  refine hK _ (fun e he => ?_) ?_
  · have hm := mem_listed he
    simp [go_sem] at hm
  clear hK K r w₁
  refine BA.op rfl rfl (by k_ne) fun w₁ r K hK => ?_
  go_simp
  refine hK _ (fun e he => ?_) ?_
  · have hm := mem_listed he
    simp [go_sem] at hm
  clear hK K r w₁
  refine BA.op rfl rfl (by k_ne) fun w₁ r K hK => ?_
  go_simp
  refine hK _ (fun e he => ?_) ?_
  · have hm := mem_listed he
    simp [go_sem] at hm
  clear hK K r w₁
  refine BA.regEnd ?_
  refine BA.condF rfl ?_
  refine BA.skip ?_
  refine BA.seq ?_
  refine BA.reg ?_
  simp only [List.size_toArray, List.length_cons, List.length_nil, Nat.reduceAdd, Nat.zero_add, List.range, List.range.loop]
  refine BA.op rfl rfl (by k_ne) fun w₁ r K hK => ?_
  go_simp
  refine hK _ (fun e he => ?_) ?_
  · have hm := mem_listed he
    simp [go_sem] at hm
  clear hK K r w₁
  refine BA.op rfl rfl (by k_ne) fun w₁ r K hK => ?_
  go_simp
  refine hK _ (fun e he => ?_) ?_
  · have hm := mem_listed he
    simp [go_sem] at hm
  clear hK K r w₁
  refine BA.op rfl rfl (by k_ne) fun w₁ r K hK => ?_
  go_simp
  refine hK _ (fun e he => ?_) ?_
  · have hm := mem_listed he
    simp [go_sem] at hm
  clear hK K r w₁
  refine BA.call rfl rfl (by k_ne) rfl (by walk_nrm; exact doesK_cb hX.zlt kd) fun Z1 vv w1 hp => ?_
  obtain ⟨hE, kb1, rfl, hK1⟩ := hp
  have hXn := hX.trans hE
  have hLn := hL.ext hE
  clear hX hL hE
  have hX := hXn
  clear hXn
  have hL := hLn
  clear hLn
  walk_nrm
  refine BA.call rfl rfl (by k_ne) rfl (by walk_nrm; exact EachD_cb hX.zlt hlm hL hK1) fun Z2 vv w2 hp => ?_
  obtain ⟨hE, Mk1, rfl, hM1⟩ := hp
  have hXn := hX.trans hE
  have hLn := hL.ext hE
  have hK1n := hK1.ext hE
  clear hX hL hK1 hE
  have hX := hXn
  clear hXn
  have hL := hLn
  clear hLn
  have hK1 := hK1n
  clear hK1n
  walk_nrm
  refine BA.op rfl rfl (by k_ne) fun w₁ r K hK => ?_
  go_simp
  refine hK _ (fun e he => ?_) ?_
  · have hm := mem_listed he
    simp [go_sem] at hm
  clear hK K r w₁
  refine BA.op rfl rfl (by k_ne) fun w₁ r K hK => ?_
  go_simp
  refine hK _ (fun e he => ?_) ?_
  · have hm := mem_listed he
    simp [go_sem] at hm
  clear hK K r w₁
  refine BA.call rfl rfl (by k_ne) rfl (by walk_nrm; exact rEach_cb hX.zlt hlm hL) fun Z3 vv w3 hp => ?_
  obtain ⟨hE, ob, oc, rfl, hR⟩ := hp
  have hXn := hX.trans hE
  have hLn := hL.ext hE
  have hK1n := hK1.ext hE
  have hM1n := hM1.ext hE
  clear hX hL hK1 hM1 hE
  have hX := hXn
  clear hXn
  have hL := hLn
  clear hLn
  have hK1 := hK1n
  clear hK1n
  have hM1 := hM1n
  clear hM1n
  walk_nrm
  refine BA.call rfl rfl (by k_ne) rfl (by walk_nrm; exact Equal_cb (by omega) hM1 hR) fun ZZ vv ww hp => ?_
  obtain ⟨rfl, rfl, tq, rfl, hq⟩ := hp
  obtain rfl : tq = true := hq.2 ⟨rfl, fun _ _ => rfl⟩
  walk_nrm
  refine BA.op rfl rfl (by k_ne) fun w₁ r K hK => ?_
  go_simp
  refine hK _ (fun e he => ?_) ?_
  · have hm := mem_listed he
    simp [go_sem] at hm
  clear hK K r w₁
  refine BA.call rfl rfl (by k_ne) rfl (by walk_nrm; exact works_cb hX.zlt) fun Z4 vv w4 hp => ?_
  obtain ⟨hE, rfl⟩ := hp
  have hXn := hX.trans hE
  have hLn := hL.ext hE
  have hK1n := hK1.ext hE
  have hM1n := hM1.ext hE
  have hRn := hR.ext hE
  clear hX hL hK1 hM1 hR hE
  have hX := hXn
  clear hXn
  have hL := hLn
  clear hLn
  have hK1 := hK1n
  clear hK1n
  have hM1 := hM1n
  clear hM1n
  have hR := hRn
  clear hRn
  walk_nrm
  refine BA.op rfl rfl (by k_ne) fun w₁ r K hK => ?_
  go_simp
  refine hK _ (fun e he => ?_) ?_
  · have hm := mem_listed he
    simp [go_sem] at hm
  clear hK K r w₁
  refine BA.op rfl rfl (by k_ne) fun w₁ r K hK => ?_
  go_simp
  refine hK _ (fun e he => ?_) ?_
  · have hm := mem_listed he
    simp [go_sem] at hm
  clear hK K r w₁
  refine BA.regEnd ?_
  refine BA.ret ?_
  exact hS _ _ hX _ _ (by simp)
noncomputable def body5 : Code := Try.f5.body.getD .skip
set_option maxRecDepth 100000 in
set_option maxHeartbeats 4000000 in
theorem CrewFirst_ba {Stop : (Nat → Prop) → Goroutine → World → Prop} {Z : Nat → Prop} {cs : List Frame} {oa : Option Addr} {n ca kd : Nat} {wk : Int} {xs : Nat → Int} {w0 : World} (hZ : ∀ c, Z c → c < w0.heap.size) (hL : Lists w0 Z oa n xs)
    (hS : ∀ (Z' : Nat → Prop) (w' : World), Ext Z Z' w0 w' → ∀ (W : Array Value) (todo : List Item), W.getD 6 undef = .bool true → BA Stop Z' (G { (base 5).at ⟨W, []⟩ todo with mode := .returning } cs) w') :
    BA Stop Z (G ((base 5).at ⟨#[.slice oa n ca, .int .i64 wk, .int .u8 kd, undef, undef, undef, undef, undef, undef, undef, undef, undef, undef, undef, undef, undef, undef, undef, undef, undef, undef, undef, undef, undef, undef, undef, undef, undef, undef, undef, undef, undef, undef, undef], []⟩ [.code body5]) cs) w0 := by
  simp only [body5, Try.f5, Option.getD_some]
  obtain ⟨w, hw⟩ : ∃ w, w = w0 := ⟨w0, rfl⟩
  have hX : Ext Z Z w0 w := by rw [hw]; exact Ext.refl hZ
  rw [show BA Stop Z _ w0 = BA Stop Z _ w by rw [hw]]
  rw [← hw] at hL
  clear hw
  rcases Nat.lt_or_ge 400 n with hlong | hshort
  · have hli : (400 : Int) < (n : Int) := by omega
    refine BA.seq ?_
    refine BA.reg ?_
    simp only [List.size_toArray, List.length_cons, List.length_nil, Nat.zero_add, List.range, List.range.loop]
    refine BA.op rfl rfl (by k_ne) fun w₁ r K hK => ?_
    go_simp
    refine hK _ (fun e he => ?_) ?_
    · have hm := mem_listed he
      simp [go_sem] at hm
    clear hK K r w₁
    refine BA.regEnd ?_
    refine BA.seq ?_
    refine BA.seq ?_
    refine BA.reg ?_
    simp only [List.size_toArray, List.length_cons, List.length_nil, Nat.reduceAdd, Nat.zero_add, List.range, List.range.loop]
    refine BA.op rfl rfl (by k_ne) fun w₁ r K hK => ?_
    go_simp
    refine hK _ (fun e he => ?_) ?_
    · have hm := mem_listed he
      simp [go_sem] at hm
    clear hK K r w₁
    refine BA.op rfl rfl (by k_ne) fun w₁ r K hK => ?_
    go_simp
    refine hK _ (fun e he => ?_) ?_
    · have hm := mem_listed he
      simp [go_sem] at hm
    clear hK K r w₁
    refine BA.op rfl rfl (by k_ne) fun w₁ r K hK => ?_
    go_simp
    refine hK _ (fun e he => ?_) ?_
    · have hm := mem_listed he
      simp [go_sem] at hm
    clear hK K r w₁
    refine BA.regEnd ?_
    refine BA.condT rfl ?_
    refine BA.seq ?_
    refine BA.reg ?_
    simp only [List.size_toArray, List.length_cons, List.length_nil, Nat.reduceAdd, Nat.zero_add, List.range, List.range.loop]
    refine BA.call rfl rfl (by k_ne) rfl (by walk_nrm; exact works_cb hX.zlt) fun Z1 vv w1 hp => ?_
    obtain ⟨hE, rfl⟩ := hp
    have hXn := hX.trans hE
    clear hX hE
    have hX := hXn
    clear hXn
    walk_nrm
    refine BA.op rfl rfl (by k_ne) fun w₁ r K hK => ?_
    go_simp
    refine hK _ (fun e he => ?_) ?_
    · have hm := mem_listed he
      simp [go_sem] at hm
    clear hK K r w₁
    refine BA.regEnd ?_
    refine BA.ret ?_
    exact hS _ _ hX _ _ (by simp)
  have hli : ¬ ((400 : Int) < (n : Int)) := by omega
  have hlm : n ≤ 1000000 := by omega

  refine BA.seq ?_
  refine BA.reg ?_
  simp only [List.size_toArray, List.length_cons, List.length_nil, Nat.zero_add, List.range, List.range.loop]
  refine BA.op rfl rfl (by k_ne) fun w₁ r K hK => ?_
  go_simp
  refine hK _ (fun e he => ?_) ?_
  · have hm := mem_listed he
    simp [go_sem] at hm
  clear hK K r w₁
  refine BA.regEnd ?_
  refine BA.seq ?_
  refine BA.seq ?_
  refine BA.reg ?_
  simp only [List.size_toArray, List.length_cons, List.length_nil, Nat.reduceAdd, Nat.zero_add, List.range, List.range.loop]
  refine BA.op rfl rfl (by k_ne) fun w₁ r K hK => ?_
  go_simp
  refine hK _ (fun e he => ?_) ?_
  · have hm := mem_listed he
    simp [go_sem] at hm
  clear hK K r w₁
  refine BA.op rfl rfl (by k_ne) fun w₁ r K hK => ?_
  go_simp
  refine hK _ (fun e he => ?_) ?_
  · have hm := mem_listed he
    simp [go_sem] at hm
  clear hK K r w₁
  refine BA.op rfl rfl (by k_ne) fun w₁ r K hK => ?_
  go_simp
  refine hK _ (fun e he => ?_) ?_
  · have hm := mem_listed he
    simp [go_sem] at hm
  clear hK K r w₁
  refine BA.regEnd ?_
  refine BA.condF rfl ?_
  refine BA.skip ?_
  refine BA.seq ?_
  refine BA.reg ?_
  simp only [List.size_toArray, List.length_cons, List.length_nil, Nat.reduceAdd, Nat.zero_add, List.range, List.range.loop]
  refine BA.op rfl rfl (by k_ne) fun w₁ r K hK => ?_
  go_simp
  refine hK _ (fun e he => ?_) ?_
  · have hm := mem_listed he
    simp [go_sem] at hm
  clear hK K r w₁
  refine BA.op rfl rfl (by k_ne) fun w₁ r K hK => ?_
  go_simp
  refine hK _ (fun e he => ?_) ?_
  · have hm := mem_listed he
    simp [go_sem] at hm
  clear hK K r w₁
  refine BA.op rfl rfl (by k_ne) fun w₁ r K hK => ?_
  go_simp
  refine hK _ (fun e he => ?_) ?_
  · have hm := mem_listed he
    simp [go_sem] at hm
  clear hK K r w₁
  refine BA.call rfl rfl (by k_ne) rfl (by walk_nrm; exact isK_cb hX.zlt kd) fun Z1 vv w1 hp => ?_
  obtain ⟨hE, kb1, rfl, hK1⟩ := hp
  have hXn := hX.trans hE
  have hLn := hL.ext hE
  clear hX hL hE
  have hX := hXn
  clear hXn
  have hL := hLn
  clear hLn
  walk_nrm
  refine BA.call rfl rfl (by k_ne) rfl (by walk_nrm; exact First_cb hX.zlt hlm hL hK1) fun Z2 vv w2 hp => ?_
  obtain ⟨hE, r1, rfl, hl1⟩ := hp
  have hXn := hX.trans hE
  have hLn := hL.ext hE
  have hK1n := hK1.ext hE
  clear hX hL hK1 hE
  have hX := hXn
  clear hXn
  have hL := hLn
  clear hLn
  have hK1 := hK1n
  clear hK1n
  obtain ⟨q1, hq1⟩ : ∃ q : Int, res n r1 = .int .i64 q := ⟨_, rfl⟩
  rw [hq1]
  walk_nrm
  refine BA.op rfl rfl (by k_ne) fun w₁ r K hK => ?_
  go_simp
  refine hK _ (fun e he => ?_) ?_
  · have hm := mem_listed he
    simp [go_sem] at hm
  clear hK K r w₁
  refine BA.op rfl rfl (by k_ne) fun w₁ r K hK => ?_
  go_simp
  refine hK _ (fun e he => ?_) ?_
  · have hm := mem_listed he
    simp [go_sem] at hm
  clear hK K r w₁
  refine BA.call rfl rfl (by k_ne) rfl (by walk_nrm; exact rFirst_cb hlm hL) fun ZZ vv ww hp => ?_
  obtain ⟨rfl, rfl, r2, rfl, hl2⟩ := hp
  obtain rfl := hl1.uniq hl2
  rw [hq1]
  walk_nrm
  refine BA.op rfl rfl (by k_ne) fun w₁ r K hK => ?_
  go_simp
  refine hK _ (fun e he => ?_) ?_
  · have hm := mem_listed he
    simp [go_sem] at hm
  clear hK K r w₁
  refine BA.op rfl rfl (by k_ne) fun w₁ r K hK => ?_
  go_simp
  refine hK _ (fun e he => ?_) ?_
  · have hm := mem_listed he
    simp [go_sem] at hm
  clear hK K r w₁
  refine BA.op rfl rfl (by k_ne) fun w₁ r K hK => ?_
  go_simp
  refine hK _ (fun e he => ?_) ?_
  · have hm := mem_listed he
    simp [go_sem] at hm
  clear hK K r w₁
  refine BA.op rfl rfl (by k_ne) fun w₁ r K hK => ?_
  go_simp
  refine hK _ (fun e he => ?_) ?_
  · have hm := mem_listed he
    simp [go_sem] at hm
  clear hK K r w₁
  refine BA.op rfl rfl (by k_ne) fun w₁ r K hK => ?_
  go_simp
  refine hK _ (fun e he => ?_) ?_
  · have hm := mem_listed he
    simp [go_sem] at hm
  clear hK K r w₁
  refine BA.call rfl rfl (by k_ne) rfl (by walk_nrm; exact isK_cb hX.zlt kd) fun Z3 vv w3 hp => ?_
  obtain ⟨hE, kb2, rfl, hK2⟩ := hp
  have hXn := hX.trans hE
  have hLn := hL.ext hE
  have hK1n := hK1.ext hE
  clear hX hL hK1 hE
  have hX := hXn
  clear hXn
  have hL := hLn
  clear hLn
  have hK1 := hK1n
  clear hK1n
  walk_nrm
  refine BA.call rfl rfl (by k_ne) rfl (by walk_nrm; exact All_cb hX.zlt hlm hL hK2) fun Z4 vv w4 hp => ?_
  obtain ⟨hE, r3, rfl, hl3⟩ := hp
  have hXn := hX.trans hE
  have hLn := hL.ext hE
  have hK1n := hK1.ext hE
  have hK2n := hK2.ext hE
  clear hX hL hK1 hK2 hE
  have hX := hXn
  clear hXn
  have hL := hLn
  clear hLn
  have hK1 := hK1n
  clear hK1n
  have hK2 := hK2n
  clear hK2n
  walk_nrm
  refine BA.op rfl rfl (by k_ne) fun w₁ r K hK => ?_
  go_simp
  refine hK _ (fun e he => ?_) ?_
  · have hm := mem_listed he
    simp [go_sem] at hm
  clear hK K r w₁
  refine BA.op rfl rfl (by k_ne) fun w₁ r K hK => ?_
  go_simp
  refine hK _ (fun e he => ?_) ?_
  · have hm := mem_listed he
    simp [go_sem] at hm
  clear hK K r w₁
  refine BA.call rfl rfl (by k_ne) rfl (by walk_nrm; exact rAll_cb hlm hL) fun ZZ vv ww hp => ?_
  obtain ⟨rfl, rfl, r4, rfl, hl4⟩ := hp
  obtain rfl := hl3.uniq hl4
  obtain ⟨ba, hba⟩ : ∃ b, decide (r3 = n) = b := ⟨_, rfl⟩
  rw [hba]
  walk_nrm
  refine BA.op rfl rfl (by k_ne) fun w₁ r K hK => ?_
  go_simp
  refine hK _ (fun e he => ?_) ?_
  · have hm := mem_listed he
    simp [go_sem, ev_eqb] at hm
  clear hK K r w₁
  refine BA.op rfl rfl (by k_ne) fun w₁ r K hK => ?_
  go_simp
  refine hK _ (fun e he => ?_) ?_
  · have hm := mem_listed he
    simp [go_sem] at hm
  clear hK K r w₁
  refine BA.op rfl rfl (by k_ne) fun w₁ r K hK => ?_
  go_simp
  refine hK _ (fun e he => ?_) ?_
  · have hm := mem_listed he
    simp [go_sem] at hm
  clear hK K r w₁
  refine BA.call rfl rfl (by k_ne) rfl (by walk_nrm; exact works_cb hX.zlt) fun Z5 vv w5 hp => ?_
  obtain ⟨hE, rfl⟩ := hp
  have hXn := hX.trans hE
  have hLn := hL.ext hE
  have hK1n := hK1.ext hE
  have hK2n := hK2.ext hE
  clear hX hL hK1 hK2 hE
  have hX := hXn
  clear hXn
  have hL := hLn
  clear hLn
  have hK1 := hK1n
  clear hK1n
  have hK2 := hK2n
  clear hK2n
  walk_nrm
  refine BA.op rfl rfl (by k_ne) fun w₁ r K hK => ?_
  go_simp
  refine hK _ (fun e he => ?_) ?_
  · have hm := mem_listed he
    simp [go_sem] at hm
  clear hK K r w₁
  refine BA.op rfl rfl (by k_ne) fun w₁ r K hK => ?_
  go_simp
  refine hK _ (fun e he => ?_) ?_
  · have hm := mem_listed he
    simp [go_sem] at hm
  clear hK K r w₁
  refine BA.regEnd ?_
  refine BA.ret ?_
  exact hS _ _ hX _ _ (by simp)
noncomputable def body6 : Code := Try.f6.body.getD .skip
set_option maxRecDepth 100000 in
set_option maxHeartbeats 4000000 in
theorem CrewFold_ba {Stop : (Nat → Prop) → Goroutine → World → Prop} {Z : Nat → Prop} {cs : List Frame} {oa : Option Addr} {n ca kd : Nat} {wk : Int} {xs : Nat → Int} {w0 : World} (hZ : ∀ c, Z c → c < w0.heap.size) (hL : Lists w0 Z oa n xs)
    (hS : ∀ (Z' : Nat → Prop) (w' : World), Ext Z Z' w0 w' → ∀ (W : Array Value) (todo : List Item), W.getD 6 undef = .bool true → BA Stop Z' (G { (base 6).at ⟨W, []⟩ todo with mode := .returning } cs) w') :
    BA Stop Z (G ((base 6).at ⟨#[.slice oa n ca, .int .i64 wk, .int .u8 kd, undef, undef, undef, undef, undef, undef, undef, undef, undef, undef, undef, undef, undef, undef, undef, undef, undef, undef, undef, undef, undef, undef, undef, undef, undef, undef, undef, undef, undef, undef, undef, undef, undef, undef, undef, undef, undef], []⟩ [.code body6]) cs) w0 := by
  simp only [body6, Try.f6, Option.getD_some]
  obtain ⟨w, hw⟩ : ∃ w, w = w0 := ⟨w0, rfl⟩
  have hX : Ext Z Z w0 w := by rw [hw]; exact Ext.refl hZ
  rw [show BA Stop Z _ w0 = BA Stop Z _ w by rw [hw]]
  rw [← hw] at hL
  clear hw
  rcases Nat.lt_or_ge 400 n with hlong | hshort
  · have hli : (400 : Int) < (n : Int) := by omega
    refine BA.seq ?_
    refine BA.reg ?_
    simp only [List.size_toArray, List.length_cons, List.length_nil, Nat.zero_add, List.range, List.range.loop]
    refine BA.op rfl rfl (by k_ne) fun w₁ r K hK => ?_
    go_simp
    refine hK _ (fun e he => ?_) ?_
    · have hm := mem_listed he
      simp [go_sem] at hm
    clear hK K r w₁
    refine BA.regEnd ?_
    refine BA.seq ?_
    refine BA.seq ?_
    refine BA.reg ?_
    simp only [List.size_toArray, List.length_cons, List.length_nil, Nat.reduceAdd, Nat.zero_add, List.range, List.range.loop]
    refine BA.op rfl rfl (by k_ne) fun w₁ r K hK => ?_
    go_simp
    refine hK _ (fun e he => ?_) ?_
    · have hm := mem_listed he
      simp [go_sem] at hm
    clear hK K r w₁
    refine BA.op rfl rfl (by k_ne) fun w₁ r K hK => ?_
    go_simp
    refine hK _ (fun e he => ?_) ?_
    · have hm := mem_listed he
      simp [go_sem] at hm
    clear hK K r w₁
    refine BA.op rfl rfl (by k_ne) fun w₁ r K hK => ?_
    go_simp
    refine hK _ (fun e he => ?_) ?_
    · have hm := mem_listed he
      simp [go_sem] at hm
    clear hK K r w₁
    refine BA.regEnd ?_
    refine BA.condT rfl ?_
    refine BA.seq ?_
    refine BA.reg ?_
    simp only [List.size_toArray, List.length_cons, List.length_nil, Nat.reduceAdd, Nat.zero_add, List.range, List.range.loop]
    refine BA.call rfl rfl (by k_ne) rfl (by walk_nrm; exact works_cb hX.zlt) fun Z1 vv w1 hp => ?_
    obtain ⟨hE, rfl⟩ := hp
    have hXn := hX.trans hE
    clear hX hE
    have hX := hXn
    clear hXn
    walk_nrm
    refine BA.op rfl rfl (by k_ne) fun w₁ r K hK => ?_
    go_simp
    refine hK _ (fun e he => ?_) ?_
    · have hm := mem_listed he
      simp [go_sem] at hm
    clear hK K r w₁
    refine BA.regEnd ?_
    refine BA.ret ?_
    exact hS _ _ hX _ _ (by simp)
  have hli : ¬ ((400 : Int) < (n : Int)) := by omega
  have hlm : n ≤ 1000000 := by omega

  refine BA.seq ?_
  refine BA.reg ?_
  simp only [List.size_toArray, List.length_cons, List.length_nil, Nat.zero_add, List.range, List.range.loop]
  refine BA.op rfl rfl (by k_ne) fun w₁ r K hK => ?_
  go_simp
  refine hK _ (fun e he => ?_) ?_
  · have hm := mem_listed he
    simp [go_sem] at hm
  clear hK K r w₁
  refine BA.regEnd ?_
  refine BA.seq ?_
  refine BA.seq ?_
  refine BA.reg ?_
  simp only [List.size_toArray, List.length_cons, List.length_nil, Nat.reduceAdd, Nat.zero_add, List.range, List.range.loop]
  refine BA.op rfl rfl (by k_ne) fun w₁ r K hK => ?_
  go_simp
  refine hK _ (fun e he => ?_) ?_
  · have hm := mem_listed he
    simp [go_sem] at hm
  clear hK K r w₁
  refine BA.op rfl rfl (by k_ne) fun w₁ r K hK => ?_
  go_simp
  refine hK _ (fun e he => ?_) ?_
  · have hm := mem_listed he
    simp [go_sem] at hm
  clear hK K r w₁
  refine BA.op rfl rfl (by k_ne) fun w₁ r K hK => ?_
  go_simp
  refine hK _ (fun e he => ?_) ?_
  · have hm := mem_listed he
    simp [go_sem] at hm
  clear hK K r w₁
  refine BA.regEnd ?_
  refine BA.condF rfl ?_
  refine BA.skip ?_
  refine BA.seq ?_
  refine BA.reg ?_
  simp only [List.size_toArray, List.length_cons, List.length_nil, Nat.reduceAdd, Nat.zero_add, List.range, List.range.loop]
  refine BA.op rfl rfl (by k_ne) fun w₁ r K hK => ?_
  go_simp
  refine hK _ (fun e he => ?_) ?_
  · have hm := mem_listed he
    simp [go_sem] at hm
  clear hK K r w₁
  refine BA.op rfl rfl (by k_ne) fun w₁ r K hK => ?_
  go_simp
  refine hK _ (fun e he => ?_) ?_
  · have hm := mem_listed he
    simp [go_sem] at hm
  clear hK K r w₁
  refine BA.op rfl rfl (by k_ne) fun w₁ r K hK => ?_
  go_simp
  refine hK _ (fun e he => ?_) ?_
  · have hm := mem_listed he
    simp [go_sem] at hm
  clear hK K r w₁
  refine BA.call rfl rfl (by k_ne) rfl (by walk_nrm; exact doesK_cb hX.zlt kd) fun Z1 vv w1 hp => ?_
  obtain ⟨hE, kb1, rfl, hK1⟩ := hp
  have hXn := hX.trans hE
  have hLn := hL.ext hE
  clear hX hL hE
  have hX := hXn
  clear hXn
  have hL := hLn
  clear hLn
  walk_nrm
  refine BA.call rfl rfl (by k_ne) rfl (by walk_nrm; exact Fold_cb (g := bothF) hX.zlt hlm hL hK1 (fun Z a b w => both_cb a b w)) fun Z2 vv w2 hp => ?_
  obtain ⟨hE, rfl⟩ := hp
  have hXn := hX.trans hE
  have hLn := hL.ext hE
  have hK1n := hK1.ext hE
  clear hX hL hK1 hE
  have hX := hXn
  clear hXn
  have hL := hLn
  clear hLn
  have hK1 := hK1n
  clear hK1n
  obtain ⟨FX, FB, hfv⟩ : ∃ (x : Int) (b : Bool), foldV bothF n (fun p => doesF kd (xs p)) = .tuple #[.int .i64 x, .bool b] := ⟨_, _, rfl⟩
  rw [hfv]
  walk_nrm
  refine BA.op rfl rfl (by k_ne) fun w₁ r K hK => ?_
  go_simp
  refine hK _ (fun e he => ?_) ?_
  · have hm := mem_listed he
    simp [go_sem] at hm
  clear hK K r w₁
  refine BA.op rfl rfl (by k_ne) fun w₁ r K hK => ?_
  go_simp
  refine hK _ (fun e he => ?_) ?_
  · have hm := mem_listed he
    simp [go_sem] at hm
  clear hK K r w₁
  refine BA.op rfl rfl (by k_ne) fun w₁ r K hK => ?_
  go_simp
  refine hK _ (fun e he => ?_) ?_
  · have hm := mem_listed he
    simp [go_sem] at hm
  clear hK K r w₁
  refine BA.op rfl rfl (by k_ne) fun w₁ r K hK => ?_
  go_simp
  refine hK _ (fun e he => ?_) ?_
  · have hm := mem_listed he
    simp [go_sem] at hm
  clear hK K r w₁
  refine BA.op rfl rfl (by k_ne) fun w₁ r K hK => ?_
  go_simp
  refine hK _ (fun e he => ?_) ?_
  · have hm := mem_listed he
    simp [go_sem] at hm
  clear hK K r w₁
  refine BA.regEnd ?_
  refine BA.seq ?_
  refine BA.reg ?_
  simp only [List.size_toArray, List.length_cons, List.length_nil, Nat.reduceAdd, Nat.zero_add, List.range, List.range.loop]
  refine BA.op rfl rfl (by k_ne) fun w₁ r K hK => ?_
  go_simp
  refine hK _ (fun e he => ?_) ?_
  · have hm := mem_listed he
    simp [go_sem] at hm
  clear hK K r w₁
  refine BA.op rfl rfl (by k_ne) fun w₁ r K hK => ?_
  go_simp
  refine hK _ (fun e he => ?_) ?_
  · have hm := mem_listed he
    simp [go_sem] at hm
  clear hK K r w₁
  refine BA.call rfl rfl (by k_ne) rfl (by walk_nrm; exact rFold_cb hlm hL) fun ZZ vv ww hp => ?_
  obtain ⟨rfl, rfl, rfl⟩ := hp
  rw [hfv]
  walk_nrm
  refine BA.op rfl rfl (by k_ne) fun w₁ r K hK => ?_
  go_simp
  refine hK _ (fun e he => ?_) ?_
  · have hm := mem_listed he
    simp [go_sem] at hm
  clear hK K r w₁
  refine BA.op rfl rfl (by k_ne) fun w₁ r K hK => ?_
  go_simp
  refine hK _ (fun e he => ?_) ?_
  · have hm := mem_listed he
    simp [go_sem] at hm
  clear hK K r w₁
  refine BA.op rfl rfl (by k_ne) fun w₁ r K hK => ?_
  go_simp
  refine hK _ (fun e he => ?_) ?_
  · have hm := mem_listed he
    simp [go_sem] at hm
  clear hK K r w₁
  refine BA.op rfl rfl (by k_ne) fun w₁ r K hK => ?_
  go_simp
  refine hK _ (fun e he => ?_) ?_
  · have hm := mem_listed he
    simp [go_sem] at hm
  clear hK K r w₁
  refine BA.op rfl rfl (by k_ne) fun w₁ r K hK => ?_
  go_simp
  refine hK _ (fun e he => ?_) ?_
  · have hm := mem_listed he
    simp [go_sem] at hm
  clear hK K r w₁
  refine BA.regEnd ?_
  refine BA.seq ?_
  refine BA.reg ?_
  simp only [List.size_toArray, List.length_cons, List.length_nil, Nat.reduceAdd, Nat.zero_add, List.range, List.range.loop]
  refine BA.op rfl rfl (by k_ne) fun w₁ r K hK => ?_
  go_simp
  refine hK _ (fun e he => ?_) ?_
  · have hm := mem_listed he
    simp [go_sem] at hm
  clear hK K r w₁
  refine BA.op rfl rfl (by k_ne) fun w₁ r K hK => ?_
  go_simp
  refine hK _ (fun e he => ?_) ?_
  · have hm := mem_listed he
    simp [go_sem] at hm
  clear hK K r w₁
  refine BA.op rfl rfl (by k_ne) fun w₁ r K hK => ?_
  go_simp
  refine hK _ (fun e he => ?_) ?_
  · have hm := mem_listed he
    simp [go_sem] at hm
  clear hK K r w₁
  refine BA.op rfl rfl (by k_ne) fun w₁ r K hK => ?_
  go_simp
  refine hK _ (fun e he => ?_) ?_
  · have hm := mem_listed he
    simp [go_sem] at hm
  clear hK K r w₁
  refine BA.op rfl rfl (by k_ne) fun w₁ r K hK => ?_
  go_simp
  refine hK _ (fun e he => ?_) ?_
  · have hm := mem_listed he
    simp [go_sem] at hm
  clear hK K r w₁
  refine BA.op rfl rfl (by k_ne) fun w₁ r K hK => ?_
  go_simp
  refine hK _ (fun e he => ?_) ?_
  · have hm := mem_listed he
    simp [go_sem] at hm
  clear hK K r w₁
  refine BA.op rfl rfl (by k_ne) fun w₁ r K hK => ?_
  go_simp
  refine hK _ (fun e he => ?_) ?_
  · have hm := mem_listed he
    simp [go_sem, ev_eqb] at hm
  clear hK K r w₁
  refine BA.op rfl rfl (by k_ne) fun w₁ r K hK => ?_
  go_simp
  refine hK _ (fun e he => ?_) ?_
  · have hm := mem_listed he
    simp [go_sem] at hm
  clear hK K r w₁
  refine BA.op rfl rfl (by k_ne) fun w₁ r K hK => ?_
  go_simp
  refine hK _ (fun e he => ?_) ?_
  · have hm := mem_listed he
    simp [go_sem] at hm
  clear hK K r w₁
  refine BA.call rfl rfl (by k_ne) rfl (by walk_nrm; exact works_cb hX.zlt) fun Z3 vv w3 hp => ?_
  obtain ⟨hE, rfl⟩ := hp
  have hXn := hX.trans hE
  have hLn := hL.ext hE
  have hK1n := hK1.ext hE
  clear hX hL hK1 hE
  have hX := hXn
  clear hXn
  have hL := hLn
  clear hLn
  have hK1 := hK1n
  clear hK1n
  walk_nrm
  refine BA.op rfl rfl (by k_ne) fun w₁ r K hK => ?_
  go_simp
  refine hK _ (fun e he => ?_) ?_
  · have hm := mem_listed he
    simp [go_sem] at hm
  clear hK K r w₁
  refine BA.op rfl rfl (by k_ne) fun w₁ r K hK => ?_
  go_simp
  refine hK _ (fun e he => ?_) ?_
  · have hm := mem_listed he
    simp [go_sem] at hm
  clear hK K r w₁
  refine BA.regEnd ?_
  refine BA.ret ?_
  exact hS _ _ hX _ _ (by simp)
end Go.Proofs.Ytbckmkppmdfnnaa.Crew
