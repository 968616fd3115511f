/- crew: beside leavers: the law CrewMany walked. Made by wip/tools/crew/mkAy.py. -/
import Derived.Test.YtbckmkppmdfnnaaCrAy
namespace Go.Proofs.Ytbckmkppmdfnnaa.Crew
open Go.Conc Go.RowKit Go.Conc.Lib Go.ConcR.Gen
noncomputable def body7 : Code := Try.f7.body.getD .skip
set_option maxRecDepth 100000 in
set_option maxHeartbeats 4000000 in
theorem CrewMany_ba {Stop : (Nat → Prop) → Goroutine → World → Prop} {Z : Nat → Prop} {cs : List Frame} {oa : Option Addr} {n ca kd : Nat} {wa wb : Int} {xs : Nat → Int} {w0 : World} (hZ : ∀ c, Z c → c < w0.heap.size) (hL : Lists w0 Z oa n xs)
    (hS : ∀ (Z' : Nat → Prop) (w' : World), Ext Z Z' w0 w' → ∀ (W : Array Value) (todo : List Item), W.getD 8 undef = .bool true → BA Stop Z' (G { (base 7).at ⟨W, []⟩ todo with mode := .returning } cs) w') :
    BA Stop Z (G ((base 7).at ⟨#[.slice oa n ca, .int .i64 wa, .int .i64 wb, .int .u8 kd, undef, undef, undef, undef, undef, undef, undef, undef, undef, undef, undef, undef, undef, undef, undef, undef, undef, undef, undef, undef, undef, undef, undef, undef, undef, undef, undef, undef, undef, undef, undef, undef, undef, undef, undef, undef, undef, undef, undef, undef, undef, undef, undef, undef, undef, undef, undef, undef, undef, undef, undef, undef, undef, undef, undef, undef, undef, undef, undef, undef, undef, undef, undef, undef, undef, undef, undef, undef, undef, undef, undef, undef, undef, undef, undef, undef, undef, undef, undef], []⟩ [.code body7]) cs) w0 := by
  simp only [body7, Try.f7, Option.getD_some]
  obtain ⟨w, hw⟩ : ∃ w, w = w0 := ⟨w0, rfl⟩
  have hX : Ext Z Z w0 w := by rw [hw]; exact Ext.refl hZ
  rw [show BA Stop Z _ w0 = BA Stop Z _ w by rw [hw]]
  rw [← hw] at hL
  clear hw
  rcases Nat.lt_or_ge 400 n with hlong | hshort
  · have hli : (400 : Int) < (n : Int) := by omega
    refine BA.seq ?_
    refine BA.reg ?_
    simp only [List.size_toArray, List.length_cons, List.length_nil, Nat.zero_add, List.range, List.range.loop]
    refine BA.op rfl rfl (by k_ne) fun w₁ r K hK => ?_
    go_simp
    refine hK _ (fun e he => ?_) ?_
    · have hm := mem_listed he
      simp [go_sem] at hm
    clear hK K r w₁
    refine BA.regEnd ?_
    refine BA.seq ?_
    refine BA.seq ?_
    refine BA.reg ?_
    simp only [List.size_toArray, List.length_cons, List.length_nil, Nat.reduceAdd, Nat.zero_add, List.range, List.range.loop]
    refine BA.op rfl rfl (by k_ne) fun w₁ r K hK => ?_
    go_simp
    refine hK _ (fun e he => ?_) ?_
    · have hm := mem_listed he
      simp [go_sem] at hm
    clear hK K r w₁
    refine BA.op rfl rfl (by k_ne) fun w₁ r K hK => ?_
    go_simp
    refine hK _ (fun e he => ?_) ?_
    · have hm := mem_listed he
      simp [go_sem] at hm
    clear hK K r w₁
    refine BA.op rfl rfl (by k_ne) fun w₁ r K hK => ?_
    go_simp
    refine hK _ (fun e he => ?_) ?_
    · have hm := mem_listed he
      simp [go_sem] at hm
    clear hK K r w₁
    refine BA.regEnd ?_
    refine BA.condT rfl ?_
    refine BA.seq ?_
    refine BA.reg ?_
    simp only [List.size_toArray, List.length_cons, List.length_nil, Nat.reduceAdd, Nat.zero_add, List.range, List.range.loop]
    refine BA.call rfl rfl (by k_ne) rfl (by walk_nrm; exact works_cb hX.zlt) fun Z1 vv w1 hp => ?_
    obtain ⟨hE, rfl⟩ := hp
    have hXn := hX.trans hE
    clear hX hE
    have hX := hXn
    clear hXn
    walk_nrm
    refine BA.op rfl rfl (by k_ne) fun w₁ r K hK => ?_
    go_simp
    refine hK _ (fun e he => ?_) ?_
    · have hm := mem_listed he
      simp [go_sem] at hm
    clear hK K r w₁
    refine BA.regEnd ?_
    refine BA.ret ?_
    exact hS _ _ hX _ _ (by simp)
  have hli : ¬ ((400 : Int) < (n : Int)) := by omega
  have hlm : n ≤ 1000000 := by omega

  refine BA.seq ?_
  refine BA.reg ?_
  simp only [List.size_toArray, List.length_cons, List.length_nil, Nat.zero_add, List.range, List.range.loop]
  refine BA.op rfl rfl (by k_ne) fun w₁ r K hK => ?_
  go_simp
  refine hK _ (fun e he => ?_) ?_
  · have hm := mem_listed he
    simp [go_sem] at hm
  clear hK K r w₁
  refine BA.regEnd ?_
  refine BA.seq ?_
  refine BA.seq ?_
  refine BA.reg ?_
  simp only [List.size_toArray, List.length_cons, List.length_nil, Nat.reduceAdd, Nat.zero_add, List.range, List.range.loop]
  refine BA.op rfl rfl (by k_ne) fun w₁ r K hK => ?_
  go_simp
  refine hK _ (fun e he => ?_) ?_
  · have hm := mem_listed he
    simp [go_sem] at hm
  clear hK K r w₁
  refine BA.op rfl rfl (by k_ne) fun w₁ r K hK => ?_
  go_simp
  refine hK _ (fun e he => ?_) ?_
  · have hm := mem_listed he
    simp [go_sem] at hm
  clear hK K r w₁
  refine BA.op rfl rfl (by k_ne) fun w₁ r K hK => ?_
  go_simp
  refine hK _ (fun e he => ?_) ?_
  · have hm := mem_listed he
    simp [go_sem] at hm
  clear hK K r w₁
  refine BA.regEnd ?_
  refine BA.condF rfl ?_
  refine BA.skip ?_
  refine BA.seq ?_
  refine BA.reg ?_
  simp only [List.size_toArray, List.length_cons, List.length_nil, Nat.reduceAdd, Nat.zero_add, List.range, List.range.loop]
  refine BA.op rfl rfl (by k_ne) fun w₁ r K hK => ?_
  go_simp
  refine hK _ (fun e he => ?_) ?_
  · have hm := mem_listed he
    simp [go_sem] at hm
  clear hK K r w₁
  refine BA.op rfl rfl (by k_ne) fun w₁ r K hK => ?_
  go_simp
  refine hK _ (fun e he => ?_) ?_
  · have hm := mem_listed he
    simp [go_sem] at hm
  clear hK K r w₁
  refine BA.op rfl rfl (by k_ne) fun w₁ r K hK => ?_
  go_simp
  refine hK _ (fun e he => ?_) ?_
  · have hm := mem_listed he
    simp [go_sem] at hm
  clear hK K r w₁
  refine BA.call rfl rfl (by k_ne) rfl (by walk_nrm; exact doesK_cb hX.zlt kd) fun Z1 vv w1 hp => ?_
  obtain ⟨hE, kb1, rfl, hK1⟩ := hp
  have hXn := hX.trans hE
  have hLn := hL.ext hE
  clear hX hL hE
  have hX := hXn
  clear hXn
  have hL := hLn
  clear hLn
  walk_nrm
  refine BA.call rfl rfl (by k_ne) rfl (by walk_nrm; exact Fold_cb (g := xorF) hX.zlt hlm hL hK1 (fun Z a b w => xor_cb a b w)) fun Z2 vv w2 hp => ?_
  obtain ⟨hE, rfl⟩ := hp
  have hXn := hX.trans hE
  have hLn := hL.ext hE
  have hK1n := hK1.ext hE
  clear hX hL hK1 hE
  have hX := hXn
  clear hXn
  have hL := hLn
  clear hLn
  have hK1 := hK1n
  clear hK1n
  obtain ⟨FX, FB, hfv⟩ : ∃ (x : Int) (b : Bool), foldV xorF n (fun p => doesF kd (xs p)) = .tuple #[.int .i64 x, .bool b] := ⟨_, _, rfl⟩
  rw [hfv]
  walk_nrm
  refine BA.op rfl rfl (by k_ne) fun w₁ r K hK => ?_
  go_simp
  refine hK _ (fun e he => ?_) ?_
  · have hm := mem_listed he
    simp [go_sem] at hm
  clear hK K r w₁
  refine BA.op rfl rfl (by k_ne) fun w₁ r K hK => ?_
  go_simp
  refine hK _ (fun e he => ?_) ?_
  · have hm := mem_listed he
    simp [go_sem] at hm
  clear hK K r w₁
  refine BA.op rfl rfl (by k_ne) fun w₁ r K hK => ?_
  go_simp
  refine hK _ (fun e he => ?_) ?_
  · have hm := mem_listed he
    simp [go_sem] at hm
  clear hK K r w₁
  refine BA.op rfl rfl (by k_ne) fun w₁ r K hK => ?_
  go_simp
  refine hK _ (fun e he => ?_) ?_
  · have hm := mem_listed he
    simp [go_sem] at hm
  clear hK K r w₁
  refine BA.op rfl rfl (by k_ne) fun w₁ r K hK => ?_
  go_simp
  refine hK _ (fun e he => ?_) ?_
  · have hm := mem_listed he
    simp [go_sem] at hm
  clear hK K r w₁
  refine BA.regEnd ?_
  refine BA.seq ?_
  refine BA.reg ?_
  simp only [List.size_toArray, List.length_cons, List.length_nil, Nat.reduceAdd, Nat.zero_add, List.range, List.range.loop]
  refine BA.op rfl rfl (by k_ne) fun w₁ r K hK => ?_
  go_simp
  refine hK _ (fun e he => ?_) ?_
  · have hm := mem_listed he
    simp [go_sem] at hm
  clear hK K r w₁
  refine BA.op rfl rfl (by k_ne) fun w₁ r K hK => ?_
  go_simp
  refine hK _ (fun e he => ?_) ?_
  · have hm := mem_listed he
    simp [go_sem] at hm
  clear hK K r w₁
  refine BA.op rfl rfl (by k_ne) fun w₁ r K hK => ?_
  go_simp
  refine hK _ (fun e he => ?_) ?_
  · have hm := mem_listed he
    simp [go_sem] at hm
  clear hK K r w₁
  refine BA.call rfl rfl (by k_ne) rfl (by walk_nrm; exact doesK_cb hX.zlt kd) fun Z3 vv w3 hp => ?_
  obtain ⟨hE, kb2, rfl, hK2⟩ := hp
  have hXn := hX.trans hE
  have hLn := hL.ext hE
  have hK1n := hK1.ext hE
  clear hX hL hK1 hE
  have hX := hXn
  clear hXn
  have hL := hLn
  clear hLn
  have hK1 := hK1n
  clear hK1n
  walk_nrm
  refine BA.call rfl rfl (by k_ne) rfl (by walk_nrm; exact Fold_cb (g := xorF) hX.zlt hlm hL hK2 (fun Z a b w => xor_cb2 a b w)) fun Z4 vv w4 hp => ?_
  obtain ⟨hE, rfl⟩ := hp
  have hXn := hX.trans hE
  have hLn := hL.ext hE
  have hK1n := hK1.ext hE
  have hK2n := hK2.ext hE
  clear hX hL hK1 hK2 hE
  have hX := hXn
  clear hXn
  have hL := hLn
  clear hLn
  have hK1 := hK1n
  clear hK1n
  have hK2 := hK2n
  clear hK2n
  rw [hfv]
  walk_nrm
  refine BA.op rfl rfl (by k_ne) fun w₁ r K hK => ?_
  go_simp
  refine hK _ (fun e he => ?_) ?_
  · have hm := mem_listed he
    simp [go_sem] at hm
  clear hK K r w₁
  refine BA.op rfl rfl (by k_ne) fun w₁ r K hK => ?_
  go_simp
  refine hK _ (fun e he => ?_) ?_
  · have hm := mem_listed he
    simp [go_sem] at hm
  clear hK K r w₁
  refine BA.op rfl rfl (by k_ne) fun w₁ r K hK => ?_
  go_simp
  refine hK _ (fun e he => ?_) ?_
  · have hm := mem_listed he
    simp [go_sem] at hm
  clear hK K r w₁
  refine BA.op rfl rfl (by k_ne) fun w₁ r K hK => ?_
  go_simp
  refine hK _ (fun e he => ?_) ?_
  · have hm := mem_listed he
    simp [go_sem] at hm
  clear hK K r w₁
  refine BA.op rfl rfl (by k_ne) fun w₁ r K hK => ?_
  go_simp
  refine hK _ (fun e he => ?_) ?_
  · have hm := mem_listed he
    simp [go_sem] at hm
  clear hK K r w₁
  refine BA.regEnd ?_
  refine BA.seq ?_
  refine BA.reg ?_
  simp only [List.size_toArray, List.length_cons, List.length_nil, Nat.reduceAdd, Nat.zero_add, List.range, List.range.loop]
  refine BA.op rfl rfl (by k_ne) fun w₁ r K hK => ?_
  go_simp
  refine hK _ (fun e he => ?_) ?_
  · have hm := mem_listed he
    simp [go_sem] at hm
  clear hK K r w₁
  refine BA.op rfl rfl (by k_ne) fun w₁ r K hK => ?_
  go_simp
  refine hK _ (fun e he => ?_) ?_
  · have hm := mem_listed he
    simp [go_sem] at hm
  clear hK K r w₁
  refine BA.op rfl rfl (by k_ne) fun w₁ r K hK => ?_
  go_simp
  refine hK _ (fun e he => ?_) ?_
  · have hm := mem_listed he
    simp [go_sem] at hm
  clear hK K r w₁
  refine BA.call rfl rfl (by k_ne) rfl (by walk_nrm; exact doesK_cb hX.zlt kd) fun Z5 vv w5 hp => ?_
  obtain ⟨hE, kb3, rfl, hK3⟩ := hp
  have hXn := hX.trans hE
  have hLn := hL.ext hE
  have hK1n := hK1.ext hE
  have hK2n := hK2.ext hE
  clear hX hL hK1 hK2 hE
  have hX := hXn
  clear hXn
  have hL := hLn
  clear hLn
  have hK1 := hK1n
  clear hK1n
  have hK2 := hK2n
  clear hK2n
  walk_nrm
  refine BA.call rfl rfl (by k_ne) rfl (by walk_nrm; exact EachD_cb hX.zlt hlm hL hK3) fun Z6 vv w6 hp => ?_
  obtain ⟨hE, Mk1, rfl, hM1⟩ := hp
  have hXn := hX.trans hE
  have hLn := hL.ext hE
  have hK1n := hK1.ext hE
  have hK2n := hK2.ext hE
  have hK3n := hK3.ext hE
  clear hX hL hK1 hK2 hK3 hE
  have hX := hXn
  clear hXn
  have hL := hLn
  clear hLn
  have hK1 := hK1n
  clear hK1n
  have hK2 := hK2n
  clear hK2n
  have hK3 := hK3n
  clear hK3n
  walk_nrm
  refine BA.op rfl rfl (by k_ne) fun w₁ r K hK => ?_
  go_simp
  refine hK _ (fun e he => ?_) ?_
  · have hm := mem_listed he
    simp [go_sem] at hm
  clear hK K r w₁
  refine BA.op rfl rfl (by k_ne) fun w₁ r K hK => ?_
  go_simp
  refine hK _ (fun e he => ?_) ?_
  · have hm := mem_listed he
    simp [go_sem] at hm
  clear hK K r w₁
  refine BA.op rfl rfl (by k_ne) fun w₁ r K hK => ?_
  go_simp
  refine hK _ (fun e he => ?_) ?_
  · have hm := mem_listed he
    simp [go_sem] at hm
  clear hK K r w₁
  refine BA.call rfl rfl (by k_ne) rfl (by walk_nrm; exact doesK_cb hX.zlt kd) fun Z7 vv w7 hp => ?_
  obtain ⟨hE, kb4, rfl, hK4⟩ := hp
  have hXn := hX.trans hE
  have hLn := hL.ext hE
  have hK1n := hK1.ext hE
  have hK2n := hK2.ext hE
  have hK3n := hK3.ext hE
  have hM1n := hM1.ext hE
  clear hX hL hK1 hK2 hK3 hM1 hE
  have hX := hXn
  clear hXn
  have hL := hLn
  clear hLn
  have hK1 := hK1n
  clear hK1n
  have hK2 := hK2n
  clear hK2n
  have hK3 := hK3n
  clear hK3n
  have hM1 := hM1n
  clear hM1n
  walk_nrm
  refine BA.call rfl rfl (by k_ne) rfl (by walk_nrm; exact EachD_cb hX.zlt hlm hL hK4) fun Z8 vv w8 hp => ?_
  obtain ⟨hE, Mk2, rfl, hM2⟩ := hp
  have hXn := hX.trans hE
  have hLn := hL.ext hE
  have hK1n := hK1.ext hE
  have hK2n := hK2.ext hE
  have hK3n := hK3.ext hE
  have hM1n := hM1.ext hE
  have hK4n := hK4.ext hE
  clear hX hL hK1 hK2 hK3 hM1 hK4 hE
  have hX := hXn
  clear hXn
  have hL := hLn
  clear hLn
  have hK1 := hK1n
  clear hK1n
  have hK2 := hK2n
  clear hK2n
  have hK3 := hK3n
  clear hK3n
  have hM1 := hM1n
  clear hM1n
  have hK4 := hK4n
  clear hK4n
  walk_nrm
  refine BA.call rfl rfl (by k_ne) rfl (by walk_nrm; exact Equal_cb (by omega) hM1 hM2) fun ZZ vv ww hp => ?_
  obtain ⟨rfl, rfl, tq, rfl, hq⟩ := hp
  obtain rfl : tq = true := hq.2 ⟨rfl, fun _ _ => rfl⟩
  walk_nrm
  refine BA.op rfl rfl (by k_ne) fun w₁ r K hK => ?_
  go_simp
  refine hK _ (fun e he => ?_) ?_
  · have hm := mem_listed he
    simp [go_sem] at hm
  clear hK K r w₁
  refine BA.op rfl rfl (by k_ne) fun w₁ r K hK => ?_
  go_simp
  refine hK _ (fun e he => ?_) ?_
  · have hm := mem_listed he
    simp [go_sem] at hm
  clear hK K r w₁
  refine BA.op rfl rfl (by k_ne) fun w₁ r K hK => ?_
  go_simp
  refine hK _ (fun e he => ?_) ?_
  · have hm := mem_listed he
    simp [go_sem] at hm
  clear hK K r w₁
  refine BA.op rfl rfl (by k_ne) fun w₁ r K hK => ?_
  go_simp
  refine hK _ (fun e he => ?_) ?_
  · have hm := mem_listed he
    simp [go_sem] at hm
  clear hK K r w₁
  refine BA.call rfl rfl (by k_ne) rfl (by walk_nrm; exact isK_cb hX.zlt kd) fun Z9 vv w9 hp => ?_
  obtain ⟨hE, kb5, rfl, hK5⟩ := hp
  have hXn := hX.trans hE
  have hLn := hL.ext hE
  have hK1n := hK1.ext hE
  have hK2n := hK2.ext hE
  have hK3n := hK3.ext hE
  have hM1n := hM1.ext hE
  have hK4n := hK4.ext hE
  have hM2n := hM2.ext hE
  clear hX hL hK1 hK2 hK3 hM1 hK4 hM2 hE
  have hX := hXn
  clear hXn
  have hL := hLn
  clear hLn
  have hK1 := hK1n
  clear hK1n
  have hK2 := hK2n
  clear hK2n
  have hK3 := hK3n
  clear hK3n
  have hM1 := hM1n
  clear hM1n
  have hK4 := hK4n
  clear hK4n
  have hM2 := hM2n
  clear hM2n
  walk_nrm
  refine BA.call rfl rfl (by k_ne) rfl (by walk_nrm; exact First_cb hX.zlt hlm hL hK5) fun Z10 vv w10 hp => ?_
  obtain ⟨hE, r1, rfl, hl1⟩ := hp
  have hXn := hX.trans hE
  have hLn := hL.ext hE
  have hK1n := hK1.ext hE
  have hK2n := hK2.ext hE
  have hK3n := hK3.ext hE
  have hM1n := hM1.ext hE
  have hK4n := hK4.ext hE
  have hM2n := hM2.ext hE
  have hK5n := hK5.ext hE
  clear hX hL hK1 hK2 hK3 hM1 hK4 hM2 hK5 hE
  have hX := hXn
  clear hXn
  have hL := hLn
  clear hLn
  have hK1 := hK1n
  clear hK1n
  have hK2 := hK2n
  clear hK2n
  have hK3 := hK3n
  clear hK3n
  have hM1 := hM1n
  clear hM1n
  have hK4 := hK4n
  clear hK4n
  have hM2 := hM2n
  clear hM2n
  have hK5 := hK5n
  clear hK5n
  obtain ⟨q1, hq1⟩ : ∃ q : Int, res n r1 = .int .i64 q := ⟨_, rfl⟩
  rw [hq1]
  walk_nrm
  refine BA.op rfl rfl (by k_ne) fun w₁ r K hK => ?_
  go_simp
  refine hK _ (fun e he => ?_) ?_
  · have hm := mem_listed he
    simp [go_sem] at hm
  clear hK K r w₁
  refine BA.op rfl rfl (by k_ne) fun w₁ r K hK => ?_
  go_simp
  refine hK _ (fun e he => ?_) ?_
  · have hm := mem_listed he
    simp [go_sem] at hm
  clear hK K r w₁
  refine BA.op rfl rfl (by k_ne) fun w₁ r K hK => ?_
  go_simp
  refine hK _ (fun e he => ?_) ?_
  · have hm := mem_listed he
    simp [go_sem] at hm
  clear hK K r w₁
  refine BA.call rfl rfl (by k_ne) rfl (by walk_nrm; exact isK_cb hX.zlt kd) fun Z11 vv w11 hp => ?_
  obtain ⟨hE, kb6, rfl, hK6⟩ := hp
  have hXn := hX.trans hE
  have hLn := hL.ext hE
  have hK1n := hK1.ext hE
  have hK2n := hK2.ext hE
  have hK3n := hK3.ext hE
  have hM1n := hM1.ext hE
  have hK4n := hK4.ext hE
  have hM2n := hM2.ext hE
  have hK5n := hK5.ext hE
  clear hX hL hK1 hK2 hK3 hM1 hK4 hM2 hK5 hE
  have hX := hXn
  clear hXn
  have hL := hLn
  clear hLn
  have hK1 := hK1n
  clear hK1n
  have hK2 := hK2n
  clear hK2n
  have hK3 := hK3n
  clear hK3n
  have hM1 := hM1n
  clear hM1n
  have hK4 := hK4n
  clear hK4n
  have hM2 := hM2n
  clear hM2n
  have hK5 := hK5n
  clear hK5n
  walk_nrm
  refine BA.call rfl rfl (by k_ne) rfl (by walk_nrm; exact First_cb hX.zlt hlm hL hK6) fun Z12 vv w12 hp => ?_
  obtain ⟨hE, r2, rfl, hl2⟩ := hp
  have hXn := hX.trans hE
  have hLn := hL.ext hE
  have hK1n := hK1.ext hE
  have hK2n := hK2.ext hE
  have hK3n := hK3.ext hE
  have hM1n := hM1.ext hE
  have hK4n := hK4.ext hE
  have hM2n := hM2.ext hE
  have hK5n := hK5.ext hE
  have hK6n := hK6.ext hE
  clear hX hL hK1 hK2 hK3 hM1 hK4 hM2 hK5 hK6 hE
  have hX := hXn
  clear hXn
  have hL := hLn
  clear hLn
  have hK1 := hK1n
  clear hK1n
  have hK2 := hK2n
  clear hK2n
  have hK3 := hK3n
  clear hK3n
  have hM1 := hM1n
  clear hM1n
  have hK4 := hK4n
  clear hK4n
  have hM2 := hM2n
  clear hM2n
  have hK5 := hK5n
  clear hK5n
  have hK6 := hK6n
  clear hK6n
  obtain rfl := hl1.uniq hl2
  rw [hq1]
  walk_nrm
  refine BA.op rfl rfl (by k_ne) fun w₁ r K hK => ?_
  go_simp
  refine hK _ (fun e he => ?_) ?_
  · have hm := mem_listed he
    simp [go_sem] at hm
  clear hK K r w₁
  refine BA.op rfl rfl (by k_ne) fun w₁ r K hK => ?_
  go_simp
  refine hK _ (fun e he => ?_) ?_
  · have hm := mem_listed he
    simp [go_sem] at hm
  clear hK K r w₁
  refine BA.op rfl rfl (by k_ne) fun w₁ r K hK => ?_
  go_simp
  refine hK _ (fun e he => ?_) ?_
  · have hm := mem_listed he
    simp [go_sem] at hm
  clear hK K r w₁
  refine BA.op rfl rfl (by k_ne) fun w₁ r K hK => ?_
  go_simp
  refine hK _ (fun e he => ?_) ?_
  · have hm := mem_listed he
    simp [go_sem] at hm
  clear hK K r w₁
  refine BA.op rfl rfl (by k_ne) fun w₁ r K hK => ?_
  go_simp
  refine hK _ (fun e he => ?_) ?_
  · have hm := mem_listed he
    simp [go_sem] at hm
  clear hK K r w₁
  refine BA.op rfl rfl (by k_ne) fun w₁ r K hK => ?_
  go_simp
  refine hK _ (fun e he => ?_) ?_
  · have hm := mem_listed he
    simp [go_sem] at hm
  clear hK K r w₁
  refine BA.call rfl rfl (by k_ne) rfl (by walk_nrm; exact isK_cb hX.zlt kd) fun Z13 vv w13 hp => ?_
  obtain ⟨hE, kb7, rfl, hK7⟩ := hp
  have hXn := hX.trans hE
  have hLn := hL.ext hE
  have hK1n := hK1.ext hE
  have hK2n := hK2.ext hE
  have hK3n := hK3.ext hE
  have hM1n := hM1.ext hE
  have hK4n := hK4.ext hE
  have hM2n := hM2.ext hE
  have hK5n := hK5.ext hE
  have hK6n := hK6.ext hE
  clear hX hL hK1 hK2 hK3 hM1 hK4 hM2 hK5 hK6 hE
  have hX := hXn
  clear hXn
  have hL := hLn
  clear hLn
  have hK1 := hK1n
  clear hK1n
  have hK2 := hK2n
  clear hK2n
  have hK3 := hK3n
  clear hK3n
  have hM1 := hM1n
  clear hM1n
  have hK4 := hK4n
  clear hK4n
  have hM2 := hM2n
  clear hM2n
  have hK5 := hK5n
  clear hK5n
  have hK6 := hK6n
  clear hK6n
  walk_nrm
  refine BA.call rfl rfl (by k_ne) rfl (by walk_nrm; exact All_cb hX.zlt hlm hL hK7) fun Z14 vv w14 hp => ?_
  obtain ⟨hE, r3, rfl, hl3⟩ := hp
  have hXn := hX.trans hE
  have hLn := hL.ext hE
  have hK1n := hK1.ext hE
  have hK2n := hK2.ext hE
  have hK3n := hK3.ext hE
  have hM1n := hM1.ext hE
  have hK4n := hK4.ext hE
  have hM2n := hM2.ext hE
  have hK5n := hK5.ext hE
  have hK6n := hK6.ext hE
  have hK7n := hK7.ext hE
  clear hX hL hK1 hK2 hK3 hM1 hK4 hM2 hK5 hK6 hK7 hE
  have hX := hXn
  clear hXn
  have hL := hLn
  clear hLn
  have hK1 := hK1n
  clear hK1n
  have hK2 := hK2n
  clear hK2n
  have hK3 := hK3n
  clear hK3n
  have hM1 := hM1n
  clear hM1n
  have hK4 := hK4n
  clear hK4n
  have hM2 := hM2n
  clear hM2n
  have hK5 := hK5n
  clear hK5n
  have hK6 := hK6n
  clear hK6n
  have hK7 := hK7n
  clear hK7n
  walk_nrm
  refine BA.op rfl rfl (by k_ne) fun w₁ r K hK => ?_
  go_simp
  refine hK _ (fun e he => ?_) ?_
  · have hm := mem_listed he
    simp [go_sem] at hm
  clear hK K r w₁
  refine BA.op rfl rfl (by k_ne) fun w₁ r K hK => ?_
  go_simp
  refine hK _ (fun e he => ?_) ?_
  · have hm := mem_listed he
    simp [go_sem] at hm
  clear hK K r w₁
  refine BA.op rfl rfl (by k_ne) fun w₁ r K hK => ?_
  go_simp
  refine hK _ (fun e he => ?_) ?_
  · have hm := mem_listed he
    simp [go_sem] at hm
  clear hK K r w₁
  refine BA.call rfl rfl (by k_ne) rfl (by walk_nrm; exact isK_cb hX.zlt kd) fun Z15 vv w15 hp => ?_
  obtain ⟨hE, kb8, rfl, hK8⟩ := hp
  have hXn := hX.trans hE
  have hLn := hL.ext hE
  have hK1n := hK1.ext hE
  have hK2n := hK2.ext hE
  have hK3n := hK3.ext hE
  have hM1n := hM1.ext hE
  have hK4n := hK4.ext hE
  have hM2n := hM2.ext hE
  have hK5n := hK5.ext hE
  have hK6n := hK6.ext hE
  have hK7n := hK7.ext hE
  clear hX hL hK1 hK2 hK3 hM1 hK4 hM2 hK5 hK6 hK7 hE
  have hX := hXn
  clear hXn
  have hL := hLn
  clear hLn
  have hK1 := hK1n
  clear hK1n
  have hK2 := hK2n
  clear hK2n
  have hK3 := hK3n
  clear hK3n
  have hM1 := hM1n
  clear hM1n
  have hK4 := hK4n
  clear hK4n
  have hM2 := hM2n
  clear hM2n
  have hK5 := hK5n
  clear hK5n
  have hK6 := hK6n
  clear hK6n
  have hK7 := hK7n
  clear hK7n
  walk_nrm
  refine BA.call rfl rfl (by k_ne) rfl (by walk_nrm; exact All_cb hX.zlt hlm hL hK8) fun Z16 vv w16 hp => ?_
  obtain ⟨hE, r4, rfl, hl4⟩ := hp
  have hXn := hX.trans hE
  have hLn := hL.ext hE
  have hK1n := hK1.ext hE
  have hK2n := hK2.ext hE
  have hK3n := hK3.ext hE
  have hM1n := hM1.ext hE
  have hK4n := hK4.ext hE
  have hM2n := hM2.ext hE
  have hK5n := hK5.ext hE
  have hK6n := hK6.ext hE
  have hK7n := hK7.ext hE
  have hK8n := hK8.ext hE
  clear hX hL hK1 hK2 hK3 hM1 hK4 hM2 hK5 hK6 hK7 hK8 hE
  have hX := hXn
  clear hXn
  have hL := hLn
  clear hLn
  have hK1 := hK1n
  clear hK1n
  have hK2 := hK2n
  clear hK2n
  have hK3 := hK3n
  clear hK3n
  have hM1 := hM1n
  clear hM1n
  have hK4 := hK4n
  clear hK4n
  have hM2 := hM2n
  clear hM2n
  have hK5 := hK5n
  clear hK5n
  have hK6 := hK6n
  clear hK6n
  have hK7 := hK7n
  clear hK7n
  have hK8 := hK8n
  clear hK8n
  obtain rfl := hl3.uniq hl4
  obtain ⟨ba, hba⟩ : ∃ b, decide (r3 = n) = b := ⟨_, rfl⟩
  rw [hba]
  walk_nrm
  refine BA.op rfl rfl (by k_ne) fun w₁ r K hK => ?_
  go_simp
  refine hK _ (fun e he => ?_) ?_
  · have hm := mem_listed he
    simp [go_sem, ev_eqb] at hm
  clear hK K r w₁
  refine BA.op rfl rfl (by k_ne) fun w₁ r K hK => ?_
  go_simp
  refine hK _ (fun e he => ?_) ?_
  · have hm := mem_listed he
    simp [go_sem] at hm
  clear hK K r w₁
  refine BA.op rfl rfl (by k_ne) fun w₁ r K hK => ?_
  go_simp
  refine hK _ (fun e he => ?_) ?_
  · have hm := mem_listed he
    simp [go_sem] at hm
  clear hK K r w₁
  refine BA.op rfl rfl (by k_ne) fun w₁ r K hK => ?_
  go_simp
  refine hK _ (fun e he => ?_) ?_
  · have hm := mem_listed he
    simp [go_sem] at hm
  clear hK K r w₁
  refine BA.op rfl rfl (by k_ne) fun w₁ r K hK => ?_
  go_simp
  refine hK _ (fun e he => ?_) ?_
  · have hm := mem_listed he
    simp [go_sem] at hm
  clear hK K r w₁
  refine BA.op rfl rfl (by k_ne) fun w₁ r K hK => ?_
  go_simp
  refine hK _ (fun e he => ?_) ?_
  · have hm := mem_listed he
    simp [go_sem] at hm
  clear hK K r w₁
  refine BA.op rfl rfl (by k_ne) fun w₁ r K hK => ?_
  go_simp
  refine hK _ (fun e he => ?_) ?_
  · have hm := mem_listed he
    simp [go_sem] at hm
  clear hK K r w₁
  refine BA.op rfl rfl (by k_ne) fun w₁ r K hK => ?_
  go_simp
  refine hK _ (fun e he => ?_) ?_
  · have hm := mem_listed he
    simp [go_sem] at hm
  clear hK K r w₁
  refine BA.op rfl rfl (by k_ne) fun w₁ r K hK => ?_
  go_simp
  refine hK _ (fun e he => ?_) ?_
  · have hm := mem_listed he
    simp [go_sem] at hm
  clear hK K r w₁
  refine BA.op rfl rfl (by k_ne) fun w₁ r K hK => ?_
  go_simp
  refine hK _ (fun e he => ?_) ?_
  · have hm := mem_listed he
    simp [go_sem] at hm
  clear hK K r w₁
  refine BA.op rfl rfl (by k_ne) fun w₁ r K hK => ?_
  go_simp
  refine hK _ (fun e he => ?_) ?_
  · have hm := mem_listed he
    simp [go_sem, ev_eqb] at hm
  clear hK K r w₁
  refine BA.op rfl rfl (by k_ne) fun w₁ r K hK => ?_
  go_simp
  refine hK _ (fun e he => ?_) ?_
  · have hm := mem_listed he
    simp [go_sem] at hm
  clear hK K r w₁
  refine BA.op rfl rfl (by k_ne) fun w₁ r K hK => ?_
  go_simp
  refine hK _ (fun e he => ?_) ?_
  · have hm := mem_listed he
    simp [go_sem] at hm
  clear hK K r w₁
  refine BA.call rfl rfl (by k_ne) rfl (by walk_nrm; exact works_cb hX.zlt) fun Z17 vv w17 hp => ?_
  obtain ⟨hE, rfl⟩ := hp
  have hXn := hX.trans hE
  have hLn := hL.ext hE
  have hK1n := hK1.ext hE
  have hK2n := hK2.ext hE
  have hK3n := hK3.ext hE
  have hM1n := hM1.ext hE
  have hK4n := hK4.ext hE
  have hM2n := hM2.ext hE
  have hK5n := hK5.ext hE
  have hK6n := hK6.ext hE
  have hK7n := hK7.ext hE
  have hK8n := hK8.ext hE
  clear hX hL hK1 hK2 hK3 hM1 hK4 hM2 hK5 hK6 hK7 hK8 hE
  have hX := hXn
  clear hXn
  have hL := hLn
  clear hLn
  have hK1 := hK1n
  clear hK1n
  have hK2 := hK2n
  clear hK2n
  have hK3 := hK3n
  clear hK3n
  have hM1 := hM1n
  clear hM1n
  have hK4 := hK4n
  clear hK4n
  have hM2 := hM2n
  clear hM2n
  have hK5 := hK5n
  clear hK5n
  have hK6 := hK6n
  clear hK6n
  have hK7 := hK7n
  clear hK7n
  have hK8 := hK8n
  clear hK8n
  walk_nrm
  refine BA.op rfl rfl (by k_ne) fun w₁ r K hK => ?_
  go_simp
  refine hK _ (fun e he => ?_) ?_
  · have hm := mem_listed he
    simp [go_sem] at hm
  clear hK K r w₁
  refine BA.op rfl rfl (by k_ne) fun w₁ r K hK => ?_
  go_simp
  refine hK _ (fun e he => ?_) ?_
  · have hm := mem_listed he
    simp [go_sem] at hm
  clear hK K r w₁
  refine BA.regEnd ?_
  refine BA.ret ?_
  exact hS _ _ hX _ _ (by simp)
end Go.Proofs.Ytbckmkppmdfnnaa.Crew
