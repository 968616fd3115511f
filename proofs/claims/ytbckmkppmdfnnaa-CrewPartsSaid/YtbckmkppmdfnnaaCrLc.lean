/- crew: beside leavers: the law CrewParts walked. Made by wip/tools/crew/mkLc.py. -/
import Derived.Test.YtbckmkppmdfnnaaCrLb
import Derived.Test.YtbckmkppmdfnnaaCrAy
namespace Go.Proofs.Ytbckmkppmdfnnaa.Crew
open Go.Conc Go.RowKit Go.Conc.Lib Go.ConcR.Gen
theorem info29 : (Try.prog.info? 29).map (fun i => (i.zero, i.size, i.bytes)) = some (some (.slice none 0 0), 1, 24) := by kernel_rfl
theorem fillS (oa ob : Option Addr) (n ca m cb : Nat) : Instr.fill (fun i => some (i * 1, 1)) ((Array.range (2 * 1)).map ((Value.slice none 0 0).cells[· % (Value.slice none 0 0).cells.size]!)) [(0, .slice oa n ca), (1, .slice ob m cb)] = some #[.slice oa n ca, .slice ob m cb] := by
  simp [Instr.fill, Value.cells, range2]
section
variable {Stop : (Nat → Prop) → Goroutine → World → Prop} {Z : Nat → Prop} {w : World} {b : Frame} {a : Act} {k : List Item} {cs : List Frame}
theorem BA.buildS {ops : Array Oper} {i : Nat} {rest : List Nat} {o : Oper} (ho : ops[i]? = some o) (hw : Region.wanted o (yielded ops a.tmps) = true) (hk : b.kind ≠ .early) (x y : Operand) (hop : o.op = .buildSlice 53 2 #[(0, x), (1, y)]) {oa ob : Option Addr} {n ca m cb : Nat} (hx : a.eval x = .slice oa n ca) (hy : a.eval y = .slice ob m cb)
    (h : BA Stop Z (G (b.at (a.put o.dst (.slice (some ⟨w.heap.size, 0, none⟩) 2 2)) (.inRegion ops rest :: k)) cs) (w.alloc (.cells #[.slice oa n ca, .slice ob m cb] 29))) : BA Stop Z (G (b.at a (.inRegion ops (i :: rest) :: k)) cs) w := by
  obtain ⟨ie, hie, hq⟩ := Option.map_eq_some_iff.1 info29
  simp only [Prod.mk.injEq] at hq
  obtain ⟨hz, hsz, hby⟩ := hq
  have hf : Instr.fill (fun i => some (i * ie.size, ie.size)) ((Array.range (2 * ie.size)).map ((Value.slice none 0 0).cells[· % (Value.slice none 0 0).cells.size]!)) ((#[(0, x), (1, y)] : Array (Nat × Operand)).map fun (i, x) => (i, a.eval x)).toList = some #[.slice oa n ca, .slice ob m cb] := by
    have := fillS oa ob n ca m cb
    simp only [List.map_toArray, List.map_cons, List.map_nil, hx, hy, hsz]
    exact this
  have h1 : ¬ 2 * ie.size > 2 ^ 24 := by rw [hsz]; omega
  have h2 : ¬ 2 * ie.size = 0 := by rw [hsz]; omega
  refine BA.value ho hw hk (fun d => ?_) (fun d ev he => ?_) h
  · unfold execOp
    simp only [hop, Sem.run_bind, run_buildSlice (w.at d) 53 29 2 _ _ ie (.slice none 0 0) Try.underlying53 hie hz h1 h2 hf, Result.andThen_ok]
    rfl
  · unfold execOp at he
    simp only [hop, Sem.events_bind, Sem.events_pure, run_buildSlice (w.at d) 53 29 2 _ _ ie (.slice none 0 0) Try.underlying53 hie hz h1 h2 hf, events_build (w.at d) 53 29 2 _ _ ie (.slice none 0 0) Try.underlying53 hie hz h1 h2 hf, Result.evThen_ok] at he
    simp at he
end
theorem two_cells (w : World) (x y : Value) (e : TypeId) : (w.alloc (.cells #[x, y] e)).cell? ⟨w.heap.size, 0, none⟩ = some x ∧ (w.alloc (.cells #[x, y] e)).cell? ⟨w.heap.size, 1, none⟩ = some y := by
  unfold World.cell?
  rw [new_alloc]
  exact ⟨rfl, rfl⟩
noncomputable def body8 : Code := Try.f8.body.getD .skip
set_option maxRecDepth 100000 in
set_option maxHeartbeats 4000000 in
theorem CrewParts_ba {Stop : (Nat → Prop) → Goroutine → World → Prop} {Z : Nat → Prop} {cs : List Frame} {oa ob : Option Addr} {n ca m cb kd : Nat} {wk : Int} {xs ys : Nat → Int} {w0 : World} (hZ : ∀ c, Z c → c < w0.heap.size) (hL : Lists w0 Z oa n xs) (hM : Lists w0 Z ob m ys)
    (hS : ∀ (Z' : Nat → Prop) (w' : World), Ext Z Z' w0 w' → ∀ (W : Array Value) (todo : List Item), W.getD 8 undef = .bool true → BA Stop Z' (G { (base 8).at ⟨W, []⟩ todo with mode := .returning } cs) w') :
    BA Stop Z (G ((base 8).at ⟨#[.slice oa n ca, .slice ob m cb, .int .i64 wk, .int .u8 kd, undef, undef, undef, undef, undef, undef, undef, undef, undef, undef, undef, undef, undef, undef, undef, undef, undef, undef, undef, undef, undef, undef, undef, undef, undef, undef, undef, undef, undef, undef, undef, undef, undef, undef, undef, undef, undef, undef, undef, undef, undef, undef, undef, undef, undef, undef, undef, undef, undef, undef, undef, undef, undef, undef, undef, undef, undef, undef, undef, undef, undef, undef, undef, undef, undef, undef, undef, undef], []⟩ [.code body8]) cs) w0 := by
  simp only [body8, Try.f8, Option.getD_some]
  obtain ⟨w, hw⟩ : ∃ w, w = w0 := ⟨w0, rfl⟩
  have hX : Ext Z Z w0 w := by rw [hw]; exact Ext.refl hZ
  rw [show BA Stop Z _ w0 = BA Stop Z _ w by rw [hw]]
  rw [← hw] at hL
  rw [← hw] at hM
  clear hw
  rcases Nat.lt_or_ge 400 n with hlong | hshort
  · have hli : (400 : Int) < (n : Int) := by omega
    refine BA.seq ?_
    refine BA.reg ?_
    simp only [List.size_toArray, List.length_cons, List.length_nil, Nat.zero_add, List.range, List.range.loop]
    refine BA.op rfl rfl (by k_ne) fun w₁ r K hK => ?_
    go_simp
    refine hK _ (fun e he => ?_) ?_
    · have hm := mem_listed he
      simp [go_sem] at hm
    clear hK K r w₁
    refine BA.regEnd ?_
    refine BA.seq ?_
    refine BA.seq ?_
    refine BA.reg ?_
    simp only [List.size_toArray, List.length_cons, List.length_nil, Nat.reduceAdd, Nat.zero_add, List.range, List.range.loop]
    refine BA.op rfl rfl (by k_ne) fun w₁ r K hK => ?_
    go_simp
    refine hK _ (fun e he => ?_) ?_
    · have hm := mem_listed he
      simp [go_sem] at hm
    clear hK K r w₁
    refine BA.op rfl rfl (by k_ne) fun w₁ r K hK => ?_
    go_simp
    refine hK _ (fun e he => ?_) ?_
    · have hm := mem_listed he
      simp [go_sem] at hm
    clear hK K r w₁
    refine BA.op rfl rfl (by k_ne) fun w₁ r K hK => ?_
    go_simp
    refine hK _ (fun e he => ?_) ?_
    · have hm := mem_listed he
      simp [go_sem] at hm
    clear hK K r w₁
    refine BA.op rfl rfl (by k_ne) fun w₁ r K hK => ?_
    go_simp
    refine hK _ (fun e he => ?_) ?_
    · have hm := mem_listed he
      simp [go_sem] at hm
    clear hK K r w₁
    refine BA.unwanted rfl rfl ?_
    walk_nrm
    refine BA.unwanted rfl rfl ?_
    walk_nrm
    refine BA.unwanted rfl rfl ?_
    walk_nrm
    refine BA.op rfl rfl (by k_ne) fun w₁ r K hK => ?_
    go_simp
    refine hK _ (fun e he => ?_) ?_
    · have hm := mem_listed he
      simp [go_sem] at hm
    clear hK K r w₁
    refine BA.regEnd ?_
    refine BA.condT rfl ?_
    refine BA.seq ?_
    refine BA.reg ?_
    simp only [List.size_toArray, List.length_cons, List.length_nil, Nat.reduceAdd, Nat.zero_add, List.range, List.range.loop]
    refine BA.call rfl rfl (by k_ne) rfl (by walk_nrm; exact works_cb hX.zlt) fun Z1 vv w1 hp => ?_
    obtain ⟨hE, rfl⟩ := hp
    have hXn := hX.trans hE
    clear hX hE
    have hX := hXn
    clear hXn
    walk_nrm
    refine BA.op rfl rfl (by k_ne) fun w₁ r K hK => ?_
    go_simp
    refine hK _ (fun e he => ?_) ?_
    · have hm := mem_listed he
      simp [go_sem] at hm
    clear hK K r w₁
    refine BA.regEnd ?_
    refine BA.ret ?_
    exact hS _ _ hX _ _ (by simp)
  have hli : ¬ ((400 : Int) < (n : Int)) := by omega
  rcases Nat.lt_or_ge 400 m with hlong | hshort2
  · have hli2 : (400 : Int) < (m : Int) := by omega
    refine BA.seq ?_
    refine BA.reg ?_
    simp only [List.size_toArray, List.length_cons, List.length_nil, Nat.zero_add, List.range, List.range.loop]
    refine BA.op rfl rfl (by k_ne) fun w₁ r K hK => ?_
    go_simp
    refine hK _ (fun e he => ?_) ?_
    · have hm := mem_listed he
      simp [go_sem] at hm
    clear hK K r w₁
    refine BA.regEnd ?_
    refine BA.seq ?_
    refine BA.seq ?_
    refine BA.reg ?_
    simp only [List.size_toArray, List.length_cons, List.length_nil, Nat.reduceAdd, Nat.zero_add, List.range, List.range.loop]
    refine BA.op rfl rfl (by k_ne) fun w₁ r K hK => ?_
    go_simp
    refine hK _ (fun e he => ?_) ?_
    · have hm := mem_listed he
      simp [go_sem] at hm
    clear hK K r w₁
    refine BA.op rfl rfl (by k_ne) fun w₁ r K hK => ?_
    go_simp
    refine hK _ (fun e he => ?_) ?_
    · have hm := mem_listed he
      simp [go_sem] at hm
    clear hK K r w₁
    refine BA.op rfl rfl (by k_ne) fun w₁ r K hK => ?_
    go_simp
    refine hK _ (fun e he => ?_) ?_
    · have hm := mem_listed he
      simp [go_sem] at hm
    clear hK K r w₁
    refine BA.op rfl rfl (by k_ne) fun w₁ r K hK => ?_
    go_simp
    refine hK _ (fun e he => ?_) ?_
    · have hm := mem_listed he
      simp [go_sem] at hm
    clear hK K r w₁
    refine BA.op rfl rfl (by k_ne) fun w₁ r K hK => ?_
    go_simp
    refine hK _ (fun e he => ?_) ?_
    · have hm := mem_listed he
      simp [go_sem] at hm
    clear hK K r w₁
    refine BA.op rfl rfl (by k_ne) fun w₁ r K hK => ?_
    go_simp
    refine hK _ (fun e he => ?_) ?_
    · have hm := mem_listed he
      simp [go_sem] at hm
    clear hK K r w₁
    refine BA.op rfl rfl (by k_ne) fun w₁ r K hK => ?_
    go_simp
    refine hK _ (fun e he => ?_) ?_
    · have hm := mem_listed he
      simp [go_sem] at hm
    clear hK K r w₁
    refine BA.op rfl rfl (by k_ne) fun w₁ r K hK => ?_
    go_simp
    refine hK _ (fun e he => ?_) ?_
    · have hm := mem_listed he
      simp [go_sem] at hm
    clear hK K r w₁
    refine BA.regEnd ?_
    refine BA.condT rfl ?_
    refine BA.seq ?_
    refine BA.reg ?_
    simp only [List.size_toArray, List.length_cons, List.length_nil, Nat.reduceAdd, Nat.zero_add, List.range, List.range.loop]
    refine BA.call rfl rfl (by k_ne) rfl (by walk_nrm; exact works_cb hX.zlt) fun Z1 vv w1 hp => ?_
    obtain ⟨hE, rfl⟩ := hp
    have hXn := hX.trans hE
    clear hX hE
    have hX := hXn
    clear hXn
    walk_nrm
    refine BA.op rfl rfl (by k_ne) fun w₁ r K hK => ?_
    go_simp
    refine hK _ (fun e he => ?_) ?_
    · have hm := mem_listed he
      simp [go_sem] at hm
    clear hK K r w₁
    refine BA.regEnd ?_
    refine BA.ret ?_
    exact hS _ _ hX _ _ (by simp)
  have hli2 : ¬ ((400 : Int) < (m : Int)) := by omega
  obtain ⟨s, hs⟩ : ∃ s, n + m = s := ⟨_, rfl⟩
  have hsm : n + m ≤ 1000000 := by omega
  have hsl : s ≤ 1000000 := by omega
  have hnl : n ≤ 1000000 := by omega
  have hml : m ≤ 1000000 := by omega
  have HS := Go.Lib.hid hs
  clear hs
  refine BA.seq ?_
  refine BA.reg ?_
  simp only [List.size_toArray, List.length_cons, List.length_nil, Nat.zero_add, List.range, List.range.loop]
  refine BA.op rfl rfl (by k_ne) fun w₁ r K hK => ?_
  go_simp
  refine hK _ (fun e he => ?_) ?_
  · have hm := mem_listed he
    simp [go_sem] at hm
  clear hK K r w₁
  refine BA.regEnd ?_
  refine BA.seq ?_
  refine BA.seq ?_
  refine BA.reg ?_
  simp only [List.size_toArray, List.length_cons, List.length_nil, Nat.reduceAdd, Nat.zero_add, List.range, List.range.loop]
  refine BA.op rfl rfl (by k_ne) fun w₁ r K hK => ?_
  go_simp
  refine hK _ (fun e he => ?_) ?_
  · have hm := mem_listed he
    simp [go_sem] at hm
  clear hK K r w₁
  refine BA.op rfl rfl (by k_ne) fun w₁ r K hK => ?_
  go_simp
  refine hK _ (fun e he => ?_) ?_
  · have hm := mem_listed he
    simp [go_sem] at hm
  clear hK K r w₁
  refine BA.op rfl rfl (by k_ne) fun w₁ r K hK => ?_
  go_simp
  refine hK _ (fun e he => ?_) ?_
  · have hm := mem_listed he
    simp [go_sem] at hm
  clear hK K r w₁
  refine BA.op rfl rfl (by k_ne) fun w₁ r K hK => ?_
  go_simp
  refine hK _ (fun e he => ?_) ?_
  · have hm := mem_listed he
    simp [go_sem] at hm
  clear hK K r w₁
  refine BA.op rfl rfl (by k_ne) fun w₁ r K hK => ?_
  go_simp
  refine hK _ (fun e he => ?_) ?_
  · have hm := mem_listed he
    simp [go_sem] at hm
  clear hK K r w₁
  refine BA.op rfl rfl (by k_ne) fun w₁ r K hK => ?_
  go_simp
  refine hK _ (fun e he => ?_) ?_
  · have hm := mem_listed he
    simp [go_sem] at hm
  clear hK K r w₁
  refine BA.op rfl rfl (by k_ne) fun w₁ r K hK => ?_
  go_simp
  refine hK _ (fun e he => ?_) ?_
  · have hm := mem_listed he
    simp [go_sem] at hm
  clear hK K r w₁
  refine BA.op rfl rfl (by k_ne) fun w₁ r K hK => ?_
  go_simp
  refine hK _ (fun e he => ?_) ?_
  · have hm := mem_listed he
    simp [go_sem] at hm
  clear hK K r w₁
  refine BA.regEnd ?_
  refine BA.condF rfl ?_
  refine BA.skip ?_
  refine BA.seq ?_
  refine BA.reg ?_
  simp only [List.size_toArray, List.length_cons, List.length_nil, Nat.reduceAdd, Nat.zero_add, List.range, List.range.loop]
  refine BA.op rfl rfl (by k_ne) fun w₁ r K hK => ?_
  go_simp
  refine hK _ (fun e he => ?_) ?_
  · have hm := mem_listed he
    simp [go_sem] at hm
  clear hK K r w₁
  refine BA.op rfl rfl (by k_ne) fun w₁ r K hK => ?_
  go_simp
  refine hK _ (fun e he => ?_) ?_
  · have hm := mem_listed he
    simp [go_sem] at hm
  clear hK K r w₁
  refine BA.buildS (oa := oa) (n := n) (ca := ca) (ob := ob) (m := m) (cb := cb) rfl rfl (by k_ne) (.tmp 21) (.tmp 22) rfl (by simp [Act.eval]) (by simp [Act.eval]) ?_
  have hE := (Ext.refl hX.zlt).alloc (.cells #[.slice oa n ca, .slice ob m cb] 29)
  obtain ⟨c0, c1⟩ := two_cells w (.slice oa n ca) (.slice ob m cb) 29
  have hnz : ¬ Z w.heap.size := fun h => by have := hX.zlt _ h; omega
  have hXn := hX.trans hE
  have hLn := hL.ext hE
  have hMn := hM.ext hE
  clear hX hL hM hE
  have hX := hXn
  clear hXn
  have hL := hLn
  clear hLn
  have hM := hMn
  clear hMn
  generalize w.alloc (.cells #[.slice oa n ca, .slice ob m cb] 29) = w1 at hX hL hM c0 c1 ⊢
  obtain ⟨nb, enb⟩ : ∃ N, w.heap.size = N := ⟨_, rfl⟩
  rw [enb] at c0 c1 hnz ⊢
  clear enb
  walk_nrm
  refine BA.call rfl rfl (by k_ne) rfl (by walk_nrm; exact Concat_cb hX.zlt hsm hL hM c0 c1 hnz) fun Z2 vv w2 hp => ?_
  obtain ⟨hE, oc, cc, rfl, hB⟩ := hp
  have hXn := hX.trans hE
  have hLn := hL.ext hE
  have hMn := hM.ext hE
  clear hX hL hM hE
  have hX := hXn
  clear hXn
  have hL := hLn
  clear hLn
  have hM := hMn
  clear hMn
  rw [HS.out] at hB ⊢
  clear c0 c1 hnz
  walk_nrm
  refine BA.op rfl rfl (by k_ne) fun w₁ r K hK => ?_
  go_simp
  refine hK _ (fun e he => ?_) ?_
  · have hm := mem_listed he
    simp [go_sem] at hm
  clear hK K r w₁
  refine BA.regEnd ?_
  refine BA.seq ?_
  refine BA.seq ?_
  refine BA.reg ?_
  simp only [List.size_toArray, List.length_cons, List.length_nil, Nat.reduceAdd, Nat.zero_add, List.range, List.range.loop]
  refine BA.op rfl rfl (by k_ne) fun w₁ r K hK => ?_
  go_simp
  refine hK _ (fun e he => ?_) ?_
  · have hm := mem_listed he
    simp [go_sem] at hm
  clear hK K r w₁
  refine BA.op rfl rfl (by k_ne) fun w₁ r K hK => ?_
  go_simp
  refine hK _ (fun e he => ?_) ?_
  · have hm := mem_listed he
    simp [go_sem] at hm
  clear hK K r w₁
  refine BA.op rfl rfl (by k_ne) fun w₁ r K hK => ?_
  go_simp
  refine hK _ (fun e he => ?_) ?_
  · have hm := mem_listed he
    simp [go_sem] at hm
  clear hK K r w₁
  refine BA.call rfl rfl (by k_ne) rfl (by walk_nrm; exact doesK_cb hX.zlt kd) fun Z3 vv w3 hp => ?_
  obtain ⟨hE, kb1, rfl, hK1⟩ := hp
  have hXn := hX.trans hE
  have hLn := hL.ext hE
  have hMn := hM.ext hE
  have hBn := hB.ext hE
  clear hX hL hM hB hE
  have hX := hXn
  clear hXn
  have hL := hLn
  clear hLn
  have hM := hMn
  clear hMn
  have hB := hBn
  clear hBn
  walk_nrm
  refine BA.call rfl rfl (by k_ne) rfl (by walk_nrm; exact EachD_cb hX.zlt hsl hB hK1) fun Z4 vv w4 hp => ?_
  obtain ⟨hE, Mk1, rfl, hE1⟩ := hp
  have hXn := hX.trans hE
  have hLn := hL.ext hE
  have hMn := hM.ext hE
  have hBn := hB.ext hE
  have hK1n := hK1.ext hE
  clear hX hL hM hB hK1 hE
  have hX := hXn
  clear hXn
  have hL := hLn
  clear hLn
  have hM := hMn
  clear hMn
  have hB := hBn
  clear hBn
  have hK1 := hK1n
  clear hK1n
  walk_nrm
  refine BA.op rfl rfl (by k_ne) fun w₁ r K hK => ?_
  go_simp
  refine hK _ (fun e he => ?_) ?_
  · have hm := mem_listed he
    simp [go_sem] at hm
  clear hK K r w₁
  refine BA.op rfl rfl (by k_ne) fun w₁ r K hK => ?_
  go_simp
  refine hK _ (fun e he => ?_) ?_
  · have hm := mem_listed he
    simp [go_sem] at hm
  clear hK K r w₁
  refine BA.op rfl rfl (by k_ne) fun w₁ r K hK => ?_
  go_simp
  refine hK _ (fun e he => ?_) ?_
  · have hm := mem_listed he
    simp [go_sem] at hm
  clear hK K r w₁
  refine BA.call rfl rfl (by k_ne) rfl (by walk_nrm; exact doesK_cb hX.zlt kd) fun Z5 vv w5 hp => ?_
  obtain ⟨hE, kb2, rfl, hK2⟩ := hp
  have hXn := hX.trans hE
  have hLn := hL.ext hE
  have hMn := hM.ext hE
  have hBn := hB.ext hE
  have hK1n := hK1.ext hE
  have hE1n := hE1.ext hE
  clear hX hL hM hB hK1 hE1 hE
  have hX := hXn
  clear hXn
  have hL := hLn
  clear hLn
  have hM := hMn
  clear hMn
  have hB := hBn
  clear hBn
  have hK1 := hK1n
  clear hK1n
  have hE1 := hE1n
  clear hE1n
  walk_nrm
  refine BA.call rfl rfl (by k_ne) rfl (by walk_nrm; exact EachD_cb hX.zlt hnl hL hK2) fun Z6 vv w6 hp => ?_
  obtain ⟨hE, Mk2, rfl, hE2⟩ := hp
  have hXn := hX.trans hE
  have hLn := hL.ext hE
  have hMn := hM.ext hE
  have hBn := hB.ext hE
  have hK1n := hK1.ext hE
  have hE1n := hE1.ext hE
  have hK2n := hK2.ext hE
  clear hX hL hM hB hK1 hE1 hK2 hE
  have hX := hXn
  clear hXn
  have hL := hLn
  clear hLn
  have hM := hMn
  clear hMn
  have hB := hBn
  clear hBn
  have hK1 := hK1n
  clear hK1n
  have hE1 := hE1n
  clear hE1n
  have hK2 := hK2n
  clear hK2n
  walk_nrm
  refine BA.op rfl rfl (by k_ne) fun w₁ r K hK => ?_
  go_simp
  refine hK _ (fun e he => ?_) ?_
  · have hm := mem_listed he
    simp [go_sem] at hm
  clear hK K r w₁
  refine BA.op rfl rfl (by k_ne) fun w₁ r K hK => ?_
  go_simp
  refine hK _ (fun e he => ?_) ?_
  · have hm := mem_listed he
    simp [go_sem] at hm
  clear hK K r w₁
  refine BA.op rfl rfl (by k_ne) fun w₁ r K hK => ?_
  go_simp
  refine hK _ (fun e he => ?_) ?_
  · have hm := mem_listed he
    simp [go_sem] at hm
  clear hK K r w₁
  refine BA.call rfl rfl (by k_ne) rfl (by walk_nrm; exact doesK_cb hX.zlt kd) fun Z7 vv w7 hp => ?_
  obtain ⟨hE, kb3, rfl, hK3⟩ := hp
  have hXn := hX.trans hE
  have hLn := hL.ext hE
  have hMn := hM.ext hE
  have hBn := hB.ext hE
  have hK1n := hK1.ext hE
  have hE1n := hE1.ext hE
  have hK2n := hK2.ext hE
  have hE2n := hE2.ext hE
  clear hX hL hM hB hK1 hE1 hK2 hE2 hE
  have hX := hXn
  clear hXn
  have hL := hLn
  clear hLn
  have hM := hMn
  clear hMn
  have hB := hBn
  clear hBn
  have hK1 := hK1n
  clear hK1n
  have hE1 := hE1n
  clear hE1n
  have hK2 := hK2n
  clear hK2n
  have hE2 := hE2n
  clear hE2n
  walk_nrm
  refine BA.call rfl rfl (by k_ne) rfl (by walk_nrm; exact EachD_cb hX.zlt hml hM hK3) fun Z8 vv w8 hp => ?_
  obtain ⟨hE, Mk3, rfl, hE3⟩ := hp
  have hXn := hX.trans hE
  have hLn := hL.ext hE
  have hMn := hM.ext hE
  have hBn := hB.ext hE
  have hK1n := hK1.ext hE
  have hE1n := hE1.ext hE
  have hK2n := hK2.ext hE
  have hE2n := hE2.ext hE
  have hK3n := hK3.ext hE
  clear hX hL hM hB hK1 hE1 hK2 hE2 hK3 hE
  have hX := hXn
  clear hXn
  have hL := hLn
  clear hLn
  have hM := hMn
  clear hMn
  have hB := hBn
  clear hBn
  have hK1 := hK1n
  clear hK1n
  have hE1 := hE1n
  clear hE1n
  have hK2 := hK2n
  clear hK2n
  have hE2 := hE2n
  clear hE2n
  have hK3 := hK3n
  clear hK3n
  walk_nrm
  refine BA.buildS (oa := (some ⟨Mk2, 0, none⟩)) (n := n) (ca := n) (ob := (some ⟨Mk3, 0, none⟩)) (m := m) (cb := m) rfl rfl (by k_ne) (.tmp 34) (.tmp 39) rfl (by simp [Act.eval]) (by simp [Act.eval]) ?_
  have hE := (Ext.refl hX.zlt).alloc (.cells #[.slice (some ⟨Mk2, 0, none⟩) n n, .slice (some ⟨Mk3, 0, none⟩) m m] 29)
  obtain ⟨c0, c1⟩ := two_cells w8 (.slice (some ⟨Mk2, 0, none⟩) n n) (.slice (some ⟨Mk3, 0, none⟩) m m) 29
  have hnz : ¬ Z8 w8.heap.size := fun h => by have := hX.zlt _ h; omega
  have hXn := hX.trans hE
  have hLn := hL.ext hE
  have hMn := hM.ext hE
  have hBn := hB.ext hE
  have hK1n := hK1.ext hE
  have hE1n := hE1.ext hE
  have hK2n := hK2.ext hE
  have hE2n := hE2.ext hE
  have hK3n := hK3.ext hE
  have hE3n := hE3.ext hE
  clear hX hL hM hB hK1 hE1 hK2 hE2 hK3 hE3 hE
  have hX := hXn
  clear hXn
  have hL := hLn
  clear hLn
  have hM := hMn
  clear hMn
  have hB := hBn
  clear hBn
  have hK1 := hK1n
  clear hK1n
  have hE1 := hE1n
  clear hE1n
  have hK2 := hK2n
  clear hK2n
  have hE2 := hE2n
  clear hE2n
  have hK3 := hK3n
  clear hK3n
  have hE3 := hE3n
  clear hE3n
  generalize w8.alloc (.cells #[.slice (some ⟨Mk2, 0, none⟩) n n, .slice (some ⟨Mk3, 0, none⟩) m m] 29) = w9 at hX hL hM hB hK1 hE1 hK2 hE2 hK3 hE3 c0 c1 ⊢
  obtain ⟨nc, enc⟩ : ∃ N, w8.heap.size = N := ⟨_, rfl⟩
  rw [enc] at c0 c1 hnz ⊢
  clear enc
  walk_nrm
  refine BA.call rfl rfl (by k_ne) rfl (by walk_nrm; exact Concat_cb hX.zlt hsm hE2 hE3 c0 c1 hnz) fun Z10 vv w10 hp => ?_
  obtain ⟨hE, od, cd, rfl, hD⟩ := hp
  have hXn := hX.trans hE
  have hLn := hL.ext hE
  have hMn := hM.ext hE
  have hBn := hB.ext hE
  have hK1n := hK1.ext hE
  have hE1n := hE1.ext hE
  have hK2n := hK2.ext hE
  have hE2n := hE2.ext hE
  have hK3n := hK3.ext hE
  have hE3n := hE3.ext hE
  clear hX hL hM hB hK1 hE1 hK2 hE2 hK3 hE3 hE
  have hX := hXn
  clear hXn
  have hL := hLn
  clear hLn
  have hM := hMn
  clear hMn
  have hB := hBn
  clear hBn
  have hK1 := hK1n
  clear hK1n
  have hE1 := hE1n
  clear hE1n
  have hK2 := hK2n
  clear hK2n
  have hE2 := hE2n
  clear hE2n
  have hK3 := hK3n
  clear hK3n
  have hE3 := hE3n
  clear hE3n
  rw [HS.out] at hD ⊢
  clear c0 c1 hnz
  walk_nrm
  refine BA.call rfl rfl (by k_ne) rfl (by walk_nrm; exact Equal_cb (by omega) hE1 hD) fun ZZ vv ww hp => ?_
  obtain ⟨rfl, rfl, tq, rfl, hq⟩ := hp
  obtain rfl : tq = true := hq.2 ⟨rfl, fun p _ => by simp only [catF]; split <;> rfl⟩
  walk_nrm
  refine BA.op rfl rfl (by k_ne) fun w₁ r K hK => ?_
  go_simp
  refine hK _ (fun e he => ?_) ?_
  · have hm := mem_listed he
    simp [go_sem, Op.unary] at hm
  clear hK K r w₁
  refine BA.regEnd ?_
  refine BA.condF rfl ?_
  refine BA.skip ?_
  refine BA.seq ?_
  refine BA.reg ?_
  simp only [List.size_toArray, List.length_cons, List.length_nil, Nat.reduceAdd, Nat.zero_add, List.range, List.range.loop]
  refine BA.op rfl rfl (by k_ne) fun w₁ r K hK => ?_
  go_simp
  refine hK _ (fun e he => ?_) ?_
  · have hm := mem_listed he
    simp [go_sem] at hm
  clear hK K r w₁
  refine BA.op rfl rfl (by k_ne) fun w₁ r K hK => ?_
  go_simp
  refine hK _ (fun e he => ?_) ?_
  · have hm := mem_listed he
    simp [go_sem] at hm
  clear hK K r w₁
  refine BA.op rfl rfl (by k_ne) fun w₁ r K hK => ?_
  go_simp
  refine hK _ (fun e he => ?_) ?_
  · have hm := mem_listed he
    simp [go_sem] at hm
  clear hK K r w₁
  refine BA.call rfl rfl (by k_ne) rfl (by walk_nrm; exact isK_cb hX.zlt kd) fun Z11 vv w11 hp => ?_
  obtain ⟨hE, kb4, rfl, hK4⟩ := hp
  have hXn := hX.trans hE
  have hLn := hL.ext hE
  have hMn := hM.ext hE
  have hBn := hB.ext hE
  have hK1n := hK1.ext hE
  have hE1n := hE1.ext hE
  have hK2n := hK2.ext hE
  have hE2n := hE2.ext hE
  have hK3n := hK3.ext hE
  have hE3n := hE3.ext hE
  have hDn := hD.ext hE
  clear hX hL hM hB hK1 hE1 hK2 hE2 hK3 hE3 hD hE
  have hX := hXn
  clear hXn
  have hL := hLn
  clear hLn
  have hM := hMn
  clear hMn
  have hB := hBn
  clear hBn
  have hK1 := hK1n
  clear hK1n
  have hE1 := hE1n
  clear hE1n
  have hK2 := hK2n
  clear hK2n
  have hE2 := hE2n
  clear hE2n
  have hK3 := hK3n
  clear hK3n
  have hE3 := hE3n
  clear hE3n
  have hD := hDn
  clear hDn
  walk_nrm
  refine BA.call rfl rfl (by k_ne) rfl (by walk_nrm; exact First_cb hX.zlt hnl hL hK4) fun Z12 vv w12 hp => ?_
  obtain ⟨hE, r1, rfl, hl1⟩ := hp
  have hXn := hX.trans hE
  have hLn := hL.ext hE
  have hMn := hM.ext hE
  have hBn := hB.ext hE
  have hK1n := hK1.ext hE
  have hE1n := hE1.ext hE
  have hK2n := hK2.ext hE
  have hE2n := hE2.ext hE
  have hK3n := hK3.ext hE
  have hE3n := hE3.ext hE
  have hDn := hD.ext hE
  have hK4n := hK4.ext hE
  clear hX hL hM hB hK1 hE1 hK2 hE2 hK3 hE3 hD hK4 hE
  have hX := hXn
  clear hXn
  have hL := hLn
  clear hLn
  have hM := hMn
  clear hMn
  have hB := hBn
  clear hBn
  have hK1 := hK1n
  clear hK1n
  have hE1 := hE1n
  clear hE1n
  have hK2 := hK2n
  clear hK2n
  have hE2 := hE2n
  clear hE2n
  have hK3 := hK3n
  clear hK3n
  have hE3 := hE3n
  clear hE3n
  have hD := hDn
  clear hDn
  have hK4 := hK4n
  clear hK4n
  have cx : ∀ p, p < n → catF n xs ys p = xs p := fun p hp => by simp [catF, hp]
  have cy : ∀ p, catF n xs ys (n + p) = ys p := fun p => by
    simp [catF]
    intro h
    omega
  by_cases e1 : r1 = n
  · subst e1
    rw [show res r1 r1 = .int .i64 (-1) by simp [res]]
    walk_nrm
    refine BA.op rfl rfl (by k_ne) fun w₁ r K hK => ?_
    go_simp
    refine hK _ (fun e he => ?_) ?_
    · have hm := mem_listed he
      simp [go_sem] at hm
    clear hK K r w₁
    refine BA.regEnd ?_
    refine BA.seq ?_
    refine BA.seq ?_
    refine BA.reg ?_
    simp only [List.size_toArray, List.length_cons, List.length_nil, Nat.reduceAdd, Nat.zero_add, List.range, List.range.loop]
    refine BA.op rfl rfl (by k_ne) fun w₁ r K hK => ?_
    go_simp
    refine hK _ (fun e he => ?_) ?_
    · have hm := mem_listed he
      simp [go_sem] at hm
    clear hK K r w₁
    refine BA.op rfl rfl (by k_ne) fun w₁ r K hK => ?_
    go_simp
    refine hK _ (fun e he => ?_) ?_
    · have hm := mem_listed he
      simp [go_sem] at hm
    clear hK K r w₁
    refine BA.regEnd ?_
    refine BA.condT rfl ?_
    refine BA.seq ?_
    refine BA.reg ?_
    simp only [List.size_toArray, List.length_cons, List.length_nil, Nat.reduceAdd, Nat.zero_add, List.range, List.range.loop]
    refine BA.op rfl rfl (by k_ne) fun w₁ r K hK => ?_
    go_simp
    refine hK _ (fun e he => ?_) ?_
    · have hm := mem_listed he
      simp [go_sem] at hm
    clear hK K r w₁
    refine BA.op rfl rfl (by k_ne) fun w₁ r K hK => ?_
    go_simp
    refine hK _ (fun e he => ?_) ?_
    · have hm := mem_listed he
      simp [go_sem] at hm
    clear hK K r w₁
    refine BA.op rfl rfl (by k_ne) fun w₁ r K hK => ?_
    go_simp
    refine hK _ (fun e he => ?_) ?_
    · have hm := mem_listed he
      simp [go_sem] at hm
    clear hK K r w₁
    refine BA.call rfl rfl (by k_ne) rfl (by walk_nrm; exact isK_cb hX.zlt kd) fun Z13 vv w13 hp => ?_
    obtain ⟨hE, kb5, rfl, hK5⟩ := hp
    have hXn := hX.trans hE
    have hLn := hL.ext hE
    have hMn := hM.ext hE
    have hBn := hB.ext hE
    have hK1n := hK1.ext hE
    have hE1n := hE1.ext hE
    have hK2n := hK2.ext hE
    have hE2n := hE2.ext hE
    have hK3n := hK3.ext hE
    have hE3n := hE3.ext hE
    have hDn := hD.ext hE
    have hK4n := hK4.ext hE
    clear hX hL hM hB hK1 hE1 hK2 hE2 hK3 hE3 hD hK4 hE
    have hX := hXn
    clear hXn
    have hL := hLn
    clear hLn
    have hM := hMn
    clear hMn
    have hB := hBn
    clear hBn
    have hK1 := hK1n
    clear hK1n
    have hE1 := hE1n
    clear hE1n
    have hK2 := hK2n
    clear hK2n
    have hE2 := hE2n
    clear hE2n
    have hK3 := hK3n
    clear hK3n
    have hE3 := hE3n
    clear hE3n
    have hD := hDn
    clear hDn
    have hK4 := hK4n
    clear hK4n
    walk_nrm
    refine BA.call rfl rfl (by k_ne) rfl (by walk_nrm; exact First_cb hX.zlt hml hM hK5) fun Z14 vv w14 hp => ?_
    obtain ⟨hE, r2, rfl, hl2⟩ := hp
    have hXn := hX.trans hE
    have hLn := hL.ext hE
    have hMn := hM.ext hE
    have hBn := hB.ext hE
    have hK1n := hK1.ext hE
    have hE1n := hE1.ext hE
    have hK2n := hK2.ext hE
    have hE2n := hE2.ext hE
    have hK3n := hK3.ext hE
    have hE3n := hE3.ext hE
    have hDn := hD.ext hE
    have hK4n := hK4.ext hE
    have hK5n := hK5.ext hE
    clear hX hL hM hB hK1 hE1 hK2 hE2 hK3 hE3 hD hK4 hK5 hE
    have hX := hXn
    clear hXn
    have hL := hLn
    clear hLn
    have hM := hMn
    clear hMn
    have hB := hBn
    clear hBn
    have hK1 := hK1n
    clear hK1n
    have hE1 := hE1n
    clear hE1n
    have hK2 := hK2n
    clear hK2n
    have hE2 := hE2n
    clear hE2n
    have hK3 := hK3n
    clear hK3n
    have hE3 := hE3n
    clear hE3n
    have hD := hDn
    clear hDn
    have hK4 := hK4n
    clear hK4n
    have hK5 := hK5n
    clear hK5n
    by_cases e2 : r2 = m
    · subst e2
      rw [show res r2 r2 = .int .i64 (-1) by simp [res]]
      walk_nrm
      refine BA.op rfl rfl (by k_ne) fun w₁ r K hK => ?_
      go_simp
      refine hK _ (fun e he => ?_) ?_
      · have hm := mem_listed he
        simp [go_sem] at hm
      clear hK K r w₁
      refine BA.regEnd ?_
      refine BA.seq ?_
      refine BA.reg ?_
      simp only [List.size_toArray, List.length_cons, List.length_nil, Nat.reduceAdd, Nat.zero_add, List.range, List.range.loop]
      refine BA.op rfl rfl (by k_ne) fun w₁ r K hK => ?_
      go_simp
      refine hK _ (fun e he => ?_) ?_
      · have hm := mem_listed he
        simp [go_sem] at hm
      clear hK K r w₁
      refine BA.op rfl rfl (by k_ne) fun w₁ r K hK => ?_
      go_simp
      refine hK _ (fun e he => ?_) ?_
      · have hm := mem_listed he
        simp [go_sem] at hm
      clear hK K r w₁
      refine BA.regEnd ?_
      refine BA.condF rfl ?_
      refine BA.skip ?_
      refine BA.seq ?_
      refine BA.reg ?_
      simp only [List.size_toArray, List.length_cons, List.length_nil, Nat.reduceAdd, Nat.zero_add, List.range, List.range.loop]
      refine BA.op rfl rfl (by k_ne) fun w₁ r K hK => ?_
      go_simp
      refine hK _ (fun e he => ?_) ?_
      · have hm := mem_listed he
        simp [go_sem] at hm
      clear hK K r w₁
      refine BA.op rfl rfl (by k_ne) fun w₁ r K hK => ?_
      go_simp
      refine hK _ (fun e he => ?_) ?_
      · have hm := mem_listed he
        simp [go_sem] at hm
      clear hK K r w₁
      refine BA.op rfl rfl (by k_ne) fun w₁ r K hK => ?_
      go_simp
      refine hK _ (fun e he => ?_) ?_
      · have hm := mem_listed he
        simp [go_sem] at hm
      clear hK K r w₁
      refine BA.call rfl rfl (by k_ne) rfl (by walk_nrm; exact isK_cb hX.zlt kd) fun Z15 vv w15 hp => ?_
      obtain ⟨hE, kb6, rfl, hK6⟩ := hp
      have hXn := hX.trans hE
      have hLn := hL.ext hE
      have hMn := hM.ext hE
      have hBn := hB.ext hE
      have hK1n := hK1.ext hE
      have hE1n := hE1.ext hE
      have hK2n := hK2.ext hE
      have hE2n := hE2.ext hE
      have hK3n := hK3.ext hE
      have hE3n := hE3.ext hE
      have hDn := hD.ext hE
      have hK4n := hK4.ext hE
      have hK5n := hK5.ext hE
      clear hX hL hM hB hK1 hE1 hK2 hE2 hK3 hE3 hD hK4 hK5 hE
      have hX := hXn
      clear hXn
      have hL := hLn
      clear hLn
      have hM := hMn
      clear hMn
      have hB := hBn
      clear hBn
      have hK1 := hK1n
      clear hK1n
      have hE1 := hE1n
      clear hE1n
      have hK2 := hK2n
      clear hK2n
      have hE2 := hE2n
      clear hE2n
      have hK3 := hK3n
      clear hK3n
      have hE3 := hE3n
      clear hE3n
      have hD := hDn
      clear hDn
      have hK4 := hK4n
      clear hK4n
      have hK5 := hK5n
      clear hK5n
      walk_nrm
      refine BA.call rfl rfl (by k_ne) rfl (by walk_nrm; exact First_cb hX.zlt hsl hB hK6) fun Z16 vv w16 hp => ?_
      obtain ⟨hE, r3, rfl, hl3⟩ := hp
      have hXn := hX.trans hE
      have hLn := hL.ext hE
      have hMn := hM.ext hE
      have hBn := hB.ext hE
      have hK1n := hK1.ext hE
      have hE1n := hE1.ext hE
      have hK2n := hK2.ext hE
      have hE2n := hE2.ext hE
      have hK3n := hK3.ext hE
      have hE3n := hE3.ext hE
      have hDn := hD.ext hE
      have hK4n := hK4.ext hE
      have hK5n := hK5.ext hE
      have hK6n := hK6.ext hE
      clear hX hL hM hB hK1 hE1 hK2 hE2 hK3 hE3 hD hK4 hK5 hK6 hE
      have hX := hXn
      clear hXn
      have hL := hLn
      clear hLn
      have hM := hMn
      clear hMn
      have hB := hBn
      clear hBn
      have hK1 := hK1n
      clear hK1n
      have hE1 := hE1n
      clear hE1n
      have hK2 := hK2n
      clear hK2n
      have hE2 := hE2n
      clear hE2n
      have hK3 := hK3n
      clear hK3n
      have hE3 := hE3n
      clear hE3n
      have hD := hDn
      clear hDn
      have hK4 := hK4n
      clear hK4n
      have hK5 := hK5n
      clear hK5n
      have hK6 := hK6n
      clear hK6n
      obtain rfl : r3 = s := hl3.uniq ⟨Nat.le_refl _, fun h => absurd h (by omega), fun p hp => by
        rcases Nat.lt_or_ge p r1 with h | h
        · show isF kd (catF r1 xs ys p) = false
          rw [cx p h]
          exact hl1.miss p h
        · obtain ⟨q, rfl⟩ : ∃ q, p = r1 + q := ⟨p - r1, by omega⟩
          show isF kd (catF r1 xs ys (r1 + q)) = false
          rw [cy q]
          exact hl2.miss q (by have := HS.out; omega)⟩
      rw [show res r3 r3 = .int .i64 (-1) by simp [res]]
      walk_nrm
      refine BA.op rfl rfl (by k_ne) fun w₁ r K hK => ?_
      go_simp
      refine hK _ (fun e he => ?_) ?_
      · have hm := mem_listed he
        simp [go_sem] at hm
      clear hK K r w₁
      refine BA.op rfl rfl (by k_ne) fun w₁ r K hK => ?_
      go_simp
      refine hK _ (fun e he => ?_) ?_
      · have hm := mem_listed he
        simp [go_sem] at hm
      clear hK K r w₁
      refine BA.op rfl rfl (by k_ne) fun w₁ r K hK => ?_
      go_simp
      refine hK _ (fun e he => ?_) ?_
      · have hm := mem_listed he
        simp [go_sem] at hm
      clear hK K r w₁
      refine BA.call rfl rfl (by k_ne) rfl (by walk_nrm; exact works_cb hX.zlt) fun Z17 vv w17 hp => ?_
      obtain ⟨hE, rfl⟩ := hp
      have hXn := hX.trans hE
      have hLn := hL.ext hE
      have hMn := hM.ext hE
      have hBn := hB.ext hE
      have hK1n := hK1.ext hE
      have hE1n := hE1.ext hE
      have hK2n := hK2.ext hE
      have hE2n := hE2.ext hE
      have hK3n := hK3.ext hE
      have hE3n := hE3.ext hE
      have hDn := hD.ext hE
      have hK4n := hK4.ext hE
      have hK5n := hK5.ext hE
      have hK6n := hK6.ext hE
      clear hX hL hM hB hK1 hE1 hK2 hE2 hK3 hE3 hD hK4 hK5 hK6 hE
      have hX := hXn
      clear hXn
      have hL := hLn
      clear hLn
      have hM := hMn
      clear hMn
      have hB := hBn
      clear hBn
      have hK1 := hK1n
      clear hK1n
      have hE1 := hE1n
      clear hE1n
      have hK2 := hK2n
      clear hK2n
      have hE2 := hE2n
      clear hE2n
      have hK3 := hK3n
      clear hK3n
      have hE3 := hE3n
      clear hE3n
      have hD := hDn
      clear hDn
      have hK4 := hK4n
      clear hK4n
      have hK5 := hK5n
      clear hK5n
      have hK6 := hK6n
      clear hK6n
      walk_nrm
      refine BA.op rfl rfl (by k_ne) fun w₁ r K hK => ?_
      go_simp
      refine hK _ (fun e he => ?_) ?_
      · have hm := mem_listed he
        simp [go_sem] at hm
      clear hK K r w₁
      refine BA.op rfl rfl (by k_ne) fun w₁ r K hK => ?_
      go_simp
      refine hK _ (fun e he => ?_) ?_
      · have hm := mem_listed he
        simp [go_sem] at hm
      clear hK K r w₁
      refine BA.regEnd ?_
      refine BA.ret ?_
      exact hS _ _ hX _ _ (by simp)
    · have hlt2 : r2 < m := Nat.lt_of_le_of_ne hl2.le e2
      rw [show res m r2 = .int .i64 (r2 : Nat) by simp [res, e2]]
      obtain ⟨u, hu⟩ : ∃ u, r1 + r2 = u := ⟨_, rfl⟩
      have hwu : IntKind.i64.wrap ((r1 : Int) + (r2 : Int)) = (u : Int) := by unfold IntKind.wrap; simp [IntKind.bits, IntKind.signed]; omega
      have hge : (0 : Int) ≤ (r2 : Int) := by omega
      have HU := Go.Lib.hid hu
      clear hu
      walk_nrm
      refine BA.op rfl rfl (by k_ne) fun w₁ r K hK => ?_
      go_simp
      refine hK _ (fun e he => ?_) ?_
      · have hm := mem_listed he
        simp [go_sem] at hm
      clear hK K r w₁
      refine BA.regEnd ?_
      refine BA.seq ?_
      refine BA.reg ?_
      simp only [List.size_toArray, List.length_cons, List.length_nil, Nat.reduceAdd, Nat.zero_add, List.range, List.range.loop]
      refine BA.op rfl rfl (by k_ne) fun w₁ r K hK => ?_
      go_simp
      refine hK _ (fun e he => ?_) ?_
      · have hm := mem_listed he
        simp [go_sem] at hm
      clear hK K r w₁
      refine BA.op rfl rfl (by k_ne) fun w₁ r K hK => ?_
      go_simp
      refine hK _ (fun e he => ?_) ?_
      · have hm := mem_listed he
        simp [go_sem] at hm
      clear hK K r w₁
      refine BA.regEnd ?_
      refine BA.condT rfl ?_
      refine BA.reg ?_
      simp only [List.size_toArray, List.length_cons, List.length_nil, Nat.reduceAdd, Nat.zero_add, List.range, List.range.loop]
      refine BA.op rfl rfl (by k_ne) fun w₁ r K hK => ?_
      go_simp
      refine hK _ (fun e he => ?_) ?_
      · have hm := mem_listed he
        simp [go_sem] at hm
      clear hK K r w₁
      refine BA.op rfl rfl (by k_ne) fun w₁ r K hK => ?_
      go_simp
      refine hK _ (fun e he => ?_) ?_
      · have hm := mem_listed he
        simp [go_sem] at hm
      clear hK K r w₁
      refine BA.op rfl rfl (by k_ne) fun w₁ r K hK => ?_
      go_simp
      refine hK _ (fun e he => ?_) ?_
      · have hm := mem_listed he
        simp [go_sem] at hm
      clear hK K r w₁
      refine BA.op rfl rfl (by k_ne) fun w₁ r K hK => ?_
      go_simp
      refine hK _ (fun e he => ?_) ?_
      · have hm := mem_listed he
        simp [go_sem] at hm
      clear hK K r w₁
      refine BA.op rfl rfl (by k_ne) fun w₁ r K hK => ?_
      go_simp
      refine hK _ (fun e he => ?_) ?_
      · have hm := mem_listed he
        simp [go_sem] at hm
      clear hK K r w₁
      refine BA.regEnd ?_
      refine BA.seq ?_
      refine BA.reg ?_
      simp only [List.size_toArray, List.length_cons, List.length_nil, Nat.reduceAdd, Nat.zero_add, List.range, List.range.loop]
      refine BA.op rfl rfl (by k_ne) fun w₁ r K hK => ?_
      go_simp
      refine hK _ (fun e he => ?_) ?_
      · have hm := mem_listed he
        simp [go_sem] at hm
      clear hK K r w₁
      refine BA.op rfl rfl (by k_ne) fun w₁ r K hK => ?_
      go_simp
      refine hK _ (fun e he => ?_) ?_
      · have hm := mem_listed he
        simp [go_sem] at hm
      clear hK K r w₁
      refine BA.op rfl rfl (by k_ne) fun w₁ r K hK => ?_
      go_simp
      refine hK _ (fun e he => ?_) ?_
      · have hm := mem_listed he
        simp [go_sem] at hm
      clear hK K r w₁
      refine BA.call rfl rfl (by k_ne) rfl (by walk_nrm; exact isK_cb hX.zlt kd) fun Z15 vv w15 hp => ?_
      obtain ⟨hE, kb6, rfl, hK6⟩ := hp
      have hXn := hX.trans hE
      have hLn := hL.ext hE
      have hMn := hM.ext hE
      have hBn := hB.ext hE
      have hK1n := hK1.ext hE
      have hE1n := hE1.ext hE
      have hK2n := hK2.ext hE
      have hE2n := hE2.ext hE
      have hK3n := hK3.ext hE
      have hE3n := hE3.ext hE
      have hDn := hD.ext hE
      have hK4n := hK4.ext hE
      have hK5n := hK5.ext hE
      clear hX hL hM hB hK1 hE1 hK2 hE2 hK3 hE3 hD hK4 hK5 hE
      have hX := hXn
      clear hXn
      have hL := hLn
      clear hLn
      have hM := hMn
      clear hMn
      have hB := hBn
      clear hBn
      have hK1 := hK1n
      clear hK1n
      have hE1 := hE1n
      clear hE1n
      have hK2 := hK2n
      clear hK2n
      have hE2 := hE2n
      clear hE2n
      have hK3 := hK3n
      clear hK3n
      have hE3 := hE3n
      clear hE3n
      have hD := hDn
      clear hDn
      have hK4 := hK4n
      clear hK4n
      have hK5 := hK5n
      clear hK5n
      walk_nrm
      refine BA.call rfl rfl (by k_ne) rfl (by walk_nrm; exact First_cb hX.zlt hsl hB hK6) fun Z16 vv w16 hp => ?_
      obtain ⟨hE, r3, rfl, hl3⟩ := hp
      have hXn := hX.trans hE
      have hLn := hL.ext hE
      have hMn := hM.ext hE
      have hBn := hB.ext hE
      have hK1n := hK1.ext hE
      have hE1n := hE1.ext hE
      have hK2n := hK2.ext hE
      have hE2n := hE2.ext hE
      have hK3n := hK3.ext hE
      have hE3n := hE3.ext hE
      have hDn := hD.ext hE
      have hK4n := hK4.ext hE
      have hK5n := hK5.ext hE
      have hK6n := hK6.ext hE
      clear hX hL hM hB hK1 hE1 hK2 hE2 hK3 hE3 hD hK4 hK5 hK6 hE
      have hX := hXn
      clear hXn
      have hL := hLn
      clear hLn
      have hM := hMn
      clear hMn
      have hB := hBn
      clear hBn
      have hK1 := hK1n
      clear hK1n
      have hE1 := hE1n
      clear hE1n
      have hK2 := hK2n
      clear hK2n
      have hE2 := hE2n
      clear hE2n
      have hK3 := hK3n
      clear hK3n
      have hE3 := hE3n
      clear hE3n
      have hD := hDn
      clear hDn
      have hK4 := hK4n
      clear hK4n
      have hK5 := hK5n
      clear hK5n
      have hK6 := hK6n
      clear hK6n
      obtain rfl : r3 = u := hl3.uniq ⟨by have := HS.out; have := HU.out; omega, fun _ => by
        show isF kd (catF r1 xs ys u) = true
        rw [← HU.out, cy r2]
        exact hl2.hit hlt2, fun p hp => by
        rcases Nat.lt_or_ge p r1 with h | h
        · show isF kd (catF r1 xs ys p) = false
          rw [cx p h]
          exact hl1.miss p h
        · obtain ⟨q, rfl⟩ : ∃ q, p = r1 + q := ⟨p - r1, by omega⟩
          show isF kd (catF r1 xs ys (r1 + q)) = false
          rw [cy q]
          exact hl2.miss q (by have := HU.out; omega)⟩
      have hus : r3 ≠ s := by have := HS.out; have := HU.out; omega
      rw [show res s r3 = .int .i64 (r3 : Nat) by simp [res, hus]]
      walk_nrm
      refine BA.op rfl rfl (by k_ne) fun w₁ r K hK => ?_
      go_simp
      refine hK _ (fun e he => ?_) ?_
      · have hm := mem_listed he
        simp [go_sem] at hm
      clear hK K r w₁
      refine BA.op rfl rfl (by k_ne) fun w₁ r K hK => ?_
      go_simp
      refine hK _ (fun e he => ?_) ?_
      · have hm := mem_listed he
        simp [go_sem] at hm
      clear hK K r w₁
      refine BA.op rfl rfl (by k_ne) fun w₁ r K hK => ?_
      go_simp
      refine hK _ (fun e he => ?_) ?_
      · have hm := mem_listed he
        simp [go_sem] at hm
      clear hK K r w₁
      refine BA.call rfl rfl (by k_ne) rfl (by walk_nrm; exact works_cb hX.zlt) fun Z17 vv w17 hp => ?_
      obtain ⟨hE, rfl⟩ := hp
      have hXn := hX.trans hE
      have hLn := hL.ext hE
      have hMn := hM.ext hE
      have hBn := hB.ext hE
      have hK1n := hK1.ext hE
      have hE1n := hE1.ext hE
      have hK2n := hK2.ext hE
      have hE2n := hE2.ext hE
      have hK3n := hK3.ext hE
      have hE3n := hE3.ext hE
      have hDn := hD.ext hE
      have hK4n := hK4.ext hE
      have hK5n := hK5.ext hE
      have hK6n := hK6.ext hE
      clear hX hL hM hB hK1 hE1 hK2 hE2 hK3 hE3 hD hK4 hK5 hK6 hE
      have hX := hXn
      clear hXn
      have hL := hLn
      clear hLn
      have hM := hMn
      clear hMn
      have hB := hBn
      clear hBn
      have hK1 := hK1n
      clear hK1n
      have hE1 := hE1n
      clear hE1n
      have hK2 := hK2n
      clear hK2n
      have hE2 := hE2n
      clear hE2n
      have hK3 := hK3n
      clear hK3n
      have hE3 := hE3n
      clear hE3n
      have hD := hDn
      clear hDn
      have hK4 := hK4n
      clear hK4n
      have hK5 := hK5n
      clear hK5n
      have hK6 := hK6n
      clear hK6n
      walk_nrm
      refine BA.op rfl rfl (by k_ne) fun w₁ r K hK => ?_
      go_simp
      refine hK _ (fun e he => ?_) ?_
      · have hm := mem_listed he
        simp [go_sem] at hm
      clear hK K r w₁
      refine BA.op rfl rfl (by k_ne) fun w₁ r K hK => ?_
      go_simp
      refine hK _ (fun e he => ?_) ?_
      · have hm := mem_listed he
        simp [go_sem] at hm
      clear hK K r w₁
      refine BA.regEnd ?_
      refine BA.ret ?_
      exact hS _ _ hX _ _ (by simp)
  · have hlt1 : r1 < n := Nat.lt_of_le_of_ne hl1.le e1
    rw [show res n r1 = .int .i64 (r1 : Nat) by simp [res, e1]]
    have hge : ¬ ((r1 : Int) < 0) := by omega
    walk_nrm
    refine BA.op rfl rfl (by k_ne) fun w₁ r K hK => ?_
    go_simp
    refine hK _ (fun e he => ?_) ?_
    · have hm := mem_listed he
      simp [go_sem] at hm
    clear hK K r w₁
    refine BA.regEnd ?_
    refine BA.seq ?_
    refine BA.seq ?_
    refine BA.reg ?_
    simp only [List.size_toArray, List.length_cons, List.length_nil, Nat.reduceAdd, Nat.zero_add, List.range, List.range.loop]
    refine BA.op rfl rfl (by k_ne) fun w₁ r K hK => ?_
    go_simp
    refine hK _ (fun e he => ?_) ?_
    · have hm := mem_listed he
      simp [go_sem] at hm
    clear hK K r w₁
    refine BA.op rfl rfl (by k_ne) fun w₁ r K hK => ?_
    go_simp
    refine hK _ (fun e he => ?_) ?_
    · have hm := mem_listed he
      simp [go_sem] at hm
    clear hK K r w₁
    refine BA.regEnd ?_
    refine BA.condF rfl ?_
    refine BA.skip ?_
    refine BA.seq ?_
    refine BA.reg ?_
    simp only [List.size_toArray, List.length_cons, List.length_nil, Nat.reduceAdd, Nat.zero_add, List.range, List.range.loop]
    refine BA.op rfl rfl (by k_ne) fun w₁ r K hK => ?_
    go_simp
    refine hK _ (fun e he => ?_) ?_
    · have hm := mem_listed he
      simp [go_sem] at hm
    clear hK K r w₁
    refine BA.op rfl rfl (by k_ne) fun w₁ r K hK => ?_
    go_simp
    refine hK _ (fun e he => ?_) ?_
    · have hm := mem_listed he
      simp [go_sem] at hm
    clear hK K r w₁
    refine BA.op rfl rfl (by k_ne) fun w₁ r K hK => ?_
    go_simp
    refine hK _ (fun e he => ?_) ?_
    · have hm := mem_listed he
      simp [go_sem] at hm
    clear hK K r w₁
    refine BA.call rfl rfl (by k_ne) rfl (by walk_nrm; exact isK_cb hX.zlt kd) fun Z13 vv w13 hp => ?_
    obtain ⟨hE, kb6, rfl, hK6⟩ := hp
    have hXn := hX.trans hE
    have hLn := hL.ext hE
    have hMn := hM.ext hE
    have hBn := hB.ext hE
    have hK1n := hK1.ext hE
    have hE1n := hE1.ext hE
    have hK2n := hK2.ext hE
    have hE2n := hE2.ext hE
    have hK3n := hK3.ext hE
    have hE3n := hE3.ext hE
    have hDn := hD.ext hE
    have hK4n := hK4.ext hE
    clear hX hL hM hB hK1 hE1 hK2 hE2 hK3 hE3 hD hK4 hE
    have hX := hXn
    clear hXn
    have hL := hLn
    clear hLn
    have hM := hMn
    clear hMn
    have hB := hBn
    clear hBn
    have hK1 := hK1n
    clear hK1n
    have hE1 := hE1n
    clear hE1n
    have hK2 := hK2n
    clear hK2n
    have hE2 := hE2n
    clear hE2n
    have hK3 := hK3n
    clear hK3n
    have hE3 := hE3n
    clear hE3n
    have hD := hDn
    clear hDn
    have hK4 := hK4n
    clear hK4n
    walk_nrm
    refine BA.call rfl rfl (by k_ne) rfl (by walk_nrm; exact First_cb hX.zlt hsl hB hK6) fun Z14 vv w14 hp => ?_
    obtain ⟨hE, r3, rfl, hl3⟩ := hp
    have hXn := hX.trans hE
    have hLn := hL.ext hE
    have hMn := hM.ext hE
    have hBn := hB.ext hE
    have hK1n := hK1.ext hE
    have hE1n := hE1.ext hE
    have hK2n := hK2.ext hE
    have hE2n := hE2.ext hE
    have hK3n := hK3.ext hE
    have hE3n := hE3.ext hE
    have hDn := hD.ext hE
    have hK4n := hK4.ext hE
    have hK6n := hK6.ext hE
    clear hX hL hM hB hK1 hE1 hK2 hE2 hK3 hE3 hD hK4 hK6 hE
    have hX := hXn
    clear hXn
    have hL := hLn
    clear hLn
    have hM := hMn
    clear hMn
    have hB := hBn
    clear hBn
    have hK1 := hK1n
    clear hK1n
    have hE1 := hE1n
    clear hE1n
    have hK2 := hK2n
    clear hK2n
    have hE2 := hE2n
    clear hE2n
    have hK3 := hK3n
    clear hK3n
    have hE3 := hE3n
    clear hE3n
    have hD := hDn
    clear hDn
    have hK4 := hK4n
    clear hK4n
    have hK6 := hK6n
    clear hK6n
    obtain rfl : r3 = r1 := hl3.uniq ⟨by have := HS.out; omega, fun _ => by
      show isF kd (catF n xs ys r1) = true
      rw [cx r1 hlt1]
      exact hl1.hit hlt1, fun p hp => by
      show isF kd (catF n xs ys p) = false
      rw [cx p (by omega)]
      exact hl1.miss p hp⟩
    have hus : r3 ≠ s := by have := HS.out; omega
    rw [show res s r3 = .int .i64 (r3 : Nat) by simp [res, hus]]
    walk_nrm
    refine BA.op rfl rfl (by k_ne) fun w₁ r K hK => ?_
    go_simp
    refine hK _ (fun e he => ?_) ?_
    · have hm := mem_listed he
      simp [go_sem] at hm
    clear hK K r w₁
    refine BA.op rfl rfl (by k_ne) fun w₁ r K hK => ?_
    go_simp
    refine hK _ (fun e he => ?_) ?_
    · have hm := mem_listed he
      simp [go_sem] at hm
    clear hK K r w₁
    refine BA.op rfl rfl (by k_ne) fun w₁ r K hK => ?_
    go_simp
    refine hK _ (fun e he => ?_) ?_
    · have hm := mem_listed he
      simp [go_sem] at hm
    clear hK K r w₁
    refine BA.call rfl rfl (by k_ne) rfl (by walk_nrm; exact works_cb hX.zlt) fun Z15 vv w15 hp => ?_
    obtain ⟨hE, rfl⟩ := hp
    have hXn := hX.trans hE
    have hLn := hL.ext hE
    have hMn := hM.ext hE
    have hBn := hB.ext hE
    have hK1n := hK1.ext hE
    have hE1n := hE1.ext hE
    have hK2n := hK2.ext hE
    have hE2n := hE2.ext hE
    have hK3n := hK3.ext hE
    have hE3n := hE3.ext hE
    have hDn := hD.ext hE
    have hK4n := hK4.ext hE
    have hK6n := hK6.ext hE
    clear hX hL hM hB hK1 hE1 hK2 hE2 hK3 hE3 hD hK4 hK6 hE
    have hX := hXn
    clear hXn
    have hL := hLn
    clear hLn
    have hM := hMn
    clear hMn
    have hB := hBn
    clear hBn
    have hK1 := hK1n
    clear hK1n
    have hE1 := hE1n
    clear hE1n
    have hK2 := hK2n
    clear hK2n
    have hE2 := hE2n
    clear hE2n
    have hK3 := hK3n
    clear hK3n
    have hE3 := hE3n
    clear hE3n
    have hD := hDn
    clear hDn
    have hK4 := hK4n
    clear hK4n
    have hK6 := hK6n
    clear hK6n
    walk_nrm
    refine BA.op rfl rfl (by k_ne) fun w₁ r K hK => ?_
    go_simp
    refine hK _ (fun e he => ?_) ?_
    · have hm := mem_listed he
      simp [go_sem] at hm
    clear hK K r w₁
    refine BA.op rfl rfl (by k_ne) fun w₁ r K hK => ?_
    go_simp
    refine hK _ (fun e he => ?_) ?_
    · have hm := mem_listed he
      simp [go_sem] at hm
    clear hK K r w₁
    refine BA.regEnd ?_
    refine BA.ret ?_
    exact hS _ _ hX _ _ (by simp)
end Go.Proofs.Ytbckmkppmdfnnaa.Crew
