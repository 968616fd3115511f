/- crew: Each over first, as a contract. Made by wip/tools/crew/mkAt.py. -/
import Derived.Test.YtbckmkppmdfnnaaCrAs
import Derived.Conc.AppendWalk
namespace Go.Proofs.Ytbckmkppmdfnnaa.Crew
open Go.Conc Go.RowKit Go.Conc.Lib Go.ConcR.Gen
theorem info2 : (Try.prog.info? 2).map (fun i => (i.zero, i.size, i.bytes)) = some (some (.int .i64 0), 1, 8) := by kernel_rfl
theorem mk29 (w : World) (n : Nat) (hn : n ≤ 1000000) : (Instr.makeSlice 29 (.int .i64 n) (.int .i64 n)).run Try.prog w = .ok (.slice (some ⟨w.heap.size, 0, none⟩) n n) (w.alloc (.cells (madeCells #[.int .i64 0] n) 2)) ∧ (Instr.makeSlice 29 (.int .i64 n) (.int .i64 n)).events Try.prog w #[] = #[] := by
  obtain ⟨ie, hie, hq⟩ := Option.map_eq_some_iff.1 info2
  simp only [Prod.mk.injEq] at hq
  obtain ⟨hz, hsz, hby⟩ := hq
  have h1 := run_make (P := Try.prog) w 29 2 ie (.int .i64 0) Try.underlying29 hie hz .i64 .i64 n n (by omega) (by omega) (by rw [hby]; omega) (by omega)
  have h2 := events_make (P := Try.prog) w 29 2 ie (.int .i64 0) Try.underlying29 hie hz .i64 .i64 n n (by omega) (by omega) (by rw [hby]; omega) (by omega) (by rw [hby]; simp; omega) #[]
  refine ⟨?_, h2⟩
  rw [h1]
  simp [hsz, Value.cells]
theorem Held.atR {Z : Nat → Prop} {l : List (Nat × Obj)} {w w₁ : World} (h : Held Z l w) (r : AtRel w w₁) : Held Z l w₁ := by obtain ⟨d, rfl⟩ := r; exact ⟨h.has, h.clean, h.zlt⟩
theorem Lists.atR {Z : Nat → Prop} {w w₁ : World} {oa : Option Addr} {len : Nat} {xs : Nat → Int} (h : Lists w Z oa len xs) (r : AtRel w w₁) : Lists w₁ Z oa len xs := by obtain ⟨d, rfl⟩ := r; exact ⟨h.one, h.el⟩
theorem ev_nil35 (f : FuncId) (cp : Array Value) (w : World) (es : Array Event) : (binOp .eql 35 (.func (.func f) #[] cp) .nilFunc).events Try.prog w es = es := by
  simp [binOp, Op.equal, go_sem]
  rw [show Op.maxDepth = (Op.maxDepth - 1) + 1 from rfl]
  obtain ⟨ps, rs, vr, h⟩ : ∃ ps rs vr, Try.prog.underlying 35 = some (.func ps rs vr) := ⟨_, _, _, rfl⟩
  unfold Op.equalIn
  simp [go_sem, run_underlying h]
noncomputable def body17 : Code := Try.f17.body.getD .skip
/-- What first has come to in Each: the row is filled, all else old is as it was. -/
structure Filled (Z Z' : Nat → Prop) (w w' : World) (Mk len : Nat) (g : Nat → Int) : Prop where
  zlt : ∀ c, Z' c → c < w'.heap.size
  znew : ∀ c, c < w.heap.size → Z' c → Z c
  size : w.heap.size ≤ w'.heap.size
  block : ∀ c, c < w.heap.size → c ≠ Mk → w'.heap[c]? = w.heap[c]?
  tape : w'.tape = w.tape
  os : w'.os = w.os
  output : w'.output = w.output
  q : QE Mk len w'
  all : ∀ p, p < len → DE Mk g p w'
section
variable {Z : Nat → Prop}
theorem first_each {oa : Option Addr} {len cap f ib tb mb Mk : Nat} {wk : Int} {cp : Array Value} {xs : Nat → Int} {ψ : Int → Int} {w : World} (hZ : ∀ c, Z c → c < w.heap.size) (hM : len ≤ 1000000) (hL : Lists w Z oa len xs) (hLM : ∀ a0 p, oa = some a0 → p < len → (a0.add p).block ≠ Mk)
    (hi : w.cell? ⟨ib, 0, none⟩ = some (.func (.func f) #[] cp)) (ht : w.cell? ⟨tb, 0, none⟩ = some (.slice oa len cap)) (hm : w.cell? ⟨mb, 0, none⟩ = some (.slice (some ⟨Mk, 0, none⟩) len len)) (hib : ib < w.heap.size ∧ ib ≠ Mk ∧ ¬ Z ib) (htb : tb < w.heap.size ∧ tb ≠ Mk ∧ ¬ Z tb) (hmb : mb < w.heap.size ∧ mb ≠ Mk ∧ ¬ Z mb)
    (hMk : Mk < w.heap.size ∧ ¬ Z Mk) (hq : QE Mk len w) (hv : OldFun w Z Mk (.func (.func f) #[] cp) (fun x => .int .i64 (ψ x))) :
    CB 29 #[.int .i64 (len : Nat), .int .i64 wk, .func (.func 34) #[] #[.pointer (some ⟨ib, 0, none⟩), .pointer (some ⟨tb, 0, none⟩), .pointer (some ⟨mb, 0, none⟩)]] Z w (fun Z' v w' => v = .int .i64 (-1) ∧ Filled Z Z' w w' Mk len (fun p => ψ (xs p))) := by
  refine ⟨Try.f29, body29, Try.func29, by kernel_rfl, rfl, fun Stop b₀ a₀ ops i rest k cs hn w₁ r => ?_⟩
  simp only [show Try.f29.ntmps = 45 from rfl]
  walk_nrm
  have hs : w₁.heap = w.heap := by obtain ⟨d, rfl⟩ := r; rfl
  have hcell : ∀ {a : Addr} {v : Value}, w.cell? a = some v → w₁.cell? a = some v := fun h => cell_atR r h
  refine first_br (b := fun _ => false) (Q := QE Mk len) (Done := DE Mk fun p => ψ (xs p)) (fun c hc => by rw [hs]; exact hZ c hc) (by omega) (fun _ => Mk) (fun w₂ _ => .inl ⟨by rw [hs]; exact hMk.1, hMk.2⟩)
    (fun w₂ ho => qe_of Mk len w₁ w₂ (ho.block Mk (by rw [hs]; exact hMk.1)) (qe_of Mk len w w₁ (by rw [hs]) hq)) (fun _ _ w w' h => qe_of Mk len w w' h) (fun _ _ p w w' h => de_of Mk _ p w w' h) (fun w₂ Wg Cp Cs Cf ho hnew hN p hp => ?_) fun Wg r' w' hc W todo hW => ?_
  · have F := mkB_field (w₁ := w₂) (M := len) (n := crewN len wk) (b := fun _ => false) (Q := QE Mk len) (Done := DE Mk fun p => ψ (xs p)) hN (fun w w' h => qe_of Mk len w w' h) (fun p w w' h => de_of Mk _ p w w' h) (by unfold crewN; omega) (fun h => by unfold crewN; omega) (by omega)
    have hv1 : OldFun w₁ Z Mk (.func (.func f) #[] cp) (fun x => .int .i64 (ψ x)) := by
      obtain ⟨d, rfl⟩ := r
      exact hv
    exact job_each (hL.atR r) hLM (hcell hi) (hcell ht) (hcell hm) (by rw [hs]; exact hib) (by rw [hs]; exact htb) (by rw [hs]; exact hmb) hv1 hnew hN F (fun _ _ => rfl) p hp
  · have hr : r' = len := by
      rcases Nat.lt_or_ge r' len with h | h
      · exact absurd (hc.hit h) (by simp)
      · exact Nat.le_antisymm hc.le h
    subst hr
    have hwg := hc.wg
    have hsz := hc.size
    rw [hs] at hwg hsz
    refine (BA.leave1 Try.func29 rfl ?_).br
    rw [hW]
    refine hn _ _ _ ⟨by simp [res], fun c h => h.elim (fun h => Nat.lt_of_lt_of_le (hZ c h) hsz) (fun h => h ▸ hc.wgs), fun c h1 h2 => h2.elim id fun h => by omega, hsz, fun c h1 h2 => ?_, ?_, ?_, ?_, hc.q, fun p hp => hc.done p hp (by omega)⟩
    · rw [hc.block c (by rw [hs]; exact h1) (fun _ _ => h2), hs]
    · rw [hc.tape]; obtain ⟨d, rfl⟩ := r; rfl
    · rw [hc.os]; obtain ⟨d, rfl⟩ := r; rfl
    · rw [hc.output]; obtain ⟨d, rfl⟩ := r; rfl
set_option maxRecDepth 100000 in
set_option maxHeartbeats 1000000 in
theorem Each_cb {oa : Option Addr} {len cap f : Nat} {wk : Int} {cp : Array Value} {xs : Nat → Int} {ψ : Int → Int} {w0 : World} (hZ : ∀ c, Z c → c < w0.heap.size) (hM : len ≤ 1000000) (hL : Lists w0 Z oa len xs)
    (hv : ∀ w Mk, Olds w0 w → w0.heap.size ≤ Mk → OldFun w Z Mk (.func (.func f) #[] cp) (fun x => .int .i64 (ψ x))) :
    CB 17 #[.slice oa len cap, .int .i64 wk, .func (.func f) #[] cp] Z w0 (fun Z' v w' => Ext Z Z' w0 w' ∧ ∃ Mk, v = .slice (some ⟨Mk, 0, none⟩) len len ∧ Lists w' Z' (some ⟨Mk, 0, none⟩) len (fun p => ψ (xs p))) := by
  refine ⟨Try.f17, body17, Try.func17, by kernel_rfl, rfl, fun Stop b₀ a₀ ops i rest k cs hn => ?_⟩
  simp only [body17, Try.f17, Option.getD_some]
  walk_nrm
  obtain ⟨w, hw⟩ : ∃ w, w = w0 := ⟨w0, rfl⟩
  have hF : Held Z [] w := by rw [hw]; exact Held.start hZ
  have hX : Ext Z Z w0 w := by rw [hw]; exact Ext.refl hZ
  have hX0 : w0.heap.size ≤ w.heap.size := hX.olds.size
  rw [show BA Stop Z _ w0 = BA Stop Z _ w by rw [hw]]
  clear hw
  refine BA.seq ?_
  refine BA.reg ?_
  simp only [List.size_toArray, List.length_cons, List.length_nil, Nat.reduceAdd, Nat.zero_add, List.range, List.range.loop]
  refine BA.value (v := .pointer (some ⟨w.heap.size, 0, none⟩)) (w' := w.alloc (.cells #[.slice oa len cap] 29)) rfl rfl (by k_ne) (fun d => by unfold execOp; simp [go_sem]; exact ⟨rfl, rfl⟩) (fun d e he => ?_) ?_
  · unfold execOp at he
    simp [go_sem] at he
  replace hF := hF.alloc (.cells #[.slice oa len cap] 29)
  replace hX := hX.alloc (.cells #[.slice oa len cap] 29)
  have lttb : w.heap.size < (w.alloc (.cells #[.slice oa len cap] 29)).heap.size := by rw [heap_al, Array.size_push]; omega
  generalize w.alloc (.cells #[.slice oa len cap] 29) = w1 at hF hX lttb ⊢
  obtain ⟨tb, htb⟩ : ∃ N, w.heap.size = N := ⟨_, rfl⟩
  rw [htb] at hF lttb ⊢
  walk_nrm
  have g0 : w0.heap.size ≤ tb := htb ▸ hX0
  refine BA.value (v := .pointer (some ⟨w1.heap.size, 0, none⟩)) (w' := w1.alloc (.cells #[.func (.func f) #[] cp] 35)) rfl rfl (by k_ne) (fun d => by unfold execOp; simp [go_sem]; exact ⟨rfl, rfl⟩) (fun d e he => ?_) ?_
  · unfold execOp at he
    simp [go_sem] at he
  replace hF := hF.alloc (.cells #[.func (.func f) #[] cp] 35)
  replace hX := hX.alloc (.cells #[.func (.func f) #[] cp] 35)
  have ltib : w1.heap.size < (w1.alloc (.cells #[.func (.func f) #[] cp] 35)).heap.size := by rw [heap_al, Array.size_push]; omega
  generalize w1.alloc (.cells #[.func (.func f) #[] cp] 35) = w2 at hF hX ltib ⊢
  obtain ⟨ib, hib⟩ : ∃ N, w1.heap.size = N := ⟨_, rfl⟩
  rw [hib] at hF ltib ⊢
  walk_nrm
  have g1 : tb < ib := by omega
  refine BA.op rfl rfl (by k_ne) fun w₁ r K hK => ?_
  go_simp
  refine hK _ (fun e he => ?_) ?_
  · have hm := mem_listed he
    simp [go_sem] at hm
  clear hK K r w₁
  refine BA.regEnd ?_
  refine BA.seq ?_
  refine BA.seq ?_
  refine BA.reg ?_
  simp only [List.size_toArray, List.length_cons, List.length_nil, Nat.reduceAdd, Nat.zero_add, List.range, List.range.loop]
  refine BA.op rfl rfl (by k_ne) fun w₁ r K hK => ?_
  have hcell := cell_atR r (hF.cell (c := ib) (u := .func (.func f) #[] cp) (ty := 35) (by simp))
  go_simp
  refine hK _ (fun e he => ?_) ?_
  · have hm := mem_listed he
    simp [go_sem, hcell] at hm
    subst hm
    exact evC_cell false (hF.clean (ib, .cells #[.func (.func f) #[] cp] 35) (by simp))
  clear hcell hK K r w₁
  refine BA.op rfl rfl (by k_ne) fun w₁ r K hK => ?_
  go_simp
  refine hK _ (fun e he => ?_) ?_
  · have hm := mem_listed he
    simp [go_sem, ev_nil35] at hm
  clear hK K r w₁
  refine BA.regEnd ?_
  refine BA.condF rfl ?_
  refine BA.skip ?_
  refine BA.seq ?_
  refine BA.reg ?_
  simp only [List.size_toArray, List.length_cons, List.length_nil, Nat.reduceAdd, Nat.zero_add, List.range, List.range.loop]
  refine BA.op rfl rfl (by k_ne) fun w₁ r K hK => ?_
  have hcell := cell_atR r (hF.cell (c := tb) (u := .slice oa len cap) (ty := 29) (by simp))
  go_simp
  refine hK _ (fun e he => ?_) ?_
  · have hm := mem_listed he
    simp [go_sem, hcell] at hm
    subst hm
    exact evC_cell false (hF.clean (tb, .cells #[.slice oa len cap] 29) (by simp))
  clear hcell hK K r w₁
  refine BA.op rfl rfl (by k_ne) fun w₁ r K hK => ?_
  go_simp
  refine hK _ (fun e he => ?_) ?_
  · have hm := mem_listed he
    simp [go_sem] at hm
  clear hK K r w₁
  refine BA.value (v := .slice (some ⟨w2.heap.size, 0, none⟩) len len) (w' := w2.alloc (.cells (madeCells #[.int .i64 0] len) 2)) rfl rfl (by k_ne) (fun d => by unfold execOp; simp [go_sem, (mk29 (w2.at d) len hM).1]; exact ⟨rfl, rfl⟩) (fun d e he => ?_) ?_
  · unfold execOp at he
    simp [go_sem, (mk29 (w2.at d) len hM).2] at he
  replace hF := hF.alloc (.cells (madeCells #[.int .i64 0] len) 2)
  replace hX := hX.alloc (.cells (madeCells #[.int .i64 0] len) 2)
  have ltMk : w2.heap.size < (w2.alloc (.cells (madeCells #[.int .i64 0] len) 2)).heap.size := by rw [heap_al, Array.size_push]; omega
  generalize w2.alloc (.cells (madeCells #[.int .i64 0] len) 2) = w3 at hF hX ltMk ⊢
  obtain ⟨Mk, hMk⟩ : ∃ N, w2.heap.size = N := ⟨_, rfl⟩
  rw [hMk] at hF ltMk ⊢
  walk_nrm
  have g2 : ib < Mk := by omega
  refine BA.value (v := .pointer (some ⟨w3.heap.size, 0, none⟩)) (w' := w3.alloc (.cells #[.slice none 0 0] 29)) rfl rfl (by k_ne) (fun d => by unfold execOp; simp [go_sem]; exact ⟨rfl, rfl⟩) (fun d e he => ?_) ?_
  · unfold execOp at he
    simp [go_sem] at he
  replace hF := hF.alloc (.cells #[.slice none 0 0] 29)
  replace hX := hX.alloc (.cells #[.slice none 0 0] 29)
  have ltmb : w3.heap.size < (w3.alloc (.cells #[.slice none 0 0] 29)).heap.size := by rw [heap_al, Array.size_push]; omega
  generalize w3.alloc (.cells #[.slice none 0 0] 29) = w4 at hF hX ltmb ⊢
  obtain ⟨mb, hmb⟩ : ∃ N, w3.heap.size = N := ⟨_, rfl⟩
  rw [hmb] at hF ltmb ⊢
  walk_nrm
  have g3 : Mk < mb := by omega
  obtain ⟨hs1, hs2⟩ := box_set (v := .slice (some ⟨Mk, 0, none⟩) len len) (hF.has (mb, .cells #[.slice none 0 0] 29) (by simp))
  refine BA.skips (w' := w4.setCell ⟨mb, 0, none⟩ (.slice (some ⟨Mk, 0, none⟩) len len)) rfl rfl (by k_ne) (fun d => ?_) (fun d e he => ?_) ?_
  · have hcell := (hF.cell (c := mb) (u := .slice none 0 0) (ty := 29) (by simp))
    have hc2 : (w4.at d).cell? ⟨mb, 0, none⟩ = some (.slice none 0 0) := hcell
    have hfz : (w4.at d).frozen? ⟨mb, 0, none⟩ = false := by have := hF.has (mb, .cells #[.slice none 0 0] 29) (by simp); simp [World.frozen?, World.at, this]
    unfold execOp
    simp [go_sem, stored, hc2, hfz]
    try rfl
  · have hcell := (hF.cell (c := mb) (u := .slice none 0 0) (ty := 29) (by simp))
    have hc2 : (w4.at d).cell? ⟨mb, 0, none⟩ = some (.slice none 0 0) := hcell
    have hfz : (w4.at d).frozen? ⟨mb, 0, none⟩ = false := by have := hF.has (mb, .cells #[.slice none 0 0] 29) (by simp); simp [World.frozen?, World.at, this]
    unfold execOp at he
    simp [go_sem, events_store Try.prog _ _ ⟨mb, 0, none⟩ (.slice (some ⟨Mk, 0, none⟩) len len) _ rfl, hc2, hfz] at he
    subst he
    exact evC_cell true (hF.clean (mb, .cells #[.slice none 0 0] 29) (by simp))
  replace hF : Held Z [(mb, .cells #[.slice (some ⟨Mk, 0, none⟩) len len] 29), (Mk, .cells (madeCells #[.int .i64 0] len) 2), (ib, .cells #[.func (.func f) #[] cp] 35), (tb, .cells #[.slice oa len cap] 29)] (w4.setCell ⟨mb, 0, none⟩ (.slice (some ⟨Mk, 0, none⟩) len len)) := by
    refine ⟨fun p hp => ?_, fun p hp => ?_, fun c hc => ?_⟩
    · rcases List.mem_cons.1 hp with e | hp'
      · subst e; exact hs1
      · have hne : p.1 ≠ mb := by simp at hp'; rcases hp' with e | e | e <;> subst e <;> dsimp only <;> omega
        exact (hs2 p.1 hne).trans (hF.has p (List.mem_cons_of_mem _ hp'))
    · rcases List.mem_cons.1 hp with e | hp'
      · subst e; exact hF.clean (mb, .cells #[.slice none 0 0] 29) (by simp)
      · exact hF.clean p (List.mem_cons_of_mem _ hp')
    · have := hF.zlt c hc; simpa [World.setCell] using this
  replace hX : Ext Z Z w0 (w4.setCell ⟨mb, 0, none⟩ (.slice (some ⟨Mk, 0, none⟩) len len)) := ⟨hX.olds.set (by omega) _, hF.zlt, hX.znew⟩
  generalize w4.setCell ⟨mb, 0, none⟩ (.slice (some ⟨Mk, 0, none⟩) len len) = w5 at hF hX ⊢
  clear hs1 hs2
  walk_nrm
  refine BA.regEnd ?_
  refine BA.seq ?_
  refine BA.reg ?_
  simp only [List.size_toArray, List.length_cons, List.length_nil, Nat.reduceAdd, Nat.zero_add, List.range, List.range.loop]
  refine BA.op rfl rfl (by k_ne) fun w₁ r K hK => ?_
  have hcell := cell_atR r (hF.cell (c := tb) (u := .slice oa len cap) (ty := 29) (by simp))
  go_simp
  refine hK _ (fun e he => ?_) ?_
  · have hm := mem_listed he
    simp [go_sem, hcell] at hm
    subst hm
    exact evC_cell false (hF.clean (tb, .cells #[.slice oa len cap] 29) (by simp))
  clear hcell hK K r w₁
  refine BA.op rfl rfl (by k_ne) fun w₁ r K hK => ?_
  go_simp
  refine hK _ (fun e he => ?_) ?_
  · have hm := mem_listed he
    simp [go_sem] at hm
  clear hK K r w₁
  refine BA.op rfl rfl (by k_ne) fun w₁ r K hK => ?_
  go_simp
  refine hK _ (fun e he => ?_) ?_
  · have hm := mem_listed he
    simp [go_sem] at hm
  clear hK K r w₁
  refine BA.op rfl rfl (by k_ne) fun w₁ r K hK => ?_
  go_simp
  refine hK _ (fun e he => ?_) ?_
  · have hm := mem_listed he
    simp [go_sem, Instr.makeFunc] at hm
  clear hK K r w₁
  have hol := hX.olds
  have hsz := hol.size
  refine BA.call rfl rfl (by k_ne) rfl (by
    walk_nrm
    exact first_each (Mk := Mk) (mb := mb) (xs := xs) (ψ := ψ) (fun c hc => hF.zlt c hc) hM (hL.olds hol) (fun a0 p e hp => by have := (hL.el a0 p e hp).2.1; omega) (hF.cell (c := ib) (u := .func (.func f) #[] cp) (ty := 35) (by simp)) (hF.cell (c := tb) (u := .slice oa len cap) (ty := 29) (by simp)) (hF.cell (c := mb) (u := .slice (some ⟨Mk, 0, none⟩) len len) (ty := 29) (by simp))
      ⟨hF.lt (ib, .cells #[.func (.func f) #[] cp] 35) (by simp), by omega, hF.clean (ib, .cells #[.func (.func f) #[] cp] 35) (by simp)⟩ ⟨hF.lt (tb, .cells #[.slice oa len cap] 29) (by simp), by omega, hF.clean (tb, .cells #[.slice oa len cap] 29) (by simp)⟩ ⟨hF.lt (mb, .cells #[.slice (some ⟨Mk, 0, none⟩) len len] 29) (by simp), by omega, hF.clean (mb, .cells #[.slice (some ⟨Mk, 0, none⟩) len len] 29) (by simp)⟩ ⟨hF.lt (Mk, .cells (madeCells #[.int .i64 0] len) 2) (by simp), hF.clean (Mk, .cells (madeCells #[.int .i64 0] len) 2) (by simp)⟩
      ⟨_, hF.has (Mk, .cells (madeCells #[.int .i64 0] len) 2) (by simp), by simp [madeCells]⟩ (hv w5 Mk hol (by omega))) fun Z' v w' hp => ?_
  obtain ⟨rfl, hfd⟩ := hp
  have lmb := hF.lt (mb, .cells #[.slice (some ⟨Mk, 0, none⟩) len len] 29) (by simp)
  have lMk := hF.lt (Mk, .cells (madeCells #[.int .i64 0] len) 2) (by simp)
  have nMk := hF.clean (Mk, .cells (madeCells #[.int .i64 0] len) 2) (by simp)
  have hcm : w'.cell? ⟨mb, 0, none⟩ = some (.slice (some ⟨Mk, 0, none⟩) len len) := (World.cell?_of_block (hfd.block mb lmb (by omega))).trans (hF.cell (c := mb) (u := .slice (some ⟨Mk, 0, none⟩) len len) (ty := 29) (by simp))
  have hzm : ¬ Z' mb := fun h => hF.clean (mb, .cells #[.slice (some ⟨Mk, 0, none⟩) len len] 29) (by simp) (hfd.znew mb lmb h)
  walk_nrm
  refine BA.regEnd ?_
  refine BA.seq ?_
  refine BA.reg ?_
  simp only [List.size_toArray, List.length_cons, List.length_nil, Nat.reduceAdd, Nat.zero_add, List.range, List.range.loop]
  refine BA.op rfl rfl (by k_ne) fun w₁ r K hK => ?_
  have hcell := cell_atR r (hcm)
  go_simp
  refine hK _ (fun e he => ?_) ?_
  · have hm := mem_listed he
    simp [go_sem, hcell] at hm
    subst hm
    exact evC_cell false (hzm)
  clear hcell hK K r w₁
  refine BA.op rfl rfl (by k_ne) fun w₁ r K hK => ?_
  go_simp
  refine hK _ (fun e he => ?_) ?_
  · have hm := mem_listed he
    simp [go_sem] at hm
  clear hK K r w₁
  refine BA.regEnd ?_
  refine BA.ret ?_
  refine BA.leave1 Try.func17 rfl ?_
  refine hn Z' _ w' ⟨⟨⟨Nat.le_trans hsz hfd.size, fun c hc => (hfd.block c (by omega) (by omega)).trans (hol.block c hc), hfd.tape.trans hol.tape, hfd.os.trans hol.os, hfd.output.trans hol.output⟩, hfd.zlt, fun c hc hz => hfd.znew c (by omega) hz⟩, Mk, rfl, fun _ => ⟨_, rfl⟩, fun a0 p e hp => ?_⟩
  cases e
  have hadd : (⟨Mk, 0, none⟩ : Addr).add p = ⟨Mk, p, none⟩ := by simp [Addr.add]; exact fun h => h.symm
  rw [hadd]
  exact ⟨hfd.all p hp, Nat.lt_of_lt_of_le lMk hfd.size, fun h => nMk (hfd.znew Mk lMk h)⟩
end
end Go.Proofs.Ytbckmkppmdfnnaa.Crew
