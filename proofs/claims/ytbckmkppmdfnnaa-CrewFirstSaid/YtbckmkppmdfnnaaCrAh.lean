/- crew: first's region 2 walked: its channels and their boxes, in whatever order. -/
import Derived.Test.YtbckmkppmdfnnaaCrAg
import Derived.Test.YtbckmkppmdfnnaaCrP
namespace Go.Proofs.Ytbckmkppmdfnnaa.Crew
open Go.Conc Go.RowKit Go.Conc.Lib Go.ConcR.Gen Go.Proofs.Ytbckmkppmdfnnaa.QT
noncomputable def ops2 : List Oper := match body29 with | .seq _ (.seq _ (.seq (.region _ ops _) _)) => ops.toList | _ => []
theorem mk55 (w : World) (n : Nat) (hn : n ≤ 16) : (Instr.makeChan 55 (.int .i64 (n : Nat))).run Try.prog w = .ok (.chan (some w.heap.size)) (w.alloc (.chan n #[] false 0 0 false)) ∧ (Instr.makeChan 55 (.int .i64 (n : Nat))).events Try.prog w #[] = #[] := by
  obtain ⟨d, e, i, h1, h2, h3⟩ : ∃ d e i, Try.prog.underlying 55 = some (.chan d e) ∧ Try.prog.info? e = some i ∧ (i.bytes : Int) ≤ 16 := ⟨_, _, _, rfl, rfl, by decide⟩
  have hb : (i.bytes : Int) * n ≤ 281474976710544 := by
    have : (i.bytes : Int) * n ≤ 16 * 16 := Int.mul_le_mul h3 (by omega) (by omega) (by omega)
    omega
  exact ⟨run_makeChan h1 h2 .i64 n (by omega) hb, events_makeChan h1 h2 .i64 n (by omega) hb #[]⟩
theorem mk55z (w : World) : (Instr.makeChan 55 (.int .i64 0)).run Try.prog w = .ok (.chan (some w.heap.size)) (w.alloc (.chan 0 #[] false 0 0 false)) ∧ (Instr.makeChan 55 (.int .i64 0)).events Try.prog w #[] = #[] := by simpa using mk55 w 0 (by omega)
theorem mk56z (w : World) : (Instr.makeChan 56 (.int .i64 0)).run Try.prog w = .ok (.chan (some w.heap.size)) (w.alloc (.chan 0 #[] false 0 0 false)) ∧ (Instr.makeChan 56 (.int .i64 0)).events Try.prog w #[] = #[] := by
  obtain ⟨d, e, i, h1, h2⟩ : ∃ d e i, Try.prog.underlying 56 = some (.chan d e) ∧ Try.prog.info? e = some i := ⟨_, _, _, rfl, rfl⟩
  have h3 := run_makeChan (w := w) h1 h2 .i64 0 (by omega) (by simp)
  have h4 := events_makeChan (w := w) h1 h2 .i64 0 (by omega) (by simp) #[]
  exact ⟨by simpa using h3, by simpa using h4⟩
theorem draw_dz (Z : Nat → Prop) : LetsDraw (DZ Z) := fun w => by simp [DZ]
section
variable {Stop : Goroutine → World → Prop} {Z : Nat → Prop} {cs : List Frame} {k : List Item}
set_option maxRecDepth 100000 in
set_option maxHeartbeats 1000000 in
theorem region2_go {T0 : Array Value} (hT : T0.size = 45) {w : World} {m : Nat} (hZ : ∀ b, Z b → b < w.heap.size)
    (hfin : ∀ (a : Act) (w' : World) (vP vS Cp Cs : Nat), Agrees ops2 ⟨T0, []⟩ a → a.tmps[7]?.getD undef = .pointer (some ⟨vP, 0, none⟩) → a.tmps[8]?.getD undef = .pointer (some ⟨vS, 0, none⟩) → Cp ≠ Cs → w.heap.size ≤ Cp → w.heap.size ≤ Cs → w.heap.size ≤ vP → w.heap.size ≤ vS →
      w'.heap[Cp]? = some emptyChan → w'.heap[Cs]? = some emptyChan → w'.heap[vP]? = some (.cells #[.chan (some Cp)] 55) → w'.heap[vS]? = some (.cells #[.chan (some Cs)] 56) → Olds w w' →
      Goes Try.prog true AtRel (DZ Z) Stop m (G ((base 29).at a (.inRegion ops2.toArray [] :: k)) cs) w') :
    Goes Try.prog true AtRel (DZ Z) Stop (m + 1 * ops2.length + 1) (G ((base 29).at ⟨T0, []⟩ (.code (.region 2 ops2.toArray true) :: k)) cs) w := by
  have T := termsZ Z
  refine goes_region_inv (c := 1) (draw_dz Z) follows (Inv2 w) (by kernel_rfl) (show dstsO _ T0.size = true by rw [hT]; kernel_rfl) (fun w₁ s r => ?_) ?_ ?_
  · refine ⟨?_, fun h => h.elim, fun h => h.elim, fun h => h.elim, fun h => h.elim, fun h => h.elim, fun h => h.elim, fun h => h.elim⟩
    obtain ⟨d, rfl⟩ := r
    exact ⟨Nat.le_refl _, fun _ _ => rfl, rfl, rfl, rfl⟩
  · intro i o hio a w1 rest m' L hag hI hnL hdep hnext
    have ho : ops2.toArray[i]? = some o := by simpa using hio
    simp only [ops2, body29, Try.f29, Option.getD_some] at hio
    rcases i with _ | _ | _ | _ | _ | _ | i
    · simp at hio
      subst hio
      refine Goes.step rfl fun w₂ r₂ => ?_
      have hI2 := hI.at r₂
      rw [stepG_value (v := .chan (some w₂.heap.size)) (w' := w₂.alloc emptyChan) ho rfl (by k_ne) (by unfold execOp; simp [go_sem, emptyChan, (mk55z w₂).1])]
      simp only [goes_go]
      refine ⟨fun e he => (?_ : EvC Z e), hnext _ _ fun L' s hL e es => hI2.s0 hL (fun l => hnL (hI.d4 l).1) (by simpa using e) es⟩
      have hm := mem_listed he
      unfold execOp at hm
      simp [go_sem, (mk55z w₂).2] at hm
    · simp at hio
      subst hio
      refine Goes.step rfl fun w₂ r₂ => ?_
      have hI2 := hI.at r₂
      rw [stepG_value (v := .chan (some w₂.heap.size)) (w' := w₂.alloc emptyChan) ho rfl (by k_ne) (by unfold execOp; simp [go_sem, emptyChan, (mk56z w₂).1])]
      simp only [goes_go]
      refine ⟨fun e he => (?_ : EvC Z e), hnext _ _ fun L' s hL e es => hI2.s1 hL (fun l => hnL (hI.d5 l).1) (by simpa using e) es⟩
      have hm := mem_listed he
      unfold execOp at hm
      simp [go_sem, (mk56z w₂).2] at hm
    · simp at hio
      subst hio
      refine Goes.step rfl fun w₂ r₂ => ?_
      have hI2 := hI.at r₂
      rw [stepG_value (v := .pointer (some ⟨w₂.heap.size, 0, none⟩)) (w' := w₂.alloc (.cells #[.chan none] 55)) ho rfl (by k_ne) (by unfold execOp; simp [go_sem])]
      simp only [goes_go]
      refine ⟨fun e he => (?_ : EvC Z e), hnext _ _ fun L' s hL e es => hI2.s2 hL (fun l => hnL (hI.d4 l).2) (by simpa using e) es⟩
      have hm := mem_listed he
      unfold execOp at hm
      simp [go_sem] at hm
    · simp at hio
      subst hio
      refine Goes.step rfl fun w₂ r₂ => ?_
      have hI2 := hI.at r₂
      rw [stepG_value (v := .pointer (some ⟨w₂.heap.size, 0, none⟩)) (w' := w₂.alloc (.cells #[.chan none] 56)) ho rfl (by k_ne) (by unfold execOp; simp [go_sem])]
      simp only [goes_go]
      refine ⟨fun e he => (?_ : EvC Z e), hnext _ _ fun L' s hL e es => hI2.s3 hL (fun l => hnL (hI.d5 l).2) (by simpa using e) es⟩
      have hm := mem_listed he
      unfold execOp at hm
      simp [go_sem] at hm
    · simp at hio
      subst hio
      have l0 : L 0 := hdep ⟨0, .data⟩ (by simp) (by decide)
      have l2 : L 2 := hdep ⟨2, .data⟩ (by simp) (by decide)
      refine Goes.step rfl fun w₂ r₂ => ?_
      have hI2 := hI.at r₂
      obtain ⟨b, u, q1, q2, q3, _⟩ := hI2.s4 (L' := fun j => j = 4 ∨ L j) (s' := vals ops2 a) (fun _ => Iff.rfl) l0 l2 (fun _ _ => rfl)
      obtain ⟨c, q5, _⟩ := hI2.c0 l0
      have e7 : a.tmps[7]?.getD undef = .pointer (some ⟨b, 0, none⟩) := by rw [← q1]; simp [vals, ops2, body29, Try.f29, left, Act.eval]
      have e17 : a.tmps[17]?.getD undef = .chan (some c) := by rw [← q5]; simp [vals, ops2, body29, Try.f29, left, Act.eval]
      have hu : w₂.cell? ⟨b, 0, none⟩ = some u := by simp [World.cell?, q2]
      have hz : w₂.frozen? ⟨b, 0, none⟩ = false := by simp [World.frozen?, q2]
      rw [stepG_none (w' := w₂.setCell ⟨b, 0, none⟩ (vals ops2 a 0)) ho rfl (by k_ne) (by unfold execOp; simp [go_sem, stored, e7, e17, hu, hz, q5])]
      simp only [goes_go]
      refine ⟨fun e he => (?_ : EvC Z e), hnext undef _ fun L' s hL e es => ?_⟩
      · have hm := mem_listed he
        unfold execOp at hm
        simp [go_sem, storedEv, e7, e17, hu, hz] at hm
        subst hm
        exact evC_cell true fun hzb => by have := hZ b hzb; omega
      · obtain ⟨b', u', p1, _, _, p⟩ := hI2.s4 hL l0 l2 es
        rw [q1] at p1
        obtain rfl : b = b' := by simpa using p1
        exact p
    · simp at hio
      subst hio
      have l0 : L 1 := hdep ⟨1, .data⟩ (by simp) (by decide)
      have l2 : L 3 := hdep ⟨3, .data⟩ (by simp) (by decide)
      refine Goes.step rfl fun w₂ r₂ => ?_
      have hI2 := hI.at r₂
      obtain ⟨b, u, q1, q2, q3, _⟩ := hI2.s5 (L' := fun j => j = 5 ∨ L j) (s' := vals ops2 a) (fun _ => Iff.rfl) l0 l2 (fun _ _ => rfl)
      obtain ⟨c, q5, _⟩ := hI2.c1 l0
      have e7 : a.tmps[8]?.getD undef = .pointer (some ⟨b, 0, none⟩) := by rw [← q1]; simp [vals, ops2, body29, Try.f29, left, Act.eval]
      have e17 : a.tmps[18]?.getD undef = .chan (some c) := by rw [← q5]; simp [vals, ops2, body29, Try.f29, left, Act.eval]
      have hu : w₂.cell? ⟨b, 0, none⟩ = some u := by simp [World.cell?, q2]
      have hz : w₂.frozen? ⟨b, 0, none⟩ = false := by simp [World.frozen?, q2]
      rw [stepG_none (w' := w₂.setCell ⟨b, 0, none⟩ (vals ops2 a 1)) ho rfl (by k_ne) (by unfold execOp; simp [go_sem, stored, e7, e17, hu, hz, q5])]
      simp only [goes_go]
      refine ⟨fun e he => (?_ : EvC Z e), hnext undef _ fun L' s hL e es => ?_⟩
      · have hm := mem_listed he
        unfold execOp at hm
        simp [go_sem, storedEv, e7, e17, hu, hz] at hm
        subst hm
        exact evC_cell true fun hzb => by have := hZ b hzb; omega
      · obtain ⟨b', u', p1, _, _, p⟩ := hI2.s5 hL l0 l2 es
        rw [q1] at p1
        obtain rfl : b = b' := by simpa using p1
        exact p
    · simp at hio
  · intro a w1 L hag hI hL
    have hl : ∀ i, i < 6 → L i := fun i hi => hL i hi
    obtain ⟨vP, u, b1, b2, b3, b4⟩ := hI.b2 (hl 2 (by omega))
    obtain ⟨vS, u', d1, d2, d3, d4⟩ := hI.b3 (hl 3 (by omega))
    obtain ⟨c, c1, c2, c3⟩ := hI.c0 (hl 0 (by omega))
    obtain ⟨c', f1, f2, f3⟩ := hI.c1 (hl 1 (by omega))
    have hne := hI.ne (hl 0 (by omega)) (hl 1 (by omega))
    have g1 := b4 (hl 4 (by omega))
    have g2 := d4 (hl 5 (by omega))
    rw [c1] at g1 hne
    rw [f1] at g2 hne
    subst g1 g2
    exact hfin a w1 vP vS c c' hag (by rw [← b1]; simp [vals, ops2, body29, Try.f29, left, Act.eval]) (by rw [← d1]; simp [vals, ops2, body29, Try.f29, left, Act.eval]) (fun e => hne (by rw [e])) c2 f2 b2 d2 c3 f3 b3 d3 hI.old
end
end Go.Proofs.Ytbckmkppmdfnnaa.Crew
