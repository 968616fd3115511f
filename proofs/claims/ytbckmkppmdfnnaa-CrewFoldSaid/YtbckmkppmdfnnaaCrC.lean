/- crew: communications where both sides stand at a select, and where a select has more than one way. -/
import Derived.Conc.CrowdSel
namespace Go.Proofs.Ytbckmkppmdfnnaa.Crew
open Go.Conc

theorem choose_lt {P : Program} {w : World} {q : Question} {n : Nat} (hq : q = .select n ∨ ∃ s, q = .extern s n) (hn : 0 < n) : ∃ k d, k < n ∧ (choose q).run P w = .ok k (w.at d) := by
  by_cases hf : q.forced = true
  · exact ⟨0, w.drawn, hn, by simp [choose, Sem.run, hf, World.at]⟩
  · refine ⟨q.cut (w.tape w.drawn q), w.drawn + 1, ?_, by simp [choose, Sem.run, hf, World.at]⟩
    rcases hq with rfl | ⟨s, rfl⟩
    · exact Nat.mod_lt _ hn
    · simp only [Question.cut]
      rw [if_neg (by omega)]
      exact Nat.mod_lt _ hn

theorem pick_run {P : Program} {w : World} (ready : List (Nat × CommCase × List Way)) (hne : ready ≠ []) (hws : ∀ x ∈ ready, x.2.2 ≠ []) :
    ∃ k c ws way d, (k, c, ws) ∈ ready ∧ way ∈ ws ∧ (Sem.bind (choose (.select ready.length)) fun a => Sem.bind (choose (.extern "which waiting goroutine is the partner" (ready.getD a (0, default, [])).2.2.length)) fun b =>
      Sem.pure ((ready.getD a (0, default, [])).1, (ready.getD a (0, default, [])).2.1, (ready.getD a (0, default, [])).2.2.getD b .closed)).run P w = .ok (k, c, way) (w.at d) := by
  obtain ⟨a, d, ha, h1⟩ := choose_lt (P := P) (w := w) (.inl rfl) (List.length_pos_iff.2 hne)
  obtain ⟨x, hx⟩ : ∃ x, ready[a]? = some x := ⟨ready[a], List.getElem?_eq_getElem ha⟩
  have hg : ready.getD a (0, default, []) = x := by simp [List.getD, hx]
  have hm : x ∈ ready := List.mem_of_getElem? hx
  obtain ⟨b, d', hb, h2⟩ := choose_lt (P := P) (w := w.at d) (.inr ⟨"which waiting goroutine is the partner", rfl⟩) (List.length_pos_iff.2 (hws x hm))
  obtain ⟨y, hy⟩ : ∃ y, x.2.2[b]? = some y := ⟨x.2.2[b], List.getElem?_eq_getElem hb⟩
  refine ⟨x.1, x.2.1, x.2.2, y, d', hm, List.mem_of_getElem? hy, ?_⟩
  rw [Sem.run_bind', h1]
  simp only [hg, Result.andThen_ok]
  rw [Sem.run_bind', h2]
  simp [hy, Sem.run, World.at, List.getD]

section
variable {P : Program} {gs : Array Goroutine} {w w₁ : World} {sl : Option (Nat × Nat)} {i j k kj : Nat} {g g₂ gj : Goroutine} {es : Array Event} {c cap s r : Nat} {tm closed : Bool} {v z zj : Value}
  {blocking : Bool} {shape shj : CommShape} {cs cases : Array CommCase}

/-- n cases come to a channel at which one goroutine is parked whose kj-th case sends there; no other case has a way. -/
theorem sel_meets_sel (hi : gs[i]? = some g) (h : stepG P (i == 0) g w = .comm g₂ cases blocking shape w₁ es) (hk : cases[k]? = some (rcase c z))
    (ho : ∀ (m : Nat) (c' : CommCase), m ≠ k → cases[m]? = some c' → NoWays w₁ (gs.setIfInBounds i ph) c')
    (hc : w₁.heap[c]? = some (.chan cap #[] closed s r tm)) (hij : j ≠ i) (hj : gs[j]? = some (parked gj cs shj)) (hkj : cs[kj]? = some (scase c v zj)) (hp : partners (gs.setIfInBounds i ph) c true = [(j, kj)]) :
    runT P (crowd gs w sl) i = (.next (crowd ((gs.setIfInBounds j (gj.finishComm P cs shj kj undef false)).setIfInBounds i (g₂.finishComm P cases shape k v true)) (w₁.setChan c cap #[] closed (s + 1) (r + 1) tm) sl),
      MemOp.ofEvents i g.frame.fn g.frame.place es ++ #[{ g := j, fn := gj.frame.fn, pos := gj.frame.place, act := .send c s }, { g := i, fn := g₂.frame.fn, pos := g₂.frame.place, act := .recv c r cap },
        { g := j, fn := gj.frame.fn, pos := gj.frame.place, act := .sendDone c s }, { g := i, fn := g₂.frame.fn, pos := g₂.frame.place, act := .recvDone c r }]) := by
  have hw : ways w₁ (gs.setIfInBounds i ph) (rcase c z) = [.partner j kj] := by simp [ways, rcase, hc, hp]
  have hj' := stand_get (i := i) hij hj
  have hfp := finishPartner_at P (gs.setIfInBounds i ph) hj' (cs := cs) (sh := shj) rfl kj undef
  have hgd : (gs.setIfInBounds i ph).getD j default = parked gj cs shj := by rw [Array.getD_eq_getD_getElem?, hj']; rfl
  have hov : offeredValue (gs.setIfInBounds i ph) j kj = v := by simp [offeredValue, hj', parked, hkj, scase]
  rw [runT_crowd_comm hi h]
  unfold communicate
  simp only [ready_one hk (by rw [hw]; simp) ho, hw]
  rw [if_neg]
  · simp [choose, Sem.run, Question.forced, bind, Sem.bind, pure, rcase, crowd, hc, hfp, hgd, hov, set_stand2, scase, parked, World.setChan, hkj]
    rfl
  · rw [Bool.not_eq_true]; exact any_ill (made_of_one hk (made_recv z hc) ho)
end

section
variable {P : Program} {gs : Array Goroutine} {w w₁ : World} {sl : Option (Nat × Nat)} {i : Nat} {g g₂ : Goroutine} {es : Array Event} {c f cap s r s' r' : Nat} {buf : Array Value} {v z z' : Value} {shape : CommShape}

/-- A select that sends on a channel without room and receives from another: it meets a parked receiver, or takes what lies in the buffer, or waits. -/
theorem hand_comm (hi : gs[i]? = some g) (h : stepG P (i == 0) g w = .comm g₂ #[scase c v z, rcase f z'] true shape w₁ es) (hc : w₁.heap[c]? = some (.chan 0 #[] false s r false)) (hf : w₁.heap[f]? = some (.chan cap buf false s' r' false))
    (hpc : ∀ j k, (j, k) ∈ partners (gs.setIfInBounds i ph) c false → k = 0 ∧ j ≠ i ∧ ∃ gj cs shj zj, gs[j]? = some (parked gj cs shj) ∧ cs[0]? = some (rcase c zj)) (hpf : partners (gs.setIfInBounds i ph) f true = []) :
    (∃ (j : Nat) (gj : Goroutine) (cs : Array CommCase) (shj : CommShape) (d : Nat), (j, 0) ∈ partners (gs.setIfInBounds i ph) c false ∧ gs[j]? = some (parked gj cs shj) ∧
      runT P (crowd gs w sl) i = (.next (crowd ((gs.setIfInBounds j (gj.finishComm P cs shj ((0 : Nat) : Int) v true)).setIfInBounds i (g₂.finishComm P #[scase c v z, rcase f z'] shape ((0 : Nat) : Int) undef false)) ((w₁.at d).setChan c 0 #[] false (s + 1) (r + 1) false) sl),
        MemOp.ofEvents i g.frame.fn g.frame.place es ++ #[{ g := i, fn := g₂.frame.fn, pos := g₂.frame.place, act := .send c s }, { g := j, fn := gj.frame.fn, pos := gj.frame.place, act := .recv c r 0 },
          { g := i, fn := g₂.frame.fn, pos := g₂.frame.place, act := .sendDone c s }, { g := j, fn := gj.frame.fn, pos := gj.frame.place, act := .recvDone c r }])) ∨
    (∃ d : Nat, 0 < buf.size ∧ runT P (crowd gs w sl) i = (.next (crowd (gs.setIfInBounds i (g₂.finishComm P #[scase c v z, rcase f z'] shape ((1 : Nat) : Int) (buf.getD 0 undef) true)) ((w₁.at d).setChan f cap (buf.extract 1 buf.size) false s' (r' + 1) false) sl),
        MemOp.ofEvents i g.frame.fn g.frame.place es ++ #[{ g := i, fn := g₂.frame.fn, pos := g₂.frame.place, act := .recv f r' cap }, { g := i, fn := g₂.frame.fn, pos := g₂.frame.place, act := .recvDone f r' }])) ∨
    (partners (gs.setIfInBounds i ph) c false = [] ∧ buf.size = 0 ∧
      runT P (crowd gs w sl) i = (.next (crowd (gs.setIfInBounds i (parked g₂ #[scase c v z, rcase f z'] shape)) w₁ sl), MemOp.ofEvents i g.frame.fn g.frame.place es)) := by
  have w0 : ways w₁ (gs.setIfInBounds i ph) (scase c v z) = (partners (gs.setIfInBounds i ph) c false).map fun (h, k) => Way.partner h k := by
    cases e : partners (gs.setIfInBounds i ph) c false <;> simp [ways, scase, hc, e]
  have w1 : ways w₁ (gs.setIfInBounds i ph) (rcase f z') = if 0 < buf.size then [.buffer] else [] := by simp [ways, rcase, hf, hpf]
  have ill : ¬ (#[scase c v z, rcase f z'].any (illMade w₁) = true) := by
    rw [Bool.not_eq_true]
    refine any_ill fun cc hcc => ?_
    simp at hcc
    rcases hcc with rfl | rfl
    · exact made_send v z hc
    · exact made_recv z' hf
  by_cases hcase : partners (gs.setIfInBounds i ph) c false = [] ∧ buf.size = 0
  · refine .inr (.inr ⟨hcase.1, hcase.2, ?_⟩)
    refine crowd_waits hi h fun cc hcc => ?_
    simp at hcc
    rcases hcc with rfl | rfl
    · exact ⟨made_send v z hc, by rw [w0, hcase.1]; rfl⟩
    · exact ⟨made_recv z' hf, by rw [w1, if_neg (by omega)]⟩
  generalize hrd : ((#[scase c v z, rcase f z'].zipIdx.toList.map fun (c, k) => (k, c, ways w₁ (gs.setIfInBounds i ph) c)).filter fun (_, _, ws) => !ws.isEmpty) = ready
  have hall : ∀ x ∈ ready, x.2.2 ≠ [] ∧ (x = (0, scase c v z, ways w₁ (gs.setIfInBounds i ph) (scase c v z)) ∨ x = (1, rcase f z', ways w₁ (gs.setIfInBounds i ph) (rcase f z'))) := by
    intro x hx
    rw [← hrd] at hx
    obtain ⟨hm, hne⟩ := List.mem_filter.1 hx
    refine ⟨by simpa using hne, ?_⟩
    simpa [eq_comm] using hm
  have hne : ready ≠ [] := by
    intro e
    rw [e, List.filter_eq_nil_iff] at hrd
    by_cases hp : partners (gs.setIfInBounds i ph) c false = []
    · have := hrd (1, rcase f z', ways w₁ (gs.setIfInBounds i ph) (rcase f z')) (by simp)
      rw [w1, if_pos (by have : buf.size ≠ 0 := fun x => hcase ⟨hp, x⟩; omega)] at this
      simp at this
    · have := hrd (0, scase c v z, ways w₁ (gs.setIfInBounds i ph) (scase c v z)) (by simp)
      rw [w0] at this
      simp [hp] at this
  obtain ⟨k, cc, ws, way, d, hmem, hway, hrun⟩ := pick_run (P := P) (w := w₁) ready hne fun x hx => (hall x hx).1
  have hemp : ready.isEmpty = false := by cases ready with
    | nil => exact absurd rfl hne
    | cons => rfl
  rcases (hall _ hmem).2 with e | e
  · obtain ⟨rfl, rfl, rfl⟩ : k = 0 ∧ cc = scase c v z ∧ ws = ways w₁ (gs.setIfInBounds i ph) (scase c v z) := by simpa using e
    rw [w0] at hway
    obtain ⟨⟨j, kj⟩, hjk, rfl⟩ := List.mem_map.1 hway
    obtain ⟨rfl, hij, gj, cs, shj, zj, hj, hk⟩ := hpc j kj hjk
    refine .inl ⟨j, gj, cs, shj, d, hjk, hj, ?_⟩
    have hj' := stand_get (i := i) hij hj
    have hfp := finishPartner_at P (gs.setIfInBounds i ph) hj' (cs := cs) (sh := shj) rfl 0 v
    have hgd : (gs.setIfInBounds i ph).getD j default = parked gj cs shj := by rw [Array.getD_eq_getD_getElem?, hj']; rfl
    rw [runT_crowd_comm hi h]
    unfold communicate
    simp only [hrd, hemp, Bool.false_eq_true, if_false]
    rw [if_neg]
    · simp only [bind, pure]
      rw [hrun]
      simp [scase, hc, hfp, hgd, set_stand2, rcase, parked, hk, World.setChan, World.at, crowd]
      rfl
    · exact ill
  · obtain ⟨rfl, rfl, rfl⟩ : k = 1 ∧ cc = rcase f z' ∧ ws = ways w₁ (gs.setIfInBounds i ph) (rcase f z') := by simpa using e
    rw [w1] at hway
    by_cases hb : 0 < buf.size
    · rw [if_pos hb] at hway
      simp at hway
      subst hway
      refine .inr (.inl ⟨d, hb, ?_⟩)
      rw [runT_crowd_comm hi h]
      unfold communicate
      simp only [hrd, hemp, Bool.false_eq_true, if_false]
      rw [if_neg]
      · simp only [bind, pure]
        rw [hrun]
        simp [rcase, hf, hpf, World.setChan, World.at, crowd]
      · exact ill
    · rw [if_neg hb] at hway; cases hway
end
end Go.Proofs.Ytbckmkppmdfnnaa.Crew
