/- crew: beside leavers: a region that draws its order and turns nothing; slices.Equal; the document's First, All, Fold, Both; is and does; First and All as contracts. Made by wip/tools/crew/mkAu.py. -/
import Derived.Test.YtbckmkppmdfnnaaCrAt
import Derived.Test.YtbckmkppmdfnnaaQFt
import Derived.Lib.Hide
namespace Go.Proofs.Ytbckmkppmdfnnaa.Crew
open Go.Conc Go.RowKit Go.Conc.Lib Go.ConcR.Gen Go.Proofs.Ytbckmkppmdfnnaa.QT
section
variable {Stop : (Nat → Prop) → Goroutine → World → Prop} {Z : Nat → Prop} {w : World} {b : Frame} {a : Act} {k : List Item} {cs : List Frame}
theorem BA.any {ops : Array Oper} {i : Nat} {rest : List Nat} {o : Oper} (ho : ops[i]? = some o) (hw : Region.wanted o (yielded ops a.tmps) = true) (hk : b.kind ≠ .early)
    (h : ∀ w₁, AtRel w w₁ → ∃ v w', (execOp a.eval o).run Try.prog w₁ = .ok (.value v) w' ∧ (∀ e ∈ (execOp a.eval o).events Try.prog w₁ #[], EvC Z e) ∧ BA Stop Z (G (b.at (a.put o.dst v) (.inRegion ops rest :: k)) cs) w') : BA Stop Z (G (b.at a (.inRegion ops (i :: rest) :: k)) cs) w :=
  BA.step rfl fun w₁ r => by
    obtain ⟨v, w', h1, h2, h3⟩ := h w₁ r
    rw [stepG_value ho hw hk h1]
    exact ⟨fun e h => h2 e (mem_listed h), h3⟩
theorem BA.region {id : Nat} {l : List Oper} {V : Nat → Value} (hk : b.kind ≠ .early) (hB : backB .any l.toArray = true) (hD : dstsO l a.tmps.size = true) (hno : l.all (fun o => o.dst.isSome) = true)
    (hstep : ∀ (i : Nat) (o : Oper), l[i]? = some o → ∀ a', Agrees l a a' → (∀ e ∈ o.after, Region.binds .any e = true → ∀ oj : Oper, l[e.on]? = some oj → left oj a' = V e.on) → Region.wanted o (yielded l.toArray a'.tmps) = true ∧ ∀ w₁, AtRel w w₁ → (execOp a'.eval o).run Try.prog w₁ = .ok (.value (V i)) w₁ ∧ ∀ e ∈ (execOp a'.eval o).events Try.prog w₁ #[], EvC Z e)
    (hfin : ∀ a', Agrees l a a' → (∀ (i : Nat) (o : Oper), l[i]? = some o → left o a' = V i) → BA Stop Z (G (b.at a' (.inRegion l.toArray [] :: k)) cs) w) : BA Stop Z (G (b.at a (.code (.region id l.toArray true) :: k)) cs) w := by
  have hnn : ∀ (i : Nat) (o : Oper), l[i]? = some o → o.dst ≠ none := fun i o ho h => by
    have := List.all_eq_true.1 hno o (List.mem_of_getElem? ho)
    rw [h] at this
    simp at this
  intro w₁ r
  refine BR.of_goes (n := 0 + 1 * l.length + 1) (goes_region_facts (c := 1) (m := 0) (draw_dz Z) follows (fun w' => AtRel w w') (fun i v _ => v = V i) AtRel hB hD (fun w₂ r₂ => ?_) (fun _ _ h r => atRel_trans _ _ _ h r) (fun _ _ _ _ h _ => h) ?_ (fun i o _ _ ho hn _ => absurd hn (hnn i o ho)) ?_)
  · have := atRel_trans _ _ _ r r₂
    obtain ⟨d, rfl⟩ := this
    exact ⟨d + 1, rfl⟩
  · intro i o hio a' w2 rest m' hI hag hdep hnext _
    obtain ⟨hw, hs⟩ := hstep i o hio a' hag hdep
    refine Goes.step rfl fun w₃ r₃ => ?_
    have r4 := atRel_trans _ _ _ hI r₃
    obtain ⟨h1, h2⟩ := hs w₃ r4
    rw [stepG_value (by simpa using hio) hw hk h1]
    exact ⟨fun e he => h2 e (mem_listed he), hnext _ _ rfl r₃⟩
  · intro a' w2 hI hag hall
    exact Goes.stop fun w₃ r₃ => hfin a' hag hall w₃ (atRel_trans _ _ _ hI r₃)
end
noncomputable def body16 : Code := Try.f16.body.getD .skip
noncomputable def L16 : Code := match body16 with | .seq _ (.seq _ (.seq (.seq _ (.block _ (.loop c))) _)) => c | _ => .skip
noncomputable def E16 : Code := match body16 with | .seq _ (.seq _ (.seq _ c)) => c | _ => .skip
noncomputable def ops16 : List Oper := match L16 with | .seq _ (.seq _ (.seq (.block _ (.seq _ (.seq (.region _ ops _) _))) _)) => ops.toList | _ => []
section
variable {Z : Nat → Prop}
set_option maxRecDepth 100000 in
set_option maxHeartbeats 1000000 in
theorem Equal_cb {w : World} {oa ob : Option Addr} {n m ca cb : Nat} {xs ys : Nat → Int} (hn : n ≤ 9223372036854775807) (hL : Lists w Z oa n xs) (hR : Lists w Z ob m ys) :
    CB 16 #[.slice oa n ca, .slice ob m cb] Z w (fun Z' v w' => Z = Z' ∧ w = w' ∧ ∃ t : Bool, v = .bool t ∧ (t = true ↔ n = m ∧ ∀ p, p < n → xs p = ys p)) := by
  refine ⟨Try.f16, body16, Try.func16, by kernel_rfl, rfl, fun Stop b₀ a₀ ops i rest kk cs hnx => ?_⟩
  simp only [body16, Try.f16, Option.getD_some]
  walk_nrm
  by_cases e : n = m
  case neg =>
    have hne : ((n : Int) == (m : Int)) = false := by simp; omega
    have hne2 : ((n : Int) != (m : Int)) = true := by simp; omega
    have hne3 : ¬ ((n : Int) = (m : Int)) := by omega
    refine BA.seq ?_
    refine BA.reg ?_
    simp only [List.size_toArray, List.length_cons, List.length_nil, Nat.zero_add, List.range, List.range.loop]
    refine BA.op rfl rfl (by k_ne) fun w₁ r K hK => ?_
    go_simp
    refine hK _ (fun e he => ?_) ?_
    · have hm := mem_listed he
      simp [go_sem, *] at hm
    clear hK K r w₁
    refine BA.regEnd ?_
    refine BA.seq ?_
    refine BA.seq ?_
    refine BA.reg ?_
    simp only [List.size_toArray, List.length_cons, List.length_nil, Nat.reduceAdd, Nat.zero_add, List.range, List.range.loop]
    refine BA.op rfl rfl (by k_ne) fun w₁ r K hK => ?_
    go_simp
    refine hK _ (fun e he => ?_) ?_
    · have hm := mem_listed he
      simp [go_sem, *] at hm
    clear hK K r w₁
    refine BA.op rfl rfl (by k_ne) fun w₁ r K hK => ?_
    go_simp
    refine hK _ (fun e he => ?_) ?_
    · have hm := mem_listed he
      simp [go_sem, *] at hm
    clear hK K r w₁
    refine BA.op rfl rfl (by k_ne) fun w₁ r K hK => ?_
    go_simp
    refine hK _ (fun e he => ?_) ?_
    · have hm := mem_listed he
      simp [go_sem, *] at hm
    clear hK K r w₁
    refine BA.op rfl rfl (by k_ne) fun w₁ r K hK => ?_
    go_simp
    refine hK _ (fun e he => ?_) ?_
    · have hm := mem_listed he
      simp [go_sem, *] at hm
    clear hK K r w₁
    refine BA.op rfl rfl (by k_ne) fun w₁ r K hK => ?_
    go_simp
    refine hK _ (fun e he => ?_) ?_
    · have hm := mem_listed he
      simp [go_sem, *] at hm
    clear hK K r w₁
    refine BA.regEnd ?_
    refine BA.condT rfl ?_
    refine BA.seq ?_
    refine BA.reg ?_
    simp only [List.size_toArray, List.length_cons, List.length_nil, Nat.zero_add, List.range, List.range.loop]
    refine BA.op rfl rfl (by k_ne) fun w₁ r K hK => ?_
    go_simp
    refine hK _ (fun e he => ?_) ?_
    · have hm := mem_listed he
      simp [go_sem, *] at hm
    clear hK K r w₁
    refine BA.regEnd ?_
    refine BA.ret ?_
    refine BA.leave1 Try.func16 rfl ?_
    exact hnx _ _ _ ⟨rfl, rfl, false, by simp, by simp [e]⟩
  subst e
  have key : ∀ (j k : Nat), j + k = n → (∀ p, p < k → xs p = ys p) → ∀ u5 u6 u7 u8 u9 u10 u11 u14 u15 u16 u17 u18 u19 u20 u21 u22 u23 u24 u25 : Value, BA Stop Z (G ((base 16).at ⟨#[.slice oa n ca, .slice ob n cb, undef, undef, .bool false, u5, u6, u7, u8, u9, u10, u11, .int .i64 (n : Nat), .int .i64 (k : Nat), u14, u15, u16, u17, u18, u19, u20, u21, u22, u23, u24, u25], []⟩ [.code L16, .inLoop L16, .inBlock 0, .code E16]) (b₀.at a₀ (.inRegion ops (i :: rest) :: kk) :: cs)) w := by
    intro j
    induction j with
    | zero =>
      intro k hk hup u5 u6 u7 u8 u9 u10 u11 u14 u15 u16 u17 u18 u19 u20 u21 u22 u23 u24 u25
      obtain rfl : k = n := by omega
      simp only [L16, E16, body16, Try.f16, Option.getD_some]
      refine BA.seq ?_
      refine BA.reg ?_
      simp only [List.size_toArray, List.length_cons, List.length_nil, Nat.zero_add, List.range, List.range.loop]
      refine BA.op rfl rfl (by k_ne) fun w₁ r K hK => ?_
      go_simp
      refine hK _ (fun e he => ?_) ?_
      · have hm := mem_listed he
        simp [go_sem] at hm
      clear hK K r w₁
      refine BA.regEnd ?_
      refine BA.seq ?_
      refine BA.condF rfl ?_
      refine BA.exit rfl ?_
      refine BA.seq ?_
      refine BA.reg ?_
      simp only [List.size_toArray, List.length_cons, List.length_nil, Nat.zero_add, List.range, List.range.loop]
      refine BA.op rfl rfl (by k_ne) fun w₁ r K hK => ?_
      go_simp
      refine hK _ (fun e he => ?_) ?_
      · have hm := mem_listed he
        simp [go_sem] at hm
      clear hK K r w₁
      refine BA.regEnd ?_
      refine BA.ret ?_
      refine BA.leave1 Try.func16 rfl ?_
      exact hnx _ _ _ ⟨rfl, rfl, true, by simp, by simpa using hup⟩
    | succ j ih =>
      intro k hk hup u5 u6 u7 u8 u9 u10 u11 u14 u15 u16 u17 u18 u19 u20 u21 u22 u23 u24 u25
      have hlt : k < n := by omega
      have hlt' : (k : Int) < (n : Int) := by omega
      obtain ⟨a1, ea⟩ := hL.one (by omega)
      obtain ⟨b1, eb⟩ := hR.one (by omega)
      obtain ⟨x1, x2, x3⟩ := hL.el a1 k ea hlt
      obtain ⟨y1, y2, y3⟩ := hR.el b1 k eb hlt
      have hEA := Go.Lib.hid ea
      have hEB := Go.Lib.hid eb
      clear ea eb
      have hwr : IntKind.i64.wrap ((k : Int) + 1) = ((k + 1 : Nat) : Int) := by unfold IntKind.wrap; simp [IntKind.bits, IntKind.signed]; omega
      simp only [L16, E16, body16, Try.f16, Option.getD_some]
      refine BA.seq ?_
      refine BA.reg ?_
      simp only [List.size_toArray, List.length_cons, List.length_nil, Nat.zero_add, List.range, List.range.loop]
      refine BA.op rfl rfl (by k_ne) fun w₁ r K hK => ?_
      go_simp
      refine hK _ (fun e he => ?_) ?_
      · have hm := mem_listed he
        simp [go_sem] at hm
      clear hK K r w₁
      refine BA.regEnd ?_
      refine BA.seq ?_
      refine BA.condT rfl ?_
      refine BA.skip ?_
      refine BA.seq ?_
      refine BA.block ?_
      refine BA.seq ?_
      refine BA.reg ?_
      simp only [List.size_toArray, List.length_cons, List.length_nil, Nat.reduceAdd, Nat.zero_add, List.range, List.range.loop]
      refine BA.op rfl rfl (by k_ne) fun w₁ r K hK => ?_
      go_simp
      refine hK _ (fun e he => ?_) ?_
      · have hm := mem_listed he
        simp [go_sem] at hm
      clear hK K r w₁
      refine BA.op rfl rfl (by k_ne) fun w₁ r K hK => ?_
      go_simp
      refine hK _ (fun e he => ?_) ?_
      · have hm := mem_listed he
        simp [go_sem] at hm
      clear hK K r w₁
      refine BA.regEnd ?_
      refine BA.seq ?_
      refine BA.region (V := fun i => #[.slice oa n ca, .int .i64 (k : Nat), .pointer (some (a1.add k)), .int .i64 (xs k), .slice ob n cb, .int .i64 (k : Nat), .pointer (some (b1.add k)), .int .i64 (ys k), .bool (xs k != ys k)].getD i undef) (by k_ne) (by kernel_rfl) (by kernel_rfl) (by kernel_rfl) ?_ ?_
      · intro i o hio a' hag hdep
        rcases i with _ | _ | _ | _ | _ | _ | _ | _ | _ | i <;> simp at hio <;> subst hio
        · have e0 : a'.tmps[0]? = some (.slice oa n ca) := (hag.same 0 (by simp)).trans rfl
          refine ⟨rfl, fun w₁ r => ⟨by unfold execOp; simp [go_sem, e0], fun e he => ?_⟩⟩
          unfold execOp at he
          simp [go_sem, e0] at he
        · have e5 : a'.tmps[5]? = some (.int .i64 (k : Nat)) := (hag.same 5 (by simp)).trans rfl
          refine ⟨rfl, fun w₁ r => ⟨by unfold execOp; simp [go_sem, e5], fun e he => ?_⟩⟩
          unfold execOp at he
          simp [go_sem, e5] at he
        · have re16 : a'.eval (.tmp 16) = .slice oa n ca := hdep ⟨0, .data⟩ (by simp) (by decide) _ rfl
          have e16 : a'.tmps[16]?.getD undef = .slice oa n ca := by simpa [Act.eval] using re16
          have re17 : a'.eval (.tmp 17) = .int .i64 (k : Nat) := hdep ⟨1, .data⟩ (by simp) (by decide) _ rfl
          have e17 : a'.tmps[17]?.getD undef = .int .i64 (k : Nat) := by simpa [Act.eval] using re17
          refine ⟨rfl, fun w₁ r => ⟨by unfold execOp; simp [go_sem, e16, e17, hEA.out, hlt], fun e he => ?_⟩⟩
          unfold execOp at he
          simp [go_sem, e16, e17, hEA.out, hlt] at he
        · have re18 : a'.eval (.tmp 18) = .pointer (some (a1.add k)) := hdep ⟨2, .data⟩ (by simp) (by decide) _ rfl
          have e18 : a'.tmps[18]?.getD undef = .pointer (some (a1.add k)) := by simpa [Act.eval] using re18
          refine ⟨rfl, fun w₁ r => ?_⟩
          have hc := cell_atR r x1
          refine ⟨by unfold execOp; simp [go_sem, e18, hc], fun e he => ?_⟩
          unfold execOp at he
          simp [go_sem, e18, hc] at he
          subst he
          exact evC_cell false x3
        · have e1 : a'.tmps[1]? = some (.slice ob n cb) := (hag.same 1 (by simp)).trans rfl
          refine ⟨rfl, fun w₁ r => ⟨by unfold execOp; simp [go_sem, e1], fun e he => ?_⟩⟩
          unfold execOp at he
          simp [go_sem, e1] at he
        · have e5 : a'.tmps[5]? = some (.int .i64 (k : Nat)) := (hag.same 5 (by simp)).trans rfl
          refine ⟨rfl, fun w₁ r => ⟨by unfold execOp; simp [go_sem, e5], fun e he => ?_⟩⟩
          unfold execOp at he
          simp [go_sem, e5] at he
        · have re20 : a'.eval (.tmp 20) = .slice ob n cb := hdep ⟨4, .data⟩ (by simp) (by decide) _ rfl
          have e20 : a'.tmps[20]?.getD undef = .slice ob n cb := by simpa [Act.eval] using re20
          have re21 : a'.eval (.tmp 21) = .int .i64 (k : Nat) := hdep ⟨5, .data⟩ (by simp) (by decide) _ rfl
          have e21 : a'.tmps[21]?.getD undef = .int .i64 (k : Nat) := by simpa [Act.eval] using re21
          refine ⟨rfl, fun w₁ r => ⟨by unfold execOp; simp [go_sem, e20, e21, hEB.out, hlt], fun e he => ?_⟩⟩
          unfold execOp at he
          simp [go_sem, e20, e21, hEB.out, hlt] at he
        · have re22 : a'.eval (.tmp 22) = .pointer (some (b1.add k)) := hdep ⟨6, .data⟩ (by simp) (by decide) _ rfl
          have e22 : a'.tmps[22]?.getD undef = .pointer (some (b1.add k)) := by simpa [Act.eval] using re22
          refine ⟨rfl, fun w₁ r => ?_⟩
          have hc := cell_atR r y1
          refine ⟨by unfold execOp; simp [go_sem, e22, hc], fun e he => ?_⟩
          unfold execOp at he
          simp [go_sem, e22, hc] at he
          subst he
          exact evC_cell false y3
        · have re19 : a'.eval (.tmp 19) = .int .i64 (xs k) := hdep ⟨3, .data⟩ (by simp) (by decide) _ rfl
          have e19 : a'.tmps[19]?.getD undef = .int .i64 (xs k) := by simpa [Act.eval] using re19
          have re23 : a'.eval (.tmp 23) = .int .i64 (ys k) := hdep ⟨7, .data⟩ (by simp) (by decide) _ rfl
          have e23 : a'.tmps[23]?.getD undef = .int .i64 (ys k) := by simpa [Act.eval] using re23
          refine ⟨rfl, fun w₁ r => ⟨by unfold execOp; simp [go_sem, e19, e23], fun e he => ?_⟩⟩
          unfold execOp at he
          simp [go_sem, e19, e23] at he
      · intro a' hag hall
        have hp := Agrees.puts hag [(16, .slice oa n ca), (17, .int .i64 (k : Nat)), (18, .pointer (some (a1.add k))), (19, .int .i64 (xs k)), (20, .slice ob n cb), (21, .int .i64 (k : Nat)), (22, .pointer (some (b1.add k))), (23, .int .i64 (ys k)), (24, .bool (xs k != ys k))] rfl (by simp) (by
          intro p hp
          simp only [List.mem_cons, List.not_mem_nil, or_false] at hp
          rcases hp with rfl | rfl | rfl | rfl | rfl | rfl | rfl | rfl | rfl
          · exact hall 0 _ rfl
          · exact hall 1 _ rfl
          · exact hall 2 _ rfl
          · exact hall 3 _ rfl
          · exact hall 4 _ rfl
          · exact hall 5 _ rfl
          · exact hall 6 _ rfl
          · exact hall 7 _ rfl
          · exact hall 8 _ rfl
          )
        simp only [List.foldl_cons, List.foldl_nil, Act.put, List.setIfInBounds_toArray, List.set_cons_succ, List.set_cons_zero] at hp
        subst hp
        refine BA.regEnd ?_
        by_cases hxy : xs k = ys k
        · have hb : (xs k != ys k) = false := by simp [hxy]
          rw [hb]
          refine BA.condF rfl ?_
          refine BA.skip ?_
          refine BA.inBlock ?_
          refine BA.reg ?_
          simp only [List.size_toArray, List.length_cons, List.length_nil, Nat.reduceAdd, Nat.zero_add, List.range, List.range.loop]
          refine BA.op rfl rfl (by k_ne) fun w₁ r K hK => ?_
          go_simp
          refine hK _ (fun e he => ?_) ?_
          · have hm := mem_listed he
            simp [go_sem] at hm
          clear hK K r w₁
          refine BA.op rfl rfl (by k_ne) fun w₁ r K hK => ?_
          go_simp
          refine hK _ (fun e he => ?_) ?_
          · have hm := mem_listed he
            simp [go_sem] at hm
          clear hK K r w₁
          refine BA.regEnd ?_
          refine BA.inLoop ?_
          exact ih (k + 1) (by omega) (fun p hp => by
            rcases Nat.lt_or_ge p k with h | h
            · exact hup p h
            · obtain rfl : p = k := by omega
              exact hxy) _ _ _ _ _ _ _ _ _ _ _ _ _ _ _ _ _ _ _
        · have hb : (xs k != ys k) = true := by simp [hxy]
          rw [hb]
          refine BA.condT rfl ?_
          refine BA.seq ?_
          refine BA.reg ?_
          simp only [List.size_toArray, List.length_cons, List.length_nil, Nat.zero_add, List.range, List.range.loop]
          refine BA.op rfl rfl (by k_ne) fun w₁ r K hK => ?_
          go_simp
          refine hK _ (fun e he => ?_) ?_
          · have hm := mem_listed he
            simp [go_sem] at hm
          clear hK K r w₁
          refine BA.regEnd ?_
          refine BA.ret ?_
          refine BA.leave1 Try.func16 rfl ?_
          exact hnx _ _ _ ⟨rfl, rfl, false, by simp, by simp; exact ⟨k, hlt, hxy⟩⟩
  refine BA.seq ?_
  refine BA.reg ?_
  simp only [List.size_toArray, List.length_cons, List.length_nil, Nat.zero_add, List.range, List.range.loop]
  refine BA.op rfl rfl (by k_ne) fun w₁ r K hK => ?_
  go_simp
  refine hK _ (fun e he => ?_) ?_
  · have hm := mem_listed he
    simp [go_sem, *] at hm
  clear hK K r w₁
  refine BA.regEnd ?_
  refine BA.seq ?_
  refine BA.seq ?_
  refine BA.reg ?_
  simp only [List.size_toArray, List.length_cons, List.length_nil, Nat.reduceAdd, Nat.zero_add, List.range, List.range.loop]
  refine BA.op rfl rfl (by k_ne) fun w₁ r K hK => ?_
  go_simp
  refine hK _ (fun e he => ?_) ?_
  · have hm := mem_listed he
    simp [go_sem, *] at hm
  clear hK K r w₁
  refine BA.op rfl rfl (by k_ne) fun w₁ r K hK => ?_
  go_simp
  refine hK _ (fun e he => ?_) ?_
  · have hm := mem_listed he
    simp [go_sem, *] at hm
  clear hK K r w₁
  refine BA.op rfl rfl (by k_ne) fun w₁ r K hK => ?_
  go_simp
  refine hK _ (fun e he => ?_) ?_
  · have hm := mem_listed he
    simp [go_sem, *] at hm
  clear hK K r w₁
  refine BA.op rfl rfl (by k_ne) fun w₁ r K hK => ?_
  go_simp
  refine hK _ (fun e he => ?_) ?_
  · have hm := mem_listed he
    simp [go_sem, *] at hm
  clear hK K r w₁
  refine BA.op rfl rfl (by k_ne) fun w₁ r K hK => ?_
  go_simp
  refine hK _ (fun e he => ?_) ?_
  · have hm := mem_listed he
    simp [go_sem, *] at hm
  clear hK K r w₁
  refine BA.regEnd ?_
  refine BA.condF rfl ?_
  refine BA.skip ?_
  refine BA.seq ?_
  refine BA.seq ?_
  refine BA.reg ?_
  simp only [List.size_toArray, List.length_cons, List.length_nil, Nat.reduceAdd, Nat.zero_add, List.range, List.range.loop]
  refine BA.op rfl rfl (by k_ne) fun w₁ r K hK => ?_
  go_simp
  refine hK _ (fun e he => ?_) ?_
  · have hm := mem_listed he
    simp [go_sem, *] at hm
  clear hK K r w₁
  refine BA.op rfl rfl (by k_ne) fun w₁ r K hK => ?_
  go_simp
  refine hK _ (fun e he => ?_) ?_
  · have hm := mem_listed he
    simp [go_sem, *] at hm
  clear hK K r w₁
  refine BA.op rfl rfl (by k_ne) fun w₁ r K hK => ?_
  go_simp
  refine hK _ (fun e he => ?_) ?_
  · have hm := mem_listed he
    simp [go_sem, *] at hm
  clear hK K r w₁
  refine BA.regEnd ?_
  refine BA.block ?_
  refine BA.loop ?_
  exact key n 0 (by omega) (fun p hp => absurd hp (by omega)) _ _ _ _ _ _ _ _ _ _ _ _ _ _ _ _ _ _ _
end
end Go.Proofs.Ytbckmkppmdfnnaa.Crew
