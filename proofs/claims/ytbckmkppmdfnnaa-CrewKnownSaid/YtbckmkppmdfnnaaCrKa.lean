/- crew: Each and Fold at int: the texts at int64, turned. Made by wip/tools/crew/mkKa.py. -/
import Derived.Test.YtbckmkppmdfnnaaCrAx
namespace Go.Proofs.Ytbckmkppmdfnnaa.Crew
open Go.Conc Go.RowKit Go.Conc.Lib Go.ConcR.Gen Go.Proofs.Ytbckmkppmdfnnaa.QT
section
variable {main : Bool} {R : World → World → Prop} {D : World → World → Array Event → Prop} {Rd : Addr → Prop}
set_option maxRecDepth 100000 in
theorem each1I_c (E : Env R D Rd) {J : World → Prop} (hJ : ∀ w w₁, R w w₁ → J w → J w₁) {ib tb mb : Nat} (hi : Fast R Rd ⟨ib, 0, none⟩) (ht : Fast R Rd ⟨tb, 0, none⟩) (hm : Fast R Rd ⟨mb, 0, none⟩) {iv : Value} {ψ : Int → Int} {n : Nat}
    (hiv : FunC main R D J iv (fun x => .int .i64 (ψ x)) n) {a0 ma : Addr} {len cap p : Nat} {x y : Int} (hy : ψ x = y) (he : Fast R Rd (a0.add p)) (hp : p < len) {MC DN : World → Prop} (hMK : ∀ w w₁, R w w₁ → MC w → MC w₁) (hDK : ∀ w w₁, R w w₁ → DN w → DN w₁)
    (hMC : ∀ w, MC w → ∃ u, w.cell? (ma.add p) = some u ∧ w.frozen? (ma.add p) = false)
    (hset : ∀ w, MC w → R w (w.setCell (ma.add p) (.int .i64 y)) ∧ D w (w.setCell (ma.add p) (.int .i64 y)) #[⟨.cell (ma.add p), true, false⟩] ∧ DN (w.setCell (ma.add p) (.int .i64 y))) :
    ∀ w, At34 J ib tb mb iv a0 ma len cap p x MC w → CallsV Try.prog main R D (.func (.func 38) #[] #[.pointer (some ⟨ib, 0, none⟩), .pointer (some ⟨tb, 0, none⟩), .pointer (some ⟨mb, 0, none⟩)]) #[.int .i64 (p : Nat)] ((n + 3) * 10 + 30) w (fun v w' => v = .bool false ∧ R w w' ∧ DN w') := by
  subst hy
  obtain ⟨y, hy⟩ : ∃ y, y = ψ x := ⟨_, rfl⟩
  rw [← hy] at hset
  intro w hA
  refine ⟨38, _, rfl, callsC_of_wpC Try.func38 (by kernel_rfl) rfl ?_⟩
  intro b kk cs Stop m hb hke hc
  have T := E.T
  obtain ⟨w0, hw0⟩ : ∃ w0, w0 = w := ⟨w, rfl⟩
  have hF : At34 J ib tb mb iv a0 ma len cap p x MC w ∧ R w0 w := ⟨hA, by rw [hw0]; exact E.refl w⟩
  rw [← hw0] at hc
  clear hw0 hA
  have rl : ∀ {w w₁ : World}, At34 J ib tb mb iv a0 ma len cap p x MC w ∧ R w0 w → R w w₁ → At34 J ib tb mb iv a0 ma len cap p x MC w₁ ∧ R w0 w₁ := fun h r =>
    ⟨⟨hJ _ _ r h.1.j, hi.keep _ _ _ r h.1.i, ht.keep _ _ _ r h.1.t, hm.keep _ _ _ r h.1.m, he.keep _ _ _ r h.1.e, hMK _ _ r h.1.c⟩, T.trans _ _ _ h.2 r⟩
  refine Goes.mono (n := ((m + 9) + (n + 3) * 10 + 1) + 15) ?_ (by omega)
  simp only [Try.f38]
  walk_nrm
  refine Goes.step rfl (fun _ h₁ => ?_)
  replace hF := rl hF h₁
  clear h₁
  rw [stepG_seq]
  simp only [goes_go]
  refine ⟨T.idle _, ?_⟩
  refine Goes.step rfl (fun _ h₁ => ?_)
  replace hF := rl hF h₁
  clear h₁
  rw [stepG_region]
  simp only [goes_go, List.size_toArray, List.length_cons, List.length_nil, Nat.zero_add, List.range, List.range.loop]
  refine ⟨T.idle _, ?_⟩
  refine Goes.step rfl (fun _ h₁ => ?_)
  replace hF := rl hF h₁
  clear h₁
  refine goes_oper_k rfl rfl (by k_ne) (fun κ hκ => ?_)
  go_simp
  refine hκ _ _ ⟨idle_of T (fun e he => ?_), ?_⟩
  · have hm := mem_listed he
    simp [go_sem, *] at hm
  clear hκ κ
  refine Goes.step rfl (fun _ h₁ => ?_)
  replace hF := rl hF h₁
  clear h₁
  rw [stepG_region_end]
  simp only [goes_go]
  refine ⟨T.idle _, ?_⟩
  refine Goes.step rfl (fun _ h₁ => ?_)
  replace hF := rl hF h₁
  clear h₁
  rw [stepG_seq]
  simp only [goes_go]
  refine ⟨T.idle _, ?_⟩
  refine Goes.mono (n := (m + 9) + (n + 3) * 10 + 1) (goes_region_facts (c := n + 3) (m := m + 9) E.draw follows (fun w => At34 J ib tb mb iv a0 ma len cap p x MC w ∧ R w0 w) (F34 iv a0 ma len cap p x y DN) R (by kernel_rfl) (show dstsO _ 15 = true by kernel_rfl)
    (fun w₁ r => ?_) (fun w w' h r => rl h r) (fun i v w w' h r => ?_) ?_ ?_ ?_) (by omega)
  · exact rl (rl hF r) (E.step _)
  · rcases i with _ | _ | _ | _ | _ | _ | _ | _ | _ | i
    all_goals first | exact hDK _ _ r h | exact h
  · intro i o hio a w rest m' hI hag hdep hnext hn
    rcases i with _ | _ | _ | _ | _ | _ | _ | _ | _ | _ | i <;> simp at hio <;> subst hio
    · have e3 : a.tmps[3]? = some (.pointer (some ⟨mb, 0, none⟩)) := (hag.same 3 (by simp)).trans rfl
      refine Goes.mono (n := m' + 1) (Goes.step rfl fun w₁ r₁ => ?_) (by omega)
      have hI1 := rl hI r₁
      rw [stepG_value (v := .slice (some ma) len len) (w' := w₁) rfl rfl hke (by unfold execOp; simp [go_sem, e3, hI1.1.m])]
      simp only [goes_go]
      refine ⟨E.read _ _ fun e he' => (by have hm := mem_listed he'; unfold execOp at hm; simp [go_sem, e3, hI1.1.m] at hm; subst hm; exact ⟨_, hm.rd, rfl⟩), hnext _ _ rfl r₁⟩
    · have e0 : a.tmps[0]? = some (.int .i64 (p : Nat)) := (hag.same 0 (by simp)).trans rfl
      refine Goes.mono (n := m' + 1) (Goes.step rfl fun w₁ r₁ => ?_) (by omega)
      have hI1 := rl hI r₁
      rw [stepG_value (v := .int .i64 (p : Nat)) (w' := w₁) rfl rfl hke (by unfold execOp; simp [go_sem, e0])]
      simp only [goes_go]
      refine ⟨idle_of T fun e he' => (by have hm := mem_listed he'; unfold execOp at hm; simp [go_sem, e0] at hm), hnext _ _ rfl r₁⟩
    · have e1 : a.tmps[1]? = some (.pointer (some ⟨ib, 0, none⟩)) := (hag.same 1 (by simp)).trans rfl
      refine Goes.mono (n := m' + 1) (Goes.step rfl fun w₁ r₁ => ?_) (by omega)
      have hI1 := rl hI r₁
      rw [stepG_value (v := iv) (w' := w₁) rfl rfl hke (by unfold execOp; simp [go_sem, e1, hI1.1.i])]
      simp only [goes_go]
      refine ⟨E.read _ _ fun e he' => (by have hm := mem_listed he'; unfold execOp at hm; simp [go_sem, e1, hI1.1.i] at hm; subst hm; exact ⟨_, hi.rd, rfl⟩), hnext _ _ rfl r₁⟩
    · have e2 : a.tmps[2]? = some (.pointer (some ⟨tb, 0, none⟩)) := (hag.same 2 (by simp)).trans rfl
      refine Goes.mono (n := m' + 1) (Goes.step rfl fun w₁ r₁ => ?_) (by omega)
      have hI1 := rl hI r₁
      rw [stepG_value (v := .slice (some a0) len cap) (w' := w₁) rfl rfl hke (by unfold execOp; simp [go_sem, e2, hI1.1.t])]
      simp only [goes_go]
      refine ⟨E.read _ _ fun e he' => (by have hm := mem_listed he'; unfold execOp at hm; simp [go_sem, e2, hI1.1.t] at hm; subst hm; exact ⟨_, ht.rd, rfl⟩), hnext _ _ rfl r₁⟩
    · have e0 : a.tmps[0]? = some (.int .i64 (p : Nat)) := (hag.same 0 (by simp)).trans rfl
      refine Goes.mono (n := m' + 1) (Goes.step rfl fun w₁ r₁ => ?_) (by omega)
      have hI1 := rl hI r₁
      rw [stepG_value (v := .int .i64 (p : Nat)) (w' := w₁) rfl rfl hke (by unfold execOp; simp [go_sem, e0])]
      simp only [goes_go]
      refine ⟨idle_of T fun e he' => (by have hm := mem_listed he'; unfold execOp at hm; simp [go_sem, e0] at hm), hnext _ _ rfl r₁⟩
    · have r9 : a.eval (.tmp 9) = .slice (some a0) len cap := hdep ⟨3, .data⟩ (by simp) (by decide) _ rfl
      have e9 : a.tmps[9]?.getD undef = .slice (some a0) len cap := by simpa [Act.eval] using r9
      have r10 : a.eval (.tmp 10) = .int .i64 (p : Nat) := hdep ⟨4, .data⟩ (by simp) (by decide) _ rfl
      have e10 : a.tmps[10]?.getD undef = .int .i64 (p : Nat) := by simpa [Act.eval] using r10
      refine Goes.mono (n := m' + 1) (Goes.step rfl fun w₁ r₁ => ?_) (by omega)
      have hI1 := rl hI r₁
      rw [stepG_value (v := .pointer (some (a0.add p))) (w' := w₁) rfl rfl hke (by unfold execOp; simp [go_sem, e9, e10, hp])]
      simp only [goes_go]
      refine ⟨idle_of T fun e he' => (by have hm := mem_listed he'; unfold execOp at hm; simp [go_sem, e9, e10, hp] at hm), hnext _ _ rfl r₁⟩
    · have r11 : a.eval (.tmp 11) = .pointer (some (a0.add p)) := hdep ⟨5, .data⟩ (by simp) (by decide) _ rfl
      have e11 : a.tmps[11]?.getD undef = .pointer (some (a0.add p)) := by simpa [Act.eval] using r11
      refine Goes.mono (n := m' + 1) (Goes.step rfl fun w₁ r₁ => ?_) (by omega)
      have hI1 := rl hI r₁
      rw [stepG_value (v := .int .i64 x) (w' := w₁) rfl rfl hke (by unfold execOp; simp [go_sem, e11, hI1.1.e])]
      simp only [goes_go]
      refine ⟨E.read _ _ fun e he' => (by have hm := mem_listed he'; unfold execOp at hm; simp [go_sem, e11, hI1.1.e] at hm; subst hm; exact ⟨_, he.rd, rfl⟩), hnext _ _ rfl r₁⟩
    · have r8 : a.eval (.tmp 8) = iv := hdep ⟨2, .data⟩ (by simp) (by decide) _ rfl
      have e8 : a.tmps[8]?.getD undef = iv := by simpa [Act.eval] using r8
      have r12 : a.eval (.tmp 12) = .int .i64 x := hdep ⟨6, .data⟩ (by simp) (by decide) _ rfl
      have e12 : a.tmps[12]?.getD undef = .int .i64 x := by simpa [Act.eval] using r12
      refine Goes.mono (n := m' + n + 3) (Goes.callV T rfl rfl hke rfl (by rw [r8]; simpa [Act.eval, e12] using hiv x w hI.1.j) fun v w' hq => ?_) (by omega)
      exact hnext _ _ (hq.1.trans (congrArg (Value.int .i64) hy.symm)) hq.2
    · have r6 : a.eval (.tmp 6) = .slice (some ma) len len := hdep ⟨0, .data⟩ (by simp) (by decide) _ rfl
      have e6 : a.tmps[6]?.getD undef = .slice (some ma) len len := by simpa [Act.eval] using r6
      have r7 : a.eval (.tmp 7) = .int .i64 (p : Nat) := hdep ⟨1, .data⟩ (by simp) (by decide) _ rfl
      have e7 : a.tmps[7]?.getD undef = .int .i64 (p : Nat) := by simpa [Act.eval] using r7
      refine Goes.mono (n := m' + 1) (Goes.step rfl fun w₁ r₁ => ?_) (by omega)
      have hI1 := rl hI r₁
      rw [stepG_value (v := .pointer (some (ma.add p))) (w' := w₁) rfl rfl hke (by unfold execOp; simp [go_sem, e6, e7, hp])]
      simp only [goes_go]
      refine ⟨idle_of T fun e he' => (by have hm := mem_listed he'; unfold execOp at hm; simp [go_sem, e6, e7, hp] at hm), hnext _ _ rfl r₁⟩
    · have r14 : a.eval (.tmp 14) = .pointer (some (ma.add p)) := hdep ⟨8, .data⟩ (by simp) (by decide) _ rfl
      have e14 : a.tmps[14]?.getD undef = .pointer (some (ma.add p)) := by simpa [Act.eval] using r14
      have r13 : a.eval (.tmp 13) = .int .i64 y := hdep ⟨7, .data⟩ (by simp) (by decide) _ rfl
      have e13 : a.tmps[13]?.getD undef = .int .i64 y := by simpa [Act.eval] using r13
      refine Goes.mono (n := m' + 1) (Goes.step rfl fun w₁ r₁ => ?_) (by omega)
      have hI1 := rl hI r₁
      obtain ⟨u, hu, hz⟩ := hMC _ hI1.1.c
      obtain ⟨s1, s2, s3⟩ := hset _ hI1.1.c
      rw [stepG_none (w' := w₁.setCell (ma.add p) (.int .i64 y)) rfl rfl hke (by unfold execOp; simp [go_sem, stored, e14, e13, hu, hz])]
      simp only [goes_go]
      refine ⟨?_, hnext undef _ s3 (T.trans _ _ _ r₁ s1)⟩
      refine (show ∀ es, es = #[⟨.cell (ma.add p), true, false⟩] → D w₁ (w₁.setCell (ma.add p) (.int .i64 y)) es from fun es h => h ▸ s2) _ ?_
      refine Eq.trans (congrArg (seen Try.prog b.fn) (a₂ := #[⟨.cell (ma.add p), true, false⟩]) ?_) (seen_eq (by rw [hb]; kernel_rfl) (by simp))
      unfold execOp
      simp [go_sem, storedEv, e14, e13, hu, hz]
  · intro i o v w hio hn h
    rcases i with _ | _ | _ | _ | _ | _ | _ | _ | _ | _ | i <;> simp at hio <;> subst hio <;> first | exact h | simp at hn
  · intro a w hI hag hall
    have hdn : DN w := hall 9 _ rfl
    have hd : a.defers = [] := hag.defers
    replace hI : (At34 J ib tb mb iv a0 ma len cap p x MC w ∧ R w0 w) ∧ DN w := ⟨hI, hdn⟩
    clear hdn hall
    have rl' : ∀ {w w₁ : World}, (At34 J ib tb mb iv a0 ma len cap p x MC w ∧ R w0 w) ∧ DN w → R w w₁ → (At34 J ib tb mb iv a0 ma len cap p x MC w₁ ∧ R w0 w₁) ∧ DN w₁ := fun h r => ⟨rl h.1 r, hDK _ _ r h.2⟩
    refine Goes.step rfl (fun _ h₁ => ?_)
    replace hI := rl' hI h₁
    clear h₁
    rw [stepG_region_end]
    simp only [goes_go]
    refine ⟨T.idle _, ?_⟩
    refine Goes.step rfl (fun _ h₁ => ?_)
    replace hI := rl' hI h₁
    clear h₁
    rw [stepG_seq]
    simp only [goes_go]
    refine ⟨T.idle _, ?_⟩
    refine Goes.step rfl (fun _ h₁ => ?_)
    replace hI := rl' hI h₁
    clear h₁
    rw [stepG_region]
    simp only [goes_go, List.size_toArray, List.length_cons, List.length_nil, Nat.zero_add, List.range, List.range.loop]
    refine ⟨T.idle _, ?_⟩
    refine Goes.step rfl (fun _ h₁ => ?_)
    replace hI := rl' hI h₁
    clear h₁
    refine goes_oper_k rfl rfl (by k_ne) (fun κ hκ => ?_)
    go_simp
    refine hκ _ _ ⟨idle_of T (fun e he => ?_), ?_⟩
    · have hm := mem_listed he
      simp [go_sem, *] at hm
    clear hκ κ
    refine Goes.step rfl (fun _ h₁ => ?_)
    replace hI := rl' hI h₁
    clear h₁
    rw [stepG_region_end]
    simp only [goes_go]
    refine ⟨T.idle _, ?_⟩
    refine Goes.step rfl (fun _ h₁ => ?_)
    replace hI := rl' hI h₁
    clear h₁
    rw [stepG_ret']
    simp only [goes_go]
    refine ⟨T.idle _, ?_⟩
    exact Goes.mono (n := m) (hc .ret _ _ ⟨rfl, _, resultsC_tmp rfl _, by have hs : a.tmps.size = 15 := hag.size; simp [hs], hI.1.2, hI.2⟩ _) (by omega)
set_option maxRecDepth 100000 in
theorem id_c (E : Env R D Rd) (x : Int) (w : World) : CallsC Try.prog main R D 10 #[.int .i64 x] 60 w (fun v w' => v = .int .i64 x ∧ R w w') := by
  refine callsC_of_wpC Try.func10 (by kernel_rfl) rfl ?_
  intro b kk cs Stop m hb hk hc
  have T := E.T
  have hF : R w w := E.refl w
  simp only [Try.f10]
  walk_nrm
  refine Goes.step rfl (fun _ h₁ => ?_)
  replace hF := T.trans _ _ _ hF h₁
  clear h₁
  rw [stepG_seq]
  simp only [goes_go]
  refine ⟨T.idle _, ?_⟩
  refine Goes.step rfl (fun _ h₁ => ?_)
  replace hF := T.trans _ _ _ hF h₁
  clear h₁
  rw [stepG_region]
  simp only [goes_go, List.size_toArray, List.length_cons, List.length_nil, Nat.zero_add, List.range, List.range.loop]
  refine ⟨T.idle _, ?_⟩
  refine Goes.step rfl (fun _ h₁ => ?_)
  replace hF := T.trans _ _ _ hF h₁
  clear h₁
  refine goes_oper_k rfl rfl (by k_ne) (fun κ hκ => ?_)
  go_simp
  refine hκ _ _ ⟨idle_of T (fun e he => ?_), ?_⟩
  · have hm := mem_listed he
    simp [go_sem] at hm
  clear hκ κ
  refine Goes.step rfl (fun _ h₁ => ?_)
  replace hF := T.trans _ _ _ hF h₁
  clear h₁
  rw [stepG_region_end]
  simp only [goes_go]
  refine ⟨T.idle _, ?_⟩
  refine Goes.step rfl (fun _ h₁ => ?_)
  replace hF := T.trans _ _ _ hF h₁
  clear h₁
  rw [stepG_seq]
  simp only [goes_go]
  refine ⟨T.idle _, ?_⟩
  refine Goes.step rfl (fun _ h₁ => ?_)
  replace hF := T.trans _ _ _ hF h₁
  clear h₁
  rw [stepG_region]
  simp only [goes_go, List.size_toArray, List.length_cons, List.length_nil, Nat.reduceAdd, Nat.zero_add, List.range, List.range.loop]
  refine ⟨T.idle _, ?_⟩
  refine Goes.step rfl (fun _ h₁ => ?_)
  replace hF := T.trans _ _ _ hF h₁
  clear h₁
  refine goes_oper_k rfl rfl (by k_ne) (fun κ hκ => ?_)
  go_simp
  refine hκ _ _ ⟨idle_of T (fun e he => ?_), ?_⟩
  · have hm := mem_listed he
    simp [go_sem] at hm
  clear hκ κ
  refine Goes.step rfl (fun _ h₁ => ?_)
  replace hF := T.trans _ _ _ hF h₁
  clear h₁
  refine goes_oper_k rfl rfl (by k_ne) (fun κ hκ => ?_)
  go_simp
  refine hκ _ _ ⟨idle_of T (fun e he => ?_), ?_⟩
  · have hm := mem_listed he
    simp [go_sem] at hm
  clear hκ κ
  refine Goes.step rfl (fun _ h₁ => ?_)
  replace hF := T.trans _ _ _ hF h₁
  clear h₁
  rw [stepG_region_end]
  simp only [goes_go]
  refine ⟨T.idle _, ?_⟩
  refine Goes.step rfl (fun _ h₁ => ?_)
  replace hF := T.trans _ _ _ hF h₁
  clear h₁
  rw [stepG_ret']
  simp only [goes_go]
  refine ⟨T.idle _, ?_⟩
  exact Goes.mono (n := m) (hc .ret _ _ ⟨rfl, _, resultsC_tmp rfl _, by simp, hF⟩ _) (by omega)
theorem old_id {w₀ : World} {Z : Nat → Prop} {Mk : Nat} : OldFun w₀ Z Mk (.func (.func 10) #[] #[]) (fun x => .int .i64 x) :=
  fun _ _ _ _ E _ _ => ⟨60, fun x w _ => ⟨10, #[], rfl, id_c E x w⟩⟩
end
namespace AtInt
def QE (Mk len : Nat) (w : World) : Prop := ∃ arr : Array Value, w.heap[Mk]? = some (.cells arr 3) ∧ arr.size = len
theorem qe_of (Mk len : Nat) (w w' : World) (h : w'.heap[Mk]? = w.heap[Mk]?) : QE Mk len w → QE Mk len w' := fun ⟨arr, h1, h2⟩ => ⟨arr, h.trans h1, h2⟩
theorem qe_cell {Mk len p : Nat} {w : World} (h : QE Mk len w) (hp : p < len) : ∃ u, w.cell? ⟨Mk, p, none⟩ = some u ∧ w.frozen? ⟨Mk, p, none⟩ = false := by
  obtain ⟨arr, h1, h2⟩ := h
  exact ⟨arr[p]'(by omega), by simp [World.cell?, h1, h2, hp], by simp [World.frozen?, h1]⟩
theorem set_row {Mk len p : Nat} {w : World} {v : Value} (h : QE Mk len w) : ∃ arr : Array Value, arr.size = len ∧ w.heap[Mk]? = some (.cells arr 3) ∧ (w.setCell ⟨Mk, p, none⟩ v).heap[Mk]? = some (.cells (arr.setIfInBounds p v) 3) := by
  obtain ⟨arr, h1, h2⟩ := h
  refine ⟨arr, h2, h1, ?_⟩
  rw [setCell_eq_setRow w Mk p arr 3 (0, 0) v h1, setRow_heap w Mk _ _ 3 _ h1]
theorem set_de {Mk len p : Nat} {w : World} {g : Nat → Int} (h : QE Mk len w) (hp : p < len) : QE Mk len (w.setCell ⟨Mk, p, none⟩ (.int .i64 (g p))) ∧ DE Mk g p (w.setCell ⟨Mk, p, none⟩ (.int .i64 (g p))) ∧ ∀ q, DE Mk g q w → DE Mk g q (w.setCell ⟨Mk, p, none⟩ (.int .i64 (g p))) := by
  obtain ⟨arr, h1, h2, h3⟩ := set_row (p := p) (v := .int .i64 (g p)) h
  refine ⟨⟨_, h3, by simpa using h1⟩, ?_, fun q hq => ?_⟩
  · simp [DE, World.cell?, h3, h1, hp]
  · unfold DE at hq ⊢
    simp only [World.cell?, h2] at hq
    simp only [World.cell?, h3]
    by_cases hpq : p = q
    · subst hpq
      simp [h1, hp]
    · rw [Array.getElem?_setIfInBounds_ne hpq]
      exact hq
section
variable {w₁ w₀ : World} {Z : Nat → Prop} {n Mk : Nat} {b : Nat → Bool} {Wg Cp Cs Cf : Nat}
set_option maxHeartbeats 400000 in
/-- Each's job. -/
theorem job_eachI {ib tb mb : Nat} {iv : Value} {oa : Option Addr} {len cap : Nat} {xs : Nat → Int} {ψ : Int → Int} (hL : Lists w₀ Z oa len xs) (hLM : ∀ a0 p, oa = some a0 → p < len → (a0.add p).block ≠ Mk) (hi : w₀.cell? ⟨ib, 0, none⟩ = some iv) (ht : w₀.cell? ⟨tb, 0, none⟩ = some (.slice oa len cap))
    (hm : w₀.cell? ⟨mb, 0, none⟩ = some (.slice (some ⟨Mk, 0, none⟩) len len)) (hib : ib < w₀.heap.size ∧ ib ≠ Mk ∧ ¬ Z ib) (htb : tb < w₀.heap.size ∧ tb ≠ Mk ∧ ¬ Z tb) (hmb : mb < w₀.heap.size ∧ mb ≠ Mk ∧ ¬ Z mb) (hv : OldFun w₀ Z Mk iv (fun x => .int .i64 (ψ x)))
    (new : w₀.heap.size ≤ Wg ∧ w₀.heap.size ≤ Cp ∧ w₀.heap.size ≤ Cs ∧ w₀.heap.size ≤ Cf) (N : Nums Z Mk Wg Cp Cs Cf) (F : Field (mkB w₁ Z len n Mk b (QE Mk len) (DE Mk fun p => ψ (xs p)) Wg Cp Cs Cf)) (hb : ∀ p, p < len → b p = false) (p : Nat) (hp : p < len) :
    ∃ k, ∀ w, Same w₀ Mk w ∧ QE Mk len w → CallsV Try.prog false (K (mkB w₁ Z len n Mk b (QE Mk len) (DE Mk fun p => ψ (xs p)) Wg Cp Cs Cf)) (DWp (mkB w₁ Z len n Mk b (QE Mk len) (DE Mk fun p => ψ (xs p)) Wg Cp Cs Cf) p)
      (.func (.func 38) #[] #[.pointer (some ⟨ib, 0, none⟩), .pointer (some ⟨tb, 0, none⟩), .pointer (some ⟨mb, 0, none⟩)]) #[.int .i64 (p : Nat)] k w (fun v w' => v = .bool (b p) ∧ K (mkB w₁ Z len n Mk b (QE Mk len) (DE Mk fun p => ψ (xs p)) Wg Cp Cs Cf) w w' ∧ DE Mk (fun p => ψ (xs p)) p w') := by
  obtain ⟨a0, rfl⟩ := hL.one (by omega)
  obtain ⟨e1, e2, e3⟩ := hL.el a0 p rfl hp
  have e4 := hLM a0 p rfl hp
  have E := env_of F p
  obtain ⟨B, hB⟩ : ∃ B, B = mkB w₁ Z len n Mk b (QE Mk len) (DE Mk fun p => ψ (xs p)) Wg Cp Cs Cf := ⟨_, rfl⟩
  have fo : ∀ a : Addr, a.block < w₀.heap.size → a.block ≠ Mk → ¬ Z a.block → Fast (K B) (fun a => B.L.Rd (.cell a)) a := fun a h1 h2 h3 => by rw [hB]; exact fast_old new h1 h2 h3
  have hJ : ∀ w w', K B w w' → Same w₀ Mk w → Same w₀ Mk w' := fun w w' k h c hc hm => by
    obtain ⟨n1, n2, n3, n4⟩ := new
    rw [hB] at k
    exact (k.block c (show c ≠ Wg by omega) (show c ≠ Cp by omega) (show c ≠ Cs by omega) (show c ≠ Cf by omega) hm).trans (h c hc hm)
  have hadd : (⟨Mk, 0, none⟩ : Addr).add p = ⟨Mk, p, none⟩ := by simp [Addr.add]; exact fun h => h.symm
  have hset : ∀ w, QE Mk len w → K B w (w.setCell ((⟨Mk, 0, none⟩ : Addr).add p) (.int .i64 (ψ (xs p)))) ∧ DWp B p w (w.setCell ((⟨Mk, 0, none⟩ : Addr).add p) (.int .i64 (ψ (xs p)))) #[⟨.cell ((⟨Mk, 0, none⟩ : Addr).add p), true, false⟩] ∧ DE Mk (fun p => ψ (xs p)) p (w.setCell ((⟨Mk, 0, none⟩ : Addr).add p) (.int .i64 (ψ (xs p)))) := by
    intro w hw
    rw [hadd]
    obtain ⟨s1, s2, s3⟩ := set_de (g := fun p => ψ (xs p)) hw hp
    have hA := aside_setCell w ⟨Mk, p, none⟩ (.int .i64 (ψ (xs p)))
    have hput : Put B p w (w.setCell ⟨Mk, p, none⟩ (.int .i64 (ψ (xs p)))) := by
      rw [hB]
      exact ⟨hA.tape, hA.os, hA.output, hA.size, fun c hc => hA.block c hc, fun _ => s1, s3⟩
    refine ⟨?_, ⟨hput, fun e he => ?_⟩, s2⟩
    · rw [hB] at hput ⊢
      exact ⟨hput.tape, hput.os, hput.output, hput.size, fun c _ _ _ _ hm => hput.block c hm, fun ⟨st, sm, x⟩ => ⟨st, sm, x.of_block (hput.block _ (Ne.symm N.m1))⟩, hput.q, hput.done⟩
    · simp at he
      subst he
      rw [hB]
      exact ⟨_, true, rfl, .inl ⟨p, rfl, rfl⟩⟩
  rw [← hB] at E ⊢
  obtain ⟨nf, hf⟩ := hv _ _ _ false E hJ fo
  refine ⟨(nf + 3) * 10 + 30, fun w hw => ?_⟩
  have := each1I_c (cap := cap) (MC := QE Mk len) (DN := DE Mk (fun p => ψ (xs p)) p) E hJ (fo ⟨ib, 0, none⟩ hib.1 hib.2.1 hib.2.2) (fo ⟨tb, 0, none⟩ htb.1 htb.2.1 htb.2.2) (fo ⟨mb, 0, none⟩ hmb.1 hmb.2.1 hmb.2.2) hf (ma := ⟨Mk, 0, none⟩) (x := xs p) rfl (fo _ e2 e4 e3) hp
    (fun w w' k h => by rw [hB] at k; exact k.q h) (fun w w' k h => by rw [hB] at k; exact k.done p h) (fun w h => by rw [hadd]; exact qe_cell h hp) hset w
    ⟨hw.1, same_cell hw.1 hib.1 hib.2.1 hi, same_cell hw.1 htb.1 htb.2.1 ht, same_cell hw.1 hmb.1 hmb.2.1 hm, same_cell hw.1 e2 e4 e1, hw.2⟩
  obtain ⟨f, cp, h1, h2⟩ := this
  exact ⟨f, cp, h1, h2.mono fun v w' h => ⟨by rw [hb p hp]; exact h.1, h.2.1, h.2.2⟩⟩
end
theorem mk24 (w : World) (n : Nat) (hn : n ≤ 1000000) : (Instr.makeSlice 24 (.int .i64 n) (.int .i64 n)).run Try.prog w = .ok (.slice (some ⟨w.heap.size, 0, none⟩) n n) (w.alloc (.cells (madeCells #[.int .i64 0] n) 3)) ∧ (Instr.makeSlice 24 (.int .i64 n) (.int .i64 n)).events Try.prog w #[] = #[] := by
  obtain ⟨ie, hie, hq⟩ := Option.map_eq_some_iff.1 info3
  simp only [Prod.mk.injEq] at hq
  obtain ⟨hz, hsz, hby⟩ := hq
  have h1 := run_make (P := Try.prog) w 24 3 ie (.int .i64 0) Try.underlying24 hie hz .i64 .i64 n n (by omega) (by omega) (by rw [hby]; omega) (by omega)
  have h2 := events_make (P := Try.prog) w 24 3 ie (.int .i64 0) Try.underlying24 hie hz .i64 .i64 n n (by omega) (by omega) (by rw [hby]; omega) (by omega) (by rw [hby]; simp; omega) #[]
  refine ⟨?_, h2⟩
  rw [h1]
  simp [hsz, Value.cells]
theorem ev_nil25 (f : FuncId) (cp : Array Value) (w : World) (es : Array Event) : (binOp .eql 25 (.func (.func f) #[] cp) .nilFunc).events Try.prog w es = es := by
  simp [binOp, Op.equal, go_sem]
  rw [show Op.maxDepth = (Op.maxDepth - 1) + 1 from rfl]
  obtain ⟨ps, rs, vr, h⟩ : ∃ ps rs vr, Try.prog.underlying 25 = some (.func ps rs vr) := ⟨_, _, _, rfl⟩
  unfold Op.equalIn
  simp [go_sem, run_underlying h]
noncomputable def body28 : Code := Try.f28.body.getD .skip
/-- What first has come to in Each: the row is filled, all else old is as it was. -/
structure FilledI (Z Z' : Nat → Prop) (w w' : World) (Mk len : Nat) (g : Nat → Int) : Prop where
  zlt : ∀ c, Z' c → c < w'.heap.size
  znew : ∀ c, c < w.heap.size → Z' c → Z c
  size : w.heap.size ≤ w'.heap.size
  block : ∀ c, c < w.heap.size → c ≠ Mk → w'.heap[c]? = w.heap[c]?
  tape : w'.tape = w.tape
  os : w'.os = w.os
  output : w'.output = w.output
  q : QE Mk len w'
  all : ∀ p, p < len → DE Mk g p w'
section
variable {Z : Nat → Prop}
theorem first_eachI {oa : Option Addr} {len cap f ib tb mb Mk : Nat} {wk : Int} {cp : Array Value} {xs : Nat → Int} {ψ : Int → Int} {w : World} (hZ : ∀ c, Z c → c < w.heap.size) (hM : len ≤ 1000000) (hL : Lists w Z oa len xs) (hLM : ∀ a0 p, oa = some a0 → p < len → (a0.add p).block ≠ Mk)
    (hi : w.cell? ⟨ib, 0, none⟩ = some (.func (.func f) #[] cp)) (ht : w.cell? ⟨tb, 0, none⟩ = some (.slice oa len cap)) (hm : w.cell? ⟨mb, 0, none⟩ = some (.slice (some ⟨Mk, 0, none⟩) len len)) (hib : ib < w.heap.size ∧ ib ≠ Mk ∧ ¬ Z ib) (htb : tb < w.heap.size ∧ tb ≠ Mk ∧ ¬ Z tb) (hmb : mb < w.heap.size ∧ mb ≠ Mk ∧ ¬ Z mb)
    (hMk : Mk < w.heap.size ∧ ¬ Z Mk) (hq : QE Mk len w) (hv : OldFun w Z Mk (.func (.func f) #[] cp) (fun x => .int .i64 (ψ x))) :
    CB 29 #[.int .i64 (len : Nat), .int .i64 wk, .func (.func 38) #[] #[.pointer (some ⟨ib, 0, none⟩), .pointer (some ⟨tb, 0, none⟩), .pointer (some ⟨mb, 0, none⟩)]] Z w (fun Z' v w' => v = .int .i64 (-1) ∧ FilledI Z Z' w w' Mk len (fun p => ψ (xs p))) := by
  refine ⟨Try.f29, body29, Try.func29, by kernel_rfl, rfl, fun Stop b₀ a₀ ops i rest k cs hn w₁ r => ?_⟩
  simp only [show Try.f29.ntmps = 45 from rfl]
  walk_nrm
  have hs : w₁.heap = w.heap := by obtain ⟨d, rfl⟩ := r; rfl
  have hcell : ∀ {a : Addr} {v : Value}, w.cell? a = some v → w₁.cell? a = some v := fun h => cell_atR r h
  refine first_br (b := fun _ => false) (Q := QE Mk len) (Done := DE Mk fun p => ψ (xs p)) (fun c hc => by rw [hs]; exact hZ c hc) (by omega) (fun _ => Mk) (fun w₂ _ => .inl ⟨by rw [hs]; exact hMk.1, hMk.2⟩)
    (fun w₂ ho => qe_of Mk len w₁ w₂ (ho.block Mk (by rw [hs]; exact hMk.1)) (qe_of Mk len w w₁ (by rw [hs]) hq)) (fun _ _ w w' h => qe_of Mk len w w' h) (fun _ _ p w w' h => de_of Mk _ p w w' h) (fun w₂ Wg Cp Cs Cf ho hnew hN p hp => ?_) fun Wg r' w' hc W todo hW => ?_
  · have F := mkB_field (w₁ := w₂) (M := len) (n := crewN len wk) (b := fun _ => false) (Q := QE Mk len) (Done := DE Mk fun p => ψ (xs p)) hN (fun w w' h => qe_of Mk len w w' h) (fun p w w' h => de_of Mk _ p w w' h) (by unfold crewN; omega) (fun h => by unfold crewN; omega) (by omega)
    have hv1 : OldFun w₁ Z Mk (.func (.func f) #[] cp) (fun x => .int .i64 (ψ x)) := by
      obtain ⟨d, rfl⟩ := r
      exact hv
    exact job_eachI (hL.atR r) hLM (hcell hi) (hcell ht) (hcell hm) (by rw [hs]; exact hib) (by rw [hs]; exact htb) (by rw [hs]; exact hmb) hv1 hnew hN F (fun _ _ => rfl) p hp
  · have hr : r' = len := by
      rcases Nat.lt_or_ge r' len with h | h
      · exact absurd (hc.hit h) (by simp)
      · exact Nat.le_antisymm hc.le h
    subst hr
    have hwg := hc.wg
    have hsz := hc.size
    rw [hs] at hwg hsz
    refine (BA.leave1 Try.func29 rfl ?_).br
    rw [hW]
    refine hn _ _ _ ⟨by simp [res], fun c h => h.elim (fun h => Nat.lt_of_lt_of_le (hZ c h) hsz) (fun h => h ▸ hc.wgs), fun c h1 h2 => h2.elim id fun h => by omega, hsz, fun c h1 h2 => ?_, ?_, ?_, ?_, hc.q, fun p hp => hc.done p hp (by omega)⟩
    · rw [hc.block c (by rw [hs]; exact h1) (fun _ _ => h2), hs]
    · rw [hc.tape]; obtain ⟨d, rfl⟩ := r; rfl
    · rw [hc.os]; obtain ⟨d, rfl⟩ := r; rfl
    · rw [hc.output]; obtain ⟨d, rfl⟩ := r; rfl
set_option maxRecDepth 100000 in
set_option maxHeartbeats 1000000 in
theorem EachI_cb {oa : Option Addr} {len cap f : Nat} {wk : Int} {cp : Array Value} {xs : Nat → Int} {ψ : Int → Int} {w0 : World} (hZ : ∀ c, Z c → c < w0.heap.size) (hM : len ≤ 1000000) (hL : Lists w0 Z oa len xs)
    (hv : ∀ w Mk, Olds w0 w → w0.heap.size ≤ Mk → OldFun w Z Mk (.func (.func f) #[] cp) (fun x => .int .i64 (ψ x))) :
    CB 28 #[.slice oa len cap, .int .i64 wk, .func (.func f) #[] cp] Z w0 (fun Z' v w' => Ext Z Z' w0 w' ∧ ∃ Mk, v = .slice (some ⟨Mk, 0, none⟩) len len ∧ Lists w' Z' (some ⟨Mk, 0, none⟩) len (fun p => ψ (xs p))) := by
  refine ⟨Try.f28, body28, Try.func28, by kernel_rfl, rfl, fun Stop b₀ a₀ ops i rest k cs hn => ?_⟩
  simp only [body28, Try.f28, Option.getD_some]
  walk_nrm
  obtain ⟨w, hw⟩ : ∃ w, w = w0 := ⟨w0, rfl⟩
  have hF : Held Z [] w := by rw [hw]; exact Held.start hZ
  have hX : Ext Z Z w0 w := by rw [hw]; exact Ext.refl hZ
  have hX0 : w0.heap.size ≤ w.heap.size := hX.olds.size
  rw [show BA Stop Z _ w0 = BA Stop Z _ w by rw [hw]]
  clear hw
  refine BA.seq ?_
  refine BA.reg ?_
  simp only [List.size_toArray, List.length_cons, List.length_nil, Nat.reduceAdd, Nat.zero_add, List.range, List.range.loop]
  refine BA.value (v := .pointer (some ⟨w.heap.size, 0, none⟩)) (w' := w.alloc (.cells #[.slice oa len cap] 24)) rfl rfl (by k_ne) (fun d => by unfold execOp; simp [go_sem]; exact ⟨rfl, rfl⟩) (fun d e he => ?_) ?_
  · unfold execOp at he
    simp [go_sem] at he
  replace hF := hF.alloc (.cells #[.slice oa len cap] 24)
  replace hX := hX.alloc (.cells #[.slice oa len cap] 24)
  have lttb : w.heap.size < (w.alloc (.cells #[.slice oa len cap] 24)).heap.size := by rw [heap_al, Array.size_push]; omega
  generalize w.alloc (.cells #[.slice oa len cap] 24) = w1 at hF hX lttb ⊢
  obtain ⟨tb, htb⟩ : ∃ N, w.heap.size = N := ⟨_, rfl⟩
  rw [htb] at hF lttb ⊢
  walk_nrm
  have g0 : w0.heap.size ≤ tb := htb ▸ hX0
  refine BA.value (v := .pointer (some ⟨w1.heap.size, 0, none⟩)) (w' := w1.alloc (.cells #[.func (.func f) #[] cp] 25)) rfl rfl (by k_ne) (fun d => by unfold execOp; simp [go_sem]; exact ⟨rfl, rfl⟩) (fun d e he => ?_) ?_
  · unfold execOp at he
    simp [go_sem] at he
  replace hF := hF.alloc (.cells #[.func (.func f) #[] cp] 25)
  replace hX := hX.alloc (.cells #[.func (.func f) #[] cp] 25)
  have ltib : w1.heap.size < (w1.alloc (.cells #[.func (.func f) #[] cp] 25)).heap.size := by rw [heap_al, Array.size_push]; omega
  generalize w1.alloc (.cells #[.func (.func f) #[] cp] 25) = w2 at hF hX ltib ⊢
  obtain ⟨ib, hib⟩ : ∃ N, w1.heap.size = N := ⟨_, rfl⟩
  rw [hib] at hF ltib ⊢
  walk_nrm
  have g1 : tb < ib := by omega
  refine BA.op rfl rfl (by k_ne) fun w₁ r K hK => ?_
  go_simp
  refine hK _ (fun e he => ?_) ?_
  · have hm := mem_listed he
    simp [go_sem] at hm
  clear hK K r w₁
  refine BA.regEnd ?_
  refine BA.seq ?_
  refine BA.seq ?_
  refine BA.reg ?_
  simp only [List.size_toArray, List.length_cons, List.length_nil, Nat.reduceAdd, Nat.zero_add, List.range, List.range.loop]
  refine BA.op rfl rfl (by k_ne) fun w₁ r K hK => ?_
  have hcell := cell_atR r (hF.cell (c := ib) (u := .func (.func f) #[] cp) (ty := 25) (by simp))
  go_simp
  refine hK _ (fun e he => ?_) ?_
  · have hm := mem_listed he
    simp [go_sem, hcell] at hm
    subst hm
    exact evC_cell false (hF.clean (ib, .cells #[.func (.func f) #[] cp] 25) (by simp))
  clear hcell hK K r w₁
  refine BA.op rfl rfl (by k_ne) fun w₁ r K hK => ?_
  go_simp
  refine hK _ (fun e he => ?_) ?_
  · have hm := mem_listed he
    simp [go_sem, ev_nil25] at hm
  clear hK K r w₁
  refine BA.regEnd ?_
  refine BA.condF rfl ?_
  refine BA.skip ?_
  refine BA.seq ?_
  refine BA.reg ?_
  simp only [List.size_toArray, List.length_cons, List.length_nil, Nat.reduceAdd, Nat.zero_add, List.range, List.range.loop]
  refine BA.op rfl rfl (by k_ne) fun w₁ r K hK => ?_
  have hcell := cell_atR r (hF.cell (c := tb) (u := .slice oa len cap) (ty := 24) (by simp))
  go_simp
  refine hK _ (fun e he => ?_) ?_
  · have hm := mem_listed he
    simp [go_sem, hcell] at hm
    subst hm
    exact evC_cell false (hF.clean (tb, .cells #[.slice oa len cap] 24) (by simp))
  clear hcell hK K r w₁
  refine BA.op rfl rfl (by k_ne) fun w₁ r K hK => ?_
  go_simp
  refine hK _ (fun e he => ?_) ?_
  · have hm := mem_listed he
    simp [go_sem] at hm
  clear hK K r w₁
  refine BA.value (v := .slice (some ⟨w2.heap.size, 0, none⟩) len len) (w' := w2.alloc (.cells (madeCells #[.int .i64 0] len) 3)) rfl rfl (by k_ne) (fun d => by unfold execOp; simp [go_sem, (mk24 (w2.at d) len hM).1]; exact ⟨rfl, rfl⟩) (fun d e he => ?_) ?_
  · unfold execOp at he
    simp [go_sem, (mk24 (w2.at d) len hM).2] at he
  replace hF := hF.alloc (.cells (madeCells #[.int .i64 0] len) 3)
  replace hX := hX.alloc (.cells (madeCells #[.int .i64 0] len) 3)
  have ltMk : w2.heap.size < (w2.alloc (.cells (madeCells #[.int .i64 0] len) 3)).heap.size := by rw [heap_al, Array.size_push]; omega
  generalize w2.alloc (.cells (madeCells #[.int .i64 0] len) 3) = w3 at hF hX ltMk ⊢
  obtain ⟨Mk, hMk⟩ : ∃ N, w2.heap.size = N := ⟨_, rfl⟩
  rw [hMk] at hF ltMk ⊢
  walk_nrm
  have g2 : ib < Mk := by omega
  refine BA.value (v := .pointer (some ⟨w3.heap.size, 0, none⟩)) (w' := w3.alloc (.cells #[.slice none 0 0] 24)) rfl rfl (by k_ne) (fun d => by unfold execOp; simp [go_sem]; exact ⟨rfl, rfl⟩) (fun d e he => ?_) ?_
  · unfold execOp at he
    simp [go_sem] at he
  replace hF := hF.alloc (.cells #[.slice none 0 0] 24)
  replace hX := hX.alloc (.cells #[.slice none 0 0] 24)
  have ltmb : w3.heap.size < (w3.alloc (.cells #[.slice none 0 0] 24)).heap.size := by rw [heap_al, Array.size_push]; omega
  generalize w3.alloc (.cells #[.slice none 0 0] 24) = w4 at hF hX ltmb ⊢
  obtain ⟨mb, hmb⟩ : ∃ N, w3.heap.size = N := ⟨_, rfl⟩
  rw [hmb] at hF ltmb ⊢
  walk_nrm
  have g3 : Mk < mb := by omega
  obtain ⟨hs1, hs2⟩ := box_set (v := .slice (some ⟨Mk, 0, none⟩) len len) (hF.has (mb, .cells #[.slice none 0 0] 24) (by simp))
  refine BA.skips (w' := w4.setCell ⟨mb, 0, none⟩ (.slice (some ⟨Mk, 0, none⟩) len len)) rfl rfl (by k_ne) (fun d => ?_) (fun d e he => ?_) ?_
  · have hcell := (hF.cell (c := mb) (u := .slice none 0 0) (ty := 24) (by simp))
    have hc2 : (w4.at d).cell? ⟨mb, 0, none⟩ = some (.slice none 0 0) := hcell
    have hfz : (w4.at d).frozen? ⟨mb, 0, none⟩ = false := by have := hF.has (mb, .cells #[.slice none 0 0] 24) (by simp); simp [World.frozen?, World.at, this]
    unfold execOp
    simp [go_sem, stored, hc2, hfz]
    try rfl
  · have hcell := (hF.cell (c := mb) (u := .slice none 0 0) (ty := 24) (by simp))
    have hc2 : (w4.at d).cell? ⟨mb, 0, none⟩ = some (.slice none 0 0) := hcell
    have hfz : (w4.at d).frozen? ⟨mb, 0, none⟩ = false := by have := hF.has (mb, .cells #[.slice none 0 0] 24) (by simp); simp [World.frozen?, World.at, this]
    unfold execOp at he
    simp [go_sem, events_store Try.prog _ _ ⟨mb, 0, none⟩ (.slice (some ⟨Mk, 0, none⟩) len len) _ rfl, hc2, hfz] at he
    subst he
    exact evC_cell true (hF.clean (mb, .cells #[.slice none 0 0] 24) (by simp))
  replace hF : Held Z [(mb, .cells #[.slice (some ⟨Mk, 0, none⟩) len len] 24), (Mk, .cells (madeCells #[.int .i64 0] len) 3), (ib, .cells #[.func (.func f) #[] cp] 25), (tb, .cells #[.slice oa len cap] 24)] (w4.setCell ⟨mb, 0, none⟩ (.slice (some ⟨Mk, 0, none⟩) len len)) := by
    refine ⟨fun p hp => ?_, fun p hp => ?_, fun c hc => ?_⟩
    · rcases List.mem_cons.1 hp with e | hp'
      · subst e; exact hs1
      · have hne : p.1 ≠ mb := by simp at hp'; rcases hp' with e | e | e <;> subst e <;> dsimp only <;> omega
        exact (hs2 p.1 hne).trans (hF.has p (List.mem_cons_of_mem _ hp'))
    · rcases List.mem_cons.1 hp with e | hp'
      · subst e; exact hF.clean (mb, .cells #[.slice none 0 0] 24) (by simp)
      · exact hF.clean p (List.mem_cons_of_mem _ hp')
    · have := hF.zlt c hc; simpa [World.setCell] using this
  replace hX : Ext Z Z w0 (w4.setCell ⟨mb, 0, none⟩ (.slice (some ⟨Mk, 0, none⟩) len len)) := ⟨hX.olds.set (by omega) _, hF.zlt, hX.znew⟩
  generalize w4.setCell ⟨mb, 0, none⟩ (.slice (some ⟨Mk, 0, none⟩) len len) = w5 at hF hX ⊢
  clear hs1 hs2
  walk_nrm
  refine BA.regEnd ?_
  refine BA.seq ?_
  refine BA.reg ?_
  simp only [List.size_toArray, List.length_cons, List.length_nil, Nat.reduceAdd, Nat.zero_add, List.range, List.range.loop]
  refine BA.op rfl rfl (by k_ne) fun w₁ r K hK => ?_
  have hcell := cell_atR r (hF.cell (c := tb) (u := .slice oa len cap) (ty := 24) (by simp))
  go_simp
  refine hK _ (fun e he => ?_) ?_
  · have hm := mem_listed he
    simp [go_sem, hcell] at hm
    subst hm
    exact evC_cell false (hF.clean (tb, .cells #[.slice oa len cap] 24) (by simp))
  clear hcell hK K r w₁
  refine BA.op rfl rfl (by k_ne) fun w₁ r K hK => ?_
  go_simp
  refine hK _ (fun e he => ?_) ?_
  · have hm := mem_listed he
    simp [go_sem] at hm
  clear hK K r w₁
  refine BA.op rfl rfl (by k_ne) fun w₁ r K hK => ?_
  go_simp
  refine hK _ (fun e he => ?_) ?_
  · have hm := mem_listed he
    simp [go_sem] at hm
  clear hK K r w₁
  refine BA.op rfl rfl (by k_ne) fun w₁ r K hK => ?_
  go_simp
  refine hK _ (fun e he => ?_) ?_
  · have hm := mem_listed he
    simp [go_sem, Instr.makeFunc] at hm
  clear hK K r w₁
  have hol := hX.olds
  have hsz := hol.size
  refine BA.call rfl rfl (by k_ne) rfl (by
    walk_nrm
    exact first_eachI (Mk := Mk) (mb := mb) (xs := xs) (ψ := ψ) (fun c hc => hF.zlt c hc) hM (hL.olds hol) (fun a0 p e hp => by have := (hL.el a0 p e hp).2.1; omega) (hF.cell (c := ib) (u := .func (.func f) #[] cp) (ty := 25) (by simp)) (hF.cell (c := tb) (u := .slice oa len cap) (ty := 24) (by simp)) (hF.cell (c := mb) (u := .slice (some ⟨Mk, 0, none⟩) len len) (ty := 24) (by simp))
      ⟨hF.lt (ib, .cells #[.func (.func f) #[] cp] 25) (by simp), by omega, hF.clean (ib, .cells #[.func (.func f) #[] cp] 25) (by simp)⟩ ⟨hF.lt (tb, .cells #[.slice oa len cap] 24) (by simp), by omega, hF.clean (tb, .cells #[.slice oa len cap] 24) (by simp)⟩ ⟨hF.lt (mb, .cells #[.slice (some ⟨Mk, 0, none⟩) len len] 24) (by simp), by omega, hF.clean (mb, .cells #[.slice (some ⟨Mk, 0, none⟩) len len] 24) (by simp)⟩ ⟨hF.lt (Mk, .cells (madeCells #[.int .i64 0] len) 3) (by simp), hF.clean (Mk, .cells (madeCells #[.int .i64 0] len) 3) (by simp)⟩
      ⟨_, hF.has (Mk, .cells (madeCells #[.int .i64 0] len) 3) (by simp), by simp [madeCells]⟩ (hv w5 Mk hol (by omega))) fun Z' v w' hp => ?_
  obtain ⟨rfl, hfd⟩ := hp
  have lmb := hF.lt (mb, .cells #[.slice (some ⟨Mk, 0, none⟩) len len] 24) (by simp)
  have lMk := hF.lt (Mk, .cells (madeCells #[.int .i64 0] len) 3) (by simp)
  have nMk := hF.clean (Mk, .cells (madeCells #[.int .i64 0] len) 3) (by simp)
  have hcm : w'.cell? ⟨mb, 0, none⟩ = some (.slice (some ⟨Mk, 0, none⟩) len len) := (World.cell?_of_block (hfd.block mb lmb (by omega))).trans (hF.cell (c := mb) (u := .slice (some ⟨Mk, 0, none⟩) len len) (ty := 24) (by simp))
  have hzm : ¬ Z' mb := fun h => hF.clean (mb, .cells #[.slice (some ⟨Mk, 0, none⟩) len len] 24) (by simp) (hfd.znew mb lmb h)
  walk_nrm
  refine BA.regEnd ?_
  refine BA.seq ?_
  refine BA.reg ?_
  simp only [List.size_toArray, List.length_cons, List.length_nil, Nat.reduceAdd, Nat.zero_add, List.range, List.range.loop]
  refine BA.op rfl rfl (by k_ne) fun w₁ r K hK => ?_
  have hcell := cell_atR r (hcm)
  go_simp
  refine hK _ (fun e he => ?_) ?_
  · have hm := mem_listed he
    simp [go_sem, hcell] at hm
    subst hm
    exact evC_cell false (hzm)
  clear hcell hK K r w₁
  refine BA.op rfl rfl (by k_ne) fun w₁ r K hK => ?_
  go_simp
  refine hK _ (fun e he => ?_) ?_
  · have hm := mem_listed he
    simp [go_sem] at hm
  clear hK K r w₁
  refine BA.regEnd ?_
  refine BA.ret ?_
  refine BA.leave1 Try.func28 rfl ?_
  refine hn Z' _ w' ⟨⟨⟨Nat.le_trans hsz hfd.size, fun c hc => (hfd.block c (by omega) (by omega)).trans (hol.block c hc), hfd.tape.trans hol.tape, hfd.os.trans hol.os, hfd.output.trans hol.output⟩, hfd.zlt, fun c hc hz => hfd.znew c (by omega) hz⟩, Mk, rfl, fun _ => ⟨_, rfl⟩, fun a0 p e hp => ?_⟩
  cases e
  have hadd : (⟨Mk, 0, none⟩ : Addr).add p = ⟨Mk, p, none⟩ := by simp [Addr.add]; exact fun h => h.symm
  rw [hadd]
  exact ⟨hfd.all p hp, Nat.lt_of_lt_of_le lMk hfd.size, fun h => nMk (hfd.znew Mk lMk h)⟩
end
section
variable {Z : Nat → Prop}
theorem EachId_cb {oa : Option Addr} {len cap : Nat} {wk : Int} {xs : Nat → Int} {w : World} (hZ : ∀ c, Z c → c < w.heap.size) (hM : len ≤ 1000000) (hL : Lists w Z oa len xs) :
    CB 28 #[.slice oa len cap, .int .i64 wk, .func (.func 10) #[] #[]] Z w (fun Z' v w' => Ext Z Z' w w' ∧ ∃ Mk, v = .slice (some ⟨Mk, 0, none⟩) len len ∧ Lists w' Z' (some ⟨Mk, 0, none⟩) len xs) :=
  EachI_cb (ψ := fun x => x) hZ hM hL fun _ _ _ _ => old_id
theorem ev_nil26 (f : FuncId) (cp : Array Value) (w : World) (es : Array Event) : (binOp .eql 26 (.func (.func f) #[] cp) .nilFunc).events Try.prog w es = es := by
  simp [binOp, Op.equal, go_sem]
  rw [show Op.maxDepth = (Op.maxDepth - 1) + 1 from rfl]
  obtain ⟨ps, rs, vr, h⟩ : ∃ ps rs vr, Try.prog.underlying 26 = some (.func ps rs vr) := ⟨_, _, _, rfl⟩
  unfold Op.equalIn
  simp [go_sem, run_underlying h]
theorem slice1I (Mk n : Nat) (h : 1 ≤ n) (w : World) : (Instr.sliceAt 24 (.slice (some ⟨Mk, 0, none⟩) n n) (some (.int .i64 1)) none none).run Try.prog w = .ok (.slice (some (if n = 1 then ⟨Mk, 0, none⟩ else ⟨Mk, 1, none⟩)) (n - 1) (n - 1)) w ∧ (Instr.sliceAt 24 (.slice (some ⟨Mk, 0, none⟩) n n) (some (.int .i64 1)) none none).events Try.prog w #[] = #[] := by
  have hU : Try.prog.underlying 24 = some (.slice (Try.prog.elem 24)) := by kernel_rfl
  have hi : (1 : Int) ≤ (n : Int) := by omega
  obtain ⟨ie, hie, hq⟩ := Option.map_eq_some_iff.1 info3
  simp only [Prod.mk.injEq] at hq
  have hE : Try.prog.elem 24 = 3 := by kernel_rfl
  have hS : (sizeOf (Try.prog.elem 24)).run Try.prog w = .ok 1 w := by rw [hE]; simp [sizeOf, typeInfo, hie, hq.2.1]
  refine ⟨?_, ?_⟩
  · rw [run_sliceAt_slice w 24 _ _ _ _ hU, run_slice_l w 24 _ n n hU .i64 1 (by omega) hi, hS]
    by_cases e : n = 1
    · simp [Result.andThen, sliced, e]
    · have e2 : ¬ (n = Int.toNat 1) := e
      simp [Result.andThen, sliced, e, Addr.add]
  · simp [Instr.sliceAt, Instr.slice, run_underlying hU, Instr.sliceBounds, Instr.sliceBound, asIntOf, hi, Result.evThen, sizeOf, typeInfo, hE, hie]
noncomputable def body9 : Code := Try.f9.body.getD .skip
noncomputable def L9 : Code := match body9 with | .seq _ (.seq _ (.seq _ (.seq _ (.seq (.seq _ (.block _ (.loop c))) _)))) => c | _ => .skip
noncomputable def E9 : Code := match body9 with | .seq _ (.seq _ (.seq _ (.seq _ (.seq _ c)))) => c | _ => .skip
set_option maxRecDepth 100000 in
set_option maxHeartbeats 2000000 in
theorem FoldI_cb {oa : Option Addr} {n ca fb : Nat} {wk : Int} {xs : Nat → Int} {g : Int → Int → Int} {w : World} (hZ : ∀ c, Z c → c < w.heap.size) (hM : n ≤ 1000000) (hL : Lists w Z oa n xs)
    (hb : ∀ (Z : Nat → Prop) (a b : Int) (w : World), CB fb #[.int .i64 a, .int .i64 b] Z w (fun Z' v w' => Z = Z' ∧ w = w' ∧ v = .int .i64 (g a b))) :
    CB 9 #[.slice oa n ca, .int .i64 wk, .func (.func 10) #[] #[], .func (.func fb) #[] #[]] Z w (fun Z' v w' => Ext Z Z' w w' ∧ v = foldV g n (fun p => xs p)) := by
  refine ⟨Try.f9, body9, Try.func9, by kernel_rfl, rfl, fun Stop b₀ a₀ ops i rest kk cs hnx => ?_⟩
  simp only [body9, Try.f9, Option.getD_some]
  walk_nrm
  rcases Nat.eq_zero_or_pos n with rfl | h0
  · refine BA.seq ?_
    refine BA.reg ?_
    simp only [List.size_toArray, List.length_cons, List.length_nil, Nat.reduceAdd, Nat.zero_add, List.range, List.range.loop]
    refine BA.op rfl rfl (by k_ne) fun w₁ r K hK => ?_
    go_simp
    refine hK _ (fun e he => ?_) ?_
    · have hm := mem_listed he
      simp [go_sem] at hm
    clear hK K r w₁
    refine BA.op rfl rfl (by k_ne) fun w₁ r K hK => ?_
    go_simp
    refine hK _ (fun e he => ?_) ?_
    · have hm := mem_listed he
      simp [go_sem] at hm
    clear hK K r w₁
    refine BA.regEnd ?_
    refine BA.seq ?_
    refine BA.reg ?_
    simp only [List.size_toArray, List.length_cons, List.length_nil, Nat.reduceAdd, Nat.zero_add, List.range, List.range.loop]
    refine BA.op rfl rfl (by k_ne) fun w₁ r K hK => ?_
    go_simp
    refine hK _ (fun e he => ?_) ?_
    · have hm := mem_listed he
      simp [go_sem] at hm
    clear hK K r w₁
    refine BA.op rfl rfl (by k_ne) fun w₁ r K hK => ?_
    go_simp
    refine hK _ (fun e he => ?_) ?_
    · have hm := mem_listed he
      simp [go_sem] at hm
    clear hK K r w₁
    refine BA.op rfl rfl (by k_ne) fun w₁ r K hK => ?_
    go_simp
    refine hK _ (fun e he => ?_) ?_
    · have hm := mem_listed he
      simp [go_sem] at hm
    clear hK K r w₁
    refine BA.call rfl rfl (by k_ne) rfl (by walk_nrm; exact EachId_cb hZ hM hL) fun Z1 v1 w1 hp => ?_
    obtain ⟨hX1, Mk, rfl, hL1⟩ := hp
    walk_nrm
    refine BA.op rfl rfl (by k_ne) fun w₁ r K hK => ?_
    go_simp
    refine hK _ (fun e he => ?_) ?_
    · have hm := mem_listed he
      simp [go_sem] at hm
    clear hK K r w₁
    refine BA.regEnd ?_
    refine BA.seq ?_
    refine BA.seq ?_
    refine BA.reg ?_
    simp only [List.size_toArray, List.length_cons, List.length_nil, Nat.reduceAdd, Nat.zero_add, List.range, List.range.loop]
    refine BA.op rfl rfl (by k_ne) fun w₁ r K hK => ?_
    go_simp
    refine hK _ (fun e he => ?_) ?_
    · have hm := mem_listed he
      simp [go_sem] at hm
    clear hK K r w₁
    refine BA.op rfl rfl (by k_ne) fun w₁ r K hK => ?_
    go_simp
    refine hK _ (fun e he => ?_) ?_
    · have hm := mem_listed he
      simp [go_sem] at hm
    clear hK K r w₁
    refine BA.op rfl rfl (by k_ne) fun w₁ r K hK => ?_
    go_simp
    refine hK _ (fun e he => ?_) ?_
    · have hm := mem_listed he
      simp [go_sem] at hm
    clear hK K r w₁
    refine BA.op rfl rfl (by k_ne) fun w₁ r K hK => ?_
    go_simp
    refine hK _ (fun e he => ?_) ?_
    · have hm := mem_listed he
      simp [go_sem] at hm
    clear hK K r w₁
    refine BA.unwanted rfl rfl ?_
    walk_nrm
    refine BA.unwanted rfl rfl ?_
    walk_nrm
    refine BA.unwanted rfl rfl ?_
    walk_nrm
    refine BA.unwanted rfl rfl ?_
    walk_nrm
    refine BA.unwanted rfl rfl ?_
    walk_nrm
    refine BA.unwanted rfl rfl ?_
    walk_nrm
    refine BA.unwanted rfl rfl ?_
    walk_nrm
    refine BA.op rfl rfl (by k_ne) fun w₁ r K hK => ?_
    go_simp
    refine hK _ (fun e he => ?_) ?_
    · have hm := mem_listed he
      simp [go_sem] at hm
    clear hK K r w₁
    refine BA.regEnd ?_
    refine BA.condT rfl ?_
    refine BA.seq ?_
    refine BA.reg ?_
    simp only [List.size_toArray, List.length_cons, List.length_nil, Nat.zero_add, List.range, List.range.loop]
    refine BA.op rfl rfl (by k_ne) fun w₁ r K hK => ?_
    go_simp
    refine hK _ (fun e he => ?_) ?_
    · have hm := mem_listed he
      simp [go_sem] at hm
    clear hK K r w₁
    refine BA.regEnd ?_
    refine BA.seq ?_
    refine BA.reg ?_
    simp only [List.size_toArray, List.length_cons, List.length_nil, Nat.reduceAdd, Nat.zero_add, List.range, List.range.loop]
    refine BA.op rfl rfl (by k_ne) fun w₁ r K hK => ?_
    go_simp
    refine hK _ (fun e he => ?_) ?_
    · have hm := mem_listed he
      simp [go_sem] at hm
    clear hK K r w₁
    refine BA.op rfl rfl (by k_ne) fun w₁ r K hK => ?_
    go_simp
    refine hK _ (fun e he => ?_) ?_
    · have hm := mem_listed he
      simp [go_sem] at hm
    clear hK K r w₁
    refine BA.op rfl rfl (by k_ne) fun w₁ r K hK => ?_
    go_simp
    refine hK _ (fun e he => ?_) ?_
    · have hm := mem_listed he
      simp [go_sem] at hm
    clear hK K r w₁
    refine BA.regEnd ?_
    refine BA.ret ?_
    refine BA.leave2 Try.func9 rfl ?_
    exact hnx _ _ _ ⟨hX1, by simp [foldV]⟩
  have hn0 : ((n : Int) == 0) = false := by simp; omega
  refine BA.seq ?_
  refine BA.reg ?_
  simp only [List.size_toArray, List.length_cons, List.length_nil, Nat.reduceAdd, Nat.zero_add, List.range, List.range.loop]
  refine BA.op rfl rfl (by k_ne) fun w₁ r K hK => ?_
  go_simp
  refine hK _ (fun e he => ?_) ?_
  · have hm := mem_listed he
    simp [go_sem] at hm
  clear hK K r w₁
  refine BA.op rfl rfl (by k_ne) fun w₁ r K hK => ?_
  go_simp
  refine hK _ (fun e he => ?_) ?_
  · have hm := mem_listed he
    simp [go_sem] at hm
  clear hK K r w₁
  refine BA.regEnd ?_
  refine BA.seq ?_
  refine BA.reg ?_
  simp only [List.size_toArray, List.length_cons, List.length_nil, Nat.reduceAdd, Nat.zero_add, List.range, List.range.loop]
  refine BA.op rfl rfl (by k_ne) fun w₁ r K hK => ?_
  go_simp
  refine hK _ (fun e he => ?_) ?_
  · have hm := mem_listed he
    simp [go_sem] at hm
  clear hK K r w₁
  refine BA.op rfl rfl (by k_ne) fun w₁ r K hK => ?_
  go_simp
  refine hK _ (fun e he => ?_) ?_
  · have hm := mem_listed he
    simp [go_sem] at hm
  clear hK K r w₁
  refine BA.op rfl rfl (by k_ne) fun w₁ r K hK => ?_
  go_simp
  refine hK _ (fun e he => ?_) ?_
  · have hm := mem_listed he
    simp [go_sem] at hm
  clear hK K r w₁
  refine BA.call rfl rfl (by k_ne) rfl (by walk_nrm; exact EachId_cb hZ hM hL) fun Z1 v1 w1 hp => ?_
  obtain ⟨hX1, Mk, rfl, hL1⟩ := hp
  walk_nrm
  obtain ⟨x1, x2, x3⟩ := hL1.el ⟨Mk, 0, none⟩ 0 rfl h0
  rw [show (⟨Mk, 0, none⟩ : Addr).add 0 = ⟨Mk, 0, none⟩ by simp [Addr.add]] at x1 x2 x3
  refine BA.op rfl rfl (by k_ne) fun w₁ r K hK => ?_
  go_simp
  refine hK _ (fun e he => ?_) ?_
  · have hm := mem_listed he
    simp [go_sem] at hm
  clear hK K r w₁
  refine BA.regEnd ?_
  refine BA.seq ?_
  refine BA.seq ?_
  refine BA.reg ?_
  simp only [List.size_toArray, List.length_cons, List.length_nil, Nat.reduceAdd, Nat.zero_add, List.range, List.range.loop]
  refine BA.op rfl rfl (by k_ne) fun w₁ r K hK => ?_
  go_simp
  refine hK _ (fun e he => ?_) ?_
  · have hm := mem_listed he
    simp [go_sem] at hm
  clear hK K r w₁
  refine BA.op rfl rfl (by k_ne) fun w₁ r K hK => ?_
  go_simp
  refine hK _ (fun e he => ?_) ?_
  · have hm := mem_listed he
    simp [go_sem] at hm
  clear hK K r w₁
  refine BA.op rfl rfl (by k_ne) fun w₁ r K hK => ?_
  go_simp
  refine hK _ (fun e he => ?_) ?_
  · have hm := mem_listed he
    simp [go_sem] at hm
  clear hK K r w₁
  refine BA.op rfl rfl (by k_ne) fun w₁ r K hK => ?_
  go_simp
  refine hK _ (fun e he => ?_) ?_
  · have hm := mem_listed he
    simp [go_sem] at hm
  clear hK K r w₁
  refine BA.op rfl rfl (by k_ne) fun w₁ r K hK => ?_
  go_simp
  refine hK _ (fun e he => ?_) ?_
  · have hm := mem_listed he
    simp [go_sem] at hm
  clear hK K r w₁
  refine BA.op rfl rfl (by k_ne) fun w₁ r K hK => ?_
  go_simp
  refine hK _ (fun e he => ?_) ?_
  · have hm := mem_listed he
    simp [go_sem, ev_nil26] at hm
  clear hK K r w₁
  refine BA.op rfl rfl (by k_ne) fun w₁ r K hK => ?_
  go_simp
  refine hK _ (fun e he => ?_) ?_
  · have hm := mem_listed he
    simp [go_sem] at hm
  clear hK K r w₁
  refine BA.unwanted rfl rfl ?_
  walk_nrm
  refine BA.unwanted rfl rfl ?_
  walk_nrm
  refine BA.unwanted rfl rfl ?_
  walk_nrm
  refine BA.op rfl rfl (by k_ne) fun w₁ r K hK => ?_
  go_simp
  refine hK _ (fun e he => ?_) ?_
  · have hm := mem_listed he
    simp [go_sem] at hm
  clear hK K r w₁
  refine BA.op rfl rfl (by k_ne) fun w₁ r K hK => ?_
  go_simp
  refine hK _ (fun e he => ?_) ?_
  · have hm := mem_listed he
    simp [go_sem] at hm
  clear hK K r w₁
  refine BA.regEnd ?_
  refine BA.condF rfl ?_
  refine BA.skip ?_
  refine BA.seq ?_
  refine BA.reg ?_
  simp only [List.size_toArray, List.length_cons, List.length_nil, Nat.reduceAdd, Nat.zero_add, List.range, List.range.loop]
  refine BA.op rfl rfl (by k_ne) fun w₁ r K hK => ?_
  go_simp
  refine hK _ (fun e he => ?_) ?_
  · have hm := mem_listed he
    simp [go_sem] at hm
  clear hK K r w₁
  refine BA.op rfl rfl (by k_ne) fun w₁ r K hK => ?_
  go_simp
  refine hK _ (fun e he => ?_) ?_
  · have hm := mem_listed he
    simp [go_sem, h0] at hm
  clear hK K r w₁
  refine BA.op rfl rfl (by k_ne) fun w₁ r K hK => ?_
  have hcell := cell_atR r (x1)
  go_simp
  refine hK _ (fun e he => ?_) ?_
  · have hm := mem_listed he
    simp [go_sem, hcell] at hm
    subst hm
    exact evC_cell false (x3)
  clear hcell hK K r w₁
  refine BA.op rfl rfl (by k_ne) fun w₁ r K hK => ?_
  go_simp
  refine hK _ (fun e he => ?_) ?_
  · have hm := mem_listed he
    simp [go_sem] at hm
  clear hK K r w₁
  refine BA.regEnd ?_
  refine BA.seq ?_
  refine BA.seq ?_
  refine BA.reg ?_
  simp only [List.size_toArray, List.length_cons, List.length_nil, Nat.reduceAdd, Nat.zero_add, List.range, List.range.loop]
  refine BA.op rfl rfl (by k_ne) fun w₁ r K hK => ?_
  go_simp
  refine hK _ (fun e he => ?_) ?_
  · have hm := mem_listed he
    simp [go_sem] at hm
  clear hK K r w₁
  have hn1 : (1 : Int) ≤ (n : Int) := by omega
  have key : ∀ (s1 : Value) (j0 : Nat), j0 = n - 1 → (∀ q, q < j0 → ∃ a, s1 = .slice (some a) j0 j0 ∧ w1.cell? (a.add q) = some (.int .i64 (xs (q + 1))) ∧ ¬ Z1 (a.add q).block) → ∀ (j k : Nat), j + k = j0 → ∀ u4 u5 u6 u7 u10 u11 u13 u14 u15 u16 u17 u18 u19 u20 u21 u22 u23 u24 u25 u26 u27 u28 u29 u30 u31 u32 u33 u34 u35 u39 u40 u41 u42 u43 u44 u45 u46 u47 : Value, BA Stop Z1 (G ((base 9).at ⟨#[.slice oa n ca, .int .i64 wk, .func (.func 10) #[] #[], .func (.func fb) #[] #[], u4, u5, u6, u7, .int .i64 0, .bool false, u10, u11, .int .i64 (foldN g (fun p => xs p) k), u13, u14, u15, u16, u17, u18, u19, u20, u21, u22, u23, u24, u25, u26, u27, u28, u29, u30, u31, u32, u33, u34, u35, s1, .int .i64 (j0 : Nat), .int .i64 (k : Nat), u39, u40, u41, u42, u43, u44, u45, u46, u47], []⟩ [.code L9, .inLoop L9, .inBlock 0, .code E9]) (b₀.at a₀ (.inRegion ops (i :: rest) :: kk) :: cs)) w1 := by
    intro s1 j0 hj hs1 j
    have hJ := Go.Lib.hid hj
    clear hj
    induction j with
    | zero =>
      intro k hk u4 u5 u6 u7 u10 u11 u13 u14 u15 u16 u17 u18 u19 u20 u21 u22 u23 u24 u25 u26 u27 u28 u29 u30 u31 u32 u33 u34 u35 u39 u40 u41 u42 u43 u44 u45 u46 u47
      obtain rfl : k = j0 := by omega
      simp only [L9, E9, body9, Try.f9, Option.getD_some]
      refine BA.seq ?_
      refine BA.reg ?_
      simp only [List.size_toArray, List.length_cons, List.length_nil, Nat.zero_add, List.range, List.range.loop]
      refine BA.op rfl rfl (by k_ne) fun w₁ r K hK => ?_
      go_simp
      refine hK _ (fun e he => ?_) ?_
      · have hm := mem_listed he
        simp [go_sem] at hm
      clear hK K r w₁
      refine BA.regEnd ?_
      refine BA.seq ?_
      refine BA.condF rfl ?_
      refine BA.exit rfl ?_
      refine BA.seq ?_
      refine BA.reg ?_
      simp only [List.size_toArray, List.length_cons, List.length_nil, Nat.reduceAdd, Nat.zero_add, List.range, List.range.loop]
      refine BA.op rfl rfl (by k_ne) fun w₁ r K hK => ?_
      go_simp
      refine hK _ (fun e he => ?_) ?_
      · have hm := mem_listed he
        simp [go_sem] at hm
      clear hK K r w₁
      refine BA.op rfl rfl (by k_ne) fun w₁ r K hK => ?_
      go_simp
      refine hK _ (fun e he => ?_) ?_
      · have hm := mem_listed he
        simp [go_sem] at hm
      clear hK K r w₁
      refine BA.op rfl rfl (by k_ne) fun w₁ r K hK => ?_
      go_simp
      refine hK _ (fun e he => ?_) ?_
      · have hm := mem_listed he
        simp [go_sem] at hm
      clear hK K r w₁
      refine BA.regEnd ?_
      refine BA.ret ?_
      refine BA.leave2 Try.func9 rfl ?_
      exact hnx _ _ _ ⟨hX1, by simp [foldV, h0, ← hJ.out]; omega⟩
    | succ j ih =>
      intro k hk u4 u5 u6 u7 u10 u11 u13 u14 u15 u16 u17 u18 u19 u20 u21 u22 u23 u24 u25 u26 u27 u28 u29 u30 u31 u32 u33 u34 u35 u39 u40 u41 u42 u43 u44 u45 u46 u47
      have hlt : k < j0 := by omega
      have hlt' : (k : Int) < (j0 : Int) := by omega
      obtain ⟨a1, es1, x1, x3⟩ := hs1 k hlt
      have hS1 := Go.Lib.hid es1.symm
      clear es1
      have hwr : IntKind.i64.wrap ((k : Int) + 1) = ((k + 1 : Nat) : Int) := by have := hJ.out; unfold IntKind.wrap; simp [IntKind.bits, IntKind.signed]; omega
      simp only [L9, E9, body9, Try.f9, Option.getD_some]
      refine BA.seq ?_
      refine BA.reg ?_
      simp only [List.size_toArray, List.length_cons, List.length_nil, Nat.zero_add, List.range, List.range.loop]
      refine BA.op rfl rfl (by k_ne) fun w₁ r K hK => ?_
      go_simp
      refine hK _ (fun e he => ?_) ?_
      · have hm := mem_listed he
        simp [go_sem] at hm
      clear hK K r w₁
      refine BA.regEnd ?_
      refine BA.seq ?_
      refine BA.condT rfl ?_
      refine BA.skip ?_
      refine BA.seq ?_
      refine BA.block ?_
      refine BA.seq ?_
      refine BA.reg ?_
      simp only [List.size_toArray, List.length_cons, List.length_nil, Nat.reduceAdd, Nat.zero_add, List.range, List.range.loop]
      rw [← hS1.out]
      refine BA.op rfl rfl (by k_ne) fun w₁ r K hK => ?_
      go_simp
      refine hK _ (fun e he => ?_) ?_
      · have hm := mem_listed he
        simp [go_sem, hlt] at hm
      clear hK K r w₁
      rw [hS1.out]
      refine BA.op rfl rfl (by k_ne) fun w₁ r K hK => ?_
      have hcell := cell_atR r (x1)
      go_simp
      refine hK _ (fun e he => ?_) ?_
      · have hm := mem_listed he
        simp [go_sem, hcell] at hm
        subst hm
        exact evC_cell false (x3)
      clear hcell hK K r w₁
      refine BA.op rfl rfl (by k_ne) fun w₁ r K hK => ?_
      go_simp
      refine hK _ (fun e he => ?_) ?_
      · have hm := mem_listed he
        simp [go_sem] at hm
      clear hK K r w₁
      refine BA.regEnd ?_
      refine BA.reg ?_
      simp only [List.size_toArray, List.length_cons, List.length_nil, Nat.reduceAdd, Nat.zero_add, List.range, List.range.loop]
      refine BA.op rfl rfl (by k_ne) fun w₁ r K hK => ?_
      go_simp
      refine hK _ (fun e he => ?_) ?_
      · have hm := mem_listed he
        simp [go_sem] at hm
      clear hK K r w₁
      refine BA.op rfl rfl (by k_ne) fun w₁ r K hK => ?_
      go_simp
      refine hK _ (fun e he => ?_) ?_
      · have hm := mem_listed he
        simp [go_sem] at hm
      clear hK K r w₁
      refine BA.op rfl rfl (by k_ne) fun w₁ r K hK => ?_
      go_simp
      refine hK _ (fun e he => ?_) ?_
      · have hm := mem_listed he
        simp [go_sem] at hm
      clear hK K r w₁
      refine BA.callV rfl rfl (by k_ne) rfl rfl (by walk_nrm; exact hb _ _ _ _) fun Z2 v2 w2 hp => ?_
      obtain ⟨rfl, rfl, rfl⟩ := hp
      walk_nrm
      refine BA.op rfl rfl (by k_ne) fun w₁ r K hK => ?_
      go_simp
      refine hK _ (fun e he => ?_) ?_
      · have hm := mem_listed he
        simp [go_sem] at hm
      clear hK K r w₁
      refine BA.regEnd ?_
      refine BA.inBlock ?_
      refine BA.reg ?_
      simp only [List.size_toArray, List.length_cons, List.length_nil, Nat.reduceAdd, Nat.zero_add, List.range, List.range.loop]
      refine BA.op rfl rfl (by k_ne) fun w₁ r K hK => ?_
      go_simp
      refine hK _ (fun e he => ?_) ?_
      · have hm := mem_listed he
        simp [go_sem] at hm
      clear hK K r w₁
      refine BA.op rfl rfl (by k_ne) fun w₁ r K hK => ?_
      go_simp
      refine hK _ (fun e he => ?_) ?_
      · have hm := mem_listed he
        simp [go_sem] at hm
      clear hK K r w₁
      refine BA.regEnd ?_
      refine BA.inLoop ?_
      exact ih (k + 1) (by omega) _ _ _ _ _ _ _ _ _ _ _ _ _ _ _ _ _ _ _ _ _ _ _ _ _ _ _ _ _ _ _ _ _ _ _ _ _ _
  refine BA.value (v := .slice (some (if n = 1 then ⟨Mk, 0, none⟩ else ⟨Mk, 1, none⟩)) (n - 1) (n - 1)) (w' := w1) rfl rfl (by k_ne) (fun d => by unfold execOp; simp [go_sem, (slice1I Mk n h0 (w1.at d)).1]) (fun d e he => ?_) ?_
  · unfold execOp at he
    simp [go_sem, (slice1I Mk n h0 (w1.at d)).2] at he
  obtain ⟨N1, hN1⟩ : ∃ N, N = n - 1 := ⟨_, rfl⟩
  rw [← hN1]
  have HN := Go.Lib.hid hN1
  clear hN1
  walk_nrm
  refine BA.op rfl rfl (by k_ne) fun w₁ r K hK => ?_
  go_simp
  refine hK _ (fun e he => ?_) ?_
  · have hm := mem_listed he
    simp [go_sem] at hm
  clear hK K r w₁
  refine BA.op rfl rfl (by k_ne) fun w₁ r K hK => ?_
  go_simp
  refine hK _ (fun e he => ?_) ?_
  · have hm := mem_listed he
    simp [go_sem] at hm
  clear hK K r w₁
  refine BA.regEnd ?_
  refine BA.block ?_
  refine BA.loop ?_
  obtain ⟨S1, hS1⟩ : ∃ S, S = Value.slice (some (if n = 1 then ⟨Mk, 0, none⟩ else ⟨Mk, 1, none⟩)) N1 N1 := ⟨_, rfl⟩
  rw [← hS1]
  have HS := Go.Lib.hid hS1
  clear hS1
  have hel : ∀ q, q < N1 → ∃ a, S1 = .slice (some a) N1 N1 ∧ w1.cell? (a.add q) = some (.int .i64 (xs (q + 1))) ∧ ¬ Z1 (a.add q).block := fun q hq => by
    have hn2 : n ≠ 1 := by have := HN.out; omega
    obtain ⟨y1, y2, y3⟩ := hL1.el ⟨Mk, 0, none⟩ (q + 1) rfl (by have := HN.out; omega)
    have hadd : (⟨Mk, 1, none⟩ : Addr).add q = (⟨Mk, 0, none⟩ : Addr).add (q + 1) := by
      rw [show (⟨Mk, 0, none⟩ : Addr).add (q + 1) = ⟨Mk, q + 1, none⟩ by simp [Addr.add]]
      by_cases hq0 : q = 0
      · subst hq0
        simp [Addr.add]
      · simp [Addr.add, hq0]
        omega
    refine ⟨⟨Mk, 1, none⟩, by rw [HS.out, if_neg hn2], ?_, ?_⟩
    · rw [hadd]; exact y1
    · rw [hadd]; exact y3
  exact key S1 N1 HN.out hel N1 0 (by omega) _ _ _ _ _ _ _ _ _ _ _ _ _ _ _ _ _ _ _ _ _ _ _ _ _ _ _ _ _ _ _ _ _ _ _ _ _ _
end
end AtInt
end Go.Proofs.Ytbckmkppmdfnnaa.Crew
