/- crew: Each's closure in company: it stores what it has made. Made by wip/tools/crew/mkAb.py. -/
import Derived.Test.YtbckmkppmdfnnaaCrAa
namespace Go.Proofs.Ytbckmkppmdfnnaa.Crew
open Go.Conc Go.RowKit Go.Conc.Lib Go.ConcR.Gen Go.Proofs.Ytbckmkppmdfnnaa.QT
section
variable {main : Bool} {R : World → World → Prop} {D : World → World → Array Event → Prop} {Rd : Addr → Prop}
structure At34 (J : World → Prop) (ib tb mb : Nat) (iv : Value) (a0 ma : Addr) (len cap p : Nat) (x : Int) (MC : World → Prop) (w : World) : Prop where
  j : J w
  i : w.cell? ⟨ib, 0, none⟩ = some iv
  t : w.cell? ⟨tb, 0, none⟩ = some (.slice (some a0) len cap)
  m : w.cell? ⟨mb, 0, none⟩ = some (.slice (some ma) len len)
  e : w.cell? (a0.add p) = some (.int .i64 x)
  c : MC w
def F34 (iv : Value) (a0 ma : Addr) (len cap p : Nat) (x y : Int) (DN : World → Prop) (i : Nat) (v : Value) (w : World) : Prop :=
  match i with
  | 0 => v = .slice (some ma) len len
  | 1 => v = .int .i64 (p : Nat)
  | 2 => v = iv
  | 3 => v = .slice (some a0) len cap
  | 4 => v = .int .i64 (p : Nat)
  | 5 => v = .pointer (some (a0.add p))
  | 6 => v = .int .i64 x
  | 7 => v = .int .i64 y
  | 8 => v = .pointer (some (ma.add p))
  | _ => DN w
set_option maxRecDepth 100000 in
theorem each1_c (E : Env R D Rd) {J : World → Prop} (hJ : ∀ w w₁, R w w₁ → J w → J w₁) {ib tb mb : Nat} (hi : Fast R Rd ⟨ib, 0, none⟩) (ht : Fast R Rd ⟨tb, 0, none⟩) (hm : Fast R Rd ⟨mb, 0, none⟩) {iv : Value} {ψ : Int → Int} {n : Nat}
    (hiv : FunC main R D J iv (fun x => .int .i64 (ψ x)) n) {a0 ma : Addr} {len cap p : Nat} {x y : Int} (hy : ψ x = y) (he : Fast R Rd (a0.add p)) (hp : p < len) {MC DN : World → Prop} (hMK : ∀ w w₁, R w w₁ → MC w → MC w₁) (hDK : ∀ w w₁, R w w₁ → DN w → DN w₁)
    (hMC : ∀ w, MC w → ∃ u, w.cell? (ma.add p) = some u ∧ w.frozen? (ma.add p) = false)
    (hset : ∀ w, MC w → R w (w.setCell (ma.add p) (.int .i64 y)) ∧ D w (w.setCell (ma.add p) (.int .i64 y)) #[⟨.cell (ma.add p), true, false⟩] ∧ DN (w.setCell (ma.add p) (.int .i64 y))) :
    ∀ w, At34 J ib tb mb iv a0 ma len cap p x MC w → CallsV Try.prog main R D (.func (.func 34) #[] #[.pointer (some ⟨ib, 0, none⟩), .pointer (some ⟨tb, 0, none⟩), .pointer (some ⟨mb, 0, none⟩)]) #[.int .i64 (p : Nat)] ((n + 3) * 10 + 30) w (fun v w' => v = .bool false ∧ R w w' ∧ DN w') := by
  subst hy
  obtain ⟨y, hy⟩ : ∃ y, y = ψ x := ⟨_, rfl⟩
  rw [← hy] at hset
  intro w hA
  refine ⟨34, _, rfl, callsC_of_wpC Try.func34 (by kernel_rfl) rfl ?_⟩
  intro b kk cs Stop m hb hke hc
  have T := E.T
  obtain ⟨w0, hw0⟩ : ∃ w0, w0 = w := ⟨w, rfl⟩
  have hF : At34 J ib tb mb iv a0 ma len cap p x MC w ∧ R w0 w := ⟨hA, by rw [hw0]; exact E.refl w⟩
  rw [← hw0] at hc
  clear hw0 hA
  have rl : ∀ {w w₁ : World}, At34 J ib tb mb iv a0 ma len cap p x MC w ∧ R w0 w → R w w₁ → At34 J ib tb mb iv a0 ma len cap p x MC w₁ ∧ R w0 w₁ := fun h r =>
    ⟨⟨hJ _ _ r h.1.j, hi.keep _ _ _ r h.1.i, ht.keep _ _ _ r h.1.t, hm.keep _ _ _ r h.1.m, he.keep _ _ _ r h.1.e, hMK _ _ r h.1.c⟩, T.trans _ _ _ h.2 r⟩
  refine Goes.mono (n := ((m + 9) + (n + 3) * 10 + 1) + 15) ?_ (by omega)
  simp only [Try.f34]
  walk_nrm
  refine Goes.step rfl (fun _ h₁ => ?_)
  replace hF := rl hF h₁
  clear h₁
  rw [stepG_seq]
  simp only [goes_go]
  refine ⟨T.idle _, ?_⟩
  refine Goes.step rfl (fun _ h₁ => ?_)
  replace hF := rl hF h₁
  clear h₁
  rw [stepG_region]
  simp only [goes_go, List.size_toArray, List.length_cons, List.length_nil, Nat.zero_add, List.range, List.range.loop]
  refine ⟨T.idle _, ?_⟩
  refine Goes.step rfl (fun _ h₁ => ?_)
  replace hF := rl hF h₁
  clear h₁
  refine goes_oper_k rfl rfl (by k_ne) (fun κ hκ => ?_)
  go_simp
  refine hκ _ _ ⟨idle_of T (fun e he => ?_), ?_⟩
  · have hm := mem_listed he
    simp [go_sem, *] at hm
  clear hκ κ
  refine Goes.step rfl (fun _ h₁ => ?_)
  replace hF := rl hF h₁
  clear h₁
  rw [stepG_region_end]
  simp only [goes_go]
  refine ⟨T.idle _, ?_⟩
  refine Goes.step rfl (fun _ h₁ => ?_)
  replace hF := rl hF h₁
  clear h₁
  rw [stepG_seq]
  simp only [goes_go]
  refine ⟨T.idle _, ?_⟩
  refine Goes.mono (n := (m + 9) + (n + 3) * 10 + 1) (goes_region_facts (c := n + 3) (m := m + 9) E.draw follows (fun w => At34 J ib tb mb iv a0 ma len cap p x MC w ∧ R w0 w) (F34 iv a0 ma len cap p x y DN) R (by kernel_rfl) (show dstsO _ 15 = true by kernel_rfl)
    (fun w₁ r => ?_) (fun w w' h r => rl h r) (fun i v w w' h r => ?_) ?_ ?_ ?_) (by omega)
  · exact rl (rl hF r) (E.step _)
  · rcases i with _ | _ | _ | _ | _ | _ | _ | _ | _ | i
    all_goals first | exact hDK _ _ r h | exact h
  · intro i o hio a w rest m' hI hag hdep hnext hn
    rcases i with _ | _ | _ | _ | _ | _ | _ | _ | _ | _ | i <;> simp at hio <;> subst hio
    · have e3 : a.tmps[3]? = some (.pointer (some ⟨mb, 0, none⟩)) := (hag.same 3 (by simp)).trans rfl
      refine Goes.mono (n := m' + 1) (Goes.step rfl fun w₁ r₁ => ?_) (by omega)
      have hI1 := rl hI r₁
      rw [stepG_value (v := .slice (some ma) len len) (w' := w₁) rfl rfl hke (by unfold execOp; simp [go_sem, e3, hI1.1.m])]
      simp only [goes_go]
      refine ⟨E.read _ _ fun e he' => (by have hm := mem_listed he'; unfold execOp at hm; simp [go_sem, e3, hI1.1.m] at hm; subst hm; exact ⟨_, hm.rd, rfl⟩), hnext _ _ rfl r₁⟩
    · have e0 : a.tmps[0]? = some (.int .i64 (p : Nat)) := (hag.same 0 (by simp)).trans rfl
      refine Goes.mono (n := m' + 1) (Goes.step rfl fun w₁ r₁ => ?_) (by omega)
      have hI1 := rl hI r₁
      rw [stepG_value (v := .int .i64 (p : Nat)) (w' := w₁) rfl rfl hke (by unfold execOp; simp [go_sem, e0])]
      simp only [goes_go]
      refine ⟨idle_of T fun e he' => (by have hm := mem_listed he'; unfold execOp at hm; simp [go_sem, e0] at hm), hnext _ _ rfl r₁⟩
    · have e1 : a.tmps[1]? = some (.pointer (some ⟨ib, 0, none⟩)) := (hag.same 1 (by simp)).trans rfl
      refine Goes.mono (n := m' + 1) (Goes.step rfl fun w₁ r₁ => ?_) (by omega)
      have hI1 := rl hI r₁
      rw [stepG_value (v := iv) (w' := w₁) rfl rfl hke (by unfold execOp; simp [go_sem, e1, hI1.1.i])]
      simp only [goes_go]
      refine ⟨E.read _ _ fun e he' => (by have hm := mem_listed he'; unfold execOp at hm; simp [go_sem, e1, hI1.1.i] at hm; subst hm; exact ⟨_, hi.rd, rfl⟩), hnext _ _ rfl r₁⟩
    · have e2 : a.tmps[2]? = some (.pointer (some ⟨tb, 0, none⟩)) := (hag.same 2 (by simp)).trans rfl
      refine Goes.mono (n := m' + 1) (Goes.step rfl fun w₁ r₁ => ?_) (by omega)
      have hI1 := rl hI r₁
      rw [stepG_value (v := .slice (some a0) len cap) (w' := w₁) rfl rfl hke (by unfold execOp; simp [go_sem, e2, hI1.1.t])]
      simp only [goes_go]
      refine ⟨E.read _ _ fun e he' => (by have hm := mem_listed he'; unfold execOp at hm; simp [go_sem, e2, hI1.1.t] at hm; subst hm; exact ⟨_, ht.rd, rfl⟩), hnext _ _ rfl r₁⟩
    · have e0 : a.tmps[0]? = some (.int .i64 (p : Nat)) := (hag.same 0 (by simp)).trans rfl
      refine Goes.mono (n := m' + 1) (Goes.step rfl fun w₁ r₁ => ?_) (by omega)
      have hI1 := rl hI r₁
      rw [stepG_value (v := .int .i64 (p : Nat)) (w' := w₁) rfl rfl hke (by unfold execOp; simp [go_sem, e0])]
      simp only [goes_go]
      refine ⟨idle_of T fun e he' => (by have hm := mem_listed he'; unfold execOp at hm; simp [go_sem, e0] at hm), hnext _ _ rfl r₁⟩
    · have r9 : a.eval (.tmp 9) = .slice (some a0) len cap := hdep ⟨3, .data⟩ (by simp) (by decide) _ rfl
      have e9 : a.tmps[9]?.getD undef = .slice (some a0) len cap := by simpa [Act.eval] using r9
      have r10 : a.eval (.tmp 10) = .int .i64 (p : Nat) := hdep ⟨4, .data⟩ (by simp) (by decide) _ rfl
      have e10 : a.tmps[10]?.getD undef = .int .i64 (p : Nat) := by simpa [Act.eval] using r10
      refine Goes.mono (n := m' + 1) (Goes.step rfl fun w₁ r₁ => ?_) (by omega)
      have hI1 := rl hI r₁
      rw [stepG_value (v := .pointer (some (a0.add p))) (w' := w₁) rfl rfl hke (by unfold execOp; simp [go_sem, e9, e10, hp])]
      simp only [goes_go]
      refine ⟨idle_of T fun e he' => (by have hm := mem_listed he'; unfold execOp at hm; simp [go_sem, e9, e10, hp] at hm), hnext _ _ rfl r₁⟩
    · have r11 : a.eval (.tmp 11) = .pointer (some (a0.add p)) := hdep ⟨5, .data⟩ (by simp) (by decide) _ rfl
      have e11 : a.tmps[11]?.getD undef = .pointer (some (a0.add p)) := by simpa [Act.eval] using r11
      refine Goes.mono (n := m' + 1) (Goes.step rfl fun w₁ r₁ => ?_) (by omega)
      have hI1 := rl hI r₁
      rw [stepG_value (v := .int .i64 x) (w' := w₁) rfl rfl hke (by unfold execOp; simp [go_sem, e11, hI1.1.e])]
      simp only [goes_go]
      refine ⟨E.read _ _ fun e he' => (by have hm := mem_listed he'; unfold execOp at hm; simp [go_sem, e11, hI1.1.e] at hm; subst hm; exact ⟨_, he.rd, rfl⟩), hnext _ _ rfl r₁⟩
    · have r8 : a.eval (.tmp 8) = iv := hdep ⟨2, .data⟩ (by simp) (by decide) _ rfl
      have e8 : a.tmps[8]?.getD undef = iv := by simpa [Act.eval] using r8
      have r12 : a.eval (.tmp 12) = .int .i64 x := hdep ⟨6, .data⟩ (by simp) (by decide) _ rfl
      have e12 : a.tmps[12]?.getD undef = .int .i64 x := by simpa [Act.eval] using r12
      refine Goes.mono (n := m' + n + 3) (Goes.callV T rfl rfl hke rfl (by rw [r8]; simpa [Act.eval, e12] using hiv x w hI.1.j) fun v w' hq => ?_) (by omega)
      exact hnext _ _ (hq.1.trans (congrArg (Value.int .i64) hy.symm)) hq.2
    · have r6 : a.eval (.tmp 6) = .slice (some ma) len len := hdep ⟨0, .data⟩ (by simp) (by decide) _ rfl
      have e6 : a.tmps[6]?.getD undef = .slice (some ma) len len := by simpa [Act.eval] using r6
      have r7 : a.eval (.tmp 7) = .int .i64 (p : Nat) := hdep ⟨1, .data⟩ (by simp) (by decide) _ rfl
      have e7 : a.tmps[7]?.getD undef = .int .i64 (p : Nat) := by simpa [Act.eval] using r7
      refine Goes.mono (n := m' + 1) (Goes.step rfl fun w₁ r₁ => ?_) (by omega)
      have hI1 := rl hI r₁
      rw [stepG_value (v := .pointer (some (ma.add p))) (w' := w₁) rfl rfl hke (by unfold execOp; simp [go_sem, e6, e7, hp])]
      simp only [goes_go]
      refine ⟨idle_of T fun e he' => (by have hm := mem_listed he'; unfold execOp at hm; simp [go_sem, e6, e7, hp] at hm), hnext _ _ rfl r₁⟩
    · have r14 : a.eval (.tmp 14) = .pointer (some (ma.add p)) := hdep ⟨8, .data⟩ (by simp) (by decide) _ rfl
      have e14 : a.tmps[14]?.getD undef = .pointer (some (ma.add p)) := by simpa [Act.eval] using r14
      have r13 : a.eval (.tmp 13) = .int .i64 y := hdep ⟨7, .data⟩ (by simp) (by decide) _ rfl
      have e13 : a.tmps[13]?.getD undef = .int .i64 y := by simpa [Act.eval] using r13
      refine Goes.mono (n := m' + 1) (Goes.step rfl fun w₁ r₁ => ?_) (by omega)
      have hI1 := rl hI r₁
      obtain ⟨u, hu, hz⟩ := hMC _ hI1.1.c
      obtain ⟨s1, s2, s3⟩ := hset _ hI1.1.c
      rw [stepG_none (w' := w₁.setCell (ma.add p) (.int .i64 y)) rfl rfl hke (by unfold execOp; simp [go_sem, stored, e14, e13, hu, hz])]
      simp only [goes_go]
      refine ⟨?_, hnext undef _ s3 (T.trans _ _ _ r₁ s1)⟩
      refine (show ∀ es, es = #[⟨.cell (ma.add p), true, false⟩] → D w₁ (w₁.setCell (ma.add p) (.int .i64 y)) es from fun es h => h ▸ s2) _ ?_
      refine Eq.trans (congrArg (seen Try.prog b.fn) (a₂ := #[⟨.cell (ma.add p), true, false⟩]) ?_) (seen_eq (by rw [hb]; kernel_rfl) (by simp))
      unfold execOp
      simp [go_sem, storedEv, e14, e13, hu, hz]
  · intro i o v w hio hn h
    rcases i with _ | _ | _ | _ | _ | _ | _ | _ | _ | _ | i <;> simp at hio <;> subst hio <;> first | exact h | simp at hn
  · intro a w hI hag hall
    have hdn : DN w := hall 9 _ rfl
    have hd : a.defers = [] := hag.defers
    replace hI : (At34 J ib tb mb iv a0 ma len cap p x MC w ∧ R w0 w) ∧ DN w := ⟨hI, hdn⟩
    clear hdn hall
    have rl' : ∀ {w w₁ : World}, (At34 J ib tb mb iv a0 ma len cap p x MC w ∧ R w0 w) ∧ DN w → R w w₁ → (At34 J ib tb mb iv a0 ma len cap p x MC w₁ ∧ R w0 w₁) ∧ DN w₁ := fun h r => ⟨rl h.1 r, hDK _ _ r h.2⟩
    refine Goes.step rfl (fun _ h₁ => ?_)
    replace hI := rl' hI h₁
    clear h₁
    rw [stepG_region_end]
    simp only [goes_go]
    refine ⟨T.idle _, ?_⟩
    refine Goes.step rfl (fun _ h₁ => ?_)
    replace hI := rl' hI h₁
    clear h₁
    rw [stepG_seq]
    simp only [goes_go]
    refine ⟨T.idle _, ?_⟩
    refine Goes.step rfl (fun _ h₁ => ?_)
    replace hI := rl' hI h₁
    clear h₁
    rw [stepG_region]
    simp only [goes_go, List.size_toArray, List.length_cons, List.length_nil, Nat.zero_add, List.range, List.range.loop]
    refine ⟨T.idle _, ?_⟩
    refine Goes.step rfl (fun _ h₁ => ?_)
    replace hI := rl' hI h₁
    clear h₁
    refine goes_oper_k rfl rfl (by k_ne) (fun κ hκ => ?_)
    go_simp
    refine hκ _ _ ⟨idle_of T (fun e he => ?_), ?_⟩
    · have hm := mem_listed he
      simp [go_sem, *] at hm
    clear hκ κ
    refine Goes.step rfl (fun _ h₁ => ?_)
    replace hI := rl' hI h₁
    clear h₁
    rw [stepG_region_end]
    simp only [goes_go]
    refine ⟨T.idle _, ?_⟩
    refine Goes.step rfl (fun _ h₁ => ?_)
    replace hI := rl' hI h₁
    clear h₁
    rw [stepG_ret']
    simp only [goes_go]
    refine ⟨T.idle _, ?_⟩
    exact Goes.mono (n := m) (hc .ret _ _ ⟨rfl, _, resultsC_tmp rfl _, by have hs : a.tmps.size = 15 := hag.size; simp [hs], hI.1.2, hI.2⟩ _) (by omega)
end
end Go.Proofs.Ytbckmkppmdfnnaa.Crew
