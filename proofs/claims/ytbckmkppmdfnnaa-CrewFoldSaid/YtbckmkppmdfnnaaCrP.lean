/- crew: First's closure in company: a region that draws its order, with a call inside. -/
import Derived.Test.YtbckmkppmdfnnaaCrO
namespace Go.Proofs.Ytbckmkppmdfnnaa.Crew
open Go.Conc Go.RowKit Go.Conc.Lib Go.ConcR.Gen Go.Proofs.Ytbckmkppmdfnnaa.QT
section
variable {main : Bool} {R : World → World → Prop} {D : World → World → Array Event → Prop} {Rd : Addr → Prop}
theorem follows : Try.prog.follows .mixedOrders = true := by kernel_rfl
noncomputable def ops30 : List Oper := match Try.f30.body.getD .skip with | .seq _ (.seq (.region _ ops _) _) => ops.toList | _ => []
theorem agree_eval {l : List Oper} {a0 a : Act} (h : Agrees l a0 a) (t : Tmp) (ht : ∀ o ∈ l, o.dst ≠ some t) {v : Value} (hv : a0.tmps[t]? = some v) : a.eval (.tmp t) = v := by
  simp [Act.eval, h.same t ht, hv]
/-- What stands around First's closure. -/
structure At30 (J : World → Prop) (ib tb : Nat) (iv : Value) (a0 : Addr) (len cap p : Nat) (x : Int) (w : World) : Prop where
  j : J w
  i : w.cell? ⟨ib, 0, none⟩ = some iv
  t : w.cell? ⟨tb, 0, none⟩ = some (.slice (some a0) len cap)
  e : w.cell? (a0.add p) = some (.int .i64 x)
def F30 (iv : Value) (a0 : Addr) (len cap p : Nat) (x : Int) (r : Bool) (i : Nat) (v : Value) : Prop :=
  match i with
  | 0 => v = iv
  | 1 => v = .slice (some a0) len cap
  | 2 => v = .int .i64 (p : Nat)
  | 3 => v = .pointer (some (a0.add p))
  | 4 => v = .int .i64 x
  | _ => v = .bool r
set_option maxRecDepth 100000 in
theorem first1_c (E : Env R D Rd) {J : World → Prop} (hJ : ∀ w w₁, R w w₁ → J w → J w₁) {ib tb : Nat} (hi : Fast R Rd ⟨ib, 0, none⟩) (ht : Fast R Rd ⟨tb, 0, none⟩) {iv : Value} {φ : Int → Bool} {n : Nat}
    (hiv : FunC main R D J iv (fun x => .bool (φ x)) n) {a0 : Addr} {len cap p : Nat} {x : Int} (he : Fast R Rd (a0.add p)) (hp : p < len) :
    ∀ w, At30 J ib tb iv a0 len cap p x w → CallsV Try.prog main R D (.func (.func 30) #[] #[.pointer (some ⟨ib, 0, none⟩), .pointer (some ⟨tb, 0, none⟩)]) #[.int .i64 (p : Nat)] ((n + 3) * 7 + 20) w (fun v w' => v = .bool (φ x) ∧ R w w') := by
  intro w hA
  refine ⟨30, _, rfl, callsC_of_wpC Try.func30 (by kernel_rfl) rfl ?_⟩
  intro b kk cs Stop m hb hke hc
  have T := E.T
  obtain ⟨w0, hw0⟩ : ∃ w0, w0 = w := ⟨w, rfl⟩
  have hF : At30 J ib tb iv a0 len cap p x w ∧ R w0 w := ⟨hA, by rw [hw0]; exact E.refl w⟩
  rw [← hw0] at hc
  clear hw0 hA
  have rl : ∀ {w w₁ : World}, At30 J ib tb iv a0 len cap p x w ∧ R w0 w → R w w₁ → At30 J ib tb iv a0 len cap p x w₁ ∧ R w0 w₁ := fun h r =>
    ⟨⟨hJ _ _ r h.1.j, hi.keep _ _ _ r h.1.i, ht.keep _ _ _ r h.1.t, he.keep _ _ _ r h.1.e⟩, T.trans _ _ _ h.2 r⟩
  refine Goes.mono (n := (m + (n + 3) * 7 + 4) + 15) ?_ (by omega)
  simp only [Try.f30]
  walk_nrm
  refine Goes.step rfl (fun _ h₁ => ?_)
  replace hF := rl hF h₁
  clear h₁
  rw [stepG_seq]
  simp only [goes_go]
  refine ⟨T.idle _, ?_⟩
  refine Goes.step rfl (fun _ h₁ => ?_)
  replace hF := rl hF h₁
  clear h₁
  rw [stepG_region]
  simp only [goes_go, List.size_toArray, List.length_cons, List.length_nil, Nat.zero_add, List.range, List.range.loop]
  refine ⟨T.idle _, ?_⟩
  refine Goes.step rfl (fun _ h₁ => ?_)
  replace hF := rl hF h₁
  clear h₁
  refine goes_oper_k rfl rfl (by k_ne) (fun κ hκ => ?_)
  go_simp
  refine hκ _ _ ⟨idle_of T (fun e he => ?_), ?_⟩
  · have hm := mem_listed he
    simp [go_sem, *] at hm
  clear hκ κ
  refine Goes.step rfl (fun _ h₁ => ?_)
  replace hF := rl hF h₁
  clear h₁
  rw [stepG_region_end]
  simp only [goes_go]
  refine ⟨T.idle _, ?_⟩
  refine Goes.step rfl (fun _ h₁ => ?_)
  replace hF := rl hF h₁
  clear h₁
  rw [stepG_seq]
  simp only [goes_go]
  refine ⟨T.idle _, ?_⟩
  refine Goes.mono (n := (m + 3) + (n + 3) * 7 + 1) (goes_region_facts (c := n + 3) (m := m + 3) E.draw follows (fun w => At30 J ib tb iv a0 len cap p x w ∧ R w0 w) (fun i v _ => F30 iv a0 len cap p x (φ x) i v) R (by kernel_rfl) (show dstsO _ 11 = true by kernel_rfl)
    (fun w₁ r => ?_) (fun w w' h r => rl h r) (fun i v w w' h _ => h) ?_ ?_ ?_) (by omega)
  · exact rl (rl hF r) (E.step _)
  · intro i o hio a w rest m' hI hag hdep hnext hn
    rcases i with _ | _ | _ | _ | _ | _ | _ | i <;> simp at hio <;> subst hio
    · have e1 : a.tmps[1]? = some (.pointer (some ⟨ib, 0, none⟩)) := (hag.same 1 (by simp)).trans rfl
      refine Goes.mono (n := m' + 1) (Goes.step rfl fun w₁ r₁ => ?_) (by omega)
      have hI1 := rl hI r₁
      rw [stepG_value (v := iv) (w' := w₁) rfl rfl hke (by unfold execOp; simp [go_sem, e1, hI1.1.i])]
      simp only [goes_go]
      refine ⟨E.read _ _ fun e he' => (by have hm := mem_listed he'; unfold execOp at hm; simp [go_sem, e1, hI1.1.i] at hm; subst hm; exact ⟨_, hi.rd, rfl⟩), hnext _ _ rfl r₁⟩
    · have e2 : a.tmps[2]? = some (.pointer (some ⟨tb, 0, none⟩)) := (hag.same 2 (by simp)).trans rfl
      refine Goes.mono (n := m' + 1) (Goes.step rfl fun w₁ r₁ => ?_) (by omega)
      have hI1 := rl hI r₁
      rw [stepG_value (v := .slice (some a0) len cap) (w' := w₁) rfl rfl hke (by unfold execOp; simp [go_sem, e2, hI1.1.t])]
      simp only [goes_go]
      refine ⟨E.read _ _ fun e he' => (by have hm := mem_listed he'; unfold execOp at hm; simp [go_sem, e2, hI1.1.t] at hm; subst hm; exact ⟨_, ht.rd, rfl⟩), hnext _ _ rfl r₁⟩
    · have e0 : a.tmps[0]? = some (.int .i64 (p : Nat)) := (hag.same 0 (by simp)).trans rfl
      refine Goes.mono (n := m' + 1) (Goes.step rfl fun w₁ r₁ => ?_) (by omega)
      have hI1 := rl hI r₁
      rw [stepG_value (v := .int .i64 (p : Nat)) (w' := w₁) rfl rfl hke (by unfold execOp; simp [go_sem, e0])]
      simp only [goes_go]
      refine ⟨idle_of T fun e he' => (by have hm := mem_listed he'; unfold execOp at hm; simp [go_sem, e0] at hm), hnext _ _ rfl r₁⟩
    · have r6 : a.eval (.tmp 6) = .slice (some a0) len cap := hdep ⟨1, .data⟩ (by simp) (by decide) _ rfl
      have e6 : a.tmps[6]?.getD undef = .slice (some a0) len cap := by simpa [Act.eval] using r6
      have r7 : a.eval (.tmp 7) = .int .i64 (p : Nat) := hdep ⟨2, .data⟩ (by simp) (by decide) _ rfl
      have e7 : a.tmps[7]?.getD undef = .int .i64 (p : Nat) := by simpa [Act.eval] using r7
      refine Goes.mono (n := m' + 1) (Goes.step rfl fun w₁ r₁ => ?_) (by omega)
      have hI1 := rl hI r₁
      rw [stepG_value (v := .pointer (some (a0.add p))) (w' := w₁) rfl rfl hke (by unfold execOp; simp [go_sem, e6, e7, hp])]
      simp only [goes_go]
      refine ⟨idle_of T fun e he' => (by have hm := mem_listed he'; unfold execOp at hm; simp [go_sem, e6, e7, hp] at hm), hnext _ _ rfl r₁⟩
    · have r8 : a.eval (.tmp 8) = .pointer (some (a0.add p)) := hdep ⟨3, .data⟩ (by simp) (by decide) _ rfl
      have e8 : a.tmps[8]?.getD undef = .pointer (some (a0.add p)) := by simpa [Act.eval] using r8
      refine Goes.mono (n := m' + 1) (Goes.step rfl fun w₁ r₁ => ?_) (by omega)
      have hI1 := rl hI r₁
      rw [stepG_value (v := .int .i64 x) (w' := w₁) rfl rfl hke (by unfold execOp; simp [go_sem, e8, hI1.1.e])]
      simp only [goes_go]
      refine ⟨E.read _ _ fun e he' => (by have hm := mem_listed he'; unfold execOp at hm; simp [go_sem, e8, hI1.1.e] at hm; subst hm; exact ⟨_, he.rd, rfl⟩), hnext _ _ rfl r₁⟩
    · have r5 : a.eval (.tmp 5) = iv := hdep ⟨0, .data⟩ (by simp) (by decide) _ rfl
      have e5 : a.tmps[5]?.getD undef = iv := by simpa [Act.eval] using r5
      have r9 : a.eval (.tmp 9) = .int .i64 x := hdep ⟨4, .data⟩ (by simp) (by decide) _ rfl
      have e9 : a.tmps[9]?.getD undef = .int .i64 x := by simpa [Act.eval] using r9
      refine Goes.mono (n := m' + n + 3) (Goes.callV T rfl rfl hke rfl (by rw [r5]; simpa [Act.eval, e9] using hiv x w hI.1.j) fun v w' hq => ?_) (by omega)
      exact hnext _ _ hq.1 hq.2
    · have r10 : a.eval (.tmp 10) = .bool (φ x) := hdep ⟨5, .data⟩ (by simp) (by decide) _ rfl
      have e10 : a.tmps[10]?.getD undef = .bool (φ x) := by simpa [Act.eval] using r10
      refine Goes.mono (n := m' + 1) (Goes.step rfl fun w₁ r₁ => ?_) (by omega)
      have hI1 := rl hI r₁
      rw [stepG_value (v := .bool (φ x)) (w' := w₁) rfl rfl hke (by unfold execOp; simp [go_sem, e10])]
      simp only [goes_go]
      refine ⟨idle_of T fun e he' => (by have hm := mem_listed he'; unfold execOp at hm; simp [go_sem, e10] at hm), hnext _ _ rfl r₁⟩
  · intro i o v w hio hn h
    rcases i with _ | _ | _ | _ | _ | _ | _ | i <;> simp at hio <;> subst hio <;> simp at hn
  · intro a w hI hag hall
    have e4 : a.eval (.tmp 4) = .bool (φ x) := hall 6 _ rfl
    have hd : a.defers = [] := hag.defers
    refine Goes.step rfl (fun _ h₁ => ?_)
    replace hI := rl hI h₁
    clear h₁
    rw [stepG_region_end]
    simp only [goes_go]
    refine ⟨T.idle _, ?_⟩
    refine Goes.step rfl (fun _ h₁ => ?_)
    replace hI := rl hI h₁
    clear h₁
    rw [stepG_ret']
    simp only [goes_go]
    refine ⟨T.idle _, ?_⟩
    exact Goes.mono (n := m) (hc .ret _ _ ⟨hd, _, resultsC_tmp rfl _, e4, hI.2⟩ _) (by omega)
end
end Go.Proofs.Ytbckmkppmdfnnaa.Crew
