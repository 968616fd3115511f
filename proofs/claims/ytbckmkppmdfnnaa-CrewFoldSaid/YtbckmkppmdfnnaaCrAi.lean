/- crew: first's beginning whole: from its entry to the loop that starts the workers. Made by wip/tools/crew/mkAi.py. -/
import Derived.Test.YtbckmkppmdfnnaaCrAh
namespace Go.Proofs.Ytbckmkppmdfnnaa.Crew
open Go.Conc Go.RowKit Go.Conc.Lib Go.ConcR.Gen Go.Proofs.Ytbckmkppmdfnnaa.QT
/-- How many workers are started. -/
def crewN (M : Nat) (wk : Int) : Nat := min (min (max wk 1).toNat 16) M
theorem crewN_eq {M : Nat} {wk : Int} {k1 k2 : Nat} (h1 : (if wk < 1 then (1 : Int) else wk) = (k1 : Nat)) (h2 : (if (16 : Int) < (k1 : Nat) then (16 : Int) else (k1 : Nat)) = (k2 : Nat)) : (if M < k2 then (M : Int) else (k2 : Nat)) = (crewN M wk : Nat) := by
  unfold crewN
  split at h1 <;> split at h2 <;> split <;> omega
/-- The first box is made. -/
structure Boxed (w₀ w : World) (u : Value) : Prop where
  olds : Olds w₀ w
  box : w.heap[w₀.heap.size]? = some (.cells #[u] 50)
  size : w.heap.size = w₀.heap.size + 1
theorem Boxed.at {w₀ w w₁ : World} {u : Value} (h : Boxed w₀ w u) (k : AtRel w w₁) : Boxed w₀ w₁ u := by
  have := h.olds.at k
  obtain ⟨d, rfl⟩ := k
  exact ⟨this, h.box, h.size⟩
noncomputable def R3 : Code := match body29 with | .seq _ (.seq _ (.seq _ c)) => c | _ => .skip
section
variable {cs : List Frame} {Stop : Goroutine → World → Prop} {Z : Nat → Prop}
set_option maxRecDepth 100000 in
set_option maxHeartbeats 1000000 in
theorem first_a (M : Nat) (wk : Int) (fv : Fn) (cap : Array Value) (w : World) {m : Nat} (hZ : ∀ b, Z b → b < w.heap.size)
    (hfin : ∀ (a : Act) (w1 w' : World) (vP vS Cp Cs : Nat), Boxed w w1 (.func fv #[] cap) → Agrees ops2 ⟨#[.int .i64 (M : Nat), .int .i64 (crewN M wk : Nat), .func fv #[] cap, undef, undef, .pointer (some ⟨w.heap.size, 0, none⟩), .int .i64 0, undef, undef, undef, undef, undef, undef, .int .i64 wk, .int .i64 ((max wk 1).toNat : Nat), .int .i64 (M : Nat), .int .i64 (crewN M wk : Nat), undef, undef, undef, undef, undef, undef, undef, undef, undef, undef, undef, undef, undef, undef, undef, undef, undef, undef, undef, undef, undef, undef, undef, undef, undef, undef, undef, undef], []⟩ a → a.tmps[7]?.getD undef = .pointer (some ⟨vP, 0, none⟩) → a.tmps[8]?.getD undef = .pointer (some ⟨vS, 0, none⟩) → Cp ≠ Cs → w1.heap.size ≤ Cp → w1.heap.size ≤ Cs → w1.heap.size ≤ vP → w1.heap.size ≤ vS →
      w'.heap[Cp]? = some emptyChan → w'.heap[Cs]? = some emptyChan → w'.heap[vP]? = some (.cells #[.chan (some Cp)] 55) → w'.heap[vS]? = some (.cells #[.chan (some Cs)] 56) → Olds w1 w' →
      Goes Try.prog true AtRel (DZ Z) Stop m (G ((base 29).at a [.inRegion ops2.toArray [], .code R3]) cs) w') :
    Goes Try.prog true AtRel (DZ Z) Stop (m + 1 * ops2.length + 1 + 15) (G ((base 29).at ⟨#[.int .i64 (M : Nat), .int .i64 wk, .func fv #[] cap, undef, undef, undef, undef, undef, undef, undef, undef, undef, undef, undef, undef, undef, undef, undef, undef, undef, undef, undef, undef, undef, undef, undef, undef, undef, undef, undef, undef, undef, undef, undef, undef, undef, undef, undef, undef, undef, undef, undef, undef, undef, undef], []⟩ [.code body29]) cs) w := by
  have T := termsZ Z
  obtain ⟨w0, hw0⟩ : ∃ w0, w0 = w := ⟨w, rfl⟩
  have hF : Olds w0 w ∧ w.heap.size = w0.heap.size := ⟨by rw [hw0]; exact Olds.refl w, by rw [hw0]⟩
  rw [← hw0] at hZ hfin
  clear hw0
  have hmx : (if wk < 1 then (1 : Int) else wk) = ((max wk 1).toNat : Nat) := by split <;> omega
  obtain ⟨k1, hk1⟩ : ∃ k1 : Nat, k1 = (max wk 1).toNat := ⟨_, rfl⟩
  rw [← hk1] at hmx hfin
  obtain ⟨k2, hk2⟩ : ∃ k2 : Nat, (if (16 : Int) < (k1 : Nat) then (16 : Int) else (k1 : Nat)) = (k2 : Nat) := ⟨(if (16 : Int) < (k1 : Nat) then (16 : Int) else (k1 : Nat)).toNat, by split <;> omega⟩
  have hk3 := crewN_eq (M := M) hmx hk2
  obtain ⟨n, hn⟩ : ∃ n, n = crewN M wk := ⟨_, rfl⟩
  rw [← hn] at hk3 hfin
  clear hn hk1
  have st : ∀ {x y : World}, Olds w0 x ∧ x.heap.size = w0.heap.size → AtRel x y → Olds w0 y ∧ y.heap.size = w0.heap.size := fun h k => ⟨h.1.at k, by obtain ⟨d, rfl⟩ := k; exact h.2⟩
  simp only [body29, Try.f29, Option.getD_some]
  refine Goes.step rfl (fun _ h₁ => ?_)
  replace hF := st hF h₁
  clear h₁
  rw [stepG_seq]
  simp only [goes_go]
  refine ⟨T.idle _, ?_⟩
  refine Goes.step rfl (fun _ h₁ => ?_)
  replace hF := st hF h₁
  clear h₁
  rw [stepG_region]
  simp only [goes_go, List.size_toArray, List.length_cons, List.length_nil, Nat.reduceAdd, Nat.zero_add, List.range, List.range.loop]
  refine ⟨T.idle _, ?_⟩
  refine Goes.step rfl (fun _ h₁ => ?_)
  replace hF := st hF h₁
  clear h₁
  obtain ⟨hF, hsz⟩ := hF
  refine goes_oper_k rfl rfl (by k_ne) (fun κ hκ => ?_)
  go_simp
  refine hκ _ _ ⟨fun e he => (?_ : EvC Z e), ?_⟩
  · have hm := mem_listed he
    simp [go_sem] at hm
  clear hκ κ
  replace hF : Boxed w0 _ (.func fv #[] cap) := ⟨hF.alloc (o := .cells #[.func fv #[] cap] 50), by rw [← hsz]; exact new_alloc _ _, by rw [heap_al, Array.size_push, hsz]⟩
  clear hsz
  refine Goes.step rfl (fun _ h₁ => ?_)
  replace hF := hF.at h₁
  clear h₁
  refine goes_oper_k rfl rfl (by k_ne) (fun κ hκ => ?_)
  go_simp
  refine hκ _ _ ⟨idle_of T (fun e he => ?_), ?_⟩
  · have hm := mem_listed he
    simp [go_sem] at hm
  clear hκ κ
  refine Goes.step rfl (fun _ h₁ => ?_)
  replace hF := hF.at h₁
  clear h₁
  rw [stepG_region_end]
  simp only [goes_go]
  refine ⟨T.idle _, ?_⟩
  refine Goes.step rfl (fun _ h₁ => ?_)
  replace hF := hF.at h₁
  clear h₁
  rw [stepG_seq]
  simp only [goes_go]
  refine ⟨T.idle _, ?_⟩
  refine Goes.step rfl (fun _ h₁ => ?_)
  replace hF := hF.at h₁
  clear h₁
  rw [stepG_region]
  simp only [goes_go, List.size_toArray, List.length_cons, List.length_nil, Nat.reduceAdd, Nat.zero_add, List.range, List.range.loop]
  refine ⟨T.idle _, ?_⟩
  refine Goes.step rfl (fun _ h₁ => ?_)
  replace hF := hF.at h₁
  clear h₁
  refine goes_oper_k rfl rfl (by k_ne) (fun κ hκ => ?_)
  go_simp
  refine hκ _ _ ⟨idle_of T (fun e he => ?_), ?_⟩
  · have hm := mem_listed he
    simp [go_sem] at hm
  clear hκ κ
  refine Goes.step rfl (fun _ h₁ => ?_)
  replace hF := hF.at h₁
  clear h₁
  refine goes_oper_k rfl rfl (by k_ne) (fun κ hκ => ?_)
  go_simp
  refine hκ _ _ ⟨idle_of T (fun e he => ?_), ?_⟩
  · have hm := mem_listed he
    simp [go_sem, Builtin.max_, Builtin.max2] at hm
  clear hκ κ
  refine Goes.step rfl (fun _ h₁ => ?_)
  replace hF := hF.at h₁
  clear h₁
  refine goes_oper_k rfl rfl (by k_ne) (fun κ hκ => ?_)
  go_simp
  refine hκ _ _ ⟨idle_of T (fun e he => ?_), ?_⟩
  · have hm := mem_listed he
    simp [go_sem] at hm
  clear hκ κ
  refine Goes.step rfl (fun _ h₁ => ?_)
  replace hF := hF.at h₁
  clear h₁
  refine goes_oper_k rfl rfl (by k_ne) (fun κ hκ => ?_)
  go_simp
  refine hκ _ _ ⟨idle_of T (fun e he => ?_), ?_⟩
  · have hm := mem_listed he
    simp [go_sem, Builtin.min_, Builtin.min2] at hm
  clear hκ κ
  refine Goes.step rfl (fun _ h₁ => ?_)
  replace hF := hF.at h₁
  clear h₁
  refine goes_oper_k rfl rfl (by k_ne) (fun κ hκ => ?_)
  go_simp
  refine hκ _ _ ⟨idle_of T (fun e he => ?_), ?_⟩
  · have hm := mem_listed he
    simp [go_sem] at hm
  clear hκ κ
  refine Goes.step rfl (fun _ h₁ => ?_)
  replace hF := hF.at h₁
  clear h₁
  rw [stepG_region_end]
  simp only [goes_go]
  refine ⟨T.idle _, ?_⟩
  refine Goes.step rfl (fun _ h₁ => ?_)
  replace hF := hF.at h₁
  clear h₁
  rw [stepG_seq]
  simp only [goes_go]
  refine ⟨T.idle _, ?_⟩
  refine Goes.mono (n := m + 1 * ops2.length + 1) (region2_go rfl (fun b hb => by have := hZ b hb; have := hF.size; omega) fun a w' vP vS Cp Cs hag h7 h8 h9 g1 g2 g3 g4 h10 h11 h12 h13 ho => ?_) (by omega)
  have := hfin a _ w' vP vS Cp Cs hF hag h7 h8 h9 g1 g2 g3 g4 h10 h11 h12 h13 ho
  exact this
end
end Go.Proofs.Ytbckmkppmdfnnaa.Crew
