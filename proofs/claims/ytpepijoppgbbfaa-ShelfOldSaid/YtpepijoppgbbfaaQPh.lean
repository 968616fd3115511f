/- A region that draws its order (inside a fence that bars nothing): quiet operations, in any order, and calls that come one behind the other, each of which takes the world on from what the one ahead of it left; guarded operations may not be wanted. -/
import Derived.Test.YtpepijoppgbbfaaQFt
import Derived.OrdersIn
namespace Go.Proofs.Ytpepijoppgbbfaa.QT
open Go.RowKit

section
variable {F : Fence} {n : Nat} {P : Program}

/-- i waits for j, at once or by others. -/
def reachB (l : List Oper) : Nat → Nat → Nat → Bool
  | 0, _, _ => false
  | f + 1, i, j => match l[i]? with
    | some o => o.after.toList.any fun e => Region.binds .any e && (e.on == j || reachB l f e.on j)
    | none => false
/-- p: the calls, in their order; c i: how many of them come ahead of i (or are it); u i: the first one that waits for i. -/
def phB (l : List Oper) (p : List Nat) (c u : Nat → Nat) : Bool :=
  (List.range l.length).all (fun i => p.contains i || decide (p.length ≤ u i) || reachB l l.length (p.getD (u i) 0) i) &&
  (List.range l.length).all (fun i => c i == 0 || (decide (c i ≤ p.length) && (p.contains i || reachB l l.length i (p.getD (c i - 1) 0)))) &&
  (List.range p.length).all (fun k => decide (p.getD k 0 < l.length) && (k == 0 || reachB l l.length (p.getD k 0) (p.getD (k - 1) 0)) && c (p.getD k 0) == k + 1) &&
  decide p.Nodup

theorem reach_listed {l : List Oper} {listed : Array Bool} (hcl : ∀ (j : Nat) (oj : Oper), l.toArray[j]? = some oj → listed.getD j false = true → ∀ e ∈ oj.after, Region.binds .any e = true → listed.getD e.on false = true) :
    ∀ (f i j : Nat) (o : Oper), l[i]? = some o → (∀ e ∈ o.after, Region.binds .any e = true → listed.getD e.on false = true) → reachB l f i j = true → listed.getD j false = true
  | 0, _, _, _, _, _, h => by cases h
  | f + 1, i, j, o, ho, hd, h => by
    unfold reachB at h
    rw [ho] at h
    obtain ⟨e, he, h⟩ := List.any_eq_true.1 h
    simp only [Bool.and_eq_true, Bool.or_eq_true, beq_iff_eq] at h
    obtain ⟨hb, h⟩ := h
    have hl := hd e (Array.mem_toList_iff.1 he) hb
    rcases h with h | h
    · rw [← h]
      exact hl
    · cases hle : l[e.on]? with
      | none =>
        cases f with
        | zero => cases h
        | succ f => unfold reachB at h; rw [hle] at h; cases h
      | some oe => exact reach_listed hcl f e.on j oe hle (hcl e.on oe (by simpa using hle) hl) h

theorem wpIn_region_phases {id : Nat} {Q : Exit → Act → World → Prop} {a0 : Act} {w0 : World} {l : List Oper} (p : List Nat) (c u : Nat → Nat) (V : Nat → List Value → Value) (H : List Value → World → Prop)
    (hm : P.follows .mixedOrders = true) (hF : ∀ f, F.fn f) (hB : backB .any l.toArray = true) (hD : dstsB l a0.tmps.size = true) (hP : phB l p c u = true)
    (hV : ∀ i r x, c i ≤ r.length → V i (r ++ [x]) = V i r) (hVp : ∀ k i r x, p[k]? = some i → r.length = k → V i (r ++ [x]) = x)
    (h0 : H [] { w0 with drawn := w0.drawn + 1 })
    (hquiet : ∀ (i : Nat) (o : Oper), i ∉ p → l[i]? = some o → ∀ r a w, c i ≤ r.length → r.length ≤ u i → H r w → Agrees l a0 a → (∀ e ∈ o.after, Region.binds .any e = true → ∀ (oj : Oper) (d : Tmp), l[e.on]? = some oj → oj.dst = some d → a.eval (.tmp d) = V e.on r) →
      (Region.wanted o (yielded l.toArray a.tmps) = true ∧ o.wpIn F n P a w (fun a' w' => a' = a.put o.dst (V i r) ∧ H r w') Q) ∨ (Region.wanted o (yielded l.toArray a.tmps) = false ∧ V i r = undef))
    (hphase : ∀ (k i : Nat) (o : Oper), p[k]? = some i → l[i]? = some o → ∀ r a w, r.length = k → H r w → Agrees l a0 a → (∀ e ∈ o.after, Region.binds .any e = true → ∀ (oj : Oper) (d : Tmp), l[e.on]? = some oj → oj.dst = some d → a.eval (.tmp d) = V e.on r) →
      (Region.wanted o (yielded l.toArray a.tmps) = true ∧ o.wpIn F n P a w (fun a' w' => ∃ x, a' = a.put o.dst x ∧ H (r ++ [x]) w') Q) ∨ (Region.wanted o (yielded l.toArray a.tmps) = false ∧ H (r ++ [undef]) w))
    (hfin : ∀ r a w, r.length = p.length → H r w → Agrees l a0 a → (∀ (i : Nat) (o : Oper) (d : Tmp), l[i]? = some o → o.dst = some d → a.eval (.tmp d) = V i r) → Q .normal a w) : (Code.region id l.toArray true).wpIn F n P Q a0 w0 := by
  simp only [dstsB, Bool.and_eq_true, decide_eq_true_eq] at hD
  obtain ⟨hall, hnd⟩ := hD
  simp only [phB, Bool.and_eq_true, decide_eq_true_eq] at hP
  obtain ⟨⟨⟨hPu, hPc⟩, hPk⟩, hPn⟩ := hP
  have hdst : ∀ (i : Nat) (o : Oper), l[i]? = some o → ∃ d, o.dst = some d ∧ d < a0.tmps.size := fun i o ho => by
    have h1 := List.all_eq_true.1 hall o (List.mem_of_getElem? ho)
    cases hd : o.dst with
    | none => rw [hd] at h1; cases h1
    | some d => rw [hd] at h1; exact ⟨d, rfl, by simpa using h1⟩
  have hinj : ∀ (i j : Nat) (oi oj : Oper) (d : Tmp), l[i]? = some oi → l[j]? = some oj → oi.dst = some d → oj.dst = some d → i = j := fun i j oi oj d hi hj h1 h2 => by
    obtain ⟨hil, hie⟩ := List.getElem?_eq_some_iff.1 hi
    obtain ⟨hjl, hje⟩ := List.getElem?_eq_some_iff.1 hj
    have hp := List.pairwise_iff_getElem.1 hnd
    rcases Nat.lt_trichotomy i j with h | h | h
    · exact (hp i j (by simpa using hil) (by simpa using hjl) h (by simp [hie, hje, h1, h2])).elim
    · exact h
    · exact (hp j i (by simpa using hjl) (by simpa using hil) h (by simp [hie, hje, h1, h2])).elim
  have hgD : ∀ {k i : Nat}, p[k]? = some i → p.getD k 0 = i := fun h => by rw [List.getD_eq_getElem?_getD, h]; rfl
  have hpk : ∀ (k i : Nat), p[k]? = some i → i < l.length ∧ (k = 0 ∨ reachB l l.length i (p.getD (k - 1) 0) = true) ∧ c i = k + 1 := fun k i hk => by
    have h1 := List.all_eq_true.1 hPk k (List.mem_range.2 (List.getElem?_eq_some_iff.1 hk).1)
    rw [hgD hk] at h1
    simp only [Bool.and_eq_true, decide_eq_true_eq, Bool.or_eq_true, beq_iff_eq] at h1
    exact ⟨h1.1.1, h1.1.2, h1.2⟩
  have key : ∀ (fuel : Nat) (listed : Array Bool) (a : Act) (w : World) (r : List Value), H r w → HeadInv .any l.toArray l.toArray.size listed → Agrees l a0 a → r.length ≤ p.length →
      (∀ k i, p[k]? = some i → (listed.getD i false = true ↔ k < r.length)) →
      (∀ i o d, l[i]? = some o → o.dst = some d → listed.getD i false = true → c i ≤ r.length ∧ a.eval (.tmp d) = V i r) →
      fuel + listed.toList.count true = l.toArray.size → wpAnyIn F n P .any l.toArray Q fuel listed a w := by
    intro fuel
    induction fuel with
    | zero =>
      intro listed a w r hw inv hag hrp hph hf hcnt
      have hlen : listed.toList.length = l.toArray.size := by simp [inv.size]
      have hal := (List.count_eq_length (a := true) (l := listed.toList)).1 (by omega)
      have hyes : ∀ i, i < l.toArray.size → listed.getD i false = true := fun i hi => by
        have hil : i < listed.size := by rw [inv.size]; exact hi
        have := hal listed[i] (by simp)
        simp [hil, ← this]
      have hr : r.length = p.length := by
        rcases Nat.lt_or_ge r.length p.length with h | h
        · have hk := List.getElem?_eq_getElem h
          have := (hph r.length _ hk).1 (hyes _ (by have := (hpk _ _ hk).1; simpa using this))
          omega
        · omega
      refine ⟨?_, hfin r a w hr hw hag fun i o d hi hd => (hf i o d hi hd (hyes i (by have := (List.getElem?_eq_some_iff.1 hi).1; simpa using this))).2⟩
      cases hr : Region.ready .any l.toArray listed with
      | nil => rfl
      | cons x xs =>
        exfalso
        have hx : x ∈ Region.ready .any l.toArray listed := by rw [hr]; simp
        obtain ⟨hun, ox, hox, _⟩ := mem_ready.1 hx
        have hxl := (Array.getElem?_eq_some_iff.1 hox).1
        have h1 := hyes x hxl
        have hil : x < listed.size := by rw [inv.size]; exact hxl
        simp [hil] at h1 hun
        rw [h1] at hun
        cases hun
    | succ fuel ih =>
      intro listed a w r hw inv hag hrp hph hf hcnt
      refine ⟨fun h0 => ?_, fun i hi => ?_⟩
      · exfalso
        have hlt : listed.toList.count true < listed.toList.length := by
          rw [Array.length_toList, inv.size]
          omega
        have : ∃ i, i < l.toArray.size ∧ listed.getD i true = false := by
          apply Classical.byContradiction
          intro hno
          have hall2 : ∀ b ∈ listed.toList, true = b := fun b hb => by
            obtain ⟨i, hil, hib⟩ := List.getElem_of_mem hb
            cases hbb : b with
            | true => rfl
            | false =>
              exfalso
              have hil' : i < listed.size := by simpa using hil
              exact hno ⟨i, by rw [inv.size] at hil'; exact hil', by
                rw [hbb] at hib
                simpa [hil'] using hib⟩
          have := List.count_eq_length.2 hall2
          omega
        obtain ⟨i, hil, hun⟩ := this
        exact ready_some hB inv.size i hil hun h0
      · obtain ⟨hun, o, ho, hall3⟩ := mem_ready.1 hi
        have hol : l[i]? = some o := by simpa using ho
        have hil := (Array.getElem?_eq_some_iff.1 ho).1
        have hill : i < l.length := by simpa using hil
        have hunf := getD_both hun
        have hil' : i < listed.size := by rw [inv.size]; exact hil
        have hcnt' : fuel + (listed.setIfInBounds i true).toList.count true = l.toArray.size := by
          rw [count_set hil' hun]
          omega
        obtain ⟨d, hd, hdl⟩ := hdst i o hol
        have hdep : ∀ e ∈ o.after, Region.binds .any e = true → ∀ (oj : Oper) (d : Tmp), l[e.on]? = some oj → oj.dst = some d → a.eval (.tmp d) = V e.on r := fun e he hb oj d hj hd => (hf e.on oj d hj hd (hall3 e he hb)).2
        have hreach : ∀ f j, reachB l f i j = true → listed.getD j false = true := fun f j h => reach_listed inv.closed f i j o hol hall3 h
        have hagp : ∀ v, Agrees l a0 (a.put (some d) v) := fun v => ⟨by simp [Act.put, hag.size], hag.defers, fun t ht => by
          have hne : d ≠ t := fun e => ht o (List.mem_of_getElem? hol) (by rw [hd, e])
          rw [← hag.same t ht]
          simp [Act.put, Array.getElem?_setIfInBounds_ne hne]⟩
        have hother : ∀ v j oj dj, l[j]? = some oj → oj.dst = some dj → i ≠ j → (a.put (some d) v).eval (.tmp dj) = a.eval (.tmp dj) := fun v j oj dj hj hdj hij =>
          eval_put_other fun e => hij (hinj i j o oj d hol hj hd (by rw [hdj, e]))
        by_cases hip : i ∈ p
        · -- a call
          obtain ⟨k, hkl, hki⟩ := List.getElem_of_mem hip
          have hk : p[k]? = some i := by rw [List.getElem?_eq_getElem hkl, hki]
          obtain ⟨_, hkr, hck⟩ := hpk k i hk
          have hkn : ¬ k < r.length := fun h => by
            have := (hph k i hk).2 h
            rw [hunf] at this
            cases this
          have hkr' : r.length = k := by
            rcases hkr with h | h
            · omega
            · rcases Nat.eq_zero_or_pos k with h0 | h0
              · omega
              · have hk1 : k - 1 < p.length := by omega
                have hp1 := List.getElem?_eq_getElem hk1
                rw [hgD hp1] at h
                have := (hph _ _ hp1).1 (hreach _ _ h)
                omega
          have hnext : ∀ x w', H (r ++ [x]) w' → wpAnyIn F n P .any l.toArray Q fuel (listed.setIfInBounds i true) (a.put (some d) x) w' := fun x w' hH => by
            refine ih _ _ _ (r ++ [x]) hH (inv.set hi hil) (hagp x) (by rw [List.length_append, List.length_singleton]; omega) (fun k' i' hk' => ?_) (fun j oj dj hj hdj hlj => ?_) hcnt'
            · rw [List.length_append, List.length_singleton]
              by_cases hii : i = i'
              · subst hii
                have hkk : k' = k := by
                  have h1 := List.getElem?_eq_some_iff.1 hk
                  have h2 := List.getElem?_eq_some_iff.1 hk'
                  exact (List.getElem_inj (h₀ := h2.1) (h₁ := h1.1) hPn).1 (by rw [h1.2, h2.2])
                subst hkk
                simp [hil']
                omega
              · rw [getD_set_ne false hii, hph k' i' hk']
                have hne : k' ≠ k := fun e => hii (by rw [e, hk] at hk'; exact Option.some.inj hk')
                omega
            · rw [List.length_append, List.length_singleton]
              by_cases hij : i = j
              · subst hij
                obtain rfl : oj = o := Option.some.inj (hj.symm.trans hol)
                obtain rfl : dj = d := Option.some.inj (hdj.symm.trans hd)
                rw [eval_put_same (by rw [hag.size]; exact hdl)]
                exact ⟨by omega, (hVp k i r x hk hkr').symm⟩
              · rw [getD_set_ne false hij] at hlj
                obtain ⟨h1, h2⟩ := hf j oj dj hj hdj hlj
                exact ⟨by omega, by rw [hother x j oj dj hj hdj hij, hV j r x h1]; exact h2⟩
          rcases hphase k i o hk hol r a w hkr' hw hag hdep with ⟨hwt, hwp⟩ | ⟨hwt, hH⟩
          · unfold wpOpIn
            simp only [ho, hwt, if_true]
            refine Oper.wpIn_mono (fun a' w' hh => ?_) hwp
            obtain ⟨x, rfl, hH⟩ := hh
            rw [hd]
            exact hnext x w' hH
          · unfold wpOpIn
            simp only [ho, hwt]
            rw [hd]
            exact ⟨fun f _ => hF f, hnext undef w hH⟩
        · -- a quiet operation
          have hci : c i ≤ r.length := by
            have h1 := List.all_eq_true.1 hPc i (List.mem_range.2 hill)
            simp only [Bool.or_eq_true, beq_iff_eq, Bool.and_eq_true, decide_eq_true_eq] at h1
            rcases h1 with h1 | ⟨h1, h2⟩
            · omega
            · rcases h2 with h2 | h2
              · exact absurd (by simpa using h2) hip
              · rcases Nat.eq_zero_or_pos (c i) with h3 | h3
                · omega
                · have hk1 : c i - 1 < p.length := by omega
                  have hp1 := List.getElem?_eq_getElem hk1
                  rw [hgD hp1] at h2
                  have := (hph _ _ hp1).1 (hreach _ _ h2)
                  omega
          have hnext : ∀ w', H r w' → wpAnyIn F n P .any l.toArray Q fuel (listed.setIfInBounds i true) (a.put (some d) (V i r)) w' := fun w' hH => by
            refine ih _ _ _ r hH (inv.set hi hil) (hagp _) hrp (fun k' i' hk' => ?_) (fun j oj dj hj hdj hlj => ?_) hcnt'
            · have hii : i ≠ i' := fun e => hip (by rw [e]; exact List.mem_of_getElem? hk')
              rw [getD_set_ne false hii]
              exact hph k' i' hk'
            · by_cases hij : i = j
              · subst hij
                obtain rfl : oj = o := Option.some.inj (hj.symm.trans hol)
                obtain rfl : dj = d := Option.some.inj (hdj.symm.trans hd)
                rw [eval_put_same (by rw [hag.size]; exact hdl)]
                exact ⟨hci, rfl⟩
              · rw [getD_set_ne false hij] at hlj
                obtain ⟨h1, h2⟩ := hf j oj dj hj hdj hlj
                exact ⟨h1, by rw [hother _ j oj dj hj hdj hij]; exact h2⟩
          have hui : r.length ≤ u i := by
            rcases Nat.lt_or_ge (u i) r.length with h | h
            · exfalso
              have h1 := List.all_eq_true.1 hPu i (List.mem_range.2 hill)
              simp only [Bool.or_eq_true, decide_eq_true_eq] at h1
              rcases h1 with (h1 | h1) | h1
              · exact hip (by simpa using h1)
              · omega
              · have hk1 : u i < p.length := by omega
                have hp1 := List.getElem?_eq_getElem hk1
                rw [hgD hp1] at h1
                have hl1 := (hph _ _ hp1).2 h
                have hlp := (hpk _ _ hp1).1
                have ho1 := List.getElem?_eq_getElem hlp
                have := reach_listed inv.closed l.length _ i _ ho1 (inv.closed _ _ (by simp) hl1) h1
                rw [hunf] at this
                cases this
            · exact h
          rcases hquiet i o hip hol r a w hci hui hw hag hdep with ⟨hwt, hwp⟩ | ⟨hwt, hVu⟩
          · unfold wpOpIn
            simp only [ho, hwt, if_true]
            refine Oper.wpIn_mono (fun a' w' hh => ?_) hwp
            obtain ⟨rfl, hH⟩ := hh
            rw [hd]
            exact hnext w' hH
          · unfold wpOpIn
            simp only [ho, hwt]
            rw [hd]
            refine ⟨fun f _ => hF f, ?_⟩
            have := hnext w hw
            rw [hVu] at this
            exact this
  have inv0 : HeadInv .any l.toArray l.toArray.size (Array.replicate l.toArray.size false) :=
    ⟨by simp, fun j oj _ hl => (by rw [getD_replicate_false] at hl; cases hl), fun t _ ht => getD_in (by simpa using ht) (getD_replicate_false _ _)⟩
  refine wpIn_region_any hm (key _ _ _ _ [] h0 inv0 ⟨rfl, rfl, fun _ _ => rfl⟩ (Nat.zero_le _) (fun k i _ => by rw [getD_replicate_false]; simp) (fun i o d _ _ hl => by rw [getD_replicate_false] at hl; cases hl) (by simp [List.count_replicate]))

end
end Go.Proofs.Ytpepijoppgbbfaa.QT
