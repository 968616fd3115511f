/- A region that draws its order, by facts, with one store (operation m) into the block that operation m0 laid (its slot t0): behind it the block holds what was stored, whatever comes later. -/
import Derived.Test.YtdgaoebjbhomdaaDoorQFt
namespace Go.Proofs.YtdgaoebjbhomdaaDoor.QT
open Go.RowKit

section
variable {P : Program}

def dstOf (l : List Oper) (i : Nat) : Option Tmp := (l[i]?).bind (·.dst)
def midB (l : List Oper) (m m0 : Nat) (t0 : Tmp) (n : Nat) : Bool :=
  (List.range l.length).all (fun i => match dstOf l i with | some d => decide (d < n) && (i != m) | none => i == m) &&
  (List.range l.length).all (fun i => (List.range l.length).all fun j => i == j || decide (dstOf l i ≠ dstOf l j) || i == m) &&
  decide (dstOf l m0 = some t0) && Region.waitsFor .any l.toArray m m0

theorem wp_region_facts_mid {id : Nat} {Q : Exit → Act → World → Prop} {a0 : Act} {w0 : World} {l : List Oper} (m m0 : Nat) (t0 : Tmp) (hm : P.follows .mixedOrders = true) (I : World → Prop) (F : Nat → Value → World → Prop) (G : Value → World → Prop)
    (hB : backB .any l.toArray = true) (hM : midB l m m0 t0 a0.tmps.size = true) (hI : I { w0 with drawn := w0.drawn + 1 })
    (hIs : ∀ w w', I w → Below w.heap.size w w' → I w') (hF : ∀ i v w w', F i v w → Below w.heap.size w w' → F i v w') (hG : ∀ v w w', G v w → Below w.heap.size w w' → G v w')
    (hstep : ∀ (i : Nat) (o : Oper), i ≠ m → l[i]? = some o → ∀ a w, I w → Agrees l a0 a → (∀ e ∈ o.after, Region.binds .any e = true → e.on ≠ m0 → ∀ (oj : Oper) (d : Tmp), l[e.on]? = some oj → oj.dst = some d → F e.on (a.eval (.tmp d)) w) →
      Region.wanted o (yielded l.toArray a.tmps) = true ∧ o.wp P a w (fun a' w' => ∃ v, a' = a.put o.dst v ∧ F i v w' ∧ Below w.heap.size w w') Q)
    (hmid : ∀ (o : Oper), l[m]? = some o → ∀ a w, I w → Agrees l a0 a → (∀ e ∈ o.after, Region.binds .any e = true → ∀ (oj : Oper) (d : Tmp), l[e.on]? = some oj → oj.dst = some d → F e.on (a.eval (.tmp d)) w) →
      Region.wanted o (yielded l.toArray a.tmps) = true ∧ o.wp P a w (fun a' w' => a' = a ∧ G (a.eval (.tmp t0)) w' ∧ I w' ∧ ∀ i v, i ≠ m0 → F i v w → F i v w') Q)
    (hfin : ∀ a w, I w → Agrees l a0 a → (∀ (i : Nat) (o : Oper) (d : Tmp), i ≠ m0 → l[i]? = some o → o.dst = some d → F i (a.eval (.tmp d)) w) → G (a.eval (.tmp t0)) w → Q .normal a w) : (Code.region id l.toArray true).wp P Q a0 w0 := by
  simp only [midB, Bool.and_eq_true, decide_eq_true_eq] at hM
  obtain ⟨⟨⟨hall, hnd⟩, hd0⟩, hwf⟩ := hM
  have hlt : ∀ {i : Nat} {o : Oper}, l[i]? = some o → i < l.length := fun h => (List.getElem?_eq_some_iff.1 h).1
  have hof : ∀ {i : Nat} {o : Oper}, l[i]? = some o → dstOf l i = o.dst := fun h => by simp [dstOf, h]
  have hdst : ∀ (i : Nat) (o : Oper), i ≠ m → l[i]? = some o → ∃ d, o.dst = some d ∧ d < a0.tmps.size := fun i o him ho => by
    have h1 := List.all_eq_true.1 hall i (List.mem_range.2 (hlt ho))
    rw [hof ho] at h1
    cases hd : o.dst with
    | none => rw [hd] at h1; exact absurd (by simpa using h1) him
    | some d => rw [hd] at h1; exact ⟨d, rfl, by simp only [Bool.and_eq_true, decide_eq_true_eq] at h1; exact h1.1⟩
  have hnone : ∀ (o : Oper), l[m]? = some o → o.dst = none := fun o ho => by
    have h1 := List.all_eq_true.1 hall m (List.mem_range.2 (hlt ho))
    rw [hof ho] at h1
    cases hd : o.dst with
    | none => rfl
    | some d => rw [hd] at h1; simp at h1
  have hinj : ∀ (i j : Nat) (oi oj : Oper) (d : Tmp), l[i]? = some oi → l[j]? = some oj → oi.dst = some d → oj.dst = some d → i = j := fun i j oi oj d hi hj h1 h2 => by
    have h3 := List.all_eq_true.1 (List.all_eq_true.1 hnd i (List.mem_range.2 (hlt hi))) j (List.mem_range.2 (hlt hj))
    rw [hof hi, hof hj, h1, h2] at h3
    simp only [ne_eq, not_true_eq_false, decide_false, Bool.or_false, Bool.or_eq_true, beq_iff_eq] at h3
    rcases h3 with h3 | h3
    · exact h3
    · subst h3
      rw [hnone oi hi] at h1
      cases h1
  have key : ∀ (fuel : Nat) (listed : Array Bool) (a : Act) (w : World), I w → HeadInv .any l.toArray l.toArray.size listed → Agrees l a0 a →
      (∀ i o d, l[i]? = some o → o.dst = some d → listed.getD i false = true → (i = m0 → listed.getD m false = false) → F i (a.eval (.tmp d)) w) →
      (listed.getD m false = true → G (a.eval (.tmp t0)) w) →
      fuel + listed.toList.count true = l.toArray.size → wpAny P .any l.toArray Q fuel listed a w := by
    intro fuel
    induction fuel with
    | zero =>
      intro listed a w hw inv hag hf hg hcnt
      have hlen : listed.toList.length = l.toArray.size := by simp [inv.size]
      have hal := (List.count_eq_length (a := true) (l := listed.toList)).1 (by omega)
      have hyes : ∀ i, i < l.toArray.size → listed.getD i false = true := fun i hi => by
        have hil : i < listed.size := by rw [inv.size]; exact hi
        have := hal listed[i] (by simp)
        simp [hil, ← this]
      have hml : m < l.toArray.size := by
        obtain ⟨om, hom, _⟩ := Region.waitsFor_spec hwf
        exact (Array.getElem?_eq_some_iff.1 hom).1
      refine ⟨?_, hfin a w hw hag (fun i o d him hi hd => hf i o d hi hd (hyes i (by have := hlt hi; simpa using this)) (fun h => absurd h him)) (hg (hyes m hml))⟩
      cases hr : Region.ready .any l.toArray listed with
      | nil => rfl
      | cons x xs =>
        exfalso
        have hx : x ∈ Region.ready .any l.toArray listed := by rw [hr]; simp
        obtain ⟨hun, ox, hox, _⟩ := mem_ready.1 hx
        have hxl := (Array.getElem?_eq_some_iff.1 hox).1
        have h1 := hyes x hxl
        have hil : x < listed.size := by rw [inv.size]; exact hxl
        simp [hil] at h1 hun
        rw [h1] at hun
        cases hun
    | succ fuel ih =>
      intro listed a w hw inv hag hf hg hcnt
      refine ⟨fun h0 => ?_, fun i hi => ?_⟩
      · exfalso
        have hlt : listed.toList.count true < listed.toList.length := by
          rw [Array.length_toList, inv.size]
          omega
        have : ∃ i, i < l.toArray.size ∧ listed.getD i true = false := by
          apply Classical.byContradiction
          intro hno
          have hall2 : ∀ b ∈ listed.toList, true = b := fun b hb => by
            obtain ⟨i, hil, hib⟩ := List.getElem_of_mem hb
            cases hbb : b with
            | true => rfl
            | false =>
              exfalso
              have hil' : i < listed.size := by simpa using hil
              exact hno ⟨i, by rw [inv.size] at hil'; exact hil', by
                rw [hbb] at hib
                simpa [hil'] using hib⟩
          have := List.count_eq_length.2 hall2
          omega
        obtain ⟨i, hil, hun⟩ := this
        exact ready_some hB inv.size i hil hun h0
      · obtain ⟨hun, o, ho, hall3⟩ := mem_ready.1 hi
        have hol : l[i]? = some o := by simpa using ho
        have hil := (Array.getElem?_eq_some_iff.1 ho).1
        have hunf := getD_both hun
        have hil' : i < listed.size := by rw [inv.size]; exact hil
        have hcnt' : fuel + (listed.setIfInBounds i true).toList.count true = l.toArray.size := by
          rw [count_set hil' hun]
          omega
        by_cases him : i = m
        · subst him
          obtain ⟨hwt, hwp⟩ := hmid o hol a w hw hag fun e he hb oj d hj hd => hf e.on oj d hj hd (hall3 e he hb) fun _ => hunf
          have hop : wpOp P l.toArray Q i (fun a' w' => a' = a ∧ G (a.eval (.tmp t0)) w' ∧ I w' ∧ ∀ i v, i ≠ m0 → F i v w → F i v w') a w := by
            unfold wpOp
            simp only [ho, hwt, if_true]
            exact Or.inl hwp
          refine wpOp_mono (fun a' w' hh => ?_) hop
          obtain ⟨rfl, hGw, hIw, hFs⟩ := hh
          refine ih _ _ _ hIw (inv.set hi hil) hag (fun j oj dj hj hdj hlj hdd => ?_) (fun _ => hGw) hcnt'
          have hij : i ≠ j := fun e => by
            subst e
            rw [hnone oj hj] at hdj
            cases hdj
          have hjm : j ≠ m0 := fun e => by
            have := hdd e
            simp [hil'] at this
          rw [getD_set_ne false hij] at hlj
          exact hFs j _ hjm (hf j oj dj hj hdj hlj fun h => absurd h hjm)
        · obtain ⟨hwt, hwp⟩ := hstep i o him hol a w hw hag fun e he hb hne oj d hj hd => hf e.on oj d hj hd (hall3 e he hb) fun h => absurd h hne
          have hop : wpOp P l.toArray Q i (fun a' w' => ∃ v, a' = a.put o.dst v ∧ F i v w' ∧ Below w.heap.size w w') a w := by
            unfold wpOp
            simp only [ho, hwt, if_true]
            exact Or.inl hwp
          refine wpOp_mono (fun a' w' hh => ?_) hop
          obtain ⟨v, rfl, hFv, hb⟩ := hh
          obtain ⟨d, hd, hdl⟩ := hdst i o him hol
          rw [hd]
          refine ih _ _ _ (hIs w w' hw hb) (inv.set hi hil) ⟨?_, ?_, fun t ht => ?_⟩ (fun j oj dj hj hdj hlj hdd => ?_) (fun hlm => ?_) hcnt'
          · simp [Act.put, hag.size]
          · exact hag.defers
          · have hne : d ≠ t := fun e => ht o (List.mem_of_getElem? hol) (by rw [hd, e])
            rw [← hag.same t ht]
            simp [Act.put, Array.getElem?_setIfInBounds_ne hne]
          · by_cases hij : i = j
            · subst hij
              obtain rfl : oj = o := Option.some.inj (hj.symm.trans hol)
              obtain rfl : dj = d := Option.some.inj (hdj.symm.trans hd)
              rw [eval_put_same (by rw [hag.size]; exact hdl)]
              exact hFv
            · have hne : d ≠ dj := fun e => hij (hinj i j o oj d hol hj hd (by rw [hdj, e]))
              rw [eval_put_other hne]
              rw [getD_set_ne false hij] at hlj
              refine hF j _ w w' (hf j oj dj hj hdj hlj fun h => ?_) hb
              have := hdd h
              rwa [getD_set_ne false him] at this
          · rw [getD_set_ne false him] at hlm
            obtain ⟨om, hom, e, he, hb2, hon⟩ := Region.waitsFor_spec hwf
            have h0l := inv.closed m om hom hlm e he hb2
            rw [hon] at h0l
            have him0 : i ≠ m0 := fun e => by
              subst e
              rw [hunf] at h0l
              cases h0l
            have hne : d ≠ t0 := fun e => by
              subst e
              unfold dstOf at hd0
              cases hl0 : l[m0]? with
              | none => rw [hl0] at hd0; cases hd0
              | some o0 =>
                rw [hl0] at hd0
                exact him0 (hinj i m0 o o0 d hol hl0 hd hd0)
            rw [eval_put_other hne]
            exact hG _ w w' (hg hlm) hb
  have inv0 : HeadInv .any l.toArray l.toArray.size (Array.replicate l.toArray.size false) :=
    ⟨by simp, fun j oj _ hl => (by rw [getD_replicate_false] at hl; cases hl), fun t _ ht => getD_in (by simpa using ht) (getD_replicate_false _ _)⟩
  refine wp_region_any hm (key _ _ _ _ hI inv0 ⟨rfl, rfl, fun _ _ => rfl⟩ (fun i o d _ _ hl _ => by rw [getD_replicate_false] at hl; cases hl) (fun hl => by rw [getD_replicate_false] at hl; cases hl) (by simp [List.count_replicate]))

theorem Agrees.putsN {l : List Oper} {a0 a : Act} (h : Agrees l a0 a) (L : List (Tmp × Value)) (hL : l.filterMap (·.dst) = L.map fun p => p.1) (hlt : ∀ p ∈ L, p.1 < a0.tmps.size) (hv : ∀ p ∈ L, a.eval (.tmp p.1) = p.2) : a = L.foldl (fun a p => a.put (some p.1) p.2) a0 := by
  refine puts_eq L a0 h.size h.defers (fun t ht => h.same t fun o ho e => ?_) fun p hp => ⟨by rw [h.size]; exact hlt p hp, hv p hp⟩
  have h1 : t ∈ l.filterMap (·.dst) := List.mem_filterMap.2 ⟨o, ho, e⟩
  rw [hL] at h1
  obtain ⟨p, hp, hpt⟩ := List.mem_map.1 h1
  exact ht p hp hpt

end
end Go.Proofs.YtdgaoebjbhomdaaDoor.QT
