/- A region that draws its order, whose operations each leave a fact about what they yield, which no later operation takes back: whatever the order, all facts hold behind it. -/
import Derived.Test.YtdgaoebjbhomdaaDoorQTail
namespace Go.Proofs.YtdgaoebjbhomdaaDoor.QT
open Go.RowKit

section
variable {P : Program}

/-- The frame is as it was, but in the slots that the operations write. -/
structure Agrees (l : List Oper) (a0 a : Act) : Prop where
  size : a.tmps.size = a0.tmps.size
  defers : a.defers = a0.defers
  same : ∀ t, (∀ o ∈ l, o.dst ≠ some t) → a.tmps[t]? = a0.tmps[t]?

def dstsB (l : List Oper) (n : Nat) : Bool := l.all (fun o => match o.dst with | some d => decide (d < n) | none => false) && decide ((l.map (·.dst)).Nodup)

theorem eval_put_same {a : Act} {d : Tmp} {v : Value} (h : d < a.tmps.size) : (a.put (some d) v).eval (.tmp d) = v := by
  simp [Act.put, Act.eval, h]
theorem eval_put_other {a : Act} {d t : Tmp} {v : Value} (h : d ≠ t) : (a.put (some d) v).eval (.tmp t) = a.eval (.tmp t) := by
  simp [Act.put, Act.eval, Array.getElem?_setIfInBounds_ne h]

theorem wp_region_facts {id : Nat} {Q : Exit → Act → World → Prop} {a0 : Act} {w0 : World} {l : List Oper} (hm : P.follows .mixedOrders = true) (I : World → Prop) (F : Nat → Value → World → Prop)
    (hB : backB .any l.toArray = true) (hD : dstsB l a0.tmps.size = true) (hI : I { w0 with drawn := w0.drawn + 1 })
    (hIs : ∀ w w', I w → Below w.heap.size w w' → I w') (hF : ∀ i v w w', F i v w → Below w.heap.size w w' → F i v w')
    (hstep : ∀ (i : Nat) (o : Oper), l[i]? = some o → ∀ a w, I w → Agrees l a0 a → (∀ e ∈ o.after, Region.binds .any e = true → ∀ (oj : Oper) (d : Tmp), l[e.on]? = some oj → oj.dst = some d → F e.on (a.eval (.tmp d)) w) →
      Region.wanted o (yielded l.toArray a.tmps) = true ∧ o.wp P a w (fun a' w' => ∃ v, a' = a.put o.dst v ∧ F i v w' ∧ Below w.heap.size w w') Q)
    (hfin : ∀ a w, I w → Agrees l a0 a → (∀ (i : Nat) (o : Oper) (d : Tmp), l[i]? = some o → o.dst = some d → F i (a.eval (.tmp d)) w) → Q .normal a w) : (Code.region id l.toArray true).wp P Q a0 w0 := by
  simp only [dstsB, Bool.and_eq_true, decide_eq_true_eq] at hD
  obtain ⟨hall, hnd⟩ := hD
  have hdst : ∀ (i : Nat) (o : Oper), l[i]? = some o → ∃ d, o.dst = some d ∧ d < a0.tmps.size := fun i o ho => by
    have h1 := List.all_eq_true.1 hall o (List.mem_of_getElem? ho)
    cases hd : o.dst with
    | none => rw [hd] at h1; cases h1
    | some d => rw [hd] at h1; exact ⟨d, rfl, by simpa using h1⟩
  have hinj : ∀ (i j : Nat) (oi oj : Oper) (d : Tmp), l[i]? = some oi → l[j]? = some oj → oi.dst = some d → oj.dst = some d → i = j := fun i j oi oj d hi hj h1 h2 => by
    obtain ⟨hil, hie⟩ := List.getElem?_eq_some_iff.1 hi
    obtain ⟨hjl, hje⟩ := List.getElem?_eq_some_iff.1 hj
    have hp := List.pairwise_iff_getElem.1 hnd
    rcases Nat.lt_trichotomy i j with h | h | h
    · exact (hp i j (by simpa using hil) (by simpa using hjl) h (by simp [hie, hje, h1, h2])).elim
    · exact h
    · exact (hp j i (by simpa using hjl) (by simpa using hil) h (by simp [hie, hje, h1, h2])).elim
  have key : ∀ (fuel : Nat) (listed : Array Bool) (a : Act) (w : World), I w → listed.size = l.toArray.size → Agrees l a0 a → (∀ i o d, l[i]? = some o → o.dst = some d → listed.getD i false = true → F i (a.eval (.tmp d)) w) →
      fuel + listed.toList.count true = l.toArray.size → wpAny P .any l.toArray Q fuel listed a w := by
    intro fuel
    induction fuel with
    | zero =>
      intro listed a w hw hs hag hf hcnt
      have hlen : listed.toList.length = l.toArray.size := by simp [hs]
      have hal := (List.count_eq_length (a := true) (l := listed.toList)).1 (by omega)
      have hyes : ∀ i, i < l.toArray.size → listed.getD i false = true := fun i hi => by
        have hil : i < listed.size := by omega
        have := hal listed[i] (by simp)
        simp [hil, ← this]
      refine ⟨?_, hfin a w hw hag fun i o d hi hd => hf i o d hi hd (hyes i (by have := (List.getElem?_eq_some_iff.1 hi).1; simpa using this))⟩
      cases hr : Region.ready .any l.toArray listed with
      | nil => rfl
      | cons x xs =>
        exfalso
        have hx : x ∈ Region.ready .any l.toArray listed := by rw [hr]; simp
        obtain ⟨hun, ox, hox, _⟩ := mem_ready.1 hx
        have hxl := (Array.getElem?_eq_some_iff.1 hox).1
        have h1 := hyes x hxl
        have hil : x < listed.size := by omega
        simp [hil] at h1 hun
        rw [h1] at hun
        cases hun
    | succ fuel ih =>
      intro listed a w hw hs hag hf hcnt
      refine ⟨fun h0 => ?_, fun i hi => ?_⟩
      · exfalso
        have hlt : listed.toList.count true < listed.toList.length := by
          rw [Array.length_toList, hs]
          omega
        have : ∃ i, i < l.toArray.size ∧ listed.getD i true = false := by
          apply Classical.byContradiction
          intro hno
          have hall2 : ∀ b ∈ listed.toList, true = b := fun b hb => by
            obtain ⟨i, hil, hib⟩ := List.getElem_of_mem hb
            cases hbb : b with
            | true => rfl
            | false =>
              exfalso
              have hil' : i < listed.size := by simpa using hil
              exact hno ⟨i, by omega, by
                rw [hbb] at hib
                simpa [hil'] using hib⟩
          have := List.count_eq_length.2 hall2
          omega
        obtain ⟨i, hil, hun⟩ := this
        exact ready_some hB hs i hil hun h0
      · obtain ⟨hun, o, ho, hall⟩ := mem_ready.1 hi
        have hol : l[i]? = some o := by simpa using ho
        have hil := (Array.getElem?_eq_some_iff.1 ho).1
        obtain ⟨hwt, hwp⟩ := hstep i o hol a w hw hag fun e he hb oj d hj hd => hf e.on oj d hj hd (hall e he hb)
        have hop : wpOp P l.toArray Q i (fun a' w' => ∃ v, a' = a.put o.dst v ∧ F i v w' ∧ Below w.heap.size w w') a w := by
          unfold wpOp
          simp only [ho, hwt, if_true]
          exact Or.inl hwp
        refine wpOp_mono (fun a' w' hh => ?_) hop
        obtain ⟨v, rfl, hFv, hb⟩ := hh
        obtain ⟨d, hd, hdl⟩ := hdst i o hol
        rw [hd]
        refine ih _ _ _ (hIs w w' hw hb) (by simp [hs]) ⟨?_, ?_, fun t ht => ?_⟩ (fun j oj dj hj hdj hlj => ?_) ?_
        · simp [Act.put, hag.size]
        · exact hag.defers
        · have hne : d ≠ t := fun e => ht o (List.mem_of_getElem? hol) (by rw [hd, e])
          rw [← hag.same t ht]
          simp [Act.put, Array.getElem?_setIfInBounds_ne hne]
        · by_cases hij : i = j
          · subst hij
            obtain rfl : oj = o := Option.some.inj (hj.symm.trans hol)
            obtain rfl : dj = d := Option.some.inj (hdj.symm.trans hd)
            rw [eval_put_same (by rw [hag.size]; exact hdl)]
            exact hFv
          · have hne : d ≠ dj := fun e => hij (hinj i j o oj d hol hj hd (by rw [hdj, e]))
            rw [eval_put_other hne]
            rw [getD_set_ne false hij] at hlj
            exact hF j _ w w' (hf j oj dj hj hdj hlj) hb
        · rw [count_set (by rw [hs]; exact hil) hun]
          omega
  refine wp_region_any hm (key _ _ _ _ hI (by simp) ⟨rfl, rfl, fun _ _ => rfl⟩ (fun i o d _ _ hl => by rw [getD_replicate_false] at hl; cases hl) (by simp [List.count_replicate]))

end
end Go.Proofs.YtdgaoebjbhomdaaDoor.QT
