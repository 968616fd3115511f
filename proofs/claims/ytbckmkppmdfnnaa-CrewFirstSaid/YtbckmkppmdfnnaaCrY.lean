/- In company: a region that draws its order, whose operations (calls among them) each leave a fact that no later one takes back. -/
import Derived.Test.YtbckmkppmdfnnaaQFa
import Derived.Conc.CompanyDraw
namespace Go.Proofs.Ytbckmkppmdfnnaa.Crew
open Go.Conc Go.RowKit Go.Proofs.Ytbckmkppmdfnnaa.QT

/-- What operation o has left. -/
def left (o : Oper) (a : Act) : Value := match o.dst with | some d => a.eval (.tmp d) | none => undef
def dstsO (l : List Oper) (n : Nat) : Bool := l.all (fun o => match o.dst with | some d => decide (d < n) | none => true) && decide ((l.filterMap (·.dst)).Nodup)
theorem dst_inj {l : List Oper} (h : (l.filterMap (·.dst)).Nodup) : ∀ (i j : Nat) (oi oj : Oper) (d : Tmp), l[i]? = some oi → l[j]? = some oj → oi.dst = some d → oj.dst = some d → i = j := by
  induction l with
  | nil => intro i j oi oj d hi; simp at hi
  | cons x l ih =>
    intro i j oi oj d hi hj h1 h2
    have hin : ∀ (k : Nat) (o : Oper), l[k]? = some o → o.dst = some d → d ∈ l.filterMap (·.dst) := fun k o hk ho => List.mem_filterMap.2 ⟨o, List.mem_of_getElem? hk, ho⟩
    have hnd : (l.filterMap (·.dst)).Nodup := by
      cases hx : x.dst with
      | none => simpa [List.filterMap_cons, hx] using h
      | some e => have := h; simp [hx] at this; exact this.2
    have hno : x.dst = some d → d ∉ l.filterMap (·.dst) := fun hx hm => by
      have := h
      simp only [List.filterMap_cons, hx, List.nodup_cons] at this
      exact this.1 hm
    cases i with
    | zero =>
      cases j with
      | zero => rfl
      | succ j =>
        simp at hi hj
        subst hi
        exact absurd (hin j oj hj h2) (hno h1)
    | succ i =>
      cases j with
      | zero =>
        simp at hi hj
        subst hj
        exact absurd (hin i oi hi h1) (hno h2)
      | succ j => simp at hi hj; rw [ih hnd i j oi oj d hi hj h1 h2]

section
variable {P : Program} {main : Bool} {R : World → World → Prop} {D : World → World → Array Event → Prop} {Stop : Goroutine → World → Prop}
theorem goes_region_facts (hd : LetsDraw D) {id : Nat} {b : Frame} {cs : List Frame} {k : List Item} {a0 : Act} {w0 : World} {l : List Oper} {c m : Nat} (hm : P.follows .mixedOrders = true)
    (I : World → Prop) (F : Nat → Value → World → Prop) (Ev : World → World → Prop) (hB : backB .any l.toArray = true) (hD : dstsO l a0.tmps.size = true) (hI : ∀ w₁, R w0 w₁ → I { w₁ with drawn := w₁.drawn + 1 })
    (hIs : ∀ w w', I w → Ev w w' → I w') (hF : ∀ i v w w', F i v w → Ev w w' → F i v w')
    (hstep : ∀ (i : Nat) (o : Oper), l[i]? = some o → ∀ a w rest m', I w → Agrees l a0 a → (∀ e ∈ o.after, Region.binds .any e = true → ∀ oj : Oper, l[e.on]? = some oj → F e.on (left oj a) w) →
      (∀ v w', F i v w' → Ev w w' → Goes P main R D Stop m' (G (b.at (a.put o.dst v) (.inRegion l.toArray rest :: k)) cs) w') → (o.dst = none → ∀ v, F i v w → F i undef w) → Goes P main R D Stop (m' + c) (G (b.at a (.inRegion l.toArray (i :: rest) :: k)) cs) w)
    (hnone : ∀ (i : Nat) (o : Oper) v w, l[i]? = some o → o.dst = none → F i v w → F i undef w)
    (hfin : ∀ a w, I w → Agrees l a0 a → (∀ (i : Nat) (o : Oper), l[i]? = some o → F i (left o a) w) → Goes P main R D Stop m (G (b.at a (.inRegion l.toArray [] :: k)) cs) w) :
    Goes P main R D Stop (m + c * l.length + 1) (G (b.at a0 (.code (.region id l.toArray true) :: k)) cs) w0 := by
  simp only [dstsO, Bool.and_eq_true, decide_eq_true_eq] at hD
  obtain ⟨hall, hnd⟩ := hD
  have hdst : ∀ (i : Nat) (o : Oper) (d : Tmp), l[i]? = some o → o.dst = some d → d < a0.tmps.size := fun i o d ho hd => by
    have h1 := List.all_eq_true.1 hall o (List.mem_of_getElem? ho)
    rw [hd] at h1
    simpa using h1
  have hinj := dst_inj hnd
  have key : ∀ (fuel t : Nat) (listed : Array Bool) (a : Act) (w : World), I w → listed.size = l.toArray.size → Agrees l a0 a → (∀ i o, l[i]? = some o → listed.getD i false = true → F i (left o a) w) →
      fuel + listed.toList.count true = l.toArray.size → Goes P main R D Stop (m + c * fuel) (G (b.at a (.inRegion l.toArray (Region.linearise.go .any l.toArray fuel t listed []) :: k)) cs) w := by
    intro fuel
    induction fuel with
    | zero =>
      intro t listed a w hw hs hag hf hcnt
      have hlen : listed.toList.length = l.toArray.size := by simp [hs]
      have hal := (List.count_eq_length (a := true) (l := listed.toList)).1 (by omega)
      have hyes : ∀ i, i < l.toArray.size → listed.getD i false = true := fun i hi => by
        have hil : i < listed.size := by omega
        have := hal listed[i] (by simp)
        simp [hil, ← this]
      have := hfin a w hw hag fun i o hi => hf i o hi (hyes i (by have := (List.getElem?_eq_some_iff.1 hi).1; simpa using this))
      simpa [Region.linearise.go] using this
    | succ fuel ih =>
      intro t listed a w hw hs hag hf hcnt
      have hne : Region.ready .any l.toArray listed ≠ [] := by
        have hlt : listed.toList.count true < listed.toList.length := by
          rw [Array.length_toList, hs]
          omega
        have : ∃ i, i < l.toArray.size ∧ listed.getD i true = false := by
          apply Classical.byContradiction
          intro hno
          have hall2 : ∀ b ∈ listed.toList, true = b := fun b hb => by
            obtain ⟨i, hil, hib⟩ := List.getElem_of_mem hb
            cases hbb : b with
            | true => rfl
            | false =>
              exfalso
              have hil' : i < listed.size := by simpa using hil
              exact hno ⟨i, by omega, by
                rw [hbb] at hib
                simpa [hil'] using hib⟩
          have := List.count_eq_length.2 hall2
          omega
        obtain ⟨i, hil, hun⟩ := this
        exact ready_some hB hs i hil hun
      simp only [Region.linearise.go]
      change Goes P main R D Stop (m + c * (fuel + 1)) (G (b.at a (.inRegion l.toArray (match (Region.ready .any l.toArray listed)[t % (Region.ready .any l.toArray listed).length]? with
        | some i => Region.linearise.go .any l.toArray fuel (t / (Region.ready .any l.toArray listed).length) (listed.setIfInBounds i true) [i]
        | none => [].reverse) :: k)) cs) w
      cases hi : (Region.ready .any l.toArray listed)[t % (Region.ready .any l.toArray listed).length]? with
      | none =>
        exfalso
        have hp : 0 < (Region.ready .any l.toArray listed).length := List.length_pos_iff.2 hne
        have := List.getElem?_eq_none_iff.1 hi
        have := Nat.mod_lt t hp
        omega
      | some i =>
        simp only []
        rw [linearise_go_acc, List.reverse_singleton, List.singleton_append]
        obtain ⟨hun, o, ho, hall⟩ := mem_ready.1 (List.mem_of_getElem? hi)
        have hol : l[i]? = some o := by simpa using ho
        have hil := (Array.getElem?_eq_some_iff.1 ho).1
        have e : m + c * (fuel + 1) = (m + c * fuel) + c := by rw [Nat.mul_succ]; omega
        rw [e]
        refine hstep i o hol a w _ _ hw hag (fun e he hb oj hj => hf e.on oj hj (hall e he hb)) (fun v w' hFv hev => ?_) (fun hn v hv => hnone i o v w hol hn hv)
        refine ih _ _ _ _ (hIs w w' hw hev) (by simp [hs]) ⟨?_, ?_, fun t ht => ?_⟩ (fun j oj hj hlj => ?_) ?_
        · cases o.dst <;> simp [Act.put, hag.size]
        · cases o.dst <;> exact hag.defers
        · rw [← hag.same t ht]
          cases hd' : o.dst with
          | none => rfl
          | some d =>
            have hne : d ≠ t := fun e => ht o (List.mem_of_getElem? hol) (by rw [hd', e])
            simp [Act.put, Array.getElem?_setIfInBounds_ne hne]
        · by_cases hij : i = j
          · subst hij
            obtain rfl : oj = o := Option.some.inj (hj.symm.trans hol)
            unfold left
            cases hd' : oj.dst with
            | none => exact hnone i oj v w' hol hd' hFv
            | some d =>
              simp only []
              rw [eval_put_same (by rw [hag.size]; exact hdst i oj d hol hd')]
              exact hFv
          · rw [getD_set_ne false hij] at hlj
            have hold := hF j _ w w' (hf j oj hj hlj) hev
            have : left oj (a.put o.dst v) = left oj a := by
              unfold left
              cases hdj : oj.dst with
              | none => rfl
              | some dj =>
                cases hd' : o.dst with
                | none => rfl
                | some d =>
                  have hne : d ≠ dj := fun e => hij (hinj i j o oj d hol hj hd' (by rw [hdj, e]))
                  exact eval_put_other hne
            rw [this]
            exact hold
        · rw [count_set (by rw [hs]; exact hil) hun]
          omega
  refine Goes.step rfl fun w₁ h₁ => ?_
  rw [stepG_region_draw]
  refine ⟨hd _, ?_⟩
  simp only [Region.schedule, hm, Bool.true_or, if_true]
  have := key l.toArray.size (w₁.tape w₁.drawn (.order b.fn id)) (Array.replicate l.toArray.size false) a0 { w₁ with drawn := w₁.drawn + 1 } (hI w₁ h₁) (by simp) ⟨rfl, rfl, fun _ _ => rfl⟩
    (fun i o _ hl => by rw [getD_replicate_false] at hl; cases hl) (by simp [List.count_replicate])
  simpa [Region.linearise] using this
end
end Go.Proofs.Ytbckmkppmdfnnaa.Crew
