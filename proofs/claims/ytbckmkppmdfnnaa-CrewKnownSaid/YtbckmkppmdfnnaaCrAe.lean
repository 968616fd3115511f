/- In company: a region that draws its order: facts that may speak of what the operations ahead have left, and a fact of each two. -/
import Derived.Test.YtbckmkppmdfnnaaCrY
namespace Go.Proofs.Ytbckmkppmdfnnaa.Crew
open Go.Conc Go.RowKit Go.Proofs.Ytbckmkppmdfnnaa.QT
def vals (l : List Oper) (a : Act) : Nat → Value := fun j => match l[j]? with | some o => left o a | none => undef
theorem vals_at {l : List Oper} {a : Act} {j : Nat} {o : Oper} (h : l[j]? = some o) : vals l a j = left o a := by simp [vals, h]
section
variable {P : Program} {main : Bool} {R : World → World → Prop} {D : World → World → Array Event → Prop} {Stop : Goroutine → World → Prop}
theorem goes_region_vals (hd : LetsDraw D) {id : Nat} {b : Frame} {cs : List Frame} {k : List Item} {a0 : Act} {w0 : World} {l : List Oper} {c m : Nat} (hm : P.follows .mixedOrders = true)
    (I : World → Prop) (F : Nat → (Nat → Value) → World → Prop) (H2 : Nat → Nat → Value → Value → Prop) (Ev : World → World → Prop) (hB : backB .any l.toArray = true) (hD : dstsO l a0.tmps.size = true) (hI : ∀ w₁, R w0 w₁ → I { w₁ with drawn := w₁.drawn + 1 })
    (hIs : ∀ w w', I w → Ev w w' → I w') (hF : ∀ i o s s' w w', l[i]? = some o → F i s w → Ev w w' → s' i = s i → (∀ e ∈ o.after, Region.binds .any e = true → s' e.on = s e.on) → F i s' w')
    (hstep : ∀ (i : Nat) (o : Oper), l[i]? = some o → ∀ a w rest m' (Li : Nat → Prop), I w → Agrees l a0 a → (∀ e ∈ o.after, Region.binds .any e = true → ∀ oj : Oper, l[e.on]? = some oj → F e.on (vals l a) w) →
      (∀ j oj, Li j → l[j]? = some oj → F j (vals l a) w) →
      (∀ v w', (∀ s : Nat → Value, s i = (if o.dst = none then undef else v) → (∀ e ∈ o.after, Region.binds .any e = true → s e.on = vals l a e.on) → F i s w') → Ev w w' → (∀ j oj, Li j → l[j]? = some oj → j ≠ i → H2 j i (left oj a) v ∧ H2 i j v (left oj a)) → Goes P main R D Stop m' (G (b.at (a.put o.dst v) (.inRegion l.toArray rest :: k)) cs) w') → Goes P main R D Stop (m' + c) (G (b.at a (.inRegion l.toArray (i :: rest) :: k)) cs) w)
    (hnoneG : ∀ (i j : Nat) (o : Oper) v v', l[i]? = some o → o.dst = none → (H2 i j v v' → H2 i j undef v') ∧ (H2 j i v' v → H2 j i v' undef))
    (hfin : ∀ a w, I w → Agrees l a0 a → (∀ (i : Nat) (o : Oper), l[i]? = some o → F i (vals l a) w) → (∀ (i j : Nat) (oi oj : Oper), l[i]? = some oi → l[j]? = some oj → i ≠ j → H2 i j (left oi a) (left oj a)) → Goes P main R D Stop m (G (b.at a (.inRegion l.toArray [] :: k)) cs) w) :
    Goes P main R D Stop (m + c * l.length + 1) (G (b.at a0 (.code (.region id l.toArray true) :: k)) cs) w0 := by
  simp only [dstsO, Bool.and_eq_true, decide_eq_true_eq] at hD
  obtain ⟨hall, hnd⟩ := hD
  have hdst : ∀ (i : Nat) (o : Oper) (d : Tmp), l[i]? = some o → o.dst = some d → d < a0.tmps.size := fun i o d ho hd => by
    have h1 := List.all_eq_true.1 hall o (List.mem_of_getElem? ho)
    rw [hd] at h1
    simpa using h1
  have hinj := dst_inj hnd
  have key : ∀ (fuel t : Nat) (listed : Array Bool) (a : Act) (w : World), I w → listed.size = l.toArray.size → Agrees l a0 a → (∀ i o, l[i]? = some o → listed.getD i false = true → F i (vals l a) w) →
      (∀ i j oi oj, l[i]? = some oi → l[j]? = some oj → listed.getD i false = true → listed.getD j false = true → i ≠ j → H2 i j (left oi a) (left oj a)) →
      (∀ j oj, l[j]? = some oj → listed.getD j false = true → ∀ e ∈ oj.after, Region.binds .any e = true → listed.getD e.on false = true) →
      fuel + listed.toList.count true = l.toArray.size → Goes P main R D Stop (m + c * fuel) (G (b.at a (.inRegion l.toArray (Region.linearise.go .any l.toArray fuel t listed []) :: k)) cs) w := by
    intro fuel
    induction fuel with
    | zero =>
      intro t listed a w hw hs hag hf hG hdl hcnt
      have hlen : listed.toList.length = l.toArray.size := by simp [hs]
      have hal := (List.count_eq_length (a := true) (l := listed.toList)).1 (by omega)
      have hyes : ∀ i, i < l.toArray.size → listed.getD i false = true := fun i hi => by
        have hil : i < listed.size := by omega
        have := hal listed[i] (by simp)
        simp [hil, ← this]
      have hlt : ∀ (i : Nat) (o : Oper), l[i]? = some o → i < l.toArray.size := fun i o hi => by have := (List.getElem?_eq_some_iff.1 hi).1; simpa using this
      have := hfin a w hw hag (fun i o hi => hf i o hi (hyes i (hlt i o hi))) fun i j oi oj hi hj hij => hG i j oi oj hi hj (hyes i (hlt i oi hi)) (hyes j (hlt j oj hj)) hij
      simpa [Region.linearise.go] using this
    | succ fuel ih =>
      intro t listed a w hw hs hag hf hG hdl hcnt
      have hne : Region.ready .any l.toArray listed ≠ [] := by
        have hlt : listed.toList.count true < listed.toList.length := by
          rw [Array.length_toList, hs]
          omega
        have : ∃ i, i < l.toArray.size ∧ listed.getD i true = false := by
          apply Classical.byContradiction
          intro hno
          have hall2 : ∀ b ∈ listed.toList, true = b := fun b hb => by
            obtain ⟨i, hil, hib⟩ := List.getElem_of_mem hb
            cases hbb : b with
            | true => rfl
            | false =>
              exfalso
              have hil' : i < listed.size := by simpa using hil
              exact hno ⟨i, by omega, by
                rw [hbb] at hib
                simpa [hil'] using hib⟩
          have := List.count_eq_length.2 hall2
          omega
        obtain ⟨i, hil, hun⟩ := this
        exact ready_some hB hs i hil hun
      simp only [Region.linearise.go]
      change Goes P main R D Stop (m + c * (fuel + 1)) (G (b.at a (.inRegion l.toArray (match (Region.ready .any l.toArray listed)[t % (Region.ready .any l.toArray listed).length]? with
        | some i => Region.linearise.go .any l.toArray fuel (t / (Region.ready .any l.toArray listed).length) (listed.setIfInBounds i true) [i]
        | none => [].reverse) :: k)) cs) w
      cases hi : (Region.ready .any l.toArray listed)[t % (Region.ready .any l.toArray listed).length]? with
      | none =>
        exfalso
        have hp : 0 < (Region.ready .any l.toArray listed).length := List.length_pos_iff.2 hne
        have := List.getElem?_eq_none_iff.1 hi
        have := Nat.mod_lt t hp
        omega
      | some i =>
        simp only []
        rw [linearise_go_acc, List.reverse_singleton, List.singleton_append]
        obtain ⟨hun, o, ho, hall⟩ := mem_ready.1 (List.mem_of_getElem? hi)
        have hol : l[i]? = some o := by simpa using ho
        have hil := (Array.getElem?_eq_some_iff.1 ho).1
        have e : m + c * (fuel + 1) = (m + c * fuel) + c := by rw [Nat.mul_succ]; omega
        rw [e]
        refine hstep i o hol a w _ _ (fun j => listed.getD j false = true) hw hag (fun e he hb oj hj => hf e.on oj hj (hall e he hb)) (fun j oj hl hj => hf j oj hj hl) (fun v w' hFv hev hGv => ?_)
        have lown : left o (a.put o.dst v) = v ∨ (o.dst = none ∧ left o (a.put o.dst v) = undef) := by
          unfold left
          cases hd' : o.dst with
          | none => exact .inr ⟨rfl, rfl⟩
          | some d =>
            refine .inl ?_
            simp only []
            rw [eval_put_same (by rw [hag.size]; exact hdst i o d hol hd')]
        have loth : ∀ j oj, l[j]? = some oj → i ≠ j → left oj (a.put o.dst v) = left oj a := by
          intro j oj hj hij
          unfold left
          cases hdj : oj.dst with
          | none => rfl
          | some dj =>
            cases hd' : o.dst with
            | none => rfl
            | some d =>
              have hne : d ≠ dj := fun e => hij (hinj i j o oj d hol hj hd' (by rw [hdj, e]))
              exact eval_put_other hne
        have hni : ∀ j, listed.getD j false = true → i ≠ j := fun j hl e => by
          subst e
          have hil' : i < listed.size := by rw [hs]; exact hil
          simp [hil'] at hl hun
          rw [hl] at hun
          cases hun
        have vdep : ∀ (oj : Oper), (∀ e ∈ oj.after, Region.binds .any e = true → listed.getD e.on false = true) → ∀ e ∈ oj.after, Region.binds .any e = true → vals l (a.put o.dst v) e.on = vals l a e.on := by
          intro oj h e he hb
          unfold vals
          cases hx : l[e.on]? with
          | none => rfl
          | some ox => exact loth e.on ox hx (hni _ (h e he hb))
        refine ih _ _ _ _ (hIs w w' hw hev) (by simp [hs]) ⟨?_, ?_, fun t ht => ?_⟩ (fun j oj hj hlj => ?_) (fun j1 j2 o1 o2 h1 h2 l1 l2 hne => ?_) (fun j oj hj hlj e he hb => ?_) ?_
        · cases o.dst <;> simp [Act.put, hag.size]
        · cases o.dst <;> exact hag.defers
        · rw [← hag.same t ht]
          cases hd' : o.dst with
          | none => rfl
          | some d =>
            have hne : d ≠ t := fun e => ht o (List.mem_of_getElem? hol) (by rw [hd', e])
            simp [Act.put, Array.getElem?_setIfInBounds_ne hne]
        · by_cases hij : i = j
          · subst hij
            obtain rfl : oj = o := Option.some.inj (hj.symm.trans hol)
            refine hFv _ ?_ (vdep oj hall)
            rw [vals_at hol]
            rcases lown with e | ⟨hn, e⟩
            · rw [e]
              split
              · rename_i hn
                rw [← e]
                unfold left
                rw [hn]
              · rfl
            · rw [e, if_pos hn]
          · rw [getD_set_ne false hij] at hlj
            refine hF j oj _ _ w w' hj (hf j oj hj hlj) hev ?_ (vdep oj (hdl j oj hj hlj))
            rw [vals_at hj, vals_at hj, loth j oj hj hij]
        · by_cases hi1 : i = j1
          · subst hi1
            obtain rfl : o1 = o := Option.some.inj (h1.symm.trans hol)
            rw [getD_set_ne false hne] at l2
            rw [loth j2 o2 h2 hne]
            have := (hGv j2 o2 l2 h2 (Ne.symm hne)).2
            rcases lown with e | ⟨hn, e⟩
            · rw [e]; exact this
            · rw [e]; exact (hnoneG i j2 o1 v _ hol hn).1 this
          · rw [getD_set_ne false hi1] at l1
            rw [loth j1 o1 h1 hi1]
            by_cases hi2 : i = j2
            · subst hi2
              obtain rfl : o2 = o := Option.some.inj (h2.symm.trans hol)
              have := (hGv j1 o1 l1 h1 hne).1
              rcases lown with e | ⟨hn, e⟩
              · rw [e]; exact this
              · rw [e]; exact (hnoneG i j1 o2 v _ hol hn).2 this
            · rw [getD_set_ne false hi2] at l2
              rw [loth j2 o2 h2 hi2]
              exact hG j1 j2 o1 o2 h1 h2 l1 l2 hne
        · by_cases hie : i = e.on
          · subst hie
            simpa [hs] using hil
          · rw [getD_set_ne false hie]
            by_cases hij : i = j
            · subst hij
              obtain rfl : oj = o := Option.some.inj (hj.symm.trans hol)
              exact hall e he hb
            · rw [getD_set_ne false hij] at hlj
              exact hdl j oj hj hlj e he hb
        · rw [count_set (by rw [hs]; exact hil) hun]
          omega
  refine Goes.step rfl fun w₁ h₁ => ?_
  rw [stepG_region_draw]
  refine ⟨hd _, ?_⟩
  simp only [Region.schedule, hm, Bool.true_or, if_true]
  have := key l.toArray.size (w₁.tape w₁.drawn (.order b.fn id)) (Array.replicate l.toArray.size false) a0 { w₁ with drawn := w₁.drawn + 1 } (hI w₁ h₁) (by simp) ⟨rfl, rfl, fun _ _ => rfl⟩
    (fun i o _ hl => by rw [getD_replicate_false] at hl; cases hl) (fun i j _ _ _ _ hl => by rw [getD_replicate_false] at hl; cases hl) (fun j _ _ hl => by rw [getD_replicate_false] at hl; cases hl) (by simp [List.count_replicate])
  simpa [Region.linearise] using this
end
end Go.Proofs.Ytbckmkppmdfnnaa.Crew
