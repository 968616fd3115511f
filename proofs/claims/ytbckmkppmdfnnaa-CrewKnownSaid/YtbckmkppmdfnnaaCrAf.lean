/- In company: a region that draws its order, by one invariant of which operations have come up, what they have left, and the world. -/
import Derived.Test.YtbckmkppmdfnnaaCrAe
namespace Go.Proofs.Ytbckmkppmdfnnaa.Crew
open Go.Conc Go.RowKit Go.Proofs.Ytbckmkppmdfnnaa.QT
section
variable {P : Program} {main : Bool} {R : World → World → Prop} {D : World → World → Array Event → Prop} {Stop : Goroutine → World → Prop}
theorem goes_region_inv (hd : LetsDraw D) {id : Nat} {b : Frame} {cs : List Frame} {k : List Item} {a0 : Act} {w0 : World} {l : List Oper} {c m : Nat} (hm : P.follows .mixedOrders = true)
    (Inv : (Nat → Prop) → (Nat → Value) → World → Prop) (hB : backB .any l.toArray = true) (hD : dstsO l a0.tmps.size = true) (hI : ∀ w₁ s, R w0 w₁ → Inv (fun _ => False) s { w₁ with drawn := w₁.drawn + 1 })
    (hstep : ∀ (i : Nat) (o : Oper), l[i]? = some o → ∀ a w rest m' (L : Nat → Prop), Agrees l a0 a → Inv L (vals l a) w → ¬ L i → (∀ e ∈ o.after, Region.binds .any e = true → L e.on) →
      (∀ v w', (∀ (L' : Nat → Prop) (s : Nat → Value), (∀ j, L' j ↔ j = i ∨ L j) → s i = (if o.dst = none then undef else v) → (∀ j, j ≠ i → s j = vals l a j) → Inv L' s w') → Goes P main R D Stop m' (G (b.at (a.put o.dst v) (.inRegion l.toArray rest :: k)) cs) w') →
      Goes P main R D Stop (m' + c) (G (b.at a (.inRegion l.toArray (i :: rest) :: k)) cs) w)
    (hfin : ∀ a w (L : Nat → Prop), Agrees l a0 a → Inv L (vals l a) w → (∀ i, i < l.length → L i) → Goes P main R D Stop m (G (b.at a (.inRegion l.toArray [] :: k)) cs) w) :
    Goes P main R D Stop (m + c * l.length + 1) (G (b.at a0 (.code (.region id l.toArray true) :: k)) cs) w0 := by
  simp only [dstsO, Bool.and_eq_true, decide_eq_true_eq] at hD
  obtain ⟨hall, hnd⟩ := hD
  have hdst : ∀ (i : Nat) (o : Oper) (d : Tmp), l[i]? = some o → o.dst = some d → d < a0.tmps.size := fun i o d ho hd => by
    have h1 := List.all_eq_true.1 hall o (List.mem_of_getElem? ho)
    rw [hd] at h1
    simpa using h1
  have hinj := dst_inj hnd
  have key : ∀ (fuel t : Nat) (listed : Array Bool) (a : Act) (w : World), listed.size = l.toArray.size → Agrees l a0 a → Inv (fun j => listed.getD j false = true) (vals l a) w →
      fuel + listed.toList.count true = l.toArray.size → Goes P main R D Stop (m + c * fuel) (G (b.at a (.inRegion l.toArray (Region.linearise.go .any l.toArray fuel t listed []) :: k)) cs) w := by
    intro fuel
    induction fuel with
    | zero =>
      intro t listed a w hs hag hf hcnt
      have hlen : listed.toList.length = l.toArray.size := by simp [hs]
      have hal := (List.count_eq_length (a := true) (l := listed.toList)).1 (by omega)
      have hyes : ∀ i, i < l.toArray.size → listed.getD i false = true := fun i hi => by
        have hil : i < listed.size := by omega
        have := hal listed[i] (by simp)
        simp [hil, ← this]
      have := hfin a w _ hag hf fun i hi => hyes i (by simpa using hi)
      simpa [Region.linearise.go] using this
    | succ fuel ih =>
      intro t listed a w hs hag hf hcnt
      have hne : Region.ready .any l.toArray listed ≠ [] := by
        have hlt : listed.toList.count true < listed.toList.length := by
          rw [Array.length_toList, hs]
          omega
        have : ∃ i, i < l.toArray.size ∧ listed.getD i true = false := by
          apply Classical.byContradiction
          intro hno
          have hall2 : ∀ b ∈ listed.toList, true = b := fun b hb => by
            obtain ⟨i, hil, hib⟩ := List.getElem_of_mem hb
            cases hbb : b with
            | true => rfl
            | false =>
              exfalso
              have hil' : i < listed.size := by simpa using hil
              exact hno ⟨i, by omega, by
                rw [hbb] at hib
                simpa [hil'] using hib⟩
          have := List.count_eq_length.2 hall2
          omega
        obtain ⟨i, hil, hun⟩ := this
        exact ready_some hB hs i hil hun
      simp only [Region.linearise.go]
      change Goes P main R D Stop (m + c * (fuel + 1)) (G (b.at a (.inRegion l.toArray (match (Region.ready .any l.toArray listed)[t % (Region.ready .any l.toArray listed).length]? with
        | some i => Region.linearise.go .any l.toArray fuel (t / (Region.ready .any l.toArray listed).length) (listed.setIfInBounds i true) [i]
        | none => [].reverse) :: k)) cs) w
      cases hi : (Region.ready .any l.toArray listed)[t % (Region.ready .any l.toArray listed).length]? with
      | none =>
        exfalso
        have hp : 0 < (Region.ready .any l.toArray listed).length := List.length_pos_iff.2 hne
        have := List.getElem?_eq_none_iff.1 hi
        have := Nat.mod_lt t hp
        omega
      | some i =>
        simp only []
        rw [linearise_go_acc, List.reverse_singleton, List.singleton_append]
        obtain ⟨hun, o, ho, hall⟩ := mem_ready.1 (List.mem_of_getElem? hi)
        have hol : l[i]? = some o := by simpa using ho
        have hil := (Array.getElem?_eq_some_iff.1 ho).1
        have hil' : i < listed.size := by rw [hs]; exact hil
        have e : m + c * (fuel + 1) = (m + c * fuel) + c := by rw [Nat.mul_succ]; omega
        rw [e]
        have hnot : ¬ listed.getD i false = true := fun hl => by
          simp [hil'] at hl hun
          rw [hl] at hun
          cases hun
        refine hstep i o hol a w _ _ (fun j => listed.getD j false = true) hag hf hnot (fun e he hb => hall e he hb) (fun v w' hv => ?_)
        refine ih _ _ _ _ (by simp [hs]) ⟨?_, ?_, fun t ht => ?_⟩ (hv _ _ (fun j => ?_) ?_ fun j hj => ?_) ?_
        · cases o.dst <;> simp [Act.put, hag.size]
        · cases o.dst <;> exact hag.defers
        · rw [← hag.same t ht]
          cases hd' : o.dst with
          | none => rfl
          | some d =>
            have hne : d ≠ t := fun e => ht o (List.mem_of_getElem? hol) (by rw [hd', e])
            simp [Act.put, Array.getElem?_setIfInBounds_ne hne]
        · by_cases hij : i = j
          · subst hij
            simp [hil']
          · rw [getD_set_ne false hij]
            exact ⟨.inr, fun h => h.resolve_left (Ne.symm hij)⟩
        · rw [vals_at hol]
          unfold left
          cases hd' : o.dst with
          | none => simp
          | some d =>
            simp only [reduceCtorEq, if_false]
            rw [eval_put_same (by rw [hag.size]; exact hdst i o d hol hd')]
        · unfold vals
          cases hx : l[j]? with
          | none => rfl
          | some oj =>
            simp only []
            unfold left
            cases hdj : oj.dst with
            | none => rfl
            | some dj =>
              cases hd' : o.dst with
              | none => rfl
              | some d =>
                have hne : d ≠ dj := fun e => hj (hinj i j o oj d hol hx hd' (by rw [hdj, e])).symm
                exact eval_put_other hne
        · rw [count_set (by rw [hs]; exact hil) hun]
          omega
  refine Goes.step rfl fun w₁ h₁ => ?_
  rw [stepG_region_draw]
  refine ⟨hd _, ?_⟩
  simp only [Region.schedule, hm, Bool.true_or, if_true]
  have := key l.toArray.size (w₁.tape w₁.drawn (.order b.fn id)) (Array.replicate l.toArray.size false) a0 { w₁ with drawn := w₁.drawn + 1 } (by simp) ⟨rfl, rfl, fun _ _ => rfl⟩
    (by
      have := hI w₁ (vals l a0) h₁
      have e : (fun j => (Array.replicate l.toArray.size false).getD j false = true) = fun _ => False := by
        funext j
        rw [getD_replicate_false]
        simp
      rw [e]
      exact this) (by simp [List.count_replicate])
  simpa [Region.linearise] using this
end
end Go.Proofs.Ytbckmkppmdfnnaa.Crew
