/- A region that draws its order, by facts: a store behind the head, ahead of which or behind which one operation of the head may come. -/
import Derived.Test.YtpifjeghoapjbaaQFt
namespace Go.Proofs.Ytpifjeghoapjbaa.QT
open Go.RowKit

section
variable {P : Program}

def sinkL (l : List Oper) (n j : Nat) : Bool := (List.range n).all fun i => i == j || (List.range (n + 1)).any fun k => decide (i < k) && k != j && Region.waitsFor .any l.toArray k i
def missing (m n j : Nat) : Array Bool := (firstN m n).setIfInBounds j false
def lateB (l : List Oper) (n j : Nat) : Bool :=
  decide (n < l.toArray.size) && decide (j < n) && sinkL l n j && Region.chainB .any l.toArray n && backB .any l.toArray &&
  decide (Region.ready .any l.toArray (missing l.toArray.size n j) = [j, n]) && decide (Region.ready .any l.toArray ((missing l.toArray.size n j).setIfInBounds n true) = [j]) &&
  Region.seqB .any l.toArray (l.toArray.size - (n + 1)) (n + 1) (((missing l.toArray.size n j).setIfInBounds n true).setIfInBounds j true) &&
  decide (Region.ready .any l.toArray (firstN l.toArray.size n) = [n]) && Region.seqB .any l.toArray (l.toArray.size - (n + 1)) (n + 1) ((firstN l.toArray.size n).setIfInBounds n true)

theorem tail_waits_late {l : List Oper} {n j0 : Nat} {listed : Array Bool} (hs : sinkL l n j0 = true) (hc : Region.chainB .any l.toArray n = true) (inv : HeadInv .any l.toArray n listed) :
    ∀ (d i : Nat), n - i = d → i < n → i ≠ j0 → listed.getD i true = false → ∀ t, n ≤ t → t ∉ Region.ready .any l.toArray listed := by
  intro d
  induction d using Nat.strongRecOn with
  | _ d ih =>
    intro i hd hi hij hun t ht hr
    obtain ⟨_, ot, hot, hall⟩ := mem_ready.1 hr
    have htlt : t < l.toArray.size := (Array.getElem?_eq_some_iff.1 hot).1
    by_cases htn : t = n
    · subst htn
      have h1 := List.all_eq_true.1 hs i (List.mem_range.2 hi)
      simp only [Bool.or_eq_true, beq_iff_eq, hij, false_or] at h1
      obtain ⟨j, hj, hj2⟩ := List.any_eq_true.1 h1
      simp only [Bool.and_eq_true, decide_eq_true_eq, bne_iff_ne] at hj2
      obtain ⟨oj, hoj, e, he, hb, hon⟩ := Region.waitsFor_spec hj2.2
      have hjle : j ≤ t := by have := List.mem_range.1 hj; omega
      by_cases hjt : j = t
      · subst hjt
        have : oj = ot := Option.some.inj (hoj.symm.trans hot)
        subst this
        have h2 := hall e he hb
        rw [hon, getD_both hun] at h2
        cases h2
      · cases hl : listed.getD j false with
        | true =>
          have h2 := inv.closed j oj hoj hl e he hb
          rw [hon, getD_both hun] at h2
          cases h2
        | false =>
          have hjs : j < listed.size := by rw [inv.size]; omega
          exact ih (t - j) (by omega) j rfl (by omega) hj2.1.2 (getD_in hjs hl) t (Nat.le_refl _) hr
    · have h1 := List.all_eq_true.1 hc t (List.mem_range.2 htlt)
      simp only [Bool.or_eq_true, decide_eq_true_eq] at h1
      rcases h1 with h1 | h1
      · omega
      · obtain ⟨o', ho', e, he, hb, hon⟩ := Region.waitsFor_spec h1
        have : o' = ot := Option.some.inj (ho'.symm.trans hot)
        subst this
        have h2 := hall e he hb
        rw [hon, getD_both (inv.tail (t - 1) (by omega) (by omega))] at h2
        cases h2

theorem missing_get (m n j i : Nat) (hi : i < (missing m n j).size) : (missing m n j)[i] = (decide (i < n) && i != j) := by
  unfold missing at hi ⊢
  by_cases hij : i = j
  · subst hij
    simp
  · rw [Array.getElem_setIfInBounds_ne (by simpa using hi) (fun e => hij e.symm)]
    simp [firstN, hij]
theorem listed_missing {l : List Oper} {n j : Nat} {listed : Array Bool} (inv : HeadInv .any l.toArray n listed) (hall : ∀ i, i < n → i ≠ j → listed.getD i true = true) (hj : listed.getD j true = false) : listed = missing l.toArray.size n j := by
  apply Array.ext
  · simp [missing, firstN, inv.size]
  · intro i h1 h2
    rw [missing_get]
    by_cases hij : i = j
    · subst hij
      simp [h1] at hj
      simp [hj]
    · by_cases hn : i < n
      · have h3 := hall i hn hij
        simp [h1] at h3
        simp [h3, hn, hij]
      · have h3 := inv.tail i (by omega) (by rw [← inv.size]; exact h1)
        simp [h1] at h3
        simp [h3, hn]

theorem wp_region_facts_late {id : Nat} {Q : Exit → Act → World → Prop} {a0 : Act} {w0 : World} {l : List Oper} (n j f : Nat) (hm : P.follows .mixedOrders = true) (I : World → Prop) (F : Nat → Value → World → Prop) (J : Act → World → Prop)
    (hB : lateB l n j = true) (hD : dstsB (l.take n) a0.tmps.size = true) (hI : I { w0 with drawn := w0.drawn + 1 })
    (hIs : ∀ w w', I w → Below w.heap.size w w' → I w') (hF : ∀ i v w w', F i v w → Below w.heap.size w w' → F i v w') (hFv : ∀ i v w w', i < n → i ≠ f → F i v w → F i v w')
    (hJ : ∀ (a : Act) w w' (d : Tmp) v, (l[j]?).bind (·.dst) = some d → J a w → Below w.heap.size w w' → J (a.put (some d) v) w') 
    (hstep : ∀ (i : Nat) (o : Oper), i < n → l[i]? = some o → ∀ a w, I w → Agrees (l.take n) a0 a → (∀ e ∈ o.after, Region.binds .any e = true → ∀ (oj : Oper) (d : Tmp), l[e.on]? = some oj → oj.dst = some d → F e.on (a.eval (.tmp d)) w) →
      Region.wanted o (yielded l.toArray a.tmps) = true ∧ o.wp P a w (fun a' w' => ∃ v, a' = a.put o.dst v ∧ F i v w' ∧ Below w.heap.size w w') Q)
    (hlate : ∀ (o : Oper), l[j]? = some o → ∀ a w, J a w → Agrees (l.take n) a0 a → (∀ e ∈ o.after, Region.binds .any e = true → ∀ (oj : Oper) (d : Tmp), l[e.on]? = some oj → oj.dst = some d → e.on ≠ f → F e.on (a.eval (.tmp d)) w) →
      Region.wanted o (yielded l.toArray a.tmps) = true ∧ o.wp P a w (fun a' w' => ∃ v, a' = a.put o.dst v ∧ F j v w' ∧ Below w.heap.size w w') Q)
    (hstore : ∀ (o : Oper), l[n]? = some o → ∀ a w, I w → Agrees (l.take n) a0 a → (∀ (i : Nat) (o : Oper) (d : Tmp), i < n → i ≠ j → l[i]? = some o → o.dst = some d → F i (a.eval (.tmp d)) w) →
      Region.wanted o (yielded l.toArray a.tmps) = true ∧ o.wp P a w (fun a' w' => a' = a ∧ J a w') Q)
    (hfin : ∀ a w, J a w → Agrees (l.take n) a0 a → (∀ (i : Nat) (o : Oper) (d : Tmp), i < n → i ≠ f → l[i]? = some o → o.dst = some d → F i (a.eval (.tmp d)) w) → wpList P l.toArray Q (l.drop (n + 1)) a w) : (Code.region id l.toArray true).wp P Q a0 w0 := by
  simp only [lateB, Bool.and_eq_true, decide_eq_true_eq] at hB
  obtain ⟨⟨⟨⟨⟨⟨⟨⟨⟨hn, hjn⟩, hs⟩, hc⟩, hbk⟩, hr1⟩, hr2⟩, hq1⟩, hr3⟩, hq2⟩ := hB
  simp only [dstsB, Bool.and_eq_true, decide_eq_true_eq] at hD
  obtain ⟨hall, hnd⟩ := hD
  have htk : ∀ (i : Nat), i < n → (l.take n)[i]? = l[i]? := fun i hi => List.getElem?_take_of_lt hi
  have hdst : ∀ (i : Nat) (o : Oper), i < n → l[i]? = some o → ∃ d, o.dst = some d ∧ d < a0.tmps.size := fun i o hi ho => by
    have h1 := List.all_eq_true.1 hall o (List.mem_of_getElem? ((htk i hi).trans ho))
    cases hd : o.dst with
    | none => rw [hd] at h1; cases h1
    | some d => rw [hd] at h1; exact ⟨d, rfl, by simpa using h1⟩
  have hinj : ∀ (i j : Nat) (oi oj : Oper) (d : Tmp), i < n → j < n → l[i]? = some oi → l[j]? = some oj → oi.dst = some d → oj.dst = some d → i = j := fun i j oi oj d hin hjn hi hj h1 h2 => by
    obtain ⟨hil, hie⟩ := List.getElem?_eq_some_iff.1 ((htk i hin).trans hi)
    obtain ⟨hjl, hje⟩ := List.getElem?_eq_some_iff.1 ((htk j hjn).trans hj)
    have hp := List.pairwise_iff_getElem.1 hnd
    rcases Nat.lt_trichotomy i j with h | h | h
    · exact (hp i j (by simpa using hil) (by simpa using hjl) h (by rw [List.getElem_map, List.getElem_map, hie, hje, h1, h2])).elim
    · exact h
    · exact (hp j i (by simpa using hjl) (by simpa using hil) h (by rw [List.getElem_map, List.getElem_map, hie, hje, h1, h2])).elim
  have hsz : l.toArray.size = l.length := by simp
  obtain ⟨os, hos⟩ : ∃ o, l[n]? = some o := ⟨l[n]'(by rw [← hsz]; exact hn), List.getElem?_eq_getElem _⟩
  obtain ⟨oj, hoj⟩ : ∃ o, l[j]? = some o := ⟨l[j]'(by rw [← hsz]; omega), List.getElem?_eq_getElem _⟩
  obtain ⟨dj, hdj, hdjl⟩ := hdst j oj hjn hoj
  have agput : ∀ (i : Nat) (o : Oper) (d : Tmp) (v : Value) (a : Act), i < n → l[i]? = some o → o.dst = some d → Agrees (l.take n) a0 a → Agrees (l.take n) a0 (a.put (some d) v) := fun i o d v a hi ho hd hag =>
    ⟨by simp [Act.put, hag.size], hag.defers, fun t ht => by
      have hne : d ≠ t := fun e => ht o (List.mem_of_getElem? ((htk i hi).trans ho)) (by rw [hd, e])
      rw [← hag.same t ht]
      simp [Act.put, Array.getElem?_setIfInBounds_ne hne]⟩
  have rest : ∀ (listed : Array Bool) a w, Region.seqB .any l.toArray (l.toArray.size - (n + 1)) (n + 1) listed = true → J a w → Agrees (l.take n) a0 a → (∀ (i : Nat) (o : Oper) (d : Tmp), i < n → i ≠ f → l[i]? = some o → o.dst = some d → F i (a.eval (.tmp d)) w) → wpAny P .any l.toArray Q (l.toArray.size - (n + 1)) listed a w := fun listed a w hq hj hag hf => by
    have hd : (l.drop (n + 1)).length = l.toArray.size - (n + 1) := by simp
    rw [← hd]
    exact wpAny_of_seq (l.drop (n + 1)) (n + 1) listed a w (fun k => by simp [List.getElem?_drop]) (by rw [hd]; exact hq) (hfin a w hj hag hf)
  have storeOp : ∀ a w (K : Act → World → Prop), I w → Agrees (l.take n) a0 a → (∀ (i : Nat) (o : Oper) (d : Tmp), i < n → i ≠ j → l[i]? = some o → o.dst = some d → F i (a.eval (.tmp d)) w) → (∀ w', J a w' → K a w') → wpOp P l.toArray Q n K a w := fun a w K hi hag hf hK => by
    obtain ⟨hwt, hwp⟩ := hstore os hos a w hi hag hf
    refine wpOp_mono (K := fun a' w' => a' = a ∧ J a w') (fun a' w' hh => ?_) ?_
    · obtain ⟨rfl, hj⟩ := hh
      exact hK w' hj
    · unfold wpOp
      simp only [show l.toArray[n]? = some os by simpa using hos, hwt, if_true]
      exact Or.inl hwp
  have key : ∀ (fuel : Nat) (listed : Array Bool) (a : Act) (w : World), I w → HeadInv .any l.toArray n listed → Agrees (l.take n) a0 a → (∀ i o d, i < n → l[i]? = some o → o.dst = some d → listed.getD i false = true → F i (a.eval (.tmp d)) w) →
      fuel + listed.toList.count true = l.toArray.size → wpAny P .any l.toArray Q fuel listed a w := by
    intro fuel
    induction fuel with
    | zero =>
      intro listed a w hw inv hag hf hcnt
      exfalso
      have hlen : listed.toList.length = l.toArray.size := by simp [inv.size]
      have hall2 := (List.count_eq_length (a := true) (l := listed.toList)).1 (by omega)
      have := inv.tail n (Nat.le_refl _) hn
      have hi : n < listed.size := by rw [inv.size]; exact hn
      simp [hi] at this
      have h2 := hall2 listed[n] (by simp)
      rw [this] at h2
      cases h2
    | succ fuel ih =>
      intro listed a w hw inv hag hf hcnt
      have stepj : ∀ i o, i < n → l[i]? = some o → i ∈ Region.ready .any l.toArray listed → wpOp P l.toArray Q i (wpAny P .any l.toArray Q fuel (listed.setIfInBounds i true)) a w := fun i o hin hol hi => by
        obtain ⟨hjun, o', ho', hall3⟩ := mem_ready.1 hi
        obtain rfl : o' = o := Option.some.inj (ho'.symm.trans (by simpa using hol))
        have hil := (Array.getElem?_eq_some_iff.1 ho').1
        have hbj : ∀ e ∈ o'.after, Region.binds .any e = true → e.on < i := fun e he hb => by
          have h1 := List.all_eq_true.1 hbk i (List.mem_range.2 hil)
          simp only [ho'] at h1
          have h2 := Array.all_eq_true'.1 h1 e he
          simpa [hb] using h2
        obtain ⟨hwt, hwp⟩ := hstep i o' hin hol a w hw hag fun e he hb oj d hj' hd => hf e.on oj d (by have := hbj e he hb; omega) hj' hd (hall3 e he hb)
        have hop : wpOp P l.toArray Q i (fun a' w' => ∃ v, a' = a.put o'.dst v ∧ F i v w' ∧ Below w.heap.size w w') a w := by
          unfold wpOp
          simp only [ho', hwt, if_true]
          exact Or.inl hwp
        refine wpOp_mono (fun a' w' hh => ?_) hop
        obtain ⟨v, rfl, hFv', hb⟩ := hh
        obtain ⟨d, hd, hdl⟩ := hdst i o' hin hol
        rw [hd]
        refine ih _ _ _ (hIs w w' hw hb) (inv.set hi hin) (agput i o' d v a hin hol hd hag) (fun k ok dk hkn hk hdk hlk => ?_) ?_
        · by_cases hij : i = k
          · subst hij
            obtain rfl : ok = o' := Option.some.inj (hk.symm.trans hol)
            obtain rfl : dk = d := Option.some.inj (hdk.symm.trans hd)
            rw [eval_put_same (by rw [hag.size]; exact hdl)]
            exact hFv'
          · have hne : d ≠ dk := fun e => hij (hinj i k o' ok d hin hkn hol hk hd (by rw [hdk, e]))
            rw [eval_put_other hne]
            rw [getD_set_ne false hij] at hlk
            exact hF k _ w w' (hf k ok dk hkn hk hdk hlk) hb
        · rw [count_set (by rw [inv.size]; exact hil) hjun]
          omega
      by_cases hall1 : ∀ i, i < n → i ≠ j → listed.getD i true = true
      · have hfj : ∀ (i : Nat) (o : Oper) (d : Tmp), i < n → i ≠ j → l[i]? = some o → o.dst = some d → F i (a.eval (.tmp d)) w := fun i o d hi hij ho hd => hf i o d hi ho hd (by
          have h1 := hall1 i hi hij
          have hil : i < listed.size := by rw [inv.size]; omega
          simp [hil] at h1 ⊢
          exact h1)
        cases hlj : listed.getD j true with
        | true =>
          have hall2 : ∀ i, i < n → listed.getD i true = true := fun i hi => by
            by_cases hij : i = j
            · rw [hij]; exact hlj
            · exact hall1 i hi hij
          have he := listed_first inv hall2
          have hFu : fuel = l.toArray.size - (n + 1) := by
            rw [he, count_first _ _ (by omega)] at hcnt
            omega
          have hfa : ∀ (i : Nat) (o : Oper) (d : Tmp), i < n → l[i]? = some o → o.dst = some d → F i (a.eval (.tmp d)) w := fun i o d hi ho hd => hf i o d hi ho hd (by
            have h1 := hall2 i hi
            have hil : i < listed.size := by rw [inv.size]; omega
            simp [hil] at h1 ⊢
            exact h1)
          refine ⟨fun h0 => (by rw [he, hr3] at h0; cases h0), fun i hi => ?_⟩
          rw [he, hr3] at hi
          obtain rfl : i = n := by simpa using hi
          refine storeOp a w _ hw hag hfj fun w' hj => ?_
          rw [hFu, he]
          exact rest _ a w' hq2 hj hag fun k ok dk hk hkf hok hdk => hFv k _ w w' hk hkf (hfa k ok dk hk hok hdk)
        | false =>
          have he := listed_missing inv hall1 hlj
          refine ⟨fun h0 => (by rw [he, hr1] at h0; cases h0), fun i hi => ?_⟩
          have hi2 := hi
          rw [he, hr1] at hi2
          have hij : i = j ∨ i = n := by simpa using hi2
          rcases hij with rfl | rfl
          · exact stepj i oj hjn hoj hi
          · refine storeOp a w _ hw hag hfj fun w' hj => ?_
            have hFu : fuel = (l.toArray.size - (i + 1)) + 1 := by
              have h1 := ih
              have hc2 : (missing l.toArray.size i j).toList.count true + 1 = i := by
                have e1 : (missing l.toArray.size i j).setIfInBounds j true = firstN l.toArray.size i := by
                  apply Array.ext
                  · simp [missing, firstN]
                  · intro k hk1 hk2
                    by_cases hkj : j = k
                    · subst hkj
                      simp [firstN, hjn]
                    · rw [Array.getElem_setIfInBounds_ne (by simpa using hk1) hkj, missing_get]
                      simp [firstN]
                      intro _ e
                      exact hkj e.symm
                have e2 := count_set (listed := missing l.toArray.size i j) (i := j) (by simp [missing, firstN]; omega) (by rw [← he]; exact hlj)
                rw [e1, count_first _ _ (by omega)] at e2
                omega
              rw [he] at hcnt
              omega
            rw [hFu, he]
            refine ⟨fun h0 => (by rw [hr2] at h0; cases h0), fun k hk => ?_⟩
            rw [hr2] at hk
            obtain rfl : k = j := by simpa using hk
            obtain ⟨hwt, hwp⟩ := hlate oj hoj a w' hj hag fun e he2 hb oe d hoe hd hef => by
              have hek : e.on < k := by
                have h1 := List.all_eq_true.1 hbk k (List.mem_range.2 (by omega))
                simp only [show l.toArray[k]? = some oj by simpa using hoj] at h1
                have h2 := Array.all_eq_true'.1 h1 e he2
                simpa [hb] using h2
              exact hFv e.on _ w w' (by omega) hef (hfj e.on oe d (by omega) (by omega) hoe hd)
            have hop : wpOp P l.toArray Q k (fun a' w'' => ∃ v, a' = a.put oj.dst v ∧ F k v w'' ∧ Below w'.heap.size w' w'') a w' := by
              unfold wpOp
              simp only [show l.toArray[k]? = some oj by simpa using hoj, hwt, if_true]
              exact Or.inl hwp
            refine wpOp_mono (fun a' w'' hh => ?_) hop
            obtain ⟨v, rfl, hFk, hb⟩ := hh
            rw [hdj]
            refine rest _ _ w'' hq1 (hJ a w' w'' dj v (by rw [hoj]; exact hdj) hj hb) (agput k oj dj v a hjn hoj hdj hag) fun t ot dt htn htf hot hdt => ?_
            by_cases hkt : k = t
            · subst hkt
              obtain rfl : ot = oj := Option.some.inj (hot.symm.trans hoj)
              obtain rfl : dt = dj := Option.some.inj (hdt.symm.trans hdj)
              rw [eval_put_same (by rw [hag.size]; exact hdjl)]
              exact hFk
            · have hne : dj ≠ dt := fun e => hkt (hinj k t oj ot dj hjn htn hoj hot hdj (by rw [hdt, e]))
              rw [eval_put_other hne]
              exact hFv t _ w w'' htn htf (hfj t ot dt htn (fun e => hkt e.symm) hot hdt)
      · have : ∃ i, i < n ∧ i ≠ j ∧ listed.getD i true = false := by
          apply Classical.byContradiction
          intro hno
          refine hall1 fun i hi hij => ?_
          cases hg : listed.getD i true with
          | true => rfl
          | false => exact absurd ⟨i, hi, hij, hg⟩ hno
        obtain ⟨i, hi, hij, hun⟩ := this
        refine ⟨fun h0 => absurd h0 (ready_some hbk inv.size i (by omega) hun), fun k hk => ?_⟩
        have hkn : k < n := by
          rcases Nat.lt_or_ge k n with h1 | h1
          · exact h1
          · exact absurd hk (tail_waits_late hs hc inv _ i rfl hi hij hun k h1)
        obtain ⟨ok, hok⟩ : ∃ o, l[k]? = some o := ⟨l[k]'(by rw [← hsz]; omega), List.getElem?_eq_getElem _⟩
        exact stepj k ok hkn hok hk
  have inv0 : HeadInv .any l.toArray n (Array.replicate l.toArray.size false) :=
    ⟨by simp, fun j oj _ hl => (by rw [getD_replicate_false] at hl; cases hl), fun t _ ht => getD_in (by simpa using ht) (getD_replicate_false _ _)⟩
  refine wp_region_any hm (key _ _ _ _ hI inv0 ⟨rfl, rfl, fun _ _ => rfl⟩ (fun i o d _ _ _ hl => by rw [getD_replicate_false] at hl; cases hl) (by simp [List.count_replicate]))

end
end Go.Proofs.Ytpifjeghoapjbaa.QT
