/- A region that draws its order, of whose first n operations one (number d) writes into what was there, and the others leave facts; the rest come one behind the other behind them. -/
import Derived.Test.YtepcfmigkhacgaaDoorQFt
namespace Go.Proofs.YtepcfmigkhacgaaDoor.QT
open Go.RowKit

section
variable {P : Program}

theorem getD_set_true' {listed : Array Bool} {i : Nat} (h : i < listed.size) : (listed.setIfInBounds i true).getD i false = true := by
  simp [h]
theorem wp_mono_k {o : Oper} {a : Act} {w : World} {K K' : Act → World → Prop} {Q : Exit → Act → World → Prop} (h : o.wp P a w K Q) (hk : ∀ a w, K a w → K' a w) : o.wp P a w K' Q := Oper.wp_mono hk h
theorem wp_region_facts_one {id : Nat} {Q : Exit → Act → World → Prop} {a0 : Act} {w0 : World} {l : List Oper} (n d : Nat) (hdn : d < n) (hm : P.follows .mixedOrders = true) (I0 I1 : World → Prop) (F : Nat → Value → World → Prop)
    (hB : factsTailB l n = true) (hD : dstsB (l.take n) a0.tmps.size = true) (hI : I0 { w0 with drawn := w0.drawn + 1 })
    (hIs0 : ∀ w w', I0 w → Below w.heap.size w w' → I0 w') (hIs1 : ∀ w w', I1 w → Below w.heap.size w w' → I1 w') (hF : ∀ i v w w', F i v w → Below w.heap.size w w' → F i v w')
    (hone : ∀ (o : Oper), l[d]? = some o → ∀ a w, I0 w → Agrees (l.take n) a0 a → (∀ e ∈ o.after, Region.binds .any e = true → ∀ (oj : Oper) (d : Tmp), l[e.on]? = some oj → oj.dst = some d → F e.on (a.eval (.tmp d)) w) →
      Region.wanted o (yielded l.toArray a.tmps) = true ∧ o.wp P a w (fun a' w' => ∃ v, a' = a.put o.dst v ∧ F d v w' ∧ I1 w' ∧ ∀ j u, j ≠ d → F j u w → F j u w') Q)
    (hstep : ∀ (i : Nat) (o : Oper), i < n → i ≠ d → l[i]? = some o → ∀ a w, I0 w ∨ I1 w → Agrees (l.take n) a0 a → (∀ e ∈ o.after, Region.binds .any e = true → ∀ (oj : Oper) (d : Tmp), l[e.on]? = some oj → oj.dst = some d → F e.on (a.eval (.tmp d)) w) →
      Region.wanted o (yielded l.toArray a.tmps) = true ∧ o.wp P a w (fun a' w' => ∃ v, a' = a.put o.dst v ∧ F i v w' ∧ Below w.heap.size w w') Q)
    (hfin : ∀ a w, I1 w → Agrees (l.take n) a0 a → (∀ (i : Nat) (o : Oper) (d : Tmp), i < n → l[i]? = some o → o.dst = some d → F i (a.eval (.tmp d)) w) → wpList P l.toArray Q (l.drop n) a w) : (Code.region id l.toArray true).wp P Q a0 w0 := by
  simp only [factsTailB, Bool.and_eq_true, decide_eq_true_eq] at hB
  obtain ⟨⟨⟨⟨hn, hs⟩, hc⟩, hseq⟩, hbk⟩ := hB
  simp only [dstsB, Bool.and_eq_true, decide_eq_true_eq] at hD
  obtain ⟨hall, hnd⟩ := hD
  have htk : ∀ (i : Nat), i < n → (l.take n)[i]? = l[i]? := fun i hi => List.getElem?_take_of_lt hi
  have hdst : ∀ (i : Nat) (o : Oper), i < n → l[i]? = some o → ∃ d, o.dst = some d ∧ d < a0.tmps.size := fun i o hi ho => by
    have h1 := List.all_eq_true.1 hall o (List.mem_of_getElem? ((htk i hi).trans ho))
    cases hd : o.dst with
    | none => rw [hd] at h1; cases h1
    | some d => rw [hd] at h1; exact ⟨d, rfl, by simpa using h1⟩
  have hinj : ∀ (i j : Nat) (oi oj : Oper) (d : Tmp), i < n → j < n → l[i]? = some oi → l[j]? = some oj → oi.dst = some d → oj.dst = some d → i = j := fun i j oi oj d hin hjn hi hj h1 h2 => by
    obtain ⟨hil, hie⟩ := List.getElem?_eq_some_iff.1 ((htk i hin).trans hi)
    obtain ⟨hjl, hje⟩ := List.getElem?_eq_some_iff.1 ((htk j hjn).trans hj)
    have hp := List.pairwise_iff_getElem.1 hnd
    rcases Nat.lt_trichotomy i j with h | h | h
    · exact (hp i j (by simpa using hil) (by simpa using hjl) h (by rw [List.getElem_map, List.getElem_map, hie, hje, h1, h2])).elim
    · exact h
    · exact (hp j i (by simpa using hjl) (by simpa using hil) h (by rw [List.getElem_map, List.getElem_map, hie, hje, h1, h2])).elim
  have key : ∀ (fuel : Nat) (listed : Array Bool) (a : Act) (w : World), ((listed.getD d false = false ∧ I0 w) ∨ (listed.getD d false = true ∧ I1 w)) → HeadInv .any l.toArray n listed → Agrees (l.take n) a0 a → (∀ i o d, i < n → l[i]? = some o → o.dst = some d → listed.getD i false = true → F i (a.eval (.tmp d)) w) →
      fuel + listed.toList.count true = l.toArray.size → wpAny P .any l.toArray Q fuel listed a w := by
    intro fuel
    induction fuel with
    | zero =>
      intro listed a w hw inv hag hf hcnt
      exfalso
      have hlen : listed.toList.length = l.toArray.size := by simp [inv.size]
      have hall2 := (List.count_eq_length (a := true) (l := listed.toList)).1 (by omega)
      have := inv.tail n (Nat.le_refl _) hn
      have hi : n < listed.size := by rw [inv.size]; exact hn
      simp [hi] at this
      have h2 := hall2 listed[n] (by simp)
      rw [this] at h2
      cases h2
    | succ fuel ih =>
      intro listed a w hw inv hag hf hcnt
      by_cases hall2 : ∀ i, i < n → listed.getD i true = true
      · have he := listed_first inv hall2
        have hFu : fuel + 1 = l.toArray.size - n := by
          rw [he, count_first _ _ (by omega)] at hcnt
          omega
        have hw1 : I1 w := by
          rcases hw with ⟨h1, _⟩ | ⟨_, h1⟩
          · exfalso
            have h2 := hall2 d hdn
            have hil : d < listed.size := by rw [inv.size]; omega
            simp [hil] at h1 h2
            rw [h1] at h2
            cases h2
          · exact h1
        have hQ := hfin a w hw1 hag fun i o d hi ho hd => hf i o d hi ho hd (by
          have h1 := hall2 i hi
          have hil : i < listed.size := by rw [inv.size]; omega
          simp [hil] at h1 ⊢
          exact h1)
        have hd : (l.drop n).length = fuel + 1 := by rw [hFu]; simp
        rw [← hd]
        exact wpAny_of_seq (l.drop n) n listed a w (fun j => by simp [List.getElem?_drop]) (by rw [hd, hFu, he]; exact hseq) hQ
      · have : ∃ i, i < n ∧ listed.getD i true = false := by
          apply Classical.byContradiction
          intro hno
          refine hall2 fun i hi => ?_
          cases hg : listed.getD i true with
          | true => rfl
          | false => exact absurd ⟨i, hi, hg⟩ hno
        obtain ⟨i, hi, hun⟩ := this
        refine ⟨fun h0 => absurd h0 (ready_some hbk inv.size i (by omega) hun), fun j hj => ?_⟩
        have hjn : j < n := by
          rcases Nat.lt_or_ge j n with h1 | h1
          · exact h1
          · exact absurd hj (tail_waits hs hc hn inv _ i rfl hi hun j h1)
        obtain ⟨hjun, o, ho, hall3⟩ := mem_ready.1 hj
        have hol : l[j]? = some o := by simpa using ho
        have hjl := (Array.getElem?_eq_some_iff.1 ho).1
        have hbj : ∀ e ∈ o.after, Region.binds .any e = true → e.on < j := fun e he hb => by
          have h1 := List.all_eq_true.1 hbk j (List.mem_range.2 hjl)
          simp only [ho] at h1
          have h2 := Array.all_eq_true'.1 h1 e he
          simpa [hb] using h2
        have hdeps : ∀ e ∈ o.after, Region.binds .any e = true → ∀ (oj : Oper) (d : Tmp), l[e.on]? = some oj → oj.dst = some d → F e.on (a.eval (.tmp d)) w := fun e he hb oj d hj' hd => hf e.on oj d (by have := hbj e he hb; omega) hj' hd (hall3 e he hb)
        have hjl' : j < listed.size := by rw [inv.size]; exact hjl
        have hop : Region.wanted o (yielded l.toArray a.tmps) = true ∧ o.wp P a w (fun a' w' => ∃ v, a' = a.put o.dst v ∧ F j v w' ∧ (((listed.setIfInBounds j true).getD d false = false ∧ I0 w') ∨ ((listed.setIfInBounds j true).getD d false = true ∧ I1 w')) ∧ ∀ k u, k ≠ j → F k u w → F k u w') Q := by
          by_cases hjd : j = d
          · have hw0 : I0 w := by
              rcases hw with ⟨_, h1⟩ | ⟨h1, _⟩
              · exact h1
              · exfalso
                rw [← hjd] at h1
                simp [hjl'] at h1 hjun
                rw [h1] at hjun
                cases hjun
            obtain ⟨hwt, hwp⟩ := hone o (by rw [← hjd]; exact hol) a w hw0 hag hdeps
            refine ⟨hwt, wp_mono_k hwp fun a' w' hh => ?_⟩
            obtain ⟨v, h1, h2, h3, h4⟩ := hh
            refine ⟨v, h1, by rw [hjd]; exact h2, Or.inr ⟨by rw [hjd]; exact getD_set_true' (by rw [← hjd]; exact hjl'), h3⟩, fun k u hk hu => h4 k u (by rw [← hjd]; exact hk) hu⟩
          · obtain ⟨hwt, hwp⟩ := hstep j o hjn hjd hol a w (by rcases hw with h | h; exact Or.inl h.2; exact Or.inr h.2) hag hdeps
            refine ⟨hwt, wp_mono_k hwp fun a' w' hh => ?_⟩
            obtain ⟨v, h1, h2, hb⟩ := hh
            refine ⟨v, h1, h2, ?_, fun k u _ hu => hF k u w w' hu hb⟩
            rw [getD_set_ne false hjd]
            rcases hw with ⟨h3, h4⟩ | ⟨h3, h4⟩
            · exact Or.inl ⟨h3, hIs0 w w' h4 hb⟩
            · exact Or.inr ⟨h3, hIs1 w w' h4 hb⟩
        obtain ⟨hwt, hwp⟩ := hop
        have hop2 : wpOp P l.toArray Q j (fun a' w' => ∃ v, a' = a.put o.dst v ∧ F j v w' ∧ (((listed.setIfInBounds j true).getD d false = false ∧ I0 w') ∨ ((listed.setIfInBounds j true).getD d false = true ∧ I1 w')) ∧ ∀ k u, k ≠ j → F k u w → F k u w') a w := by
          unfold wpOp
          simp only [ho, hwt, if_true]
          exact Or.inl hwp
        refine wpOp_mono (fun a' w' hh => ?_) hop2
        obtain ⟨v, rfl, hFv, hI', hst⟩ := hh
        obtain ⟨dd, hd, hdl⟩ := hdst j o hjn hol
        rw [hd]
        refine ih _ _ _ hI' (inv.set hj hjn) ⟨?_, ?_, fun t ht => ?_⟩ (fun k ok dk hkn hk hdk hlk => ?_) ?_
        · simp [Act.put, hag.size]
        · exact hag.defers
        · have hne : dd ≠ t := fun e => ht o (List.mem_of_getElem? ((htk j hjn).trans hol)) (by rw [hd, e])
          rw [← hag.same t ht]
          simp [Act.put, Array.getElem?_setIfInBounds_ne hne]
        · by_cases hij : j = k
          · subst hij
            obtain rfl : ok = o := Option.some.inj (hk.symm.trans hol)
            obtain rfl : dk = dd := Option.some.inj (hdk.symm.trans hd)
            rw [eval_put_same (by rw [hag.size]; exact hdl)]
            exact hFv
          · have hne : dd ≠ dk := fun e => hij (hinj j k o ok dd hjn hkn hol hk hd (by rw [hdk, e]))
            rw [eval_put_other hne]
            rw [getD_set_ne false hij] at hlk
            exact hst k _ (Ne.symm hij) (hf k ok dk hkn hk hdk hlk)
        · rw [count_set (by rw [inv.size]; exact hjl) hjun]
          omega
  have inv0 : HeadInv .any l.toArray n (Array.replicate l.toArray.size false) :=
    ⟨by simp, fun j oj _ hl => (by rw [getD_replicate_false] at hl; cases hl), fun t _ ht => getD_in (by simpa using ht) (getD_replicate_false _ _)⟩
  refine wp_region_any hm (key _ _ _ _ (Or.inl ⟨getD_replicate_false _ _, hI⟩) inv0 ⟨rfl, rfl, fun _ _ => rfl⟩ (fun i o d _ _ _ hl => by rw [getD_replicate_false] at hl; cases hl) (by simp [List.count_replicate]))

end
end Go.Proofs.YtepcfmigkhacgaaDoor.QT
