/- TreeKnown: facts that a region leaves in whatever order; slices.Equal on equal lists; the law. -/
import Derived.Test.YtlalipomphgcoaaTrW
namespace Go.Proofs.Ytlalipomphgcoaa.QT
open Go.RowKit

section
variable {P : Program}

def factsTailB (l : List Oper) (n : Nat) : Bool :=
  decide (n < l.toArray.size) && Region.sinkB .any l.toArray n && Region.chainB .any l.toArray n && Region.seqB .any l.toArray (l.toArray.size - n) n (firstN l.toArray.size n) && backB .any l.toArray

theorem wp_region_facts_tail {id : Nat} {Q : Exit → Act → World → Prop} {a0 : Act} {w0 : World} {l : List Oper} (n : Nat) (hm : P.follows .mixedOrders = true) (I : World → Prop) (F : Nat → Value → World → Prop)
    (hB : factsTailB l n = true) (hD : dstsB (l.take n) a0.tmps.size = true) (hI : I { w0 with drawn := w0.drawn + 1 })
    (hIs : ∀ w w', I w → Below w.heap.size w w' → I w') (hF : ∀ i v w w', F i v w → Below w.heap.size w w' → F i v w')
    (hstep : ∀ (i : Nat) (o : Oper), i < n → l[i]? = some o → ∀ a w, I w → Agrees (l.take n) a0 a → (∀ e ∈ o.after, Region.binds .any e = true → ∀ (oj : Oper) (d : Tmp), l[e.on]? = some oj → oj.dst = some d → F e.on (a.eval (.tmp d)) w) →
      Region.wanted o (yielded l.toArray a.tmps) = true ∧ o.wp P a w (fun a' w' => ∃ v, a' = a.put o.dst v ∧ F i v w' ∧ Below w.heap.size w w') Q)
    (hfin : ∀ a w, I w → Agrees (l.take n) a0 a → (∀ (i : Nat) (o : Oper) (d : Tmp), i < n → l[i]? = some o → o.dst = some d → F i (a.eval (.tmp d)) w) → wpList P l.toArray Q (l.drop n) a w) : (Code.region id l.toArray true).wp P Q a0 w0 := by
  simp only [factsTailB, Bool.and_eq_true, decide_eq_true_eq] at hB
  obtain ⟨⟨⟨⟨hn, hs⟩, hc⟩, hseq⟩, hbk⟩ := hB
  simp only [dstsB, Bool.and_eq_true, decide_eq_true_eq] at hD
  obtain ⟨hall, hnd⟩ := hD
  have htk : ∀ (i : Nat), i < n → (l.take n)[i]? = l[i]? := fun i hi => List.getElem?_take_of_lt hi
  have hdst : ∀ (i : Nat) (o : Oper), i < n → l[i]? = some o → ∃ d, o.dst = some d ∧ d < a0.tmps.size := fun i o hi ho => by
    have h1 := List.all_eq_true.1 hall o (List.mem_of_getElem? ((htk i hi).trans ho))
    cases hd : o.dst with
    | none => rw [hd] at h1; cases h1
    | some d => rw [hd] at h1; exact ⟨d, rfl, by simpa using h1⟩
  have hinj : ∀ (i j : Nat) (oi oj : Oper) (d : Tmp), i < n → j < n → l[i]? = some oi → l[j]? = some oj → oi.dst = some d → oj.dst = some d → i = j := fun i j oi oj d hin hjn hi hj h1 h2 => by
    obtain ⟨hil, hie⟩ := List.getElem?_eq_some_iff.1 ((htk i hin).trans hi)
    obtain ⟨hjl, hje⟩ := List.getElem?_eq_some_iff.1 ((htk j hjn).trans hj)
    have hp := List.pairwise_iff_getElem.1 hnd
    rcases Nat.lt_trichotomy i j with h | h | h
    · exact (hp i j (by simpa using hil) (by simpa using hjl) h (by rw [List.getElem_map, List.getElem_map, hie, hje, h1, h2])).elim
    · exact h
    · exact (hp j i (by simpa using hjl) (by simpa using hil) h (by rw [List.getElem_map, List.getElem_map, hie, hje, h1, h2])).elim
  have key : ∀ (fuel : Nat) (listed : Array Bool) (a : Act) (w : World), I w → HeadInv .any l.toArray n listed → Agrees (l.take n) a0 a → (∀ i o d, i < n → l[i]? = some o → o.dst = some d → listed.getD i false = true → F i (a.eval (.tmp d)) w) →
      fuel + listed.toList.count true = l.toArray.size → wpAny P .any l.toArray Q fuel listed a w := by
    intro fuel
    induction fuel with
    | zero =>
      intro listed a w hw inv hag hf hcnt
      exfalso
      have hlen : listed.toList.length = l.toArray.size := by simp [inv.size]
      have hall2 := (List.count_eq_length (a := true) (l := listed.toList)).1 (by omega)
      have := inv.tail n (Nat.le_refl _) hn
      have hi : n < listed.size := by rw [inv.size]; exact hn
      simp [hi] at this
      have h2 := hall2 listed[n] (by simp)
      rw [this] at h2
      cases h2
    | succ fuel ih =>
      intro listed a w hw inv hag hf hcnt
      by_cases hall2 : ∀ i, i < n → listed.getD i true = true
      · have he := listed_first inv hall2
        have hFu : fuel + 1 = l.toArray.size - n := by
          rw [he, count_first _ _ (by omega)] at hcnt
          omega
        have hQ := hfin a w hw hag fun i o d hi ho hd => hf i o d hi ho hd (by
          have h1 := hall2 i hi
          have hil : i < listed.size := by rw [inv.size]; omega
          simp [hil] at h1 ⊢
          exact h1)
        have hd : (l.drop n).length = fuel + 1 := by rw [hFu]; simp
        rw [← hd]
        exact wpAny_of_seq (l.drop n) n listed a w (fun j => by simp [List.getElem?_drop]) (by rw [hd, hFu, he]; exact hseq) hQ
      · have : ∃ i, i < n ∧ listed.getD i true = false := by
          apply Classical.byContradiction
          intro hno
          refine hall2 fun i hi => ?_
          cases hg : listed.getD i true with
          | true => rfl
          | false => exact absurd ⟨i, hi, hg⟩ hno
        obtain ⟨i, hi, hun⟩ := this
        refine ⟨fun h0 => absurd h0 (ready_some hbk inv.size i (by omega) hun), fun j hj => ?_⟩
        have hjn : j < n := by
          rcases Nat.lt_or_ge j n with h1 | h1
          · exact h1
          · exact absurd hj (tail_waits hs hc hn inv _ i rfl hi hun j h1)
        obtain ⟨hjun, o, ho, hall3⟩ := mem_ready.1 hj
        have hol : l[j]? = some o := by simpa using ho
        have hjl := (Array.getElem?_eq_some_iff.1 ho).1
        have hbj : ∀ e ∈ o.after, Region.binds .any e = true → e.on < j := fun e he hb => by
          have h1 := List.all_eq_true.1 hbk j (List.mem_range.2 hjl)
          simp only [ho] at h1
          have h2 := Array.all_eq_true'.1 h1 e he
          simpa [hb] using h2
        obtain ⟨hwt, hwp⟩ := hstep j o hjn hol a w hw hag fun e he hb oj d hj' hd => hf e.on oj d (by have := hbj e he hb; omega) hj' hd (hall3 e he hb)
        have hop : wpOp P l.toArray Q j (fun a' w' => ∃ v, a' = a.put o.dst v ∧ F j v w' ∧ Below w.heap.size w w') a w := by
          unfold wpOp
          simp only [ho, hwt, if_true]
          exact Or.inl hwp
        refine wpOp_mono (fun a' w' hh => ?_) hop
        obtain ⟨v, rfl, hFv, hb⟩ := hh
        obtain ⟨d, hd, hdl⟩ := hdst j o hjn hol
        rw [hd]
        refine ih _ _ _ (hIs w w' hw hb) (inv.set hj hjn) ⟨?_, ?_, fun t ht => ?_⟩ (fun k ok dk hkn hk hdk hlk => ?_) ?_
        · simp [Act.put, hag.size]
        · exact hag.defers
        · have hne : d ≠ t := fun e => ht o (List.mem_of_getElem? ((htk j hjn).trans hol)) (by rw [hd, e])
          rw [← hag.same t ht]
          simp [Act.put, Array.getElem?_setIfInBounds_ne hne]
        · by_cases hij : j = k
          · subst hij
            obtain rfl : ok = o := Option.some.inj (hk.symm.trans hol)
            obtain rfl : dk = d := Option.some.inj (hdk.symm.trans hd)
            rw [eval_put_same (by rw [hag.size]; exact hdl)]
            exact hFv
          · have hne : d ≠ dk := fun e => hij (hinj j k o ok d hjn hkn hol hk hd (by rw [hdk, e]))
            rw [eval_put_other hne]
            rw [getD_set_ne false hij] at hlk
            exact hF k _ w w' (hf k ok dk hkn hk hdk hlk) hb
        · rw [count_set (by rw [inv.size]; exact hjl) hjun]
          omega
  have inv0 : HeadInv .any l.toArray n (Array.replicate l.toArray.size false) :=
    ⟨by simp, fun j oj _ hl => (by rw [getD_replicate_false] at hl; cases hl), fun t _ ht => getD_in (by simpa using ht) (getD_replicate_false _ _)⟩
  refine wp_region_any hm (key _ _ _ _ hI inv0 ⟨rfl, rfl, fun _ _ => rfl⟩ (fun i o d _ _ _ hl => by rw [getD_replicate_false] at hl; cases hl) (by simp [List.count_replicate]))

theorem puts_eq {a : Act} : ∀ (L : List (Tmp × Value)) (a0 : Act), a.tmps.size = a0.tmps.size → a.defers = a0.defers → (∀ t, (∀ p ∈ L, p.1 ≠ t) → a.tmps[t]? = a0.tmps[t]?) → (∀ p ∈ L, p.1 < a.tmps.size ∧ a.eval (.tmp p.1) = p.2) → a = L.foldl (fun a p => a.put (some p.1) p.2) a0
  | [], a0, hs, hd, hsame, _ => by
    have ht : a.tmps = a0.tmps := Array.ext_getElem? fun t => hsame t (fun p hp => by cases hp)
    cases a; cases a0
    simp only at ht hd
    subst ht hd
    rfl
  | p :: L, a0, hs, hd, hsame, hv => by
    rw [List.foldl_cons]
    refine puts_eq L (a0.put (some p.1) p.2) (by simp [Act.put, hs]) hd (fun t ht => ?_) (fun q hq => hv q (by simp [hq]))
    by_cases htp : p.1 = t
    · subst htp
      obtain ⟨hl, he⟩ := hv p (by simp)
      have h1 : a.tmps[p.1]? = some p.2 := by
        have he2 : a.tmps.getD p.1 undef = p.2 := he
        rw [Array.getD_eq_getD_getElem?, Array.getElem?_eq_getElem hl] at he2
        rw [Array.getElem?_eq_getElem hl]
        simpa using he2
      rw [h1]
      simp [Act.put, hs ▸ hl]
    · rw [hsame t (fun q hq => by
        rcases List.mem_cons.1 hq with h | h
        · rw [h]; exact htp
        · exact ht q h)]
      simp [Act.put, Array.getElem?_setIfInBounds_ne htp]
/-- The frame behind the head: the slots that it wrote, one by one. -/
theorem Agrees.puts {l : List Oper} {a0 a : Act} (h : Agrees l a0 a) (L : List (Tmp × Value)) (hL : l.map (·.dst) = L.map fun p => some p.1) (hlt : ∀ p ∈ L, p.1 < a0.tmps.size) (hv : ∀ p ∈ L, a.eval (.tmp p.1) = p.2) : a = L.foldl (fun a p => a.put (some p.1) p.2) a0 := by
  refine puts_eq L a0 h.size h.defers (fun t ht => h.same t fun o ho e => ?_) fun p hp => ⟨by rw [h.size]; exact hlt p hp, hv p hp⟩
  have h1 : some t ∈ l.map (·.dst) := e ▸ List.mem_map_of_mem (f := (·.dst)) ho
  rw [hL] at h1
  obtain ⟨p, hp, hpt⟩ := List.mem_map.1 h1
  exact ht p hp (Option.some.inj hpt)

theorem wp_value {o : Oper} {a : Act} {w : World} {K : Act → World → Prop} {Q : Exit → Act → World → Prop} {v : Value} (h : (execOp a.eval o).run P w = .ok (.value v) w) (hk : K (a.put o.dst v) w) : o.wp P a w K Q := by
  unfold Oper.wp
  rw [h]
  exact hk
theorem wp_enter {o : Oper} {a : Act} {w : World} {K : Act → World → Prop} {Q : Exit → Act → World → Prop} {v : Value} {f : FuncId} {args : Array Value} {R : World → Prop} (h : (execOp a.eval o).run P w = .ok (.enter f args) w) (hc : Calls P f args w fun e w' => e = .returned v ∧ R w') (hk : ∀ w', R w' → K (a.put o.dst v) w') : o.wp P a w K Q := by
  unfold Oper.wp
  rw [h]
  exact hc.mono fun e w' ⟨he, hr⟩ => by subst he; exact hk w' hr
theorem wanted_of {ops : Array Oper} {a : Act} {o og : Oper} {g : Nat} {b : Bool} {d : Tmp} (hg : o.guard = some (g, b)) (ho : ops[g]? = some og) (hd : og.dst = some d) (h : a.eval (.tmp d) = .bool b) : Region.wanted o (yielded ops a.tmps) = true := by
  have hy : yielded ops a.tmps g = some b := by
    unfold yielded
    rw [ho]
    simp only [Option.bind_some, hd]
    unfold Act.eval at h
    cases ht : a.tmps[d]? with
    | none => simp [ht, undef] at h
    | some v =>
      simp [ht] at h
      subst h
      rfl
  unfold Region.wanted
  rw [hg]
  simp [hy]
theorem not_dst {l : List Oper} {t : Tmp} (h : (l.all fun o => o.dst != some t) = true) : ∀ o ∈ l, o.dst ≠ some t := fun o ho => by
  have := List.all_eq_true.1 h o ho
  simpa using this
theorem nf {a : Act} {t : Tmp} {v : Value} (h : a.eval (.tmp t) = v) : a.tmps[t]?.getD undef = v := by
  rw [← Array.getD_eq_getD_getElem?]
  exact h
/-- A slot that the region does not write. -/
theorem Agrees.old {l : List Oper} {a0 a : Act} (h : Agrees l a0 a) (t : Tmp) (v : Value) (hl : (l.all fun o => o.dst != some t) = true) (h0 : a0.tmps[t]? = some v) : a.eval (.tmp t) = v := by
  show a.tmps.getD t undef = v
  rw [Array.getD_eq_getD_getElem?, h.same t (not_dst hl), h0]
  rfl

end
end Go.Proofs.Ytlalipomphgcoaa.QT

namespace Go.Proofs.Ytlalipomphgcoaa.QT
open Go.RowKit

section
variable {P : Program}

theorem wp_region_facts_pair {id : Nat} {Q : Exit → Act → World → Prop} {a0 : Act} {w0 : World} {l : List Oper} (n p q : Nat) (dp dq : Tmp) (hpn : p < n) (hqn : q < n) (hpq : p ≠ q) (hdp : (l[p]?).map (·.dst) = some (some dp)) (hdq : (l[q]?).map (·.dst) = some (some dq)) (hm : P.follows .mixedOrders = true) (I : World → Prop) (F : Nat → Value → World → Prop)
    (hB : factsTailB l n = true) (hD : dstsB (l.take n) a0.tmps.size = true) (hI : I { w0 with drawn := w0.drawn + 1 })
    (hIs : ∀ w w', I w → Below w.heap.size w w' → I w') (hF : ∀ i v w w', F i v w → Below w.heap.size w w' → F i v w')
    (hstep : ∀ (i : Nat) (o : Oper), i < n → l[i]? = some o → ∀ a w, I w → Agrees (l.take n) a0 a → (∀ e ∈ o.after, Region.binds .any e = true → ∀ (oj : Oper) (d : Tmp), l[e.on]? = some oj → oj.dst = some d → F e.on (a.eval (.tmp d)) w) →
      Region.wanted o (yielded l.toArray a.tmps) = true ∧ o.wp P a w (fun a' w' => ∃ v, a' = a.put o.dst v ∧ F i v w' ∧ Below w.heap.size w w' ∧ (i = p → ∀ u, F q u w → v ≠ u) ∧ (i = q → ∀ u, F p u w → v ≠ u)) Q)
    (hfin : ∀ a w, I w → Agrees (l.take n) a0 a → (∀ (i : Nat) (o : Oper) (d : Tmp), i < n → l[i]? = some o → o.dst = some d → F i (a.eval (.tmp d)) w) → a.eval (.tmp dp) ≠ a.eval (.tmp dq) → wpList P l.toArray Q (l.drop n) a w) : (Code.region id l.toArray true).wp P Q a0 w0 := by
  simp only [factsTailB, Bool.and_eq_true, decide_eq_true_eq] at hB
  obtain ⟨⟨⟨⟨hn, hs⟩, hc⟩, hseq⟩, hbk⟩ := hB
  simp only [dstsB, Bool.and_eq_true, decide_eq_true_eq] at hD
  obtain ⟨hall, hnd⟩ := hD
  have htk : ∀ (i : Nat), i < n → (l.take n)[i]? = l[i]? := fun i hi => List.getElem?_take_of_lt hi
  have hdst : ∀ (i : Nat) (o : Oper), i < n → l[i]? = some o → ∃ d, o.dst = some d ∧ d < a0.tmps.size := fun i o hi ho => by
    have h1 := List.all_eq_true.1 hall o (List.mem_of_getElem? ((htk i hi).trans ho))
    cases hd : o.dst with
    | none => rw [hd] at h1; cases h1
    | some d => rw [hd] at h1; exact ⟨d, rfl, by simpa using h1⟩
  have hinj : ∀ (i j : Nat) (oi oj : Oper) (d : Tmp), i < n → j < n → l[i]? = some oi → l[j]? = some oj → oi.dst = some d → oj.dst = some d → i = j := fun i j oi oj d hin hjn hi hj h1 h2 => by
    obtain ⟨hil, hie⟩ := List.getElem?_eq_some_iff.1 ((htk i hin).trans hi)
    obtain ⟨hjl, hje⟩ := List.getElem?_eq_some_iff.1 ((htk j hjn).trans hj)
    have hp := List.pairwise_iff_getElem.1 hnd
    rcases Nat.lt_trichotomy i j with h | h | h
    · exact (hp i j (by simpa using hil) (by simpa using hjl) h (by rw [List.getElem_map, List.getElem_map, hie, hje, h1, h2])).elim
    · exact h
    · exact (hp j i (by simpa using hjl) (by simpa using hil) h (by rw [List.getElem_map, List.getElem_map, hie, hje, h1, h2])).elim
  have key : ∀ (fuel : Nat) (listed : Array Bool) (a : Act) (w : World), I w → HeadInv .any l.toArray n listed → Agrees (l.take n) a0 a → (∀ i o d, i < n → l[i]? = some o → o.dst = some d → listed.getD i false = true → F i (a.eval (.tmp d)) w) → (listed.getD p false = true → listed.getD q false = true → a.eval (.tmp dp) ≠ a.eval (.tmp dq)) →
      fuel + listed.toList.count true = l.toArray.size → wpAny P .any l.toArray Q fuel listed a w := by
    intro fuel
    induction fuel with
    | zero =>
      intro listed a w hw inv hag hf hne2 hcnt
      exfalso
      have hlen : listed.toList.length = l.toArray.size := by simp [inv.size]
      have hall2 := (List.count_eq_length (a := true) (l := listed.toList)).1 (by omega)
      have := inv.tail n (Nat.le_refl _) hn
      have hi : n < listed.size := by rw [inv.size]; exact hn
      simp [hi] at this
      have h2 := hall2 listed[n] (by simp)
      rw [this] at h2
      cases h2
    | succ fuel ih =>
      intro listed a w hw inv hag hf hne2 hcnt
      by_cases hall2 : ∀ i, i < n → listed.getD i true = true
      · have he := listed_first inv hall2
        have hFu : fuel + 1 = l.toArray.size - n := by
          rw [he, count_first _ _ (by omega)] at hcnt
          omega
        have hQ := hfin a w hw hag (fun i o d hi ho hd => hf i o d hi ho hd (by
          have h1 := hall2 i hi
          have hil : i < listed.size := by rw [inv.size]; omega
          simp [hil] at h1 ⊢
          exact h1)) (hne2 (by
          have h1 := hall2 p hpn
          have hil : p < listed.size := by rw [inv.size]; omega
          simp [hil] at h1 ⊢
          exact h1) (by
          have h1 := hall2 q hqn
          have hil : q < listed.size := by rw [inv.size]; omega
          simp [hil] at h1 ⊢
          exact h1))
        have hd : (l.drop n).length = fuel + 1 := by rw [hFu]; simp
        rw [← hd]
        exact wpAny_of_seq (l.drop n) n listed a w (fun j => by simp [List.getElem?_drop]) (by rw [hd, hFu, he]; exact hseq) hQ
      · have : ∃ i, i < n ∧ listed.getD i true = false := by
          apply Classical.byContradiction
          intro hno
          refine hall2 fun i hi => ?_
          cases hg : listed.getD i true with
          | true => rfl
          | false => exact absurd ⟨i, hi, hg⟩ hno
        obtain ⟨i, hi, hun⟩ := this
        refine ⟨fun h0 => absurd h0 (ready_some hbk inv.size i (by omega) hun), fun j hj => ?_⟩
        have hjn : j < n := by
          rcases Nat.lt_or_ge j n with h1 | h1
          · exact h1
          · exact absurd hj (tail_waits hs hc hn inv _ i rfl hi hun j h1)
        obtain ⟨hjun, o, ho, hall3⟩ := mem_ready.1 hj
        have hol : l[j]? = some o := by simpa using ho
        have hjl := (Array.getElem?_eq_some_iff.1 ho).1
        have hbj : ∀ e ∈ o.after, Region.binds .any e = true → e.on < j := fun e he hb => by
          have h1 := List.all_eq_true.1 hbk j (List.mem_range.2 hjl)
          simp only [ho] at h1
          have h2 := Array.all_eq_true'.1 h1 e he
          simpa [hb] using h2
        obtain ⟨hwt, hwp⟩ := hstep j o hjn hol a w hw hag fun e he hb oj d hj' hd => hf e.on oj d (by have := hbj e he hb; omega) hj' hd (hall3 e he hb)
        have hop : wpOp P l.toArray Q j (fun a' w' => ∃ v, a' = a.put o.dst v ∧ F j v w' ∧ Below w.heap.size w w' ∧ (j = p → ∀ u, F q u w → v ≠ u) ∧ (j = q → ∀ u, F p u w → v ≠ u)) a w := by
          unfold wpOp
          simp only [ho, hwt, if_true]
          exact Or.inl hwp
        refine wpOp_mono (fun a' w' hh => ?_) hop
        obtain ⟨v, rfl, hFv, hb, hp1, hq1⟩ := hh
        obtain ⟨d, hd, hdl⟩ := hdst j o hjn hol
        rw [hd]
        refine ih _ _ _ (hIs w w' hw hb) (inv.set hj hjn) ⟨?_, ?_, fun t ht => ?_⟩ (fun k ok dk hkn hk hdk hlk => ?_) (fun hlp hlq => ?_) ?_
        · simp [Act.put, hag.size]
        · exact hag.defers
        · have hne : d ≠ t := fun e => ht o (List.mem_of_getElem? ((htk j hjn).trans hol)) (by rw [hd, e])
          rw [← hag.same t ht]
          simp [Act.put, Array.getElem?_setIfInBounds_ne hne]
        · by_cases hij : j = k
          · subst hij
            obtain rfl : ok = o := Option.some.inj (hk.symm.trans hol)
            obtain rfl : dk = d := Option.some.inj (hdk.symm.trans hd)
            rw [eval_put_same (by rw [hag.size]; exact hdl)]
            exact hFv
          · have hne : d ≠ dk := fun e => hij (hinj j k o ok d hjn hkn hol hk hd (by rw [hdk, e]))
            rw [eval_put_other hne]
            rw [getD_set_ne false hij] at hlk
            exact hF k _ w w' (hf k ok dk hkn hk hdk hlk) hb
        · obtain ⟨op, hopp, hodp⟩ := Option.map_eq_some_iff.1 hdp
          obtain ⟨oq, hoq, hodq⟩ := Option.map_eq_some_iff.1 hdq
          have hdne : dp ≠ dq := fun e => hpq (hinj p q op oq dp hpn hqn hopp hoq hodp (by rw [hodq, e]))
          by_cases hjp : j = p
          · subst hjp
            obtain rfl : op = o := Option.some.inj (hopp.symm.trans hol)
            obtain rfl : dp = d := Option.some.inj (hodp.symm.trans hd)
            rw [eval_put_same (by rw [hag.size]; exact hdl), eval_put_other hdne]
            rw [getD_set_ne false hpq] at hlq
            exact hp1 rfl _ (hf q oq dq hqn hoq hodq hlq)
          · by_cases hjq : j = q
            · subst hjq
              obtain rfl : oq = o := Option.some.inj (hoq.symm.trans hol)
              obtain rfl : dq = d := Option.some.inj (hodq.symm.trans hd)
              rw [eval_put_same (by rw [hag.size]; exact hdl), eval_put_other (Ne.symm hdne)]
              rw [getD_set_ne false (Ne.symm hpq)] at hlp
              exact Ne.symm (hq1 rfl _ (hf p op dp hpn hopp hodp hlp))
            · rw [eval_put_other (fun e => hjp (hinj j p o op d hjn hpn hol hopp hd (by rw [hodp, e]))), eval_put_other (fun e => hjq (hinj j q o oq d hjn hqn hol hoq hd (by rw [hodq, e])))]
              rw [getD_set_ne false hjp] at hlp
              rw [getD_set_ne false hjq] at hlq
              exact hne2 hlp hlq
        · rw [count_set (by rw [inv.size]; exact hjl) hjun]
          omega
  have inv0 : HeadInv .any l.toArray n (Array.replicate l.toArray.size false) :=
    ⟨by simp, fun j oj _ hl => (by rw [getD_replicate_false] at hl; cases hl), fun t _ ht => getD_in (by simpa using ht) (getD_replicate_false _ _)⟩
  refine wp_region_any hm (key _ _ _ _ hI inv0 ⟨rfl, rfl, fun _ _ => rfl⟩ (fun i o d _ _ _ hl => by rw [getD_replicate_false] at hl; cases hl) (fun hl => by rw [getD_replicate_false] at hl; cases hl) (by simp [List.count_replicate]))

end
end Go.Proofs.Ytlalipomphgcoaa.QT

namespace Go.Proofs.Ytlalipomphgcoaa.Tree
open Go.RowKit Go.Proofs.Ytlalipomphgcoaa.Sha

theorem slice_of' {w : World} {v : Value} {L : List (List UInt8)} (h : Hashes w v L) : ∃ a cap, v = .slice a L.length cap ∧ ∀ (i : Nat) (s : List UInt8), L[i]? = some s → ∃ g o, a = some ⟨g, o, none⟩ ∧ w.rangeAt g (o + i * 32) (valsB s) := by
  rcases h with ⟨a, cap, rfl, rfl⟩ | ⟨g, o, cap, rfl, _, hc⟩
  · exact ⟨a, cap, rfl, fun i s h => by simp at h⟩
  · exact ⟨_, cap, rfl, fun i s h => ⟨g, o, rfl, hc i s h⟩⟩

set_option maxRecDepth 100000 in
set_option maxHeartbeats 1600000 in
theorem equal_true (v1 v2 : Value) (L : List (List UInt8)) (w : World) (h1 : Hashes w v1 L) (h2 : Hashes w v2 L) (h32 : H32 L) (hn : L.length ≤ 1099511627776) :
    Calls Try.prog 19 #[v1, v2] w fun e w' => e = .returned (.bool true) ∧ Below w.heap.size w w' := by
  obtain ⟨a1, c1, rfl, hc1⟩ := slice_of' h1
  obtain ⟨a2, c2, rfl, hc2⟩ := slice_of' h2
  obtain ⟨n, hL⟩ : ∃ n, L.length = n := ⟨_, rfl⟩
  have HL := Lib.hid hL
  have HC1 := Lib.hid hc1
  have HC2 := Lib.hid hc2
  have H3 := Lib.hid h32
  rw [hL] at hn
  rw [hL]
  have hne : ((n : Int) != (n : Int)) = false := by simp
  clear h1 h2 h32 hL hc1 hc2
  go_enter Try.func19, Try.ntmps19
  go_wp2_with fail
  go_loopw [13] (fun i wr => ∃ k : Nat, k ≤ n ∧ i = .int .i64 k ∧ Below w.heap.size w wr) (fun i _ => n - (intOf i).toNat)
  case atStart => exact ⟨0, by omega, rfl, Below.refl _ _⟩
  case round =>
    obtain ⟨k, hk, rfl, hbel⟩ := hrel
    have HBEL := Lib.hid hbel
    clear hbel
    by_cases hlt : k < n
    · obtain ⟨x, hx⟩ : ∃ x, L[k]? = some x := ⟨L[k]'(by rw [HL.out]; exact hlt), List.getElem?_eq_getElem _⟩
      obtain ⟨g1, o1, rfl, hr1⟩ := HC1.out k x hx
      obtain ⟨g2, o2, rfl, hr2⟩ := HC2.out k x hx
      have hxl := H3.out x (List.mem_of_getElem? hx)
      have HR1 := Lib.hid (range_kept HBEL.out hr1)
      have HR2 := Lib.hid (range_kept HBEL.out hr2)
      have HIX := Lib.hid (info_len x hxl)
      have HE := fun w => eqIn_hash x x hxl hxl w
      rw [show (x == x) = true by simp] at HE
      have hk0 : (0 : Int) ≤ (k : Int) := by omega
      have hkn : (k : Int) < (n : Int) := by omega
      clear hx hr1 hr2 hxl
      go_wp2_with fail
      refine wp_region_quiet_below (by kernel_rfl) (by kernel_rfl) ?_
      repeat (first
        | (refine wpQuiet_step (fun K hK => ?_); rw [if_pos (by rfl)]; refine quiet_load_mid 23 (.tmp 18) rfl g1 (o1 + k * 32) (by simp [Act.eval]) (valsB x) _ HR1.out Try.underlying23 rfl HIX.out ?_; refine hK _ ?_; clear hK K)
        | (refine wpQuiet_step (fun K hK => ?_); rw [if_pos (by rfl)]; refine quiet_load_mid 23 (.tmp 22) rfl g2 (o2 + k * 32) (by simp [Act.eval]) (valsB x) _ HR2.out Try.underlying23 rfl HIX.out ?_; refine hK _ ?_; clear hK K)
        | (quiet_step (fail)))
      refine wpQuiet_nil ?_
      intro _ hw'
      obtain ⟨⟨dq, osq⟩, hw''⟩ := hw'
      subst hw''
      have HBQ := Lib.hid (HBEL.out.trans ((below_regrown wr dq osq).mono HBEL.out.size))
      dsimp only
      generalize Sort.grow (redrawn wr dq) osq = w5 at HBQ ⊢
      go_wp2_with fail
      go_roundw
      case rel => exact ⟨k + 1, by omega, by go_num, HBQ.out⟩
      case measure => simp [intOf]; omega
    · obtain rfl : n = k := by omega
      go_wp2_with fail
      go_ret
      exact ⟨rfl, HBEL.out⟩

end Go.Proofs.Ytlalipomphgcoaa.Tree

namespace Go.Proofs.Ytlalipomphgcoaa.Tree
open Go.RowKit Go.Proofs.Ytlalipomphgcoaa.Sha

theorem one_cells (v : Value) (h : v.oneCell' = true) : v.cells = #[v] := by cases v <;> first | rfl | cases h
theorem wp_slice2 {P : Program} {o : Oper} {a : Act} {w : World} {K : Act → World → Prop} {Q : Exit → Act → World → Prop} (t e : TypeId) (x y : Operand) (ho : o.op = .buildSlice t 2 #[(0, x), (1, y)])
    (z : Value) (hu : P.underlying t = some (.slice e)) (hie : (P.info? e).map (fun i => (i.zero, i.size)) = some (some z, 1)) (v u : Value) (hx : a.eval x = v) (hy : a.eval y = u) (h1 : v.oneCell' = true) (h2 : u.oneCell' = true)
    (h : K (a.put o.dst (.slice (some ⟨w.heap.size, 0, none⟩) 2 2)) (w.alloc (.cells #[v, u] e))) : o.wp P a w K Q := by
  obtain ⟨ie, hi, hq⟩ := Option.map_eq_some_iff.1 hie
  simp only [Prod.mk.injEq] at hq
  have hc := one_cells v h1
  have hd := one_cells u h2
  refine wp_buildSlice t e 2 #[(0, x), (1, y)] ho #[v, u] ie z hu hi hq.1 (by rw [hq.2]; decide) (by rw [hq.2]; decide) ?_ h
  rw [hq.2]
  have hf := Great.fill_whole (s := 1) (by omega) [v, u] ((Array.range (2 * 1)).map (z.cells[· % z.cells.size]!)) (fun y hy => by simp at hy; rcases hy with rfl | rfl <;> simp [hc, hd]) (by simp)
  simpa [hx, hy, hc, hd] using hf
theorem infoS : (Try.prog.info? 9).map (fun i => (i.zero, i.size)) = some (some (.string ⟨#[]⟩), 1) := by kernel_rfl
theorem wp_runTo {P : Program} {o : Oper} {a : Act} {w : World} {K : Act → World → Prop} {Q : Exit → Act → World → Prop} (v : Value) (w' : World) (h : (execOp a.eval o).run P w = .ok (.value v) w') (hk : K (a.put o.dst v) w') : o.wp P a w K Q := by
  unfold Oper.wp
  rw [h]
  exact hk
theorem wp_build_k {o : Oper} {a : Act} {w : World} {K : Act → World → Prop} {Q : Exit → Act → World → Prop} (len : Nat) (parts : Array (Nat × Operand)) (ho : o.op = .buildSlice 28 len parts)
    (L : List (List UInt8)) (h32 : H32 L) (hlen : L.length = len) (h0 : 0 < len) (h24 : len ≤ 1000)
    (hp : (parts.map fun (i, x) => (i, a.eval x)).toList = ((L.map fun h => Value.agg (valsB h).toArray).zipIdx 0).map fun x => (x.2, x.1))
    (h : ∀ w', RowOf w' w.heap.size len L → Below w.heap.size w w' → K (a.put o.dst (.slice (some ⟨w.heap.size, 0, none⟩) len len)) w') : o.wp Try.prog a w K Q := by
  obtain ⟨ie, hie, hz, hsz, _⟩ := info_row
  have hcs : ((Array.range (len * 32)).map ((Value.agg (List.replicate 32 (Value.int .u8 0)).toArray).cells[· % (Value.agg (List.replicate 32 (Value.int .u8 0)).toArray).cells.size]!)).size = len * 32 := by simp
  have hfill := Great.fill_whole (s := 32) (by omega) (L.map fun h => Value.agg (valsB h).toArray) ((Array.range (len * 32)).map ((Value.agg (List.replicate 32 (Value.int .u8 0)).toArray).cells[· % (Value.agg (List.replicate 32 (Value.int .u8 0)).toArray).cells.size]!)) (fun v hv => by
    obtain ⟨x, hx, rfl⟩ := List.mem_map.1 hv
    rw [cellsB, valsB_size, h32 x hx]) (by rw [hcs, List.length_map, hlen])
  have hflat : ((L.map fun h => Value.agg (valsB h).toArray).flatMap fun v => v.cells.toList) = valsH L := by
    rw [List.flatMap_map]
    rfl
  rw [hflat] at hfill
  refine wp_buildSlice 28 23 len parts ho (valsH L).toArray ie _ Try.underlying28 hie hz (by rw [hsz]; omega) (by rw [hsz]; omega) (by rw [hsz, hp]; exact hfill) ?_
  refine h _ ⟨h32, ⟨_, heap_alloc_new _ _, ?_⟩, fun i x hx j v hv => ?_⟩ ((Below.refl _ _).alloc (Nat.le_refl _) _)
  · rw [List.size_toArray, valsH_len L h32, hlen]
  · rw [cell_of_row _ _ _ _ _ _ (heap_alloc_new w _), List.getElem?_toArray]
    exact valsH_at L h32 i x hx j v hv

/-- What an operation leaves. -/
inductive FactK where
  | val (v : Value)
  | texts (P : List ByteArray)
  | hs (L : List (List UInt8))
  | fresh (lo : Nat) (c : Array Value) (t : TypeId)
def FactK.holds : FactK → Value → World → Prop
  | .val v0, v, _ => v = v0
  | .texts P, v, w => ∃ g, v = .slice (some ⟨g, 0, none⟩) P.length P.length ∧ Texts w (.slice (some ⟨g, 0, none⟩) P.length P.length) P
  | .hs L, v, w => ∃ a c, v = .slice a L.length c ∧ Hashes w (.slice a L.length c) L
  | .fresh lo c t, v, w => ∃ g, v = .pointer (some ⟨g, 0, none⟩) ∧ lo ≤ g ∧ w.heap[g]? = some (.cells c t (0, 0))
theorem FactK.kept (f : FactK) (v : Value) (w w' : World) (h : f.holds v w) (hb : Below w.heap.size w w') : f.holds v w' := by
  cases f with
  | val v0 => exact h
  | texts P =>
    obtain ⟨g, hv, hr⟩ := h
    exact ⟨g, hv, hr.kept hb⟩
  | hs L =>
    obtain ⟨a, c, hv, hr⟩ := h
    exact ⟨a, c, hv, hr.kept hb⟩
  | fresh lo c t =>
    obtain ⟨g, hv, hl, hr⟩ := h
    exact ⟨g, hv, hl, (hb.block g ((Array.getElem?_eq_some_iff.1 hr).1)).trans hr⟩
theorem fresh_ne {w : World} {g : Nat} {o : Obj} (hg : w.heap[g]? = some o) : (Value.pointer (some ⟨w.heap.size, 0, none⟩)) ≠ .pointer (some ⟨g, 0, none⟩) := by
  intro e
  have hlt := (Array.getElem?_eq_some_iff.1 hg).1
  injection e with e1
  injection e1 with e2
  injection e2 with e3
  omega
theorem OwnH.formK {B : Nat} {v : Value} {P : List (List UInt8)} {w : World} (h : OwnH B v P w) : ∃ a c, v = .slice a P.length c := by
  rcases h.shape with ⟨rfl, rfl⟩ | ⟨g, cap, rfl, _, _⟩
  · exact ⟨_, _, rfl⟩
  · exact ⟨_, _, rfl⟩

set_option maxRecDepth 100000 in
set_option maxHeartbeats 1600000 in
theorem code_leafK (h : List UInt8) (hl : h.length = 32) (w : World) :
    Calls Try.prog 12 #[.agg (valsB h).toArray] w fun e w' => e = .returned (.agg (valsB (leafF h)).toArray) ∧ Below w.heap.size w w' := by
  have HBY := Lib.hid (fun w => code_bytes h hl w)
  have HO := Lib.hid (fun (w : World) => code_ofT leafT (.slice (some ⟨w.heap.size, 0, none⟩) 1 1) [⟨h.toArray⟩] _ (texts_one w ⟨h.toArray⟩) (by decide) (by simp) (by simp [size_of h 32 hl]))
  have HRC := Lib.hid (row32 h hl)
  obtain ⟨C, hC⟩ : ∃ C, (valsB h).toArray = C := ⟨_, rfl⟩
  rw [hC] at HBY HRC
  rw [hC]
  clear hC
  obtain ⟨S, hS⟩ : ∃ S : ByteArray, (⟨h.toArray⟩ : ByteArray) = S := ⟨_, rfl⟩
  rw [hS] at HBY
  have HS := Lib.hid hS
  simp only [hS] at HO
  clear hS
  go_enter Try.func12, Try.ntmps12
  go_upto_region 1 with (fail)
  rw [zero32]
  obtain ⟨Z, hZ⟩ : ∃ Z, (List.replicate 32 (Value.int .u8 0)).toArray = Z := ⟨_, rfl⟩
  have HZS := Lib.hid (show Z.size = 32 by rw [← hZ]; rfl)
  rw [hZ]
  clear hZ
  have hs0 : ((w.alloc (.cells C 23)).alloc (.cells Z 23)).heap.size = w.heap.size + 2 := by simp
  have HC := Lib.hid (heap_alloc2_old w (.cells C 23) (.cells Z 23))
  have HZ := Lib.hid (heap_alloc2_new w (.cells C 23) (.cells Z 23))
  have HBW := Lib.hid (show Below w.heap.size w ((w.alloc (.cells C 23)).alloc (.cells Z 23)) from ((Below.refl _ _).alloc (Nat.le_refl _) _).alloc (by simp) _)
  have HS0 := Lib.hid hs0
  clear hs0
  generalize (w.alloc (.cells C 23)).alloc (.cells Z 23) = W at HC HZ HBW HS0 ⊢
  have hW : w.heap.size + 1 < W.heap.size := by rw [HS0.out]; omega
  go_wp2_with (refine wpList_load_row rfl 23 (.tmp 1) rfl w.heap.size rfl 23 C (0, 0) _ HC.out Try.underlying23 rfl HRC.out.info ?_)
  refine (HBY.out _).mono ?_
  rintro e w3 ⟨rfl, hb3⟩
  have HB3 := Lib.hid hb3
  clear hb3
  go_wp2_with fail
  refine (HO.out _).mono ?_
  rintro e w4 ⟨rfl, hb4⟩
  have hb : Below W.heap.size W w4 := HB3.out.trans ((((Below.refl _ _).alloc (Nat.le_refl _) _).trans (hb4.mono (by simp)) : Below w3.heap.size w3 w4).mono HB3.out.size)
  have HZ2 := Lib.hid ((hb.block _ hW).trans HZ.out)
  have HB2 := Lib.hid (HBW.out.trans (hb.mono (by omega)))
  clear hb hb4
  rw [show ofT leafT [S] = leafF h by rw [← HS.out]; rfl]
  obtain ⟨D, hD⟩ : ∃ D, (valsB (leafF h)).toArray = D := ⟨_, rfl⟩
  have HD := Lib.hid hD
  have HRD := Lib.hid (show Row32 D by rw [← hD]; exact row32 _ rfl)
  have HZD := Lib.hid (show Z.size = D.size by rw [HZS.out, HRD.out.size])
  rw [hD]
  clear hD
  go_wp2_with (refine wpList_store_row rfl 23 (.tmp 2) (.tmp 6) rfl (w.heap.size + 1) D rfl rfl 23 Z HZ2.out HRD.out.info HZD.out HRD.out.one ?_)
  refine bodyPost_ret (results_cell_row (p := 2) (ty := 23) Try.results12 _ _ (w.heap.size + 1) 23 D (0, 0) _ rfl (setRow_heap _ _ _ _ _ _ HZ2.out) Try.underlying23 rfl HRD.out.info) rfl ⟨by rw [HD.out], below_setRow HB2.out (by omega) _⟩

theorem three_oldK (w : World) (a b c : Obj) : (((w.alloc a).alloc b).alloc c).heap[w.heap.size]? = some a := by
  have h := heap_alloc2_old w a b
  have hb : Below ((w.alloc a).alloc b).heap.size ((w.alloc a).alloc b) (((w.alloc a).alloc b).alloc c) := (Below.refl _ _).alloc (Nat.le_refl _) _
  rw [hb.block _ (by simp; omega)]
  exact h
theorem three_midK (w : World) (a b c : Obj) : (((w.alloc a).alloc b).alloc c).heap[w.heap.size + 1]? = some b := by
  have h := heap_alloc2_new w a b
  have hb : Below ((w.alloc a).alloc b).heap.size ((w.alloc a).alloc b) (((w.alloc a).alloc b).alloc c) := (Below.refl _ _).alloc (Nat.le_refl _) _
  rw [hb.block _ (by simp)]
  exact h
theorem three_newK (w : World) (a b c : Obj) : (((w.alloc a).alloc b).alloc c).heap[w.heap.size + 2]? = some c := by
  have h := heap_alloc_new ((w.alloc a).alloc b) c
  rw [show ((w.alloc a).alloc b).heap.size = w.heap.size + 2 by simp] at h
  exact h
theorem three_belowK (w : World) (a b c : Obj) : Below w.heap.size w (((w.alloc a).alloc b).alloc c) := (((Below.refl _ _).alloc (Nat.le_refl _) _).alloc (by simp) _).alloc (by simp; omega) _

theorem three_set (w : World) (Z A B C : Array Value) (T : TypeId) :
    (((((((w.alloc (.cells Z T)).alloc (.cells Z T)).alloc (.cells Z T)).setRow w.heap.size A).setRow (w.heap.size + 1) B).setRow (w.heap.size + 2) C).heap[w.heap.size]? = some (.cells A T (0, 0)) ∧
    ((((((w.alloc (.cells Z T)).alloc (.cells Z T)).alloc (.cells Z T)).setRow w.heap.size A).setRow (w.heap.size + 1) B).setRow (w.heap.size + 2) C).heap[w.heap.size + 1]? = some (.cells B T (0, 0)) ∧
    ((((((w.alloc (.cells Z T)).alloc (.cells Z T)).alloc (.cells Z T)).setRow w.heap.size A).setRow (w.heap.size + 1) B).setRow (w.heap.size + 2) C).heap[w.heap.size + 2]? = some (.cells C T (0, 0))) ∧
    Below w.heap.size w ((((((w.alloc (.cells Z T)).alloc (.cells Z T)).alloc (.cells Z T)).setRow w.heap.size A).setRow (w.heap.size + 1) B).setRow (w.heap.size + 2) C) := by
  have h0 := three_oldK w (.cells Z T) (.cells Z T) (.cells Z T)
  have h1 := three_midK w (.cells Z T) (.cells Z T) (.cells Z T)
  have h2 := three_newK w (.cells Z T) (.cells Z T) (.cells Z T)
  have hb := three_belowK w (.cells Z T) (.cells Z T) (.cells Z T)
  generalize ((w.alloc (.cells Z T)).alloc (.cells Z T)).alloc (.cells Z T) = W at h0 h1 h2 hb ⊢
  refine ⟨⟨?_, ?_, ?_⟩, below_setRow (below_setRow (below_setRow hb (Nat.le_refl _) A) (by omega) B) (by omega) C⟩
  · rw [setRow_other _ _ _ _ (by omega), setRow_other _ _ _ _ (by omega)]
    exact setRow_heap _ _ _ _ _ _ h0
  · rw [setRow_other _ _ _ _ (by omega)]
    exact setRow_heap _ _ _ _ _ _ ((setRow_other _ _ _ _ (by omega)).trans h1)
  · exact setRow_heap _ _ _ _ _ _ ((setRow_other _ _ _ _ (by omega)).trans ((setRow_other _ _ _ _ (by omega)).trans h2))

theorem OwnH.form0 {B : Nat} {v : Value} {w : World} (h : OwnH B v [] w) : ∃ a c, v = .slice a 0 c := h.formK
theorem OwnH.form1 {B : Nat} {v : Value} {x : List UInt8} {w : World} (h : OwnH B v [x] w) : ∃ a c, v = .slice a 1 c := h.formK
theorem OwnH.form2 {B : Nat} {v : Value} {x y : List UInt8} {w : World} (h : OwnH B v [x, y] w) : ∃ a c, v = .slice a 2 c := h.formK
theorem rep8 (w : World) : Calls Try.prog 18 #[.string ⟨#[0]⟩, .int .i64 8] w fun e w' => e = .returned (.string ⟨(Digit.eightL 0).toArray⟩) ∧ Below w.heap.size w w' :=
  Try.strings_Repeat ⟨#[0]⟩ 8 w (by decide) (by decide)
theorem known_two (x y z : List UInt8) : proofA [x, y, z] 2 = [pairF x y] := rfl
theorem known_nought (x y z : List UInt8) : proofA [x, y, z] 0 = [y, z] := rfl

set_option maxRecDepth 100000 in
set_option maxHeartbeats 12800000 in
theorem law_TreeKnown (w : World) : Calls Try.prog 3 #[] w fun e w' => e = .returned (.bool true) ∧ Below w.heap.size w w' := by
  have HSA := Lib.hid (fun w => code_sum ⟨#[97]⟩ (by decide) w)
  have HSB := Lib.hid (fun w => code_sum ⟨#[98]⟩ (by decide) w)
  have HSC := Lib.hid (fun w => code_sum ⟨#[99]⟩ (by decide) w)
  obtain ⟨a, ha⟩ : ∃ y, shaS ⟨#[97]⟩ = y := ⟨_, rfl⟩
  obtain ⟨b, hb⟩ : ∃ y, shaS ⟨#[98]⟩ = y := ⟨_, rfl⟩
  obtain ⟨c, hc⟩ : ∃ y, shaS ⟨#[99]⟩ = y := ⟨_, rfl⟩
  have hla : a.length = 32 := by rw [← ha]; rfl
  have hlb : b.length = 32 := by rw [← hb]; rfl
  have hlc : c.length = 32 := by rw [← hc]; rfl
  rw [ha] at HSA
  rw [hb] at HSB
  rw [hc] at HSC
  clear ha hb hc
  have HABC := Lib.hid (show H32 [a, b, c] from fun y hy => by
    simp at hy
    rcases hy with rfl | rfl | rfl
    · exact hla
    · exact hlb
    · exact hlc)
  have HA32 := Lib.hid (show H32 [a] from fun y hy => by simp at hy; subst hy; exact hla)
  have HP2 := Lib.hid (fun (w : World) v (hv : Hashes w v [a, b, c]) => code_Prove v [a, b, c] 2 w hv HABC.out (by simp) (by simp))
  have HP0 := Lib.hid (fun (w : World) v (hv : Hashes w v [a, b, c]) => code_Prove v [a, b, c] 0 w hv HABC.out (by simp) (by simp))
  have HP1 := Lib.hid (fun (w : World) v (hv : Hashes w v [a]) => code_Prove v [a] 0 w hv HA32.out (by simp) (by simp))
  have HPN := Lib.hid (fun (w : World) v (hv : Hashes w v [a]) => code_Prove_no v [a] 1 w hv (Or.inr (by simp)))
  obtain ⟨lx, hlx⟩ : ∃ y, leafF a = y := ⟨_, rfl⟩
  obtain ⟨ly, hly⟩ : ∃ y, leafF b = y := ⟨_, rfl⟩
  obtain ⟨lz, hlz⟩ : ∃ y, leafF c = y := ⟨_, rfl⟩
  obtain ⟨pr, hpr⟩ : ∃ y, pairF lx ly = y := ⟨_, rfl⟩
  have hllx : lx.length = 32 := by rw [← hlx]; rfl
  have hlly : ly.length = 32 := by rw [← hly]; rfl
  have hllz : lz.length = 32 := by rw [← hlz]; rfl
  have hlpr : pr.length = 32 := by rw [← hpr]; rfl
  have e2 : proofA ([a, b, c].map leafF) 2 = [pr] := by
    rw [show [a, b, c].map leafF = [leafF a, leafF b, leafF c] from rfl, hlx, hly, hlz, known_two, hpr]
  have e0 : proofA ([a, b, c].map leafF) 0 = [ly, lz] := by
    rw [show [a, b, c].map leafF = [leafF a, leafF b, leafF c] from rfl, hlx, hly, hlz, known_nought]
  have e1 : proofA ([a].map leafF) 0 = [] := proofA_one _ _ (by simp)
  rw [e2] at HP2
  rw [e0] at HP0
  rw [e1] at HP1
  have HLA := Lib.hid (fun w => code_leafK a hla w)
  have HLB := Lib.hid (fun w => code_leafK b hlb w)
  have HLC := Lib.hid (fun w => code_leafK c hlc w)
  rw [hlx] at HLA
  rw [hly] at HLB
  rw [hlz] at HLC
  have HXB := Lib.hid (fun w => code_bytes lx hllx w)
  have HYB := Lib.hid (fun w => code_bytes ly hlly w)
  have HPR32 := Lib.hid (show H32 [pr] from fun y hy => by simp at hy; subst hy; exact hlpr)
  have HYZ32 := Lib.hid (show H32 [ly, lz] from fun y hy => by
    simp at hy
    rcases hy with rfl | rfl
    · exact hlly
    · exact hllz)
  have HRT := Lib.hid (fun w => code_Root (.slice none 0 0) [] w (Or.inl ⟨_, _, rfl, rfl⟩) (fun y hy => by simp at hy) (by simp))
  have HNO := Lib.hid (fun w => code_ofT noneT (.slice none 0 0) [] w (Or.inl ⟨_, _, rfl, rfl⟩) (by decide) (by simp) (by simp))
  have HNB := Lib.hid (fun w => code_bytes (ofT noneT []) rfl w)
  have HR8 := Lib.hid (fun w => rep8 w)
  have HRO := Lib.hid (fun (w : World) g (h : Texts w (.slice (some ⟨g, 0, none⟩) 2 2) [⟨(Digit.eightL 0).toArray⟩, ⟨(ofT noneT []).toArray⟩]) => code_ofT rootT (.slice (some ⟨g, 0, none⟩) 2 2) [⟨(Digit.eightL 0).toArray⟩, ⟨(ofT noneT []).toArray⟩] w h (by decide) (by simp) (by simp [size_of _ 8 (Digit.eightL_len 0), size_of (ofT noneT []) 32 rfl]))
  rw [show ofT rootT [⟨(Digit.eightL 0).toArray⟩, ⟨(ofT noneT []).toArray⟩] = rootA [] from rfl] at HRO
  have HPRO := Lib.hid (fun (w : World) g (h : Texts w (.slice (some ⟨g, 0, none⟩) 2 2) [⟨lx.toArray⟩, ⟨ly.toArray⟩]) => code_ofT pairT (.slice (some ⟨g, 0, none⟩) 2 2) [⟨lx.toArray⟩, ⟨ly.toArray⟩] w h (by decide) (by simp) (by simp [size_of lx 32 hllx, size_of ly 32 hlly]))
  rw [show ofT pairT [⟨lx.toArray⟩, ⟨ly.toArray⟩] = pr from hpr] at HPRO
  have HE := fun w => eqIn_hash (rootA []) (rootA []) rfl rfl w
  rw [show (rootA [] == rootA []) = true by simp] at HE
  have HR1 := Lib.hid (row32 a hla)
  have HR2 := Lib.hid (row32 b hlb)
  have HR3 := Lib.hid (row32 c hlc)
  have HR6 := Lib.hid (row32 lx hllx)
  have HR7 := Lib.hid (row32 ly hlly)
  obtain ⟨CA, hCA⟩ : ∃ C, (valsB a).toArray = C := ⟨_, rfl⟩
  obtain ⟨CB, hCB⟩ : ∃ C, (valsB b).toArray = C := ⟨_, rfl⟩
  obtain ⟨CC, hCC⟩ : ∃ C, (valsB c).toArray = C := ⟨_, rfl⟩
  obtain ⟨CX, hCX⟩ : ∃ C, (valsB lx).toArray = C := ⟨_, rfl⟩
  obtain ⟨CY, hCY⟩ : ∃ C, (valsB ly).toArray = C := ⟨_, rfl⟩
  obtain ⟨CZ, hCZ⟩ : ∃ C, (valsB lz).toArray = C := ⟨_, rfl⟩
  obtain ⟨PR, hPR⟩ : ∃ C, (valsB pr).toArray = C := ⟨_, rfl⟩
  obtain ⟨DR, hDR⟩ : ∃ C, (valsB (rootA [])).toArray = C := ⟨_, rfl⟩
  obtain ⟨NN, hNN⟩ : ∃ C, (valsB (ofT noneT [])).toArray = C := ⟨_, rfl⟩
  obtain ⟨Z8, hZ8⟩ : ∃ S : ByteArray, (⟨(Digit.eightL 0).toArray⟩ : ByteArray) = S := ⟨_, rfl⟩
  obtain ⟨NB, hNB⟩ : ∃ S : ByteArray, (⟨(ofT noneT []).toArray⟩ : ByteArray) = S := ⟨_, rfl⟩
  obtain ⟨XB, hXB⟩ : ∃ S : ByteArray, (⟨lx.toArray⟩ : ByteArray) = S := ⟨_, rfl⟩
  obtain ⟨YB, hYB⟩ : ∃ S : ByteArray, (⟨ly.toArray⟩ : ByteArray) = S := ⟨_, rfl⟩
  rw [hCA] at HSA HR1
  rw [hCB] at HSB HR2
  rw [hCC] at HSC HR3
  rw [hCX] at HLA HXB HR6
  rw [hCY] at HLB HYB HR7
  rw [hCA] at HLA
  rw [hCB] at HLB
  rw [hCC, hCZ] at HLC
  rw [hXB] at HXB
  rw [hYB] at HYB
  rw [hDR] at HRT
  rw [hNN] at HNO
  rw [hNN, hNB] at HNB
  rw [hZ8] at HR8
  simp only [hZ8, hNB, hDR] at HRO
  simp only [hXB, hYB, hPR] at HPRO
  rw [hDR] at HE
  have HCA := Lib.hid hCA
  have HCB := Lib.hid hCB
  have HCC := Lib.hid hCC
  have HYC := Lib.hid hCY
  have HZC := Lib.hid hCZ
  have HPRC := Lib.hid hPR
  have HPR := Lib.hid HPRO.out
  have HZA := Lib.hid (show (List.replicate 32 (Value.int .u8 0)).toArray.size = CA.size by rw [HR1.out.size]; rfl)
  have HZB := Lib.hid (show (List.replicate 32 (Value.int .u8 0)).toArray.size = CB.size by rw [HR2.out.size]; rfl)
  have HZK := Lib.hid (show (List.replicate 32 (Value.int .u8 0)).toArray.size = CC.size by rw [HR3.out.size]; rfl)
  have HZX := Lib.hid (show (List.replicate 32 (Value.int .u8 0)).toArray.size = CX.size by rw [HR6.out.size]; rfl)
  have HZY := Lib.hid (show (List.replicate 32 (Value.int .u8 0)).toArray.size = CY.size by rw [HR7.out.size]; rfl)
  clear HPRO e0 e1 e2 hla hlb hlc hllx hlly hllz hlpr hlx hly hlz hpr hCA hCB hCC hCX hCY hCZ hPR hDR hNN hZ8 hNB hXB hYB
  go_enter Try.func3, Try.ntmps3
  go_wp2_with fail
  refine (HSA.out _).mono ?_
  rintro e w1 ⟨rfl, hb1⟩
  have HB1 := Lib.hid hb1
  clear hb1
  go_wp2_with fail
  refine (HSB.out _).mono ?_
  rintro e w2 ⟨rfl, hb2⟩
  have HB2 := Lib.hid (HB1.out.trans (hb2.mono HB1.out.size))
  clear hb2
  go_wp2_with fail
  refine (HSC.out _).mono ?_
  rintro e w3 ⟨rfl, hb3⟩
  have HB3 := Lib.hid (HB2.out.trans (hb3.mono HB2.out.size))
  clear hb3
  go_upto_region 2 with (first
    | (refine wpList_store_row rfl 23 (.tmp 1) (.tmp 15) rfl w3.heap.size CA rfl rfl 23 (List.replicate 32 (Value.int .u8 0)).toArray (three_oldK w3 _ _ _) HR1.out.info HZA.out HR1.out.one ?_)
    | (refine wpList_store_row rfl 23 (.tmp 2) (.tmp 16) rfl (w3.heap.size + 1) CB rfl rfl 23 (List.replicate 32 (Value.int .u8 0)).toArray ((setRow_other _ _ _ _ (by omega)).trans (three_midK w3 _ _ _)) HR2.out.info HZB.out HR2.out.one ?_)
    | (refine wpList_store_row rfl 23 (.tmp 3) (.tmp 17) rfl (w3.heap.size + 2) CC rfl rfl 23 (List.replicate 32 (Value.int .u8 0)).toArray ((setRow_other _ _ _ _ (by omega)).trans ((setRow_other _ _ _ _ (by omega)).trans (three_newK w3 _ _ _))) HR3.out.info HZK.out HR3.out.one ?_))
  rw [zero32]
  have h3 := three_set w3 (List.replicate 32 (Value.int .u8 0)).toArray CA CB CC 23
  generalize (((((w3.alloc (.cells (List.replicate 32 (Value.int .u8 0)).toArray 23)).alloc (.cells (List.replicate 32 (Value.int .u8 0)).toArray 23)).alloc (.cells (List.replicate 32 (Value.int .u8 0)).toArray 23)).setRow w3.heap.size CA).setRow (w3.heap.size + 1) CB).setRow (w3.heap.size + 2) CC = V at h3 ⊢
  obtain ⟨⟨hx1, hx2, hx3⟩, hbv⟩ := h3
  obtain ⟨g1, hg1⟩ : ∃ x, w3.heap.size = x := ⟨_, rfl⟩
  obtain ⟨g2, hg2⟩ : ∃ x, g1 + 1 = x := ⟨_, rfl⟩
  obtain ⟨g3, hg3⟩ : ∃ x, g1 + 1 + 1 = x := ⟨_, rfl⟩
  have HBV := Lib.hid (HB3.out.trans (hbv.mono HB3.out.size))
  rw [hg1] at hx1 hx2 hx3
  rw [hg2] at hx2
  rw [show g1 + 2 = g3 from hg3] at hx3
  rw [hg1]
  have X1v := Lib.hid hx1
  have X2v := Lib.hid hx2
  have X3v := Lib.hid hx3
  have XLv := Lib.hid (And.intro ((Array.getElem?_eq_some_iff.1 hx1).1) (And.intro ((Array.getElem?_eq_some_iff.1 hx2).1) ((Array.getElem?_eq_some_iff.1 hx3).1)))
  clear hx1 hx2 hx3 hbv
  rw [hg3, hg2]
  clear hg1 hg2 hg3
  go_wp2_with (first
    | (refine wpList_load_row rfl 23 (.tmp 1) rfl g1 rfl 23 CA (0, 0) _ X1v.out Try.underlying23 rfl HR1.out.info ?_)
    | (refine wpList_load_row rfl 23 (.tmp 2) rfl g2 rfl 23 CB (0, 0) _ X2v.out Try.underlying23 rfl HR2.out.info ?_)
    | (refine wpList_load_row rfl 23 (.tmp 3) rfl g3 rfl 23 CC (0, 0) _ X3v.out Try.underlying23 rfl HR3.out.info ?_)
    | (refine wpList_build_hashes rfl 3 _ rfl [a, b, c] HABC.out rfl (by omega) (by omega) (by simp only [List.map_toArray, List.map_cons, List.map_nil, List.zipIdx_cons, List.zipIdx_nil, HCA.out, HCB.out, HCC.out]; rfl) ?_; intro wb hrb hbb _ _))
  refine (HP2.out _ _ (hrb.hashes (cap := 3))).mono ?_
  rintro e wc ⟨pv, B0, rfl, _, hown, hbc⟩
  obtain ⟨s5, c5, rfl⟩ := hown.form1
  have hbd : Below V.heap.size V wc := hbb.trans (hbc.mono hbb.size)
  have X1wc := Lib.hid ((hbd.block g1 XLv.out.1).trans X1v.out)
  have X2wc := Lib.hid ((hbd.block g2 XLv.out.2.1).trans X2v.out)
  have X3wc := Lib.hid ((hbd.block g3 XLv.out.2.2).trans X3v.out)
  have XLwc := Lib.hid (And.intro ((Array.getElem?_eq_some_iff.1 X1wc.out).1) (And.intro ((Array.getElem?_eq_some_iff.1 X2wc.out).1) ((Array.getElem?_eq_some_iff.1 X3wc.out).1)))
  have HBwc := Lib.hid (HBV.out.trans (hbd.mono HBV.out.size))
  have HS5wc := Lib.hid hown.hashes
  clear hown hrb hbb hbc hbd
  go_wp2_with (first
    | (refine wpList_load_row rfl 23 (.tmp 1) rfl g1 rfl 23 CA (0, 0) _ X1wc.out Try.underlying23 rfl HR1.out.info ?_)
    | (refine wpList_load_row rfl 23 (.tmp 2) rfl g2 rfl 23 CB (0, 0) _ X2wc.out Try.underlying23 rfl HR2.out.info ?_)
    | (refine wpList_load_row rfl 23 (.tmp 3) rfl g3 rfl 23 CC (0, 0) _ X3wc.out Try.underlying23 rfl HR3.out.info ?_)
    | (refine wpList_build_hashes rfl 3 _ rfl [a, b, c] HABC.out rfl (by omega) (by omega) (by simp only [List.map_toArray, List.map_cons, List.map_nil, List.zipIdx_cons, List.zipIdx_nil, HCA.out, HCB.out, HCC.out]; rfl) ?_; intro wb hrb hbb _ _))
  refine (HP0.out _ _ (hrb.hashes (cap := 3))).mono ?_
  rintro e wd ⟨pv, B0, rfl, _, hown, hbc⟩
  obtain ⟨s7, c7, rfl⟩ := hown.form2
  have hbd : Below wc.heap.size wc wd := hbb.trans (hbc.mono hbb.size)
  have X1wd := Lib.hid ((hbd.block g1 XLwc.out.1).trans X1wc.out)
  have X2wd := Lib.hid ((hbd.block g2 XLwc.out.2.1).trans X2wc.out)
  have X3wd := Lib.hid ((hbd.block g3 XLwc.out.2.2).trans X3wc.out)
  have XLwd := Lib.hid (And.intro ((Array.getElem?_eq_some_iff.1 X1wd.out).1) (And.intro ((Array.getElem?_eq_some_iff.1 X2wd.out).1) ((Array.getElem?_eq_some_iff.1 X3wd.out).1)))
  have HBwd := Lib.hid (HBwc.out.trans (hbd.mono HBwc.out.size))
  have HS5wd := Lib.hid (HS5wc.out.kept hbd)
  have HS7wd := Lib.hid hown.hashes
  clear hown hrb hbb hbc hbd
  go_wp2_with (first
    | (refine wpList_load_row rfl 23 (.tmp 1) rfl g1 rfl 23 CA (0, 0) _ X1wd.out Try.underlying23 rfl HR1.out.info ?_)
    | (refine wpList_build_hashes rfl 1 _ rfl [a] HA32.out rfl (by omega) (by omega) (by simp only [List.map_toArray, List.map_cons, List.map_nil, List.zipIdx_cons, List.zipIdx_nil, HCA.out]; rfl) ?_; intro wb hrb hbb _ _))
  refine (HP1.out _ _ (hrb.hashes (cap := 1))).mono ?_
  rintro e we ⟨pv, B0, rfl, _, hown, hbc⟩
  obtain ⟨s9, c9, rfl⟩ := hown.form0
  have hbd : Below wd.heap.size wd we := hbb.trans (hbc.mono hbb.size)
  have X1we := Lib.hid ((hbd.block g1 XLwd.out.1).trans X1wd.out)
  have X2we := Lib.hid ((hbd.block g2 XLwd.out.2.1).trans X2wd.out)
  have X3we := Lib.hid ((hbd.block g3 XLwd.out.2.2).trans X3wd.out)
  have XLwe := Lib.hid (And.intro ((Array.getElem?_eq_some_iff.1 X1we.out).1) (And.intro ((Array.getElem?_eq_some_iff.1 X2we.out).1) ((Array.getElem?_eq_some_iff.1 X3we.out).1)))
  have HBwe := Lib.hid (HBwd.out.trans (hbd.mono HBwd.out.size))
  have HS5we := Lib.hid (HS5wd.out.kept hbd)
  have HS7we := Lib.hid (HS7wd.out.kept hbd)
  clear hown hrb hbb hbc hbd
  go_wp2_with (first
    | (refine wpList_load_row rfl 23 (.tmp 1) rfl g1 rfl 23 CA (0, 0) _ X1we.out Try.underlying23 rfl HR1.out.info ?_)
    | (refine wpList_build_hashes rfl 1 _ rfl [a] HA32.out rfl (by omega) (by omega) (by simp only [List.map_toArray, List.map_cons, List.map_nil, List.zipIdx_cons, List.zipIdx_nil, HCA.out]; rfl) ?_; intro wb hrb hbb _ _))
  refine (HPN.out _ _ (hrb.hashes (cap := 1))).mono ?_
  rintro e w7 ⟨rfl, hbc⟩
  have hbd : Below we.heap.size we w7 := hbb.trans (hbc.mono hbb.size)
  have X1w7 := Lib.hid ((hbd.block g1 XLwe.out.1).trans X1we.out)
  have X2w7 := Lib.hid ((hbd.block g2 XLwe.out.2.1).trans X2we.out)
  have X3w7 := Lib.hid ((hbd.block g3 XLwe.out.2.2).trans X3we.out)
  have XLw7 := Lib.hid (And.intro ((Array.getElem?_eq_some_iff.1 X1w7.out).1) (And.intro ((Array.getElem?_eq_some_iff.1 X2w7.out).1) ((Array.getElem?_eq_some_iff.1 X3w7.out).1)))
  have HBw7 := Lib.hid (HBwe.out.trans (hbd.mono HBwe.out.size))
  have HS5w7 := Lib.hid (HS5we.out.kept hbd)
  have HS7w7 := Lib.hid (HS7we.out.kept hbd)
  clear hrb hbb hbc hbd
  have H1 := Lib.hid X1w7.out
  have H2 := Lib.hid X2w7.out
  have HL1 := Lib.hid XLw7.out.1
  have HL2 := Lib.hid XLw7.out.2.1
  go_wp2_with fail
  refine QT.wp_region_facts_pair 8 6 7 13 14 (by decide) (by decide) (by decide) rfl rfl (by kernel_rfl) (fun w' => Below w7.heap.size w7 w') (fun n v w' => (([.val (.func (.func 12) #[] #[]), .val (.agg CA), .val (.agg CX), .val (.func (.func 12) #[] #[]), .val (.agg CB), .val (.agg CY), .fresh w7.heap.size (List.replicate 32 (Value.int .u8 0)).toArray 23, .fresh w7.heap.size (List.replicate 32 (Value.int .u8 0)).toArray 23] : List FactK).getD n (.val undef) : FactK).holds v w') (by kernel_rfl) (by kernel_rfl) (Below.refl _ _).drew (fun w1 w2 h1 hb => h1.trans (hb.mono h1.size)) (fun n v w1 w2 h hb => FactK.kept _ v w1 w2 h hb) (fun n o hn ho a wz hI hag hdep => ?_) (fun a wz hI hag hf hne => ?_)
  · have t4 : a.eval (.tmp 4) = .func (.func 12) #[] #[] := hag.old 4 _ (by kernel_rfl) rfl
    have t1 : a.eval (.tmp 1) = .pointer (some ⟨g1, 0, none⟩) := hag.old 1 _ (by kernel_rfl) rfl
    have t2 : a.eval (.tmp 2) = .pointer (some ⟨g2, 0, none⟩) := hag.old 2 _ (by kernel_rfl) rfl
    match n, ho with
    | 0, ho =>
      obtain rfl := (Option.some.inj ho).symm
      exact ⟨rfl, QT.wp_value (BigFrame.run_move (.tmp 4) rfl wz) ⟨_, rfl, t4, Below.refl _ _, fun h => absurd h (by decide), fun h => absurd h (by decide)⟩⟩
    | 1, ho =>
      obtain rfl := (Option.some.inj ho).symm
      exact ⟨rfl, wp_load_row 23 (.tmp 1) rfl g1 t1 23 CA (0, 0) _ ((hI.block g1 HL1.out).trans H1.out) Try.underlying23 rfl HR1.out.info ⟨_, rfl, rfl, Below.refl _ _, fun h => absurd h (by decide), fun h => absurd h (by decide)⟩⟩
    | 2, ho =>
      obtain rfl := (Option.some.inj ho).symm
      have d46 : a.eval (.tmp 46) = .func (.func 12) #[] #[] := hdep _ (Array.mem_of_getElem? (i := 0) rfl) rfl _ _ rfl rfl
      have d47 : a.eval (.tmp 47) = .agg CA := hdep _ (Array.mem_of_getElem? (i := 1) rfl) rfl _ _ rfl rfl
      exact ⟨rfl, QT.wp_enter (f := 12) (args := #[.agg CA]) (by simp [go_sem, QT.nf d46, QT.nf d47]) (HLA.out wz) fun w' hb => ⟨_, rfl, rfl, hb, fun h => absurd h (by decide), fun h => absurd h (by decide)⟩⟩
    | 3, ho =>
      obtain rfl := (Option.some.inj ho).symm
      exact ⟨rfl, QT.wp_value (BigFrame.run_move (.tmp 4) rfl wz) ⟨_, rfl, t4, Below.refl _ _, fun h => absurd h (by decide), fun h => absurd h (by decide)⟩⟩
    | 4, ho =>
      obtain rfl := (Option.some.inj ho).symm
      exact ⟨rfl, wp_load_row 23 (.tmp 2) rfl g2 t2 23 CB (0, 0) _ ((hI.block g2 HL2.out).trans H2.out) Try.underlying23 rfl HR2.out.info ⟨_, rfl, rfl, Below.refl _ _, fun h => absurd h (by decide), fun h => absurd h (by decide)⟩⟩
    | 5, ho =>
      obtain rfl := (Option.some.inj ho).symm
      have d49 : a.eval (.tmp 49) = .func (.func 12) #[] #[] := hdep _ (Array.mem_of_getElem? (i := 0) rfl) rfl _ _ rfl rfl
      have d50 : a.eval (.tmp 50) = .agg CB := hdep _ (Array.mem_of_getElem? (i := 1) rfl) rfl _ _ rfl rfl
      exact ⟨rfl, QT.wp_enter (f := 12) (args := #[.agg CB]) (by simp [go_sem, QT.nf d49, QT.nf d50]) (HLB.out wz) fun w' hb => ⟨_, rfl, rfl, hb, fun h => absurd h (by decide), fun h => absurd h (by decide)⟩⟩
    | 6, ho =>
      obtain rfl := (Option.some.inj ho).symm
      exact ⟨rfl, wp_runTo (.pointer (some ⟨wz.heap.size, 0, none⟩)) (wz.alloc (.cells (List.replicate 32 (Value.int .u8 0)).toArray 23)) (by kernel_rfl) ⟨_, rfl, ⟨_, rfl, hI.size, heap_alloc_new _ _⟩, (Below.refl _ _).alloc (Nat.le_refl _) _, fun _ u hu => by obtain ⟨g, rfl, _, hg⟩ := hu; exact fresh_ne hg, fun h => absurd h (by decide)⟩⟩
    | 7, ho =>
      obtain rfl := (Option.some.inj ho).symm
      exact ⟨rfl, wp_runTo (.pointer (some ⟨wz.heap.size, 0, none⟩)) (wz.alloc (.cells (List.replicate 32 (Value.int .u8 0)).toArray 23)) (by kernel_rfl) ⟨_, rfl, ⟨_, rfl, hI.size, heap_alloc_new _ _⟩, (Below.refl _ _).alloc (Nat.le_refl _) _, fun h => absurd h (by decide), fun _ u hu => by obtain ⟨g, rfl, _, hg⟩ := hu; exact fresh_ne hg⟩⟩
    | n + 8, ho => omega
  · have f0 : a.eval (.tmp 46) = .func (.func 12) #[] #[] := hf 0 _ _ (by omega) rfl rfl
    have f1 : a.eval (.tmp 47) = .agg CA := hf 1 _ _ (by omega) rfl rfl
    have f2 : a.eval (.tmp 48) = .agg CX := hf 2 _ _ (by omega) rfl rfl
    have f3 : a.eval (.tmp 49) = .func (.func 12) #[] #[] := hf 3 _ _ (by omega) rfl rfl
    have f4 : a.eval (.tmp 50) = .agg CB := hf 4 _ _ (by omega) rfl rfl
    have f5 : a.eval (.tmp 51) = .agg CY := hf 5 _ _ (by omega) rfl rfl
    have f6' : ((.fresh w7.heap.size (List.replicate 32 (Value.int .u8 0)).toArray 23) : FactK).holds (a.eval (.tmp 13)) wz := hf 6 _ _ (by omega) rfl rfl
    obtain ⟨q6, f6, y6⟩ := f6'
    have f7' : ((.fresh w7.heap.size (List.replicate 32 (Value.int .u8 0)).toArray 23) : FactK).holds (a.eval (.tmp 14)) wz := hf 7 _ _ (by omega) rfl rfl
    obtain ⟨q7, f7, y7⟩ := f7'
    have hq67 : q6 ≠ q7 := fun e => hne (by rw [f6, f7, e])
    clear hne
    have ha := hag.puts [(46, .func (.func 12) #[] #[]), (47, .agg CA), (48, .agg CX), (49, .func (.func 12) #[] #[]), (50, .agg CB), (51, .agg CY), (13, .pointer (some ⟨q6, 0, none⟩)), (14, .pointer (some ⟨q7, 0, none⟩))] rfl (by simp) (by simp only [List.forall_mem_cons, List.not_mem_nil, false_implies, implies_true, and_true]; exact ⟨f0, f1, f2, f3, f4, f5, f6, f7⟩)
    subst ha
    clear hag hf f0 f1 f2 f3 f4 f5 f6 f7
    simp only [List.foldl_cons, List.foldl_nil, Act.put, List.drop_succ_cons, List.drop_zero, List.setIfInBounds_toArray, List.set_cons_succ, List.set_cons_zero]
    have HY6 := Lib.hid y6
    have HY7 := Lib.hid y7
    have hq76 : q7 ≠ q6 := Ne.symm hq67
    have HI := Lib.hid hI
    clear y6 y7 hI
    go_upto_region 8 with (first
      | (refine wpList_store_row rfl 23 (.tmp 13) (.tmp 48) rfl q6 CX rfl rfl 23 (List.replicate 32 (Value.int .u8 0)).toArray HY6.out.2 HR6.out.info HZX.out HR6.out.one ?_)
      | (refine wpList_store_row rfl 23 (.tmp 14) (.tmp 51) rfl q7 CY rfl rfl 23 (List.replicate 32 (Value.int .u8 0)).toArray ((setRow_other _ _ _ _ hq76).trans HY7.out.2) HR7.out.info HZY.out HR7.out.one ?_))
    have H6 := Lib.hid ((setRow_other _ q7 q6 CY hq67).trans (setRow_heap wz q6 _ CX _ _ HY6.out.2))
    have H7 := Lib.hid (setRow_heap (wz.setRow q6 CX) q7 _ CY _ _ ((setRow_other _ _ _ _ hq76).trans HY7.out.2))
    have HB9 := Lib.hid (below_setRow (below_setRow HI.out HY6.out.1 CX) HY7.out.1 CY)
    generalize (wz.setRow q6 CX).setRow q7 CY = w9 at H6 H7 HB9 ⊢
    have H3 := Lib.hid ((HB9.out.block g3 XLw7.out.2.2).trans X3w7.out)
    have HL3 := Lib.hid ((Array.getElem?_eq_some_iff.1 H3.out).1)
    have HL6 := Lib.hid ((Array.getElem?_eq_some_iff.1 H6.out).1)
    have HL7 := Lib.hid ((Array.getElem?_eq_some_iff.1 H7.out).1)
    have HS5 := Lib.hid (HS5w7.out.kept HB9.out)
    have HS7 := Lib.hid (HS7w7.out.kept HB9.out)
    go_wp2_with fail
    refine QT.wp_region_facts (by kernel_rfl) (fun w' => Below w9.heap.size w9 w') (fun n v w' => (((.val (.bool true) :: .val (.bool true) :: .val (.agg DR) :: .val (.string Z8) :: .val (.agg NN) :: .val (.string NB) :: .texts [Z8, NB] :: .val (.agg DR) :: .val (.bool true) :: .val (.bool true) :: .val (.bool true) :: .val (.slice s5 1 c5) :: .val (.agg CX) :: .val (.string XB) :: .val (.agg CY) :: .val (.string YB) :: .texts [XB, YB] :: .val (.agg PR) :: .hs [pr] :: .val (.bool true) :: .val (.bool true) :: .val (.bool true) :: .val (.int .i64 0) :: .val (.bool true) :: .val (.bool true) :: .val (.bool true) :: .val (.slice s7 2 c7) :: .val (.agg CY) :: .val (.func (.func 12) #[] #[]) :: .val (.agg CC) :: .val (.agg CZ) :: .hs [ly, lz] :: .val (.bool true) :: .val (.bool true) :: .val (.bool true) :: .val (.int .i64 0) :: .val (.bool true) :: .val (.bool true) :: .val (.bool true) :: .val (.slice s9 0 c9) :: .val (.int .i64 0) :: .val (.bool true) :: .val (.bool true) :: .val (.bool true) :: .val (.int .i64 0) :: .val (.bool true) :: .val (.bool true) :: .val (.bool true) :: .val (.int .i64 5) :: .val (.bool true) :: .val (.bool true) :: .val (.bool true) :: []) : List FactK).getD n (.val undef) : FactK).holds v w') (by kernel_rfl) (by kernel_rfl) (Below.refl _ _).drew (fun w1 w2 h1 hb => h1.trans (hb.mono h1.size)) (fun n v w1 w2 h hb => FactK.kept _ v w1 w2 h hb) (fun n o ho a wz hI hag hdep => ?_) (fun a wz hI hag hf => ?_)
    · have t4 : a.eval (.tmp 4) = .func (.func 12) #[] #[] := hag.old 4 _ (by kernel_rfl) rfl
      have t3 : a.eval (.tmp 3) = .pointer (some ⟨g3, 0, none⟩) := hag.old 3 _ (by kernel_rfl) rfl
      have t13 : a.eval (.tmp 13) = .pointer (some ⟨q6, 0, none⟩) := hag.old 13 _ (by kernel_rfl) rfl
      have t14 : a.eval (.tmp 14) = .pointer (some ⟨q7, 0, none⟩) := hag.old 14 _ (by kernel_rfl) rfl
      have t5 : a.eval (.tmp 5) = .slice s5 1 c5 := hag.old 5 _ (by kernel_rfl) rfl
      have t7 : a.eval (.tmp 7) = .slice s7 2 c7 := hag.old 7 _ (by kernel_rfl) rfl
      have t9 : a.eval (.tmp 9) = .slice s9 0 c9 := hag.old 9 _ (by kernel_rfl) rfl
      have t6 : a.eval (.tmp 6) = .int .i64 0 := hag.old 6 _ (by kernel_rfl) rfl
      have t8 : a.eval (.tmp 8) = .int .i64 0 := hag.old 8 _ (by kernel_rfl) rfl
      have t10 : a.eval (.tmp 10) = .int .i64 0 := hag.old 10 _ (by kernel_rfl) rfl
      have t12 : a.eval (.tmp 12) = .int .i64 5 := hag.old 12 _ (by kernel_rfl) rfl
      match n, ho with
      | 0, ho =>
        obtain rfl := (Option.some.inj ho).symm
        exact ⟨rfl, QT.wp_enter (f := 16) (args := #[]) (by simp [go_sem]) (works4 wz) fun w' hb => ⟨_, rfl, rfl, hb⟩⟩
      | 1, ho =>
        obtain rfl := (Option.some.inj ho).symm
        have d52 : a.eval (.tmp 52) = .bool true := hdep _ (Array.mem_of_getElem? (i := 0) rfl) rfl _ _ rfl rfl
        exact ⟨rfl, QT.wp_value (BigFrame.run_move (.tmp 52) rfl wz) ⟨_, rfl, d52, Below.refl _ _⟩⟩
      | 2, ho =>
        obtain rfl := (Option.some.inj ho).symm
        have d53 : a.eval (.tmp 53) = .bool true := hdep _ (Array.mem_of_getElem? (i := 1) rfl) rfl _ _ rfl rfl
        exact ⟨QT.wanted_of rfl rfl rfl d53, QT.wp_enter (f := 17) (args := #[.slice none 0 0]) (by simp [go_sem]) (HRT.out wz) fun w' hb => ⟨_, rfl, rfl, hb⟩⟩
      | 3, ho =>
        obtain rfl := (Option.some.inj ho).symm
        have d53 : a.eval (.tmp 53) = .bool true := hdep _ (Array.mem_of_getElem? (i := 1) rfl) rfl _ _ rfl rfl
        exact ⟨QT.wanted_of rfl rfl rfl d53, QT.wp_enter (f := 18) (args := #[.string ⟨#[0]⟩, .int .i64 8]) (by simp [go_sem]) (HR8.out wz) fun w' hb => ⟨_, rfl, rfl, hb⟩⟩
      | 4, ho =>
        obtain rfl := (Option.some.inj ho).symm
        have d53 : a.eval (.tmp 53) = .bool true := hdep _ (Array.mem_of_getElem? (i := 1) rfl) rfl _ _ rfl rfl
        exact ⟨QT.wanted_of rfl rfl rfl d53, QT.wp_enter (f := 13) (args := #[.string noneT, .slice none 0 0]) (by simp [go_sem]) (HNO.out wz) fun w' hb => ⟨_, rfl, rfl, hb⟩⟩
      | 5, ho =>
        obtain rfl := (Option.some.inj ho).symm
        have d56 : a.eval (.tmp 56) = .agg NN := hdep _ (Array.mem_of_getElem? (i := 0) rfl) rfl _ _ rfl rfl
        have d53 : a.eval (.tmp 53) = .bool true := hdep _ (Array.mem_of_getElem? (i := 2) rfl) rfl _ _ rfl rfl
        exact ⟨QT.wanted_of rfl rfl rfl d53, QT.wp_enter (f := 14) (args := #[.agg NN]) (by simp [go_sem, QT.nf d56]) (HNB.out wz) fun w' hb => ⟨_, rfl, rfl, hb⟩⟩
      | 6, ho =>
        obtain rfl := (Option.some.inj ho).symm
        have d55 : a.eval (.tmp 55) = .string Z8 := hdep _ (Array.mem_of_getElem? (i := 0) rfl) rfl _ _ rfl rfl
        have d57 : a.eval (.tmp 57) = .string NB := hdep _ (Array.mem_of_getElem? (i := 1) rfl) rfl _ _ rfl rfl
        have d53 : a.eval (.tmp 53) = .bool true := hdep _ (Array.mem_of_getElem? (i := 2) rfl) rfl _ _ rfl rfl
        exact ⟨QT.wanted_of rfl rfl rfl d53, wp_slice2 54 9 (.tmp 55) (.tmp 57) rfl _ Try.underlying54 infoS _ _ d55 d57 rfl rfl ⟨_, rfl, ⟨_, rfl, texts_two wz _ _⟩, (Below.refl _ _).alloc (Nat.le_refl _) _⟩⟩
      | 7, ho =>
        obtain rfl := (Option.some.inj ho).symm
        have d58 : ((.texts [Z8, NB]) : FactK).holds (a.eval (.tmp 58)) wz := hdep _ (Array.mem_of_getElem? (i := 0) rfl) rfl _ _ rfl rfl
        have d53 : a.eval (.tmp 53) = .bool true := hdep _ (Array.mem_of_getElem? (i := 2) rfl) rfl _ _ rfl rfl
        obtain ⟨g, d, hT⟩ := d58
        exact ⟨QT.wanted_of rfl rfl rfl d53, QT.wp_enter (f := 13) (args := #[.string rootT, .slice (some ⟨g, 0, none⟩) 2 2]) (by simp [go_sem, QT.nf d]) (HRO.out wz g hT) fun w' hb => ⟨_, rfl, rfl, hb⟩⟩
      | 8, ho =>
        obtain rfl := (Option.some.inj ho).symm
        have d54 : a.eval (.tmp 54) = .agg DR := hdep _ (Array.mem_of_getElem? (i := 0) rfl) rfl _ _ rfl rfl
        have d59 : a.eval (.tmp 59) = .agg DR := hdep _ (Array.mem_of_getElem? (i := 1) rfl) rfl _ _ rfl rfl
        have d53 : a.eval (.tmp 53) = .bool true := hdep _ (Array.mem_of_getElem? (i := 2) rfl) rfl _ _ rfl rfl
        exact ⟨QT.wanted_of rfl rfl rfl d53, QT.wp_value (v := .bool true) (by simp [go_sem, QT.nf d54, QT.nf d59, HE wz]) ⟨_, rfl, rfl, Below.refl _ _⟩⟩
      | 9, ho =>
        obtain rfl := (Option.some.inj ho).symm
        have d53 : a.eval (.tmp 53) = .bool true := hdep _ (Array.mem_of_getElem? (i := 0) rfl) rfl _ _ rfl rfl
        have d60 : a.eval (.tmp 60) = .bool true := hdep _ (Array.mem_of_getElem? (i := 1) rfl) rfl _ _ rfl rfl
        exact ⟨rfl, QT.wp_value (v := .bool true) (by simp [go_sem, QT.nf d53, QT.nf d60]) ⟨_, rfl, rfl, Below.refl _ _⟩⟩
      | 10, ho =>
        obtain rfl := (Option.some.inj ho).symm
        have d61 : a.eval (.tmp 61) = .bool true := hdep _ (Array.mem_of_getElem? (i := 0) rfl) rfl _ _ rfl rfl
        exact ⟨rfl, QT.wp_value (BigFrame.run_move (.tmp 61) rfl wz) ⟨_, rfl, d61, Below.refl _ _⟩⟩
      | 11, ho =>
        obtain rfl := (Option.some.inj ho).symm
        have d62 : a.eval (.tmp 62) = .bool true := hdep _ (Array.mem_of_getElem? (i := 0) rfl) rfl _ _ rfl rfl
        exact ⟨QT.wanted_of rfl rfl rfl d62, QT.wp_value (BigFrame.run_move (.tmp 5) rfl wz) ⟨_, rfl, t5, Below.refl _ _⟩⟩
      | 12, ho =>
        obtain rfl := (Option.some.inj ho).symm
        have d62 : a.eval (.tmp 62) = .bool true := hdep _ (Array.mem_of_getElem? (i := 0) rfl) rfl _ _ rfl rfl
        exact ⟨QT.wanted_of rfl rfl rfl d62, wp_load_row 23 (.tmp 13) rfl q6 t13 23 CX (0, 0) _ ((hI.block q6 HL6.out).trans H6.out) Try.underlying23 rfl HR6.out.info ⟨_, rfl, rfl, Below.refl _ _⟩⟩
      | 13, ho =>
        obtain rfl := (Option.some.inj ho).symm
        have d64 : a.eval (.tmp 64) = .agg CX := hdep _ (Array.mem_of_getElem? (i := 0) rfl) rfl _ _ rfl rfl
        have d62 : a.eval (.tmp 62) = .bool true := hdep _ (Array.mem_of_getElem? (i := 2) rfl) rfl _ _ rfl rfl
        exact ⟨QT.wanted_of rfl rfl rfl d62, QT.wp_enter (f := 14) (args := #[.agg CX]) (by simp [go_sem, QT.nf d64]) (HXB.out wz) fun w' hb => ⟨_, rfl, rfl, hb⟩⟩
      | 14, ho =>
        obtain rfl := (Option.some.inj ho).symm
        have d62 : a.eval (.tmp 62) = .bool true := hdep _ (Array.mem_of_getElem? (i := 0) rfl) rfl _ _ rfl rfl
        exact ⟨QT.wanted_of rfl rfl rfl d62, wp_load_row 23 (.tmp 14) rfl q7 t14 23 CY (0, 0) _ ((hI.block q7 HL7.out).trans H7.out) Try.underlying23 rfl HR7.out.info ⟨_, rfl, rfl, Below.refl _ _⟩⟩
      | 15, ho =>
        obtain rfl := (Option.some.inj ho).symm
        have d66 : a.eval (.tmp 66) = .agg CY := hdep _ (Array.mem_of_getElem? (i := 0) rfl) rfl _ _ rfl rfl
        have d62 : a.eval (.tmp 62) = .bool true := hdep _ (Array.mem_of_getElem? (i := 2) rfl) rfl _ _ rfl rfl
        exact ⟨QT.wanted_of rfl rfl rfl d62, QT.wp_enter (f := 14) (args := #[.agg CY]) (by simp [go_sem, QT.nf d66]) (HYB.out wz) fun w' hb => ⟨_, rfl, rfl, hb⟩⟩
      | 16, ho =>
        obtain rfl := (Option.some.inj ho).symm
        have d65 : a.eval (.tmp 65) = .string XB := hdep _ (Array.mem_of_getElem? (i := 0) rfl) rfl _ _ rfl rfl
        have d67 : a.eval (.tmp 67) = .string YB := hdep _ (Array.mem_of_getElem? (i := 1) rfl) rfl _ _ rfl rfl
        have d62 : a.eval (.tmp 62) = .bool true := hdep _ (Array.mem_of_getElem? (i := 2) rfl) rfl _ _ rfl rfl
        exact ⟨QT.wanted_of rfl rfl rfl d62, wp_slice2 54 9 (.tmp 65) (.tmp 67) rfl _ Try.underlying54 infoS _ _ d65 d67 rfl rfl ⟨_, rfl, ⟨_, rfl, texts_two wz _ _⟩, (Below.refl _ _).alloc (Nat.le_refl _) _⟩⟩
      | 17, ho =>
        obtain rfl := (Option.some.inj ho).symm
        have d68 : ((.texts [XB, YB]) : FactK).holds (a.eval (.tmp 68)) wz := hdep _ (Array.mem_of_getElem? (i := 0) rfl) rfl _ _ rfl rfl
        have d62 : a.eval (.tmp 62) = .bool true := hdep _ (Array.mem_of_getElem? (i := 2) rfl) rfl _ _ rfl rfl
        obtain ⟨g, d, hT⟩ := d68
        exact ⟨QT.wanted_of rfl rfl rfl d62, QT.wp_enter (f := 13) (args := #[.string pairT, .slice (some ⟨g, 0, none⟩) 2 2]) (by simp [go_sem, QT.nf d]) (HPR.out wz g hT) fun w' hb => ⟨_, rfl, rfl, hb⟩⟩
      | 18, ho =>
        obtain rfl := (Option.some.inj ho).symm
        have d69 : a.eval (.tmp 69) = .agg PR := hdep _ (Array.mem_of_getElem? (i := 0) rfl) rfl _ _ rfl rfl
        have d62 : a.eval (.tmp 62) = .bool true := hdep _ (Array.mem_of_getElem? (i := 1) rfl) rfl _ _ rfl rfl
        exact ⟨QT.wanted_of rfl rfl rfl d62, wp_build_k 1 #[(0, .tmp 69)] rfl [pr] HPR32.out rfl (by omega) (by omega) (by simp [d69, HPRC.out]) fun w' hr hb => ⟨_, rfl, ⟨_, _, rfl, hr.hashes (cap := 1)⟩, hb⟩⟩
      | 19, ho =>
        obtain rfl := (Option.some.inj ho).symm
        have d63 : a.eval (.tmp 63) = .slice s5 1 c5 := hdep _ (Array.mem_of_getElem? (i := 0) rfl) rfl _ _ rfl rfl
        have d70 : ((.hs [pr]) : FactK).holds (a.eval (.tmp 70)) wz := hdep _ (Array.mem_of_getElem? (i := 1) rfl) rfl _ _ rfl rfl
        have d62 : a.eval (.tmp 62) = .bool true := hdep _ (Array.mem_of_getElem? (i := 3) rfl) rfl _ _ rfl rfl
        obtain ⟨a1, c1, d, hh⟩ := d70
        exact ⟨QT.wanted_of rfl rfl rfl d62, QT.wp_enter (f := 19) (args := #[.slice s5 1 c5, .slice a1 1 c1]) (by simp [go_sem, QT.nf d63, QT.nf d]) (equal_true _ _ [pr] wz (HS5.out.kept hI) hh HPR32.out (by simp)) fun w' hb => ⟨_, rfl, rfl, hb⟩⟩
      | 20, ho =>
        obtain rfl := (Option.some.inj ho).symm
        have d62 : a.eval (.tmp 62) = .bool true := hdep _ (Array.mem_of_getElem? (i := 0) rfl) rfl _ _ rfl rfl
        have d71 : a.eval (.tmp 71) = .bool true := hdep _ (Array.mem_of_getElem? (i := 1) rfl) rfl _ _ rfl rfl
        exact ⟨rfl, QT.wp_value (v := .bool true) (by simp [go_sem, QT.nf d62, QT.nf d71]) ⟨_, rfl, rfl, Below.refl _ _⟩⟩
      | 21, ho =>
        obtain rfl := (Option.some.inj ho).symm
        have d72 : a.eval (.tmp 72) = .bool true := hdep _ (Array.mem_of_getElem? (i := 0) rfl) rfl _ _ rfl rfl
        exact ⟨rfl, QT.wp_value (BigFrame.run_move (.tmp 72) rfl wz) ⟨_, rfl, d72, Below.refl _ _⟩⟩
      | 22, ho =>
        obtain rfl := (Option.some.inj ho).symm
        have d73 : a.eval (.tmp 73) = .bool true := hdep _ (Array.mem_of_getElem? (i := 0) rfl) rfl _ _ rfl rfl
        exact ⟨QT.wanted_of rfl rfl rfl d73, QT.wp_value (BigFrame.run_move (.tmp 6) rfl wz) ⟨_, rfl, t6, Below.refl _ _⟩⟩
      | 23, ho =>
        obtain rfl := (Option.some.inj ho).symm
        have d74 : a.eval (.tmp 74) = .int .i64 0 := hdep _ (Array.mem_of_getElem? (i := 0) rfl) rfl _ _ rfl rfl
        have d73 : a.eval (.tmp 73) = .bool true := hdep _ (Array.mem_of_getElem? (i := 1) rfl) rfl _ _ rfl rfl
        exact ⟨QT.wanted_of rfl rfl rfl d73, QT.wp_value (v := .bool true) (by simp [go_sem, QT.nf d74]) ⟨_, rfl, rfl, Below.refl _ _⟩⟩
      | 24, ho =>
        obtain rfl := (Option.some.inj ho).symm
        have d73 : a.eval (.tmp 73) = .bool true := hdep _ (Array.mem_of_getElem? (i := 0) rfl) rfl _ _ rfl rfl
        have d75 : a.eval (.tmp 75) = .bool true := hdep _ (Array.mem_of_getElem? (i := 1) rfl) rfl _ _ rfl rfl
        exact ⟨rfl, QT.wp_value (v := .bool true) (by simp [go_sem, QT.nf d73, QT.nf d75]) ⟨_, rfl, rfl, Below.refl _ _⟩⟩
      | 25, ho =>
        obtain rfl := (Option.some.inj ho).symm
        have d76 : a.eval (.tmp 76) = .bool true := hdep _ (Array.mem_of_getElem? (i := 0) rfl) rfl _ _ rfl rfl
        exact ⟨rfl, QT.wp_value (BigFrame.run_move (.tmp 76) rfl wz) ⟨_, rfl, d76, Below.refl _ _⟩⟩
      | 26, ho =>
        obtain rfl := (Option.some.inj ho).symm
        have d77 : a.eval (.tmp 77) = .bool true := hdep _ (Array.mem_of_getElem? (i := 0) rfl) rfl _ _ rfl rfl
        exact ⟨QT.wanted_of rfl rfl rfl d77, QT.wp_value (BigFrame.run_move (.tmp 7) rfl wz) ⟨_, rfl, t7, Below.refl _ _⟩⟩
      | 27, ho =>
        obtain rfl := (Option.some.inj ho).symm
        have d77 : a.eval (.tmp 77) = .bool true := hdep _ (Array.mem_of_getElem? (i := 0) rfl) rfl _ _ rfl rfl
        exact ⟨QT.wanted_of rfl rfl rfl d77, wp_load_row 23 (.tmp 14) rfl q7 t14 23 CY (0, 0) _ ((hI.block q7 HL7.out).trans H7.out) Try.underlying23 rfl HR7.out.info ⟨_, rfl, rfl, Below.refl _ _⟩⟩
      | 28, ho =>
        obtain rfl := (Option.some.inj ho).symm
        have d77 : a.eval (.tmp 77) = .bool true := hdep _ (Array.mem_of_getElem? (i := 0) rfl) rfl _ _ rfl rfl
        exact ⟨QT.wanted_of rfl rfl rfl d77, QT.wp_value (BigFrame.run_move (.tmp 4) rfl wz) ⟨_, rfl, t4, Below.refl _ _⟩⟩
      | 29, ho =>
        obtain rfl := (Option.some.inj ho).symm
        have d77 : a.eval (.tmp 77) = .bool true := hdep _ (Array.mem_of_getElem? (i := 0) rfl) rfl _ _ rfl rfl
        exact ⟨QT.wanted_of rfl rfl rfl d77, wp_load_row 23 (.tmp 3) rfl g3 t3 23 CC (0, 0) _ ((hI.block g3 HL3.out).trans H3.out) Try.underlying23 rfl HR3.out.info ⟨_, rfl, rfl, Below.refl _ _⟩⟩
      | 30, ho =>
        obtain rfl := (Option.some.inj ho).symm
        have d80 : a.eval (.tmp 80) = .func (.func 12) #[] #[] := hdep _ (Array.mem_of_getElem? (i := 0) rfl) rfl _ _ rfl rfl
        have d81 : a.eval (.tmp 81) = .agg CC := hdep _ (Array.mem_of_getElem? (i := 1) rfl) rfl _ _ rfl rfl
        have d77 : a.eval (.tmp 77) = .bool true := hdep _ (Array.mem_of_getElem? (i := 3) rfl) rfl _ _ rfl rfl
        exact ⟨QT.wanted_of rfl rfl rfl d77, QT.wp_enter (f := 12) (args := #[.agg CC]) (by simp [go_sem, QT.nf d80, QT.nf d81]) (HLC.out wz) fun w' hb => ⟨_, rfl, rfl, hb⟩⟩
      | 31, ho =>
        obtain rfl := (Option.some.inj ho).symm
        have d79 : a.eval (.tmp 79) = .agg CY := hdep _ (Array.mem_of_getElem? (i := 0) rfl) rfl _ _ rfl rfl
        have d82 : a.eval (.tmp 82) = .agg CZ := hdep _ (Array.mem_of_getElem? (i := 1) rfl) rfl _ _ rfl rfl
        have d77 : a.eval (.tmp 77) = .bool true := hdep _ (Array.mem_of_getElem? (i := 2) rfl) rfl _ _ rfl rfl
        exact ⟨QT.wanted_of rfl rfl rfl d77, wp_build_k 2 #[(0, .tmp 79), (1, .tmp 82)] rfl [ly, lz] HYZ32.out rfl (by omega) (by omega) (by simp [d79, d82, HYC.out, HZC.out]) fun w' hr hb => ⟨_, rfl, ⟨_, _, rfl, hr.hashes (cap := 2)⟩, hb⟩⟩
      | 32, ho =>
        obtain rfl := (Option.some.inj ho).symm
        have d78 : a.eval (.tmp 78) = .slice s7 2 c7 := hdep _ (Array.mem_of_getElem? (i := 0) rfl) rfl _ _ rfl rfl
        have d83 : ((.hs [ly, lz]) : FactK).holds (a.eval (.tmp 83)) wz := hdep _ (Array.mem_of_getElem? (i := 1) rfl) rfl _ _ rfl rfl
        have d77 : a.eval (.tmp 77) = .bool true := hdep _ (Array.mem_of_getElem? (i := 3) rfl) rfl _ _ rfl rfl
        obtain ⟨a1, c1, d, hh⟩ := d83
        exact ⟨QT.wanted_of rfl rfl rfl d77, QT.wp_enter (f := 19) (args := #[.slice s7 2 c7, .slice a1 2 c1]) (by simp [go_sem, QT.nf d78, QT.nf d]) (equal_true _ _ [ly, lz] wz (HS7.out.kept hI) hh HYZ32.out (by simp)) fun w' hb => ⟨_, rfl, rfl, hb⟩⟩
      | 33, ho =>
        obtain rfl := (Option.some.inj ho).symm
        have d77 : a.eval (.tmp 77) = .bool true := hdep _ (Array.mem_of_getElem? (i := 0) rfl) rfl _ _ rfl rfl
        have d84 : a.eval (.tmp 84) = .bool true := hdep _ (Array.mem_of_getElem? (i := 1) rfl) rfl _ _ rfl rfl
        exact ⟨rfl, QT.wp_value (v := .bool true) (by simp [go_sem, QT.nf d77, QT.nf d84]) ⟨_, rfl, rfl, Below.refl _ _⟩⟩
      | 34, ho =>
        obtain rfl := (Option.some.inj ho).symm
        have d85 : a.eval (.tmp 85) = .bool true := hdep _ (Array.mem_of_getElem? (i := 0) rfl) rfl _ _ rfl rfl
        exact ⟨rfl, QT.wp_value (BigFrame.run_move (.tmp 85) rfl wz) ⟨_, rfl, d85, Below.refl _ _⟩⟩
      | 35, ho =>
        obtain rfl := (Option.some.inj ho).symm
        have d86 : a.eval (.tmp 86) = .bool true := hdep _ (Array.mem_of_getElem? (i := 0) rfl) rfl _ _ rfl rfl
        exact ⟨QT.wanted_of rfl rfl rfl d86, QT.wp_value (BigFrame.run_move (.tmp 8) rfl wz) ⟨_, rfl, t8, Below.refl _ _⟩⟩
      | 36, ho =>
        obtain rfl := (Option.some.inj ho).symm
        have d87 : a.eval (.tmp 87) = .int .i64 0 := hdep _ (Array.mem_of_getElem? (i := 0) rfl) rfl _ _ rfl rfl
        have d86 : a.eval (.tmp 86) = .bool true := hdep _ (Array.mem_of_getElem? (i := 1) rfl) rfl _ _ rfl rfl
        exact ⟨QT.wanted_of rfl rfl rfl d86, QT.wp_value (v := .bool true) (by simp [go_sem, QT.nf d87]) ⟨_, rfl, rfl, Below.refl _ _⟩⟩
      | 37, ho =>
        obtain rfl := (Option.some.inj ho).symm
        have d86 : a.eval (.tmp 86) = .bool true := hdep _ (Array.mem_of_getElem? (i := 0) rfl) rfl _ _ rfl rfl
        have d88 : a.eval (.tmp 88) = .bool true := hdep _ (Array.mem_of_getElem? (i := 1) rfl) rfl _ _ rfl rfl
        exact ⟨rfl, QT.wp_value (v := .bool true) (by simp [go_sem, QT.nf d86, QT.nf d88]) ⟨_, rfl, rfl, Below.refl _ _⟩⟩
      | 38, ho =>
        obtain rfl := (Option.some.inj ho).symm
        have d89 : a.eval (.tmp 89) = .bool true := hdep _ (Array.mem_of_getElem? (i := 0) rfl) rfl _ _ rfl rfl
        exact ⟨rfl, QT.wp_value (BigFrame.run_move (.tmp 89) rfl wz) ⟨_, rfl, d89, Below.refl _ _⟩⟩
      | 39, ho =>
        obtain rfl := (Option.some.inj ho).symm
        have d90 : a.eval (.tmp 90) = .bool true := hdep _ (Array.mem_of_getElem? (i := 0) rfl) rfl _ _ rfl rfl
        exact ⟨QT.wanted_of rfl rfl rfl d90, QT.wp_value (BigFrame.run_move (.tmp 9) rfl wz) ⟨_, rfl, t9, Below.refl _ _⟩⟩
      | 40, ho =>
        obtain rfl := (Option.some.inj ho).symm
        have d91 : a.eval (.tmp 91) = .slice s9 0 c9 := hdep _ (Array.mem_of_getElem? (i := 0) rfl) rfl _ _ rfl rfl
        have d90 : a.eval (.tmp 90) = .bool true := hdep _ (Array.mem_of_getElem? (i := 1) rfl) rfl _ _ rfl rfl
        exact ⟨QT.wanted_of rfl rfl rfl d90, QT.wp_value (v := .int .i64 0) (by simp [go_sem, QT.nf d91]) ⟨_, rfl, rfl, Below.refl _ _⟩⟩
      | 41, ho =>
        obtain rfl := (Option.some.inj ho).symm
        have d92 : a.eval (.tmp 92) = .int .i64 0 := hdep _ (Array.mem_of_getElem? (i := 0) rfl) rfl _ _ rfl rfl
        have d90 : a.eval (.tmp 90) = .bool true := hdep _ (Array.mem_of_getElem? (i := 1) rfl) rfl _ _ rfl rfl
        exact ⟨QT.wanted_of rfl rfl rfl d90, QT.wp_value (v := .bool true) (by simp [go_sem, QT.nf d92]) ⟨_, rfl, rfl, Below.refl _ _⟩⟩
      | 42, ho =>
        obtain rfl := (Option.some.inj ho).symm
        have d90 : a.eval (.tmp 90) = .bool true := hdep _ (Array.mem_of_getElem? (i := 0) rfl) rfl _ _ rfl rfl
        have d93 : a.eval (.tmp 93) = .bool true := hdep _ (Array.mem_of_getElem? (i := 1) rfl) rfl _ _ rfl rfl
        exact ⟨rfl, QT.wp_value (v := .bool true) (by simp [go_sem, QT.nf d90, QT.nf d93]) ⟨_, rfl, rfl, Below.refl _ _⟩⟩
      | 43, ho =>
        obtain rfl := (Option.some.inj ho).symm
        have d94 : a.eval (.tmp 94) = .bool true := hdep _ (Array.mem_of_getElem? (i := 0) rfl) rfl _ _ rfl rfl
        exact ⟨rfl, QT.wp_value (BigFrame.run_move (.tmp 94) rfl wz) ⟨_, rfl, d94, Below.refl _ _⟩⟩
      | 44, ho =>
        obtain rfl := (Option.some.inj ho).symm
        have d95 : a.eval (.tmp 95) = .bool true := hdep _ (Array.mem_of_getElem? (i := 0) rfl) rfl _ _ rfl rfl
        exact ⟨QT.wanted_of rfl rfl rfl d95, QT.wp_value (BigFrame.run_move (.tmp 10) rfl wz) ⟨_, rfl, t10, Below.refl _ _⟩⟩
      | 45, ho =>
        obtain rfl := (Option.some.inj ho).symm
        have d96 : a.eval (.tmp 96) = .int .i64 0 := hdep _ (Array.mem_of_getElem? (i := 0) rfl) rfl _ _ rfl rfl
        have d95 : a.eval (.tmp 95) = .bool true := hdep _ (Array.mem_of_getElem? (i := 1) rfl) rfl _ _ rfl rfl
        exact ⟨QT.wanted_of rfl rfl rfl d95, QT.wp_value (v := .bool true) (by simp [go_sem, QT.nf d96]) ⟨_, rfl, rfl, Below.refl _ _⟩⟩
      | 46, ho =>
        obtain rfl := (Option.some.inj ho).symm
        have d95 : a.eval (.tmp 95) = .bool true := hdep _ (Array.mem_of_getElem? (i := 0) rfl) rfl _ _ rfl rfl
        have d97 : a.eval (.tmp 97) = .bool true := hdep _ (Array.mem_of_getElem? (i := 1) rfl) rfl _ _ rfl rfl
        exact ⟨rfl, QT.wp_value (v := .bool true) (by simp [go_sem, QT.nf d95, QT.nf d97]) ⟨_, rfl, rfl, Below.refl _ _⟩⟩
      | 47, ho =>
        obtain rfl := (Option.some.inj ho).symm
        have d98 : a.eval (.tmp 98) = .bool true := hdep _ (Array.mem_of_getElem? (i := 0) rfl) rfl _ _ rfl rfl
        exact ⟨rfl, QT.wp_value (BigFrame.run_move (.tmp 98) rfl wz) ⟨_, rfl, d98, Below.refl _ _⟩⟩
      | 48, ho =>
        obtain rfl := (Option.some.inj ho).symm
        have d99 : a.eval (.tmp 99) = .bool true := hdep _ (Array.mem_of_getElem? (i := 0) rfl) rfl _ _ rfl rfl
        exact ⟨QT.wanted_of rfl rfl rfl d99, QT.wp_value (BigFrame.run_move (.tmp 12) rfl wz) ⟨_, rfl, t12, Below.refl _ _⟩⟩
      | 49, ho =>
        obtain rfl := (Option.some.inj ho).symm
        have d100 : a.eval (.tmp 100) = .int .i64 5 := hdep _ (Array.mem_of_getElem? (i := 0) rfl) rfl _ _ rfl rfl
        have d99 : a.eval (.tmp 99) = .bool true := hdep _ (Array.mem_of_getElem? (i := 1) rfl) rfl _ _ rfl rfl
        exact ⟨QT.wanted_of rfl rfl rfl d99, QT.wp_value (v := .bool true) (by simp [go_sem, QT.nf d100]) ⟨_, rfl, rfl, Below.refl _ _⟩⟩
      | 50, ho =>
        obtain rfl := (Option.some.inj ho).symm
        have d99 : a.eval (.tmp 99) = .bool true := hdep _ (Array.mem_of_getElem? (i := 0) rfl) rfl _ _ rfl rfl
        have d101 : a.eval (.tmp 101) = .bool true := hdep _ (Array.mem_of_getElem? (i := 1) rfl) rfl _ _ rfl rfl
        exact ⟨rfl, QT.wp_value (v := .bool true) (by simp [go_sem, QT.nf d99, QT.nf d101]) ⟨_, rfl, rfl, Below.refl _ _⟩⟩
      | 51, ho =>
        obtain rfl := (Option.some.inj ho).symm
        have d102 : a.eval (.tmp 102) = .bool true := hdep _ (Array.mem_of_getElem? (i := 0) rfl) rfl _ _ rfl rfl
        exact ⟨rfl, QT.wp_value (BigFrame.run_assign (.tmp 102) rfl wz) ⟨_, rfl, d102, Below.refl _ _⟩⟩
      | n + 52, ho => simp at ho
    · have f0 : a.eval (.tmp 52) = .bool true := hf 0 _ _ rfl rfl
      have f1 : a.eval (.tmp 53) = .bool true := hf 1 _ _ rfl rfl
      have f2 : a.eval (.tmp 54) = .agg DR := hf 2 _ _ rfl rfl
      have f3 : a.eval (.tmp 55) = .string Z8 := hf 3 _ _ rfl rfl
      have f4 : a.eval (.tmp 56) = .agg NN := hf 4 _ _ rfl rfl
      have f5 : a.eval (.tmp 57) = .string NB := hf 5 _ _ rfl rfl
      have f6' : ((.texts [Z8, NB]) : FactK).holds (a.eval (.tmp 58)) wz := hf 6 _ _ rfl rfl
      obtain ⟨q6, f6, _⟩ := f6'
      have f7 : a.eval (.tmp 59) = .agg DR := hf 7 _ _ rfl rfl
      have f8 : a.eval (.tmp 60) = .bool true := hf 8 _ _ rfl rfl
      have f9 : a.eval (.tmp 61) = .bool true := hf 9 _ _ rfl rfl
      have f10 : a.eval (.tmp 62) = .bool true := hf 10 _ _ rfl rfl
      have f11 : a.eval (.tmp 63) = .slice s5 1 c5 := hf 11 _ _ rfl rfl
      have f12 : a.eval (.tmp 64) = .agg CX := hf 12 _ _ rfl rfl
      have f13 : a.eval (.tmp 65) = .string XB := hf 13 _ _ rfl rfl
      have f14 : a.eval (.tmp 66) = .agg CY := hf 14 _ _ rfl rfl
      have f15 : a.eval (.tmp 67) = .string YB := hf 15 _ _ rfl rfl
      have f16' : ((.texts [XB, YB]) : FactK).holds (a.eval (.tmp 68)) wz := hf 16 _ _ rfl rfl
      obtain ⟨q16, f16, _⟩ := f16'
      have f17 : a.eval (.tmp 69) = .agg PR := hf 17 _ _ rfl rfl
      obtain ⟨u18, f18⟩ : ∃ u, a.eval (.tmp 70) = u := ⟨_, rfl⟩
      have f19 : a.eval (.tmp 71) = .bool true := hf 19 _ _ rfl rfl
      have f20 : a.eval (.tmp 72) = .bool true := hf 20 _ _ rfl rfl
      have f21 : a.eval (.tmp 73) = .bool true := hf 21 _ _ rfl rfl
      have f22 : a.eval (.tmp 74) = .int .i64 0 := hf 22 _ _ rfl rfl
      have f23 : a.eval (.tmp 75) = .bool true := hf 23 _ _ rfl rfl
      have f24 : a.eval (.tmp 76) = .bool true := hf 24 _ _ rfl rfl
      have f25 : a.eval (.tmp 77) = .bool true := hf 25 _ _ rfl rfl
      have f26 : a.eval (.tmp 78) = .slice s7 2 c7 := hf 26 _ _ rfl rfl
      have f27 : a.eval (.tmp 79) = .agg CY := hf 27 _ _ rfl rfl
      have f28 : a.eval (.tmp 80) = .func (.func 12) #[] #[] := hf 28 _ _ rfl rfl
      have f29 : a.eval (.tmp 81) = .agg CC := hf 29 _ _ rfl rfl
      have f30 : a.eval (.tmp 82) = .agg CZ := hf 30 _ _ rfl rfl
      obtain ⟨u31, f31⟩ : ∃ u, a.eval (.tmp 83) = u := ⟨_, rfl⟩
      have f32 : a.eval (.tmp 84) = .bool true := hf 32 _ _ rfl rfl
      have f33 : a.eval (.tmp 85) = .bool true := hf 33 _ _ rfl rfl
      have f34 : a.eval (.tmp 86) = .bool true := hf 34 _ _ rfl rfl
      have f35 : a.eval (.tmp 87) = .int .i64 0 := hf 35 _ _ rfl rfl
      have f36 : a.eval (.tmp 88) = .bool true := hf 36 _ _ rfl rfl
      have f37 : a.eval (.tmp 89) = .bool true := hf 37 _ _ rfl rfl
      have f38 : a.eval (.tmp 90) = .bool true := hf 38 _ _ rfl rfl
      have f39 : a.eval (.tmp 91) = .slice s9 0 c9 := hf 39 _ _ rfl rfl
      have f40 : a.eval (.tmp 92) = .int .i64 0 := hf 40 _ _ rfl rfl
      have f41 : a.eval (.tmp 93) = .bool true := hf 41 _ _ rfl rfl
      have f42 : a.eval (.tmp 94) = .bool true := hf 42 _ _ rfl rfl
      have f43 : a.eval (.tmp 95) = .bool true := hf 43 _ _ rfl rfl
      have f44 : a.eval (.tmp 96) = .int .i64 0 := hf 44 _ _ rfl rfl
      have f45 : a.eval (.tmp 97) = .bool true := hf 45 _ _ rfl rfl
      have f46 : a.eval (.tmp 98) = .bool true := hf 46 _ _ rfl rfl
      have f47 : a.eval (.tmp 99) = .bool true := hf 47 _ _ rfl rfl
      have f48 : a.eval (.tmp 100) = .int .i64 5 := hf 48 _ _ rfl rfl
      have f49 : a.eval (.tmp 101) = .bool true := hf 49 _ _ rfl rfl
      have f50 : a.eval (.tmp 102) = .bool true := hf 50 _ _ rfl rfl
      have f51 : a.eval (.tmp 0) = .bool true := hf 51 _ _ rfl rfl
      have ha := hag.puts ((52, .bool true) :: (53, .bool true) :: (54, .agg DR) :: (55, .string Z8) :: (56, .agg NN) :: (57, .string NB) :: (58, .slice (some ⟨q6, 0, none⟩) 2 2) :: (59, .agg DR) :: (60, .bool true) :: (61, .bool true) :: (62, .bool true) :: (63, .slice s5 1 c5) :: (64, .agg CX) :: (65, .string XB) :: (66, .agg CY) :: (67, .string YB) :: (68, .slice (some ⟨q16, 0, none⟩) 2 2) :: (69, .agg PR) :: (70, u18) :: (71, .bool true) :: (72, .bool true) :: (73, .bool true) :: (74, .int .i64 0) :: (75, .bool true) :: (76, .bool true) :: (77, .bool true) :: (78, .slice s7 2 c7) :: (79, .agg CY) :: (80, .func (.func 12) #[] #[]) :: (81, .agg CC) :: (82, .agg CZ) :: (83, u31) :: (84, .bool true) :: (85, .bool true) :: (86, .bool true) :: (87, .int .i64 0) :: (88, .bool true) :: (89, .bool true) :: (90, .bool true) :: (91, .slice s9 0 c9) :: (92, .int .i64 0) :: (93, .bool true) :: (94, .bool true) :: (95, .bool true) :: (96, .int .i64 0) :: (97, .bool true) :: (98, .bool true) :: (99, .bool true) :: (100, .int .i64 5) :: (101, .bool true) :: (102, .bool true) :: (0, .bool true) :: []) rfl (by simp [Act.put]) (by simp only [List.forall_mem_cons, List.not_mem_nil, false_implies, implies_true, and_true]; exact ⟨f0, f1, f2, f3, f4, f5, f6, f7, f8, f9, f10, f11, f12, f13, f14, f15, f16, f17, f18, f19, f20, f21, f22, f23, f24, f25, f26, f27, f28, f29, f30, f31, f32, f33, f34, f35, f36, f37, f38, f39, f40, f41, f42, f43, f44, f45, f46, f47, f48, f49, f50, f51⟩)
      subst ha
      clear hag hf f0 f1 f2 f3 f4 f5 f6 f7 f8 f9 f10 f11 f12 f13 f14 f15 f16 f17 f18 f19 f20 f21 f22 f23 f24 f25 f26 f27 f28 f29 f30 f31 f32 f33 f34 f35 f36 f37 f38 f39 f40 f41 f42 f43 f44 f45 f46 f47 f48 f49 f50 f51
      simp only [List.foldl_cons, List.foldl_nil, Act.put, List.setIfInBounds_toArray, List.set_cons_succ, List.set_cons_zero]
      go_wp2_with fail
      go_ret
      exact ⟨rfl, HBw7.out.trans ((HB9.out.trans (hI.mono HB9.out.size)).mono HBw7.out.size)⟩

end Go.Proofs.Ytlalipomphgcoaa.Tree

