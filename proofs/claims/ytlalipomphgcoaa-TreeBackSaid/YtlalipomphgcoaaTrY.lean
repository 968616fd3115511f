/- TreeBack: facts that a region leaves in whatever order; the check as a plain function; the law. -/
import Derived.Test.YtlalipomphgcoaaTrW
import Derived.Deep.Upon
namespace Go.Proofs.Ytlalipomphgcoaa.QT
open Go.RowKit

section
variable {P : Program}

def factsTailB (l : List Oper) (n : Nat) : Bool :=
  decide (n < l.toArray.size) && Region.sinkB .any l.toArray n && Region.chainB .any l.toArray n && Region.seqB .any l.toArray (l.toArray.size - n) n (firstN l.toArray.size n) && backB .any l.toArray

theorem wp_region_facts_tail {id : Nat} {Q : Exit → Act → World → Prop} {a0 : Act} {w0 : World} {l : List Oper} (n : Nat) (hm : P.follows .mixedOrders = true) (I : World → Prop) (F : Nat → Value → World → Prop)
    (hB : factsTailB l n = true) (hD : dstsB (l.take n) a0.tmps.size = true) (hI : I { w0 with drawn := w0.drawn + 1 })
    (hIs : ∀ w w', I w → Below w.heap.size w w' → I w') (hF : ∀ i v w w', F i v w → Below w.heap.size w w' → F i v w')
    (hstep : ∀ (i : Nat) (o : Oper), i < n → l[i]? = some o → ∀ a w, I w → Agrees (l.take n) a0 a → (∀ e ∈ o.after, Region.binds .any e = true → ∀ (oj : Oper) (d : Tmp), l[e.on]? = some oj → oj.dst = some d → F e.on (a.eval (.tmp d)) w) →
      Region.wanted o (yielded l.toArray a.tmps) = true ∧ o.wp P a w (fun a' w' => ∃ v, a' = a.put o.dst v ∧ F i v w' ∧ Below w.heap.size w w') Q)
    (hfin : ∀ a w, I w → Agrees (l.take n) a0 a → (∀ (i : Nat) (o : Oper) (d : Tmp), i < n → l[i]? = some o → o.dst = some d → F i (a.eval (.tmp d)) w) → wpList P l.toArray Q (l.drop n) a w) : (Code.region id l.toArray true).wp P Q a0 w0 := by
  simp only [factsTailB, Bool.and_eq_true, decide_eq_true_eq] at hB
  obtain ⟨⟨⟨⟨hn, hs⟩, hc⟩, hseq⟩, hbk⟩ := hB
  simp only [dstsB, Bool.and_eq_true, decide_eq_true_eq] at hD
  obtain ⟨hall, hnd⟩ := hD
  have htk : ∀ (i : Nat), i < n → (l.take n)[i]? = l[i]? := fun i hi => List.getElem?_take_of_lt hi
  have hdst : ∀ (i : Nat) (o : Oper), i < n → l[i]? = some o → ∃ d, o.dst = some d ∧ d < a0.tmps.size := fun i o hi ho => by
    have h1 := List.all_eq_true.1 hall o (List.mem_of_getElem? ((htk i hi).trans ho))
    cases hd : o.dst with
    | none => rw [hd] at h1; cases h1
    | some d => rw [hd] at h1; exact ⟨d, rfl, by simpa using h1⟩
  have hinj : ∀ (i j : Nat) (oi oj : Oper) (d : Tmp), i < n → j < n → l[i]? = some oi → l[j]? = some oj → oi.dst = some d → oj.dst = some d → i = j := fun i j oi oj d hin hjn hi hj h1 h2 => by
    obtain ⟨hil, hie⟩ := List.getElem?_eq_some_iff.1 ((htk i hin).trans hi)
    obtain ⟨hjl, hje⟩ := List.getElem?_eq_some_iff.1 ((htk j hjn).trans hj)
    have hp := List.pairwise_iff_getElem.1 hnd
    rcases Nat.lt_trichotomy i j with h | h | h
    · exact (hp i j (by simpa using hil) (by simpa using hjl) h (by rw [List.getElem_map, List.getElem_map, hie, hje, h1, h2])).elim
    · exact h
    · exact (hp j i (by simpa using hjl) (by simpa using hil) h (by rw [List.getElem_map, List.getElem_map, hie, hje, h1, h2])).elim
  have key : ∀ (fuel : Nat) (listed : Array Bool) (a : Act) (w : World), I w → HeadInv .any l.toArray n listed → Agrees (l.take n) a0 a → (∀ i o d, i < n → l[i]? = some o → o.dst = some d → listed.getD i false = true → F i (a.eval (.tmp d)) w) →
      fuel + listed.toList.count true = l.toArray.size → wpAny P .any l.toArray Q fuel listed a w := by
    intro fuel
    induction fuel with
    | zero =>
      intro listed a w hw inv hag hf hcnt
      exfalso
      have hlen : listed.toList.length = l.toArray.size := by simp [inv.size]
      have hall2 := (List.count_eq_length (a := true) (l := listed.toList)).1 (by omega)
      have := inv.tail n (Nat.le_refl _) hn
      have hi : n < listed.size := by rw [inv.size]; exact hn
      simp [hi] at this
      have h2 := hall2 listed[n] (by simp)
      rw [this] at h2
      cases h2
    | succ fuel ih =>
      intro listed a w hw inv hag hf hcnt
      by_cases hall2 : ∀ i, i < n → listed.getD i true = true
      · have he := listed_first inv hall2
        have hFu : fuel + 1 = l.toArray.size - n := by
          rw [he, count_first _ _ (by omega)] at hcnt
          omega
        have hQ := hfin a w hw hag fun i o d hi ho hd => hf i o d hi ho hd (by
          have h1 := hall2 i hi
          have hil : i < listed.size := by rw [inv.size]; omega
          simp [hil] at h1 ⊢
          exact h1)
        have hd : (l.drop n).length = fuel + 1 := by rw [hFu]; simp
        rw [← hd]
        exact wpAny_of_seq (l.drop n) n listed a w (fun j => by simp [List.getElem?_drop]) (by rw [hd, hFu, he]; exact hseq) hQ
      · have : ∃ i, i < n ∧ listed.getD i true = false := by
          apply Classical.byContradiction
          intro hno
          refine hall2 fun i hi => ?_
          cases hg : listed.getD i true with
          | true => rfl
          | false => exact absurd ⟨i, hi, hg⟩ hno
        obtain ⟨i, hi, hun⟩ := this
        refine ⟨fun h0 => absurd h0 (ready_some hbk inv.size i (by omega) hun), fun j hj => ?_⟩
        have hjn : j < n := by
          rcases Nat.lt_or_ge j n with h1 | h1
          · exact h1
          · exact absurd hj (tail_waits hs hc hn inv _ i rfl hi hun j h1)
        obtain ⟨hjun, o, ho, hall3⟩ := mem_ready.1 hj
        have hol : l[j]? = some o := by simpa using ho
        have hjl := (Array.getElem?_eq_some_iff.1 ho).1
        have hbj : ∀ e ∈ o.after, Region.binds .any e = true → e.on < j := fun e he hb => by
          have h1 := List.all_eq_true.1 hbk j (List.mem_range.2 hjl)
          simp only [ho] at h1
          have h2 := Array.all_eq_true'.1 h1 e he
          simpa [hb] using h2
        obtain ⟨hwt, hwp⟩ := hstep j o hjn hol a w hw hag fun e he hb oj d hj' hd => hf e.on oj d (by have := hbj e he hb; omega) hj' hd (hall3 e he hb)
        have hop : wpOp P l.toArray Q j (fun a' w' => ∃ v, a' = a.put o.dst v ∧ F j v w' ∧ Below w.heap.size w w') a w := by
          unfold wpOp
          simp only [ho, hwt, if_true]
          exact Or.inl hwp
        refine wpOp_mono (fun a' w' hh => ?_) hop
        obtain ⟨v, rfl, hFv, hb⟩ := hh
        obtain ⟨d, hd, hdl⟩ := hdst j o hjn hol
        rw [hd]
        refine ih _ _ _ (hIs w w' hw hb) (inv.set hj hjn) ⟨?_, ?_, fun t ht => ?_⟩ (fun k ok dk hkn hk hdk hlk => ?_) ?_
        · simp [Act.put, hag.size]
        · exact hag.defers
        · have hne : d ≠ t := fun e => ht o (List.mem_of_getElem? ((htk j hjn).trans hol)) (by rw [hd, e])
          rw [← hag.same t ht]
          simp [Act.put, Array.getElem?_setIfInBounds_ne hne]
        · by_cases hij : j = k
          · subst hij
            obtain rfl : ok = o := Option.some.inj (hk.symm.trans hol)
            obtain rfl : dk = d := Option.some.inj (hdk.symm.trans hd)
            rw [eval_put_same (by rw [hag.size]; exact hdl)]
            exact hFv
          · have hne : d ≠ dk := fun e => hij (hinj j k o ok d hjn hkn hol hk hd (by rw [hdk, e]))
            rw [eval_put_other hne]
            rw [getD_set_ne false hij] at hlk
            exact hF k _ w w' (hf k ok dk hkn hk hdk hlk) hb
        · rw [count_set (by rw [inv.size]; exact hjl) hjun]
          omega
  have inv0 : HeadInv .any l.toArray n (Array.replicate l.toArray.size false) :=
    ⟨by simp, fun j oj _ hl => (by rw [getD_replicate_false] at hl; cases hl), fun t _ ht => getD_in (by simpa using ht) (getD_replicate_false _ _)⟩
  refine wp_region_any hm (key _ _ _ _ hI inv0 ⟨rfl, rfl, fun _ _ => rfl⟩ (fun i o d _ _ _ hl => by rw [getD_replicate_false] at hl; cases hl) (by simp [List.count_replicate]))

theorem puts_eq {a : Act} : ∀ (L : List (Tmp × Value)) (a0 : Act), a.tmps.size = a0.tmps.size → a.defers = a0.defers → (∀ t, (∀ p ∈ L, p.1 ≠ t) → a.tmps[t]? = a0.tmps[t]?) → (∀ p ∈ L, p.1 < a.tmps.size ∧ a.eval (.tmp p.1) = p.2) → a = L.foldl (fun a p => a.put (some p.1) p.2) a0
  | [], a0, hs, hd, hsame, _ => by
    have ht : a.tmps = a0.tmps := Array.ext_getElem? fun t => hsame t (fun p hp => by cases hp)
    cases a; cases a0
    simp only at ht hd
    subst ht hd
    rfl
  | p :: L, a0, hs, hd, hsame, hv => by
    rw [List.foldl_cons]
    refine puts_eq L (a0.put (some p.1) p.2) (by simp [Act.put, hs]) hd (fun t ht => ?_) (fun q hq => hv q (by simp [hq]))
    by_cases htp : p.1 = t
    · subst htp
      obtain ⟨hl, he⟩ := hv p (by simp)
      have h1 : a.tmps[p.1]? = some p.2 := by
        have he2 : a.tmps.getD p.1 undef = p.2 := he
        rw [Array.getD_eq_getD_getElem?, Array.getElem?_eq_getElem hl] at he2
        rw [Array.getElem?_eq_getElem hl]
        simpa using he2
      rw [h1]
      simp [Act.put, hs ▸ hl]
    · rw [hsame t (fun q hq => by
        rcases List.mem_cons.1 hq with h | h
        · rw [h]; exact htp
        · exact ht q h)]
      simp [Act.put, Array.getElem?_setIfInBounds_ne htp]
/-- The frame behind the head: the slots that it wrote, one by one. -/
theorem Agrees.puts {l : List Oper} {a0 a : Act} (h : Agrees l a0 a) (L : List (Tmp × Value)) (hL : l.map (·.dst) = L.map fun p => some p.1) (hlt : ∀ p ∈ L, p.1 < a0.tmps.size) (hv : ∀ p ∈ L, a.eval (.tmp p.1) = p.2) : a = L.foldl (fun a p => a.put (some p.1) p.2) a0 := by
  refine puts_eq L a0 h.size h.defers (fun t ht => h.same t fun o ho e => ?_) fun p hp => ⟨by rw [h.size]; exact hlt p hp, hv p hp⟩
  have h1 : some t ∈ l.map (·.dst) := e ▸ List.mem_map_of_mem (f := (·.dst)) ho
  rw [hL] at h1
  obtain ⟨p, hp, hpt⟩ := List.mem_map.1 h1
  exact ht p hp (Option.some.inj hpt)

theorem wp_value {o : Oper} {a : Act} {w : World} {K : Act → World → Prop} {Q : Exit → Act → World → Prop} {v : Value} (h : (execOp a.eval o).run P w = .ok (.value v) w) (hk : K (a.put o.dst v) w) : o.wp P a w K Q := by
  unfold Oper.wp
  rw [h]
  exact hk
theorem wp_enter {o : Oper} {a : Act} {w : World} {K : Act → World → Prop} {Q : Exit → Act → World → Prop} {v : Value} {f : FuncId} {args : Array Value} {R : World → Prop} (h : (execOp a.eval o).run P w = .ok (.enter f args) w) (hc : Calls P f args w fun e w' => e = .returned v ∧ R w') (hk : ∀ w', R w' → K (a.put o.dst v) w') : o.wp P a w K Q := by
  unfold Oper.wp
  rw [h]
  exact hc.mono fun e w' ⟨he, hr⟩ => by subst he; exact hk w' hr
theorem wanted_of {ops : Array Oper} {a : Act} {o og : Oper} {g : Nat} {b : Bool} {d : Tmp} (hg : o.guard = some (g, b)) (ho : ops[g]? = some og) (hd : og.dst = some d) (h : a.eval (.tmp d) = .bool b) : Region.wanted o (yielded ops a.tmps) = true := by
  have hy : yielded ops a.tmps g = some b := by
    unfold yielded
    rw [ho]
    simp only [Option.bind_some, hd]
    unfold Act.eval at h
    cases ht : a.tmps[d]? with
    | none => simp [ht, undef] at h
    | some v =>
      simp [ht] at h
      subst h
      rfl
  unfold Region.wanted
  rw [hg]
  simp [hy]
theorem not_dst {l : List Oper} {t : Tmp} (h : (l.all fun o => o.dst != some t) = true) : ∀ o ∈ l, o.dst ≠ some t := fun o ho => by
  have := List.all_eq_true.1 h o ho
  simpa using this
theorem nf {a : Act} {t : Tmp} {v : Value} (h : a.eval (.tmp t) = v) : a.tmps[t]?.getD undef = v := by
  rw [← Array.getD_eq_getD_getElem?]
  exact h
/-- A slot that the region does not write. -/
theorem Agrees.old {l : List Oper} {a0 a : Act} (h : Agrees l a0 a) (t : Tmp) (v : Value) (hl : (l.all fun o => o.dst != some t) = true) (h0 : a0.tmps[t]? = some v) : a.eval (.tmp t) = v := by
  show a.tmps.getD t undef = v
  rw [Array.getD_eq_getD_getElem?, h.same t (not_dst hl), h0]
  rfl

end
end Go.Proofs.Ytlalipomphgcoaa.QT

namespace Go.Proofs.Ytlalipomphgcoaa.QT
open Go.RowKit

section
variable {P : Program}

/-- Who looks at a fact comes up ahead of each operation that kills it, or is it. -/
def killB (l : List Oper) (kills : Nat → Nat → Bool) : Bool := (List.range l.toArray.size).all fun i => match l.toArray[i]? with
  | some o => o.after.all fun e => !Region.binds .any e || (List.range l.toArray.size).all fun c => !kills c e.on || i == c || Region.waitsFor .any l.toArray c i
  | none => true

theorem wp_region_facts_kill {id : Nat} {Q : Exit → Act → World → Prop} {a0 : Act} {w0 : World} {l : List Oper} (kills : Nat → Nat → Bool) (hm : P.follows .mixedOrders = true) (I : World → Prop) (F : Nat → Value → World → Prop) (R : Nat → World → World → Prop)
    (hB : backB .any l.toArray = true) (hK : killB l kills = true) (hD : dstsB l a0.tmps.size = true) (hI : I { w0 with drawn := w0.drawn + 1 })
    (hIR : ∀ i w w', I w → R i w w' → I w') (hFR : ∀ i j v w w', kills i j = false → i ≠ j → F j v w → R i w w' → F j v w')
    (hstep : ∀ (i : Nat) (o : Oper), l[i]? = some o → ∀ a w, I w → Agrees l a0 a → (∀ e ∈ o.after, Region.binds .any e = true → ∀ (oj : Oper) (d : Tmp), l[e.on]? = some oj → oj.dst = some d → F e.on (a.eval (.tmp d)) w) →
      (Region.wanted o (yielded l.toArray a.tmps) = true ∧ o.wp P a w (fun a' w' => ∃ v, a' = a.put o.dst v ∧ F i v w' ∧ R i w w') Q) ∨ (Region.wanted o (yielded l.toArray a.tmps) = false ∧ F i undef w))
    (hfin : ∀ a w, I w → Agrees l a0 a → (∀ (i : Nat) (o : Oper) (d : Tmp), (∀ c, c < l.length → kills c i = false) → l[i]? = some o → o.dst = some d → F i (a.eval (.tmp d)) w) → Q .normal a w) : (Code.region id l.toArray true).wp P Q a0 w0 := by
  simp only [dstsB, Bool.and_eq_true, decide_eq_true_eq] at hD
  obtain ⟨hall, hnd⟩ := hD
  have hdst : ∀ (i : Nat) (o : Oper), l[i]? = some o → ∃ d, o.dst = some d ∧ d < a0.tmps.size := fun i o ho => by
    have h1 := List.all_eq_true.1 hall o (List.mem_of_getElem? ho)
    cases hd : o.dst with
    | none => rw [hd] at h1; cases h1
    | some d => rw [hd] at h1; exact ⟨d, rfl, by simpa using h1⟩
  have hinj : ∀ (i j : Nat) (oi oj : Oper) (d : Tmp), l[i]? = some oi → l[j]? = some oj → oi.dst = some d → oj.dst = some d → i = j := fun i j oi oj d hi hj h1 h2 => by
    obtain ⟨hil, hie⟩ := List.getElem?_eq_some_iff.1 hi
    obtain ⟨hjl, hje⟩ := List.getElem?_eq_some_iff.1 hj
    have hp := List.pairwise_iff_getElem.1 hnd
    rcases Nat.lt_trichotomy i j with h | h | h
    · exact (hp i j (by simpa using hil) (by simpa using hjl) h (by simp [hie, hje, h1, h2])).elim
    · exact h
    · exact (hp j i (by simpa using hjl) (by simpa using hil) h (by simp [hie, hje, h1, h2])).elim
  have key : ∀ (fuel : Nat) (listed : Array Bool) (a : Act) (w : World), I w → HeadInv .any l.toArray l.toArray.size listed → Agrees l a0 a → (∀ i o d, l[i]? = some o → o.dst = some d → listed.getD i false = true → (∀ c, c < l.length → kills c i = true → listed.getD c false = false) → F i (a.eval (.tmp d)) w) →
      fuel + listed.toList.count true = l.toArray.size → wpAny P .any l.toArray Q fuel listed a w := by
    intro fuel
    induction fuel with
    | zero =>
      intro listed a w hw inv hag hf hcnt
      have hlen : listed.toList.length = l.toArray.size := by simp [inv.size]
      have hal := (List.count_eq_length (a := true) (l := listed.toList)).1 (by omega)
      have hyes : ∀ i, i < l.toArray.size → listed.getD i false = true := fun i hi => by
        have hil : i < listed.size := by rw [inv.size]; exact hi
        have := hal listed[i] (by simp)
        simp [hil, ← this]
      refine ⟨?_, hfin a w hw hag fun i o d hdd hi hd => hf i o d hi hd (hyes i (by have := (List.getElem?_eq_some_iff.1 hi).1; simpa using this)) (fun c hc hk => by rw [hdd c hc] at hk; cases hk)⟩
      cases hr : Region.ready .any l.toArray listed with
      | nil => rfl
      | cons x xs =>
        exfalso
        have hx : x ∈ Region.ready .any l.toArray listed := by rw [hr]; simp
        obtain ⟨hun, ox, hox, _⟩ := mem_ready.1 hx
        have hxl := (Array.getElem?_eq_some_iff.1 hox).1
        have h1 := hyes x hxl
        have hil : x < listed.size := by rw [inv.size]; exact hxl
        simp [hil] at h1 hun
        rw [h1] at hun
        cases hun
    | succ fuel ih =>
      intro listed a w hw inv hag hf hcnt
      refine ⟨fun h0 => ?_, fun i hi => ?_⟩
      · exfalso
        have hlt : listed.toList.count true < listed.toList.length := by
          rw [Array.length_toList, inv.size]
          omega
        have : ∃ i, i < l.toArray.size ∧ listed.getD i true = false := by
          apply Classical.byContradiction
          intro hno
          have hall2 : ∀ b ∈ listed.toList, true = b := fun b hb => by
            obtain ⟨i, hil, hib⟩ := List.getElem_of_mem hb
            cases hbb : b with
            | true => rfl
            | false =>
              exfalso
              have hil' : i < listed.size := by simpa using hil
              exact hno ⟨i, by rw [inv.size] at hil'; exact hil', by
                rw [hbb] at hib
                simpa [hil'] using hib⟩
          have := List.count_eq_length.2 hall2
          omega
        obtain ⟨i, hil, hun⟩ := this
        exact ready_some hB inv.size i hil hun h0
      · obtain ⟨hun, o, ho, hall3⟩ := mem_ready.1 hi
        have hol : l[i]? = some o := by simpa using ho
        have hil := (Array.getElem?_eq_some_iff.1 ho).1
        have hunf := getD_both hun
        have hkil : ∀ e ∈ o.after, Region.binds .any e = true → ∀ c, c < l.length → kills c e.on = true → listed.getD c false = false := fun e he hb c hc hkc => by
          have h1 := List.all_eq_true.1 hK i (List.mem_range.2 hil)
          simp only [ho] at h1
          have h2 := Array.all_eq_true'.1 h1 e he
          simp only [hb, Bool.not_true, Bool.false_or] at h2
          have h3 := List.all_eq_true.1 h2 c (List.mem_range.2 (by simpa using hc))
          simp only [hkc, Bool.not_true, Bool.false_or, Bool.or_eq_true, beq_iff_eq] at h3
          rcases h3 with h3 | h3
          · subst h3
            exact hunf
          · obtain ⟨ok, hok, e2, he2, hb2, hon⟩ := Region.waitsFor_spec h3
            cases hlk : listed.getD c false with
            | false => rfl
            | true =>
              have h4 := inv.closed c ok hok hlk e2 he2 hb2
              rw [hon, hunf] at h4
              cases h4
        obtain ⟨d, hd, hdl⟩ := hdst i o hol
        have hlt : i < l.length := by simpa using hil
        have hnext : ∀ (v : Value) (w' : World), F i v w' → I w' → (∀ j u, i ≠ j → (∀ c, c < l.length → kills c j = true → (listed.setIfInBounds i true).getD c false = false) → F j u w → F j u w') → wpAny P .any l.toArray Q fuel (listed.setIfInBounds i true) (a.put o.dst v) w' := by
          intro v w' hFv hIw hst
          rw [hd]
          refine ih _ _ _ hIw (inv.set hi hil) ⟨?_, ?_, fun t ht => ?_⟩ (fun j oj dj hj hdj hlj hdd => ?_) ?_
          · simp [Act.put, hag.size]
          · exact hag.defers
          · have hne : d ≠ t := fun e => ht o (List.mem_of_getElem? hol) (by rw [hd, e])
            rw [← hag.same t ht]
            simp [Act.put, Array.getElem?_setIfInBounds_ne hne]
          · by_cases hij : i = j
            · subst hij
              obtain rfl : oj = o := Option.some.inj (hj.symm.trans hol)
              obtain rfl : dj = d := Option.some.inj (hdj.symm.trans hd)
              rw [eval_put_same (by rw [hag.size]; exact hdl)]
              exact hFv
            · have hne : d ≠ dj := fun e => hij (hinj i j o oj d hol hj hd (by rw [hdj, e]))
              rw [eval_put_other hne]
              rw [getD_set_ne false hij] at hlj
              refine hst j _ hij hdd (hf j oj dj hj hdj hlj fun c hc hk => ?_)
              have h1 := hdd c hc hk
              by_cases hci : i = c
              · subst hci
                have hil' : i < listed.size := by rw [inv.size]; exact hil
                simp [hil'] at h1
              · rw [getD_set_ne false hci] at h1
                exact h1
          · rw [count_set (by rw [inv.size]; exact hil) hun]
            omega
        rcases hstep i o hol a w hw hag fun e he hb oj d hj hd => hf e.on oj d hj hd (hall3 e he hb) (hkil e he hb) with ⟨hwt, hwp⟩ | ⟨hwt, hfu⟩
        · have hop : wpOp P l.toArray Q i (fun a' w' => ∃ v, a' = a.put o.dst v ∧ F i v w' ∧ R i w w') a w := by
            unfold wpOp
            simp only [ho, hwt, if_true]
            exact Or.inl hwp
          refine wpOp_mono (fun a' w' hh => ?_) hop
          obtain ⟨v, rfl, hFv, hb⟩ := hh
          refine hnext v w' hFv (hIR i w w' hw hb) fun j u hij hdd hFj => hFR i j u w w' ?_ hij hFj hb
          cases hk : kills i j with
          | false => rfl
          | true =>
            have h1 := hdd i hlt hk
            have hil' : i < listed.size := by rw [inv.size]; exact hil
            simp [hil'] at h1
        · unfold wpOp
          simp only [ho, hwt]
          exact hnext undef w hfu hw fun j u _ _ h => h
  have inv0 : HeadInv .any l.toArray l.toArray.size (Array.replicate l.toArray.size false) :=
    ⟨by simp, fun j oj _ hl => (by rw [getD_replicate_false] at hl; cases hl), fun t _ ht => getD_in (by simpa using ht) (getD_replicate_false _ _)⟩
  refine wp_region_any hm (key _ _ _ _ hI inv0 ⟨rfl, rfl, fun _ _ => rfl⟩ (fun i o d _ _ hl _ => by rw [getD_replicate_false] at hl; cases hl) (by simp [List.count_replicate]))

theorem unwanted_of {ops : Array Oper} {a : Act} {o og : Oper} {g : Nat} {b c : Bool} {d : Tmp} (hg : o.guard = some (g, b)) (ho : ops[g]? = some og) (hd : og.dst = some d) (h : a.eval (.tmp d) = .bool c) (hne : c ≠ b) : Region.wanted o (yielded ops a.tmps) = false := by
  have hy : yielded ops a.tmps g = some c := by
    unfold yielded
    rw [ho]
    simp only [Option.bind_some, hd]
    unfold Act.eval at h
    cases ht : a.tmps[d]? with
    | none => simp [ht, undef] at h
    | some v =>
      simp [ht] at h
      subst h
      rfl
  unfold Region.wanted
  rw [hg]
  simp [hy, hne]
theorem unwanted_undef {ops : Array Oper} {a : Act} {o og : Oper} {g : Nat} {b : Bool} {d : Tmp} (hg : o.guard = some (g, b)) (ho : ops[g]? = some og) (hd : og.dst = some d) (h : a.eval (.tmp d) = undef) : Region.wanted o (yielded ops a.tmps) = false := by
  have hy : yielded ops a.tmps g = none := by
    unfold yielded
    rw [ho]
    simp only [Option.bind_some, hd]
    unfold Act.eval at h
    cases ht : a.tmps[d]? with
    | none => rfl
    | some v =>
      simp [ht] at h
      subst h
      rfl
  unfold Region.wanted
  rw [hg]
  simp [hy]

end
end Go.Proofs.Ytlalipomphgcoaa.QT

namespace Go.Proofs.Ytlalipomphgcoaa.Tree
open Go.RowKit Go.Proofs.Ytlalipomphgcoaa.Sha

def sideF (i : Nat) (t x : List UInt8) : List UInt8 := if i % 2 = 1 then pairF x t else pairF t x
theorem sideF_len (i : Nat) (t x : List UInt8) : (sideF i t x).length = 32 := by unfold sideF; split <;> rfl
def goC : Nat → Nat → Nat → List UInt8 → List (List UInt8) → Option (List UInt8)
  | 0, _, _, T, P => if P.length = 0 then some T else none
  | f + 1, s, i, T, P => if s ≤ 1 then (if P.length = 0 then some T else none) else if oth i < s then (match P with | [] => none | x :: P' => goC f (s / 2 + s % 2) (i / 2) (sideF i T x) P') else goC f (s / 2 + s % 2) (i / 2) T P
theorem goC_one (f s i : Nat) (T : List UInt8) (P : List (List UInt8)) (h : s ≤ 1) : goC f s i T P = if P.length = 0 then some T else none := by
  cases f with
  | zero => rfl
  | succ f => unfold goC; rw [if_pos h]
theorem goC_nil (f s i : Nat) (T : List UInt8) (h : 1 < s) (h2 : oth i < s) : goC (f + 1) s i T [] = none := by
  unfold goC
  rw [if_neg (by omega), if_pos h2]
theorem goC_cons (f s i : Nat) (T x : List UInt8) (P : List (List UInt8)) (h : 1 < s) (h2 : oth i < s) : goC (f + 1) s i T (x :: P) = goC f (s / 2 + s % 2) (i / 2) (sideF i T x) P := by
  conv => lhs; unfold goC
  rw [if_neg (by omega), if_pos h2]
theorem goC_skip (f s i : Nat) (T : List UInt8) (P : List (List UInt8)) (h : 1 < s) (h2 : ¬ oth i < s) : goC (f + 1) s i T P = goC f (s / 2 + s % 2) (i / 2) T P := by
  conv => lhs; unfold goC
  rw [if_neg (by omega), if_neg h2]
def checkB (root : List UInt8) (n i : Nat) (h : List UInt8) (P : List (List UInt8)) : Bool := match goC n n i (leafF h) P with | none => false | some t => rootF n t == root

theorem slice_ofN {w : World} {v : Value} {L : List (List UInt8)} (h : Hashes w v L) : ∃ a cap, v = .slice a L.length cap := by
  rcases h with ⟨a, cap, rfl, rfl⟩ | ⟨g, o, cap, rfl, _, _⟩
  · exact ⟨a, cap, rfl⟩
  · exact ⟨_, cap, rfl⟩

set_option maxRecDepth 100000 in
set_option maxHeartbeats 1600000 in
theorem code_joined (i : Nat) (a b : List UInt8) (ha : a.length = 32) (hb : b.length = 32) (hi : i ≤ 1048576) (w : World) :
    Calls Try.prog 51 #[.int .i64 i, .agg (valsB a).toArray, .agg (valsB b).toArray] w fun e w' => e = .returned (.agg (valsB (sideF i a b)).toArray) ∧ Below w.heap.size w w' := by
  have HO := Lib.hid (fun w => code_other' i (by omega) w)
  obtain ⟨q, hq⟩ : ∃ q, oth i = q := ⟨_, rfl⟩
  have hq2 := oth_eq i
  rw [hq] at HO hq2
  have HRA := Lib.hid (row32 a ha)
  have HRB := Lib.hid (row32 b hb)
  have HRD := Lib.hid (row32 (sideF i a b) (sideF_len i a b))
  have HP := Lib.hid (show ∀ w, if i % 2 = 1 then Calls Try.prog 68 #[.agg (valsB b).toArray, .agg (valsB a).toArray] w fun e w' => e = .returned (.agg (valsB (sideF i a b)).toArray) ∧ Below w.heap.size w w' else Calls Try.prog 68 #[.agg (valsB a).toArray, .agg (valsB b).toArray] w fun e w' => e = .returned (.agg (valsB (sideF i a b)).toArray) ∧ Below w.heap.size w w' from fun w => by
    unfold sideF
    split
    · exact code_pair b a hb ha w
    · exact code_pair a b ha hb w)
  obtain ⟨CA, hCA⟩ : ∃ C, (valsB a).toArray = C := ⟨_, rfl⟩
  obtain ⟨CB, hCB⟩ : ∃ C, (valsB b).toArray = C := ⟨_, rfl⟩
  obtain ⟨D, hD⟩ : ∃ C, (valsB (sideF i a b)).toArray = C := ⟨_, rfl⟩
  rw [hD, hCA, hCB] at HP
  rw [hCA] at HRA
  rw [hCB] at HRB
  rw [hD] at HRD
  rw [hD, hCA, hCB]
  clear hCA hCB hD hq ha hb
  go_enter Try.func51, Try.ntmps51
  go_upto_region 1 with (fail)
  rw [zero32]
  obtain ⟨Z, hZ⟩ : ∃ Z, (List.replicate 32 (Value.int .u8 0)).toArray = Z := ⟨_, rfl⟩
  have HZD := Lib.hid (show Z.size = D.size by rw [← hZ, HRD.out.size]; rfl)
  rw [hZ]
  clear hZ
  have hs0 : (((w.alloc (.cells CA 23)).alloc (.cells CB 23)).alloc (.cells Z 23)).heap.size = w.heap.size + 3 := by simp
  have hw1 : (w.alloc (.cells CA 23)).heap.size = w.heap.size + 1 := by simp
  have HA := Lib.hid ((Below.heap_alloc _ (.cells Z 23) w.heap.size (by simp; omega)).trans (heap_alloc2_old w (.cells CA 23) (.cells CB 23)))
  have HB := Lib.hid ((Below.heap_alloc _ (.cells Z 23) (w.heap.size + 1) (by simp)).trans (heap_alloc2_new w (.cells CA 23) (.cells CB 23)))
  have HZ := Lib.hid (show (((w.alloc (.cells CA 23)).alloc (.cells CB 23)).alloc (.cells Z 23)).heap[w.heap.size + 2]? = some (.cells Z 23 (0, 0)) by
    have h := heap_alloc2_new (w.alloc (.cells CA 23)) (.cells CB 23) (.cells Z 23)
    rw [hw1] at h
    exact h)
  have HBW := Lib.hid (show Below w.heap.size w (((w.alloc (.cells CA 23)).alloc (.cells CB 23)).alloc (.cells Z 23)) from (((Below.refl _ _).alloc (Nat.le_refl _) _).alloc (by simp) _).alloc (by simp; omega) _)
  have HS0 := Lib.hid hs0
  clear hs0 hw1
  generalize ((w.alloc (.cells CA 23)).alloc (.cells CB 23)).alloc (.cells Z 23) = W at HA HB HZ HBW HS0 ⊢
  have hW : w.heap.size + 2 < W.heap.size := by rw [HS0.out]; omega
  by_cases hodd : i % 2 = 1
  · have hqi : (q : Int) < (i : Int) := by rw [if_neg (by omega)] at hq2; omega
    have HPP := Lib.hid (fun w => by have := HP.out w; rw [if_pos hodd] at this; exact this)
    clear hq2 hodd
    go_wp2_with (first
      | (go_at_call 41; refine (HO.out _).mono ?_; rintro e w' ⟨rfl, rfl⟩)
      | (refine wpList_load_row rfl 23 (.tmp 5) rfl (w.heap.size + 1) rfl 23 CB (0, 0) _ HB.out Try.underlying23 rfl HRB.out.info ?_)
      | (refine wpList_load_row rfl 23 (.tmp 4) rfl w.heap.size rfl 23 CA (0, 0) _ HA.out Try.underlying23 rfl HRA.out.info ?_))
    refine (HPP.out _).mono ?_
    rintro e w4 ⟨rfl, hb⟩
    have HZ2 := Lib.hid ((hb.block _ hW).trans HZ.out)
    have HB2 := Lib.hid (HBW.out.trans (hb.mono (by omega)))
    clear hb
    go_wp2_with (refine wpList_store_row rfl 23 (.tmp 6) (.tmp 13) rfl (w.heap.size + 2) D rfl rfl 23 Z HZ2.out HRD.out.info HZD.out HRD.out.one ?_)
    refine bodyPost_ret (results_cell_row (p := 6) (ty := 23) Try.results51 _ _ (w.heap.size + 2) 23 D (0, 0) _ rfl (setRow_heap _ _ _ _ _ _ HZ2.out) Try.underlying23 rfl HRD.out.info) rfl ⟨rfl, below_setRow HB2.out (by omega) _⟩
  · have hqi : ¬ (q : Int) < (i : Int) := by rw [if_pos (by omega)] at hq2; omega
    have HPP := Lib.hid (fun w => by have := HP.out w; rw [if_neg hodd] at this; exact this)
    clear hq2 hodd
    go_wp2_with (first
      | (go_at_call 41; refine (HO.out _).mono ?_; rintro e w' ⟨rfl, rfl⟩)
      | (refine wpList_load_row rfl 23 (.tmp 5) rfl (w.heap.size + 1) rfl 23 CB (0, 0) _ HB.out Try.underlying23 rfl HRB.out.info ?_)
      | (refine wpList_load_row rfl 23 (.tmp 4) rfl w.heap.size rfl 23 CA (0, 0) _ HA.out Try.underlying23 rfl HRA.out.info ?_))
    refine (HPP.out _).mono ?_
    rintro e w4 ⟨rfl, hb⟩
    have HZ2 := Lib.hid ((hb.block _ hW).trans HZ.out)
    have HB2 := Lib.hid (HBW.out.trans (hb.mono (by omega)))
    clear hb
    go_wp2_with (refine wpList_store_row rfl 23 (.tmp 6) (.tmp 16) rfl (w.heap.size + 2) D rfl rfl 23 Z HZ2.out HRD.out.info HZD.out HRD.out.one ?_)
    refine bodyPost_ret (results_cell_row (p := 6) (ty := 23) Try.results51 _ _ (w.heap.size + 2) 23 D (0, 0) _ rfl (setRow_heap _ _ _ _ _ _ HZ2.out) Try.underlying23 rfl HRD.out.info) rfl ⟨rfl, below_setRow HB2.out (by omega) _⟩

set_option maxRecDepth 100000 in
set_option maxHeartbeats 1600000 in
theorem code_Check_no (root h : List UInt8) (n i : Int) (v : Value) (hb : 1048576 < n ∨ i < 0 ∨ n ≤ i) (w : World) :
    Calls Try.prog 20 #[.agg (valsB root).toArray, .int .i64 n, .int .i64 i, .agg (valsB h).toArray, v] w fun e w' => e = .returned (.bool false) ∧ Below w.heap.size w w' := by
  obtain ⟨CR, hCR⟩ : ∃ C, (valsB root).toArray = C := ⟨_, rfl⟩
  obtain ⟨CH, hCH⟩ : ∃ C, (valsB h).toArray = C := ⟨_, rfl⟩
  rw [hCR, hCH]
  clear hCR hCH
  by_cases hn : 1048576 < n
  · clear hb
    go_enter Try.func20, Try.ntmps20
    go_wp2_with fail
    go_ret
    exact ⟨rfl, ((Below.refl _ _).alloc (Nat.le_refl _) _).alloc (by simp) _⟩
  · have HIP := Lib.hid (fun w => code_isPlace_no i n (by omega) w)
    clear hb
    go_enter Try.func20, Try.ntmps20
    go_wp2_with (go_at_call 38; refine (HIP.out _).mono ?_; rintro e w' ⟨rfl, rfl⟩)
    go_ret
    exact ⟨rfl, ((Below.refl _ _).alloc (Nat.le_refl _) _).alloc (by simp) _⟩

end Go.Proofs.Ytlalipomphgcoaa.Tree

namespace Go.Proofs.Ytlalipomphgcoaa.Tree
open Go.RowKit Go.Proofs.Ytlalipomphgcoaa.Sha

theorem Hashes.at0 {w : World} {v : Value} {x : List UInt8} {P : List (List UInt8)} (h : Hashes w v (x :: P)) : ∃ g o cap, v = .slice (some ⟨g, o, none⟩) (P.length + 1) cap ∧ w.rangeAt g o (valsB x) ∧ Hashes w v (x :: P) := by
  rcases h with ⟨a, cap, rfl, h0⟩ | ⟨g, o, cap, rfl, hp, hc⟩
  · simp at h0
  · refine ⟨g, o, cap, rfl, ?_, Or.inr ⟨g, o, cap, rfl, hp, hc⟩⟩
    have := hc 0 x rfl
    rw [Nat.zero_mul, Nat.add_zero] at this
    exact this

theorem Hashes.tail {w : World} {g o cap : Nat} {x : List UInt8} {P : List (List UInt8)} (h : Hashes w (.slice (some ⟨g, o, none⟩) (P.length + 1) cap) (x :: P)) (c' : Nat) : Hashes w (.slice (some ⟨g, o + 32, none⟩) P.length c') P := by
  by_cases h0 : P.length = 0
  · exact Or.inl ⟨_, _, by rw [h0], List.eq_nil_of_length_eq_zero h0⟩
  · rcases h with ⟨a, cap, hv, h1⟩ | ⟨g', o', cap', hv, hp, hc⟩
    · simp at h1
    · cases hv
      refine Or.inr ⟨g, o + 32, c', rfl, by omega, fun i s hi => ?_⟩
      have := hc (i + 1) s hi
      rw [show o + 32 + i * 32 = o + (i + 1) * 32 by omega]
      exact this

set_option maxRecDepth 100000 in
set_option maxHeartbeats 3200000 in
theorem code_Check (root h : List UInt8) (hr : root.length = 32) (hl : h.length = 32) (n i0 : Nat) (a : Option Addr) (cap : Nat) (P0 : List (List UInt8)) (w : World) (hv : Hashes w (.slice a P0.length cap) P0) (hcap : P0.length ≤ cap) (h32 : H32 P0) (hn : n ≤ 1048576) (hi : i0 < n) (hP : P0.length ≤ 1099511627776) :
    Calls Try.prog 20 #[.agg (valsB root).toArray, .int .i64 n, .int .i64 i0, .agg (valsB h).toArray, .slice a P0.length cap] w fun e w' => e = .returned (.bool (checkB root n i0 h P0)) ∧ Below w.heap.size w w' := by
  have HV := Lib.hid hv
  have H3 := Lib.hid h32
  have HIP := Lib.hid (fun w => code_isPlace_yes i0 n (by omega) (by omega) w)
  have HLF := Lib.hid (fun w => code_leaf h hl w)
  have HRO := Lib.hid (fun (T : List UInt8) (hT : T.length = 32) w => code_rootOf n T hT (by omega) w)
  have HRR := Lib.hid (row32 root hr)
  have HRH := Lib.hid (row32 h hl)
  have HRL := Lib.hid (row32 (leafF h) rfl)
  have HE := Lib.hid (fun (T : List UInt8) w => eqIn_hash (rootF n T) root rfl hr w)
  have HG0 := Lib.hid (show checkB root n i0 h P0 = match goC n n i0 (leafF h) P0 with | none => false | some t => rootF n t == root from rfl)
  obtain ⟨c0, hc0⟩ : ∃ c, checkB root n i0 h P0 = c := ⟨_, rfl⟩
  rw [hc0] at HG0
  rw [hc0]
  obtain ⟨CR, hCR⟩ : ∃ C, (valsB root).toArray = C := ⟨_, rfl⟩
  obtain ⟨CH, hCH⟩ : ∃ C, (valsB h).toArray = C := ⟨_, rfl⟩
  obtain ⟨CL, hCL⟩ : ∃ C, (valsB (leafF h)).toArray = C := ⟨_, rfl⟩
  rw [hCR] at HRR HE
  rw [hCH] at HLF HRH
  rw [hCL] at HLF HRL
  rw [hCR, hCH]
  have HCL := Lib.hid hCL
  have HL32 := Lib.hid (show 32 = CL.size from HRL.out.size.symm)
  obtain ⟨m, hm⟩ : ∃ m, P0.length = m := ⟨_, rfl⟩
  rw [hm] at hP HV hcap
  rw [hm]
  have HM := Lib.hid hm
  have hng : ¬ (1048576 : Int) < (n : Int) := by omega
  clear hCR hCH hCL hc0 hm hv h32 hr hl
  go_enter Try.func20, Try.ntmps20
  go_upto_region 3 with (go_at_call 38; refine (HIP.out _).mono ?_; rintro e w' ⟨rfl, rfl⟩)
  have HGR := Lib.hid (heap_alloc2_old w (.cells CR 23) (.cells CH 23))
  have HGH := Lib.hid (heap_alloc2_new w (.cells CR 23) (.cells CH 23))
  have HBA := Lib.hid (show Below w.heap.size w ((w.alloc (.cells CR 23)).alloc (.cells CH 23)) from ((Below.refl _ _).alloc (Nat.le_refl _) _).alloc (by simp) _)
  have hs : w.heap.size + 1 < ((w.alloc (.cells CR 23)).alloc (.cells CH 23)).heap.size := by simp
  generalize (w.alloc (.cells CR 23)).alloc (.cells CH 23) = W at HGR HGH HBA hs ⊢
  go_wp2_with (refine wpList_load_row rfl 23 (.tmp 8) rfl (w.heap.size + 1) rfl 23 CH (0, 0) _ HGH.out Try.underlying23 rfl HRH.out.info ?_)
  refine (HLF.out _).mono ?_
  rintro e w3 ⟨rfl, hb3⟩
  have HB3 := Lib.hid hb3
  clear hb3
  go_upto_region 4 with (refine wpList_store_row rfl 23 (.tmp 11) (.tmp 22) rfl w3.heap.size CL rfl rfl 23 _ (heap_alloc_new _ _) HRL.out.info HL32.out HRL.out.one ?_; rw [World.setRow_alloc_new])
  have hb4 : Below w3.heap.size w3 (w3.alloc (.cells CL 23)) := (Below.refl _ _).alloc (Nat.le_refl _) _
  have hlt3 : w.heap.size < w3.heap.size := by have := HB3.out.size; omega
  have hlt4 : w3.heap.size < (w3.alloc (.cells CL 23)).heap.size := by simp
  have HB4 := Lib.hid (HB3.out.trans (hb4.mono HB3.out.size))
  have HGL := Lib.hid (heap_alloc_new w3 (.cells CL 23))
  have HGR4 := Lib.hid ((HB4.out.block w.heap.size (by omega)).trans HGR.out)
  have HBW := Lib.hid (HBA.out.trans (HB4.out.mono (by omega)))
  obtain ⟨gl, hgl⟩ : ∃ g, w3.heap.size = g := ⟨_, rfl⟩
  rw [hgl] at HGL hlt3 hlt4
  rw [hgl]
  clear hb4 hgl
  generalize w3.alloc (.cells CL 23) = W4 at HB4 HGL HGR4 HBW hlt4 ⊢
  go_wp2_with fail
  go_loopw [2, 4, 12] (fun iv pv sv wr => ∃ (i s f : Nat) (T : List UInt8) (P : List (List UInt8)) (a' : Option Addr) (c' : Nat), iv = .int .i64 i ∧ sv = .int .i64 s ∧ pv = .slice a' P.length c' ∧ P.length ≤ c' ∧ Hashes w (.slice a' P.length c') P ∧ H32 P ∧ P.length ≤ m ∧ i ≤ n ∧ s ≤ n ∧ s ≤ f ∧ T.length = 32 ∧ wr.heap[gl]? = some (.cells (valsB T).toArray 23 (0, 0)) ∧ goC f s i T P = goC n n i0 (leafF h) P0 ∧ Below gl W4 wr ∧ gl < wr.heap.size) (fun _ _ sv _ => (intOf sv).toNat)
  case atStart => exact ⟨i0, n, n, leafF h, P0, a, cap, rfl, rfl, by rw [HM.out], by rw [HM.out]; exact hcap, by rw [HM.out]; exact HV.out, H3.out, by rw [HM.out]; exact Nat.le_refl _, by omega, by omega, by omega, rfl, by rw [HCL.out]; exact HGL.out, rfl, Below.refl _ _, hlt4⟩
  case round =>
    obtain ⟨i, s, f, T, P, a', c', rfl, rfl, rfl, hcp, hP, h32, hPm, hin, hsn, hsf, hT, hgT, hgo, hbel, hglt⟩ := hrel
    have HPV := Lib.hid hP
    have HP3 := Lib.hid h32
    have HGO := Lib.hid hgo
    have HBEL := Lib.hid hbel
    have HGT := Lib.hid hgT
    have HRT := Lib.hid (row32 T hT)
    have HT := Lib.hid hT
    have HGR5 := Lib.hid ((hbel.block w.heap.size hlt3).trans HGR4.out)
    have HB5 := Lib.hid (HBW.out.trans (hbel.mono (Nat.le_of_lt hlt3)))
    clear hP h32 hgo hbel hgT hT
    by_cases h1 : 1 < s
    · have hks : (1 : Int) < (s : Int) := by omega
      obtain ⟨f', rfl⟩ : ∃ k, f = k + 1 := ⟨f - 1, by omega⟩
      have HO := Lib.hid (fun w => code_other' i (by omega) w)
      have HAB := Lib.hid (fun w => code_above' s (by omega) w)
      have HGC := Lib.hid (fun (h2 : oth i < s) => goC_nil f' s i T h1 h2)
      have HGX := Lib.hid (fun (h2 : oth i < s) x P' => goC_cons f' s i T x P' h1 h2)
      have HGK := Lib.hid (fun (h2 : ¬ oth i < s) => goC_skip f' s i T P h1 h2)
      obtain ⟨q, hq⟩ : ∃ q, oth i = q := ⟨_, rfl⟩
      obtain ⟨u, hu⟩ : ∃ q, s / 2 + s % 2 = q := ⟨_, rfl⟩
      obtain ⟨k, hk⟩ : ∃ q, i / 2 = q := ⟨_, rfl⟩
      have hki : (i : Int) / 2 = (k : Int) := by omega
      have hub : u < s ∧ k ≤ n := by omega
      have HUB := Lib.hid hub
      rw [hq] at HO HGC HGX HGK
      rw [hu] at HAB HGX HGK
      rw [hk] at HGX HGK
      clear hq hu hk hub
      by_cases hqs : q < s
      · have hqi : (q : Int) < (s : Int) := by omega
        cases P with
        | nil =>
          have h2 : goC n n i0 (leafF h) P0 = none := by rw [← HGO.out, HGC.out hqs]
          have HC := Lib.hid (show c0 = false by rw [HG0.out, h2])
          rw [show ([] : List (List UInt8)).length = 0 from rfl]
          clear h2
          go_wp2_with (go_at_call 41; refine (HO.out _).mono ?_; rintro e w' ⟨rfl, rfl⟩)
          go_ret
          exact ⟨by rw [HC.out]; rfl, HB5.out⟩
        | cons x P' =>
          have HGY := Lib.hid (show goC f' u k (sideF i T x) P' = goC n n i0 (leafF h) P0 by rw [← HGO.out, HGX.out hqs])
          obtain ⟨g, o, cp, hvv, hrange, _⟩ := HPV.out.at0
          cases hvv
          have HX := Lib.hid (HP3.out x (by simp))
          have HRG := Lib.hid (range_kept HB5.out hrange)
          have HIX := Lib.hid (info_len x HX.out)
          have HJ := Lib.hid (fun w => code_joined i T x HT.out HX.out (by omega) w)
          have HRS := Lib.hid (row32 (sideF i T x) (sideF_len i T x))
          obtain ⟨CT, hCT⟩ : ∃ C, (valsB T).toArray = C := ⟨_, rfl⟩
          obtain ⟨CS, hCS⟩ : ∃ C, (valsB (sideF i T x)).toArray = C := ⟨_, rfl⟩
          rw [hCT] at HJ HGT HRT
          rw [hCS] at HJ HRS
          have HCS := Lib.hid hCS
          have HSZ := Lib.hid (show CT.size = CS.size by rw [HRT.out.size, HRS.out.size])
          rw [List.length_cons]
          have HTL := Lib.hid (fun c => HPV.out.tail c)
          obtain ⟨r, hr⟩ : ∃ r, P'.length = r := ⟨_, rfl⟩
          rw [List.length_cons, hr] at hPm
          rw [hr] at HTL
          rw [List.length_cons, hr] at hcp
          rw [hr]
          have HPL := Lib.hid hr
          have hr1 : ((r + 1 : Nat) : Int) = (r : Int) + 1 := by omega
          have hr0 : ((r : Int) + 1 == 0) = false := by simp; omega
          have hri : (0 : Int) < (r : Int) + 1 := by omega
          have HCP := Lib.hid hcp
          clear hrange hCT hCS hr HPV hcp
          go_wp2_with (go_at_call 41; refine (HO.out _).mono ?_; rintro e w' ⟨rfl, rfl⟩)
          refine QT.wp_region_below_tail 6 (by kernel_rfl) (by kernel_rfl) ?_
          simp only [List.take_succ_cons, List.take_zero, List.drop_succ_cons, List.drop_zero]
          repeat (first
            | (refine wpQuiet_step (fun K hK => ?_); rw [if_pos (by rfl)]; refine quiet_load_row 23 (.tmp 11) rfl gl rfl 23 CT (0, 0) _ HGT.out Try.underlying23 rfl HRT.out.info ?_; refine hK _ ?_; clear hK K)
            | (refine wpQuiet_step (fun K hK => ?_); rw [if_pos (by rfl)]; refine quiet_load_mid 23 (.tmp 38) rfl g o (by simp [Act.eval]) (valsB x) _ HRG.out Try.underlying23 rfl HIX.out ?_; refine hK _ ?_; clear hK K)
            | (quiet_step (with_reducible exact Calls.regrown_of (HJ.out _))))
          refine wpQuiet_nil ?_
          intro _ hw'
          obtain ⟨⟨dq, osq⟩, hw''⟩ := hw'
          subst hw''
          have hbq := below_regrown wr dq osq
          dsimp only
          generalize Sort.grow (redrawn wr dq) osq = w5 at hbq ⊢
          have HG5 := Lib.hid ((hbq.block _ hglt).trans HGT.out)
          have HB6 := Lib.hid (below_setRow (HBEL.out.trans (hbq.mono (Nat.le_of_lt hglt))) (Nat.le_refl _) CS)
          have HG6 := Lib.hid (setRow_heap _ _ _ CS _ _ HG5.out)
          clear hbq
          go_wp2_with (first
            | (refine wpList_store_row rfl 23 (.tmp 11) (.tmp 40) rfl gl CS rfl rfl 23 CT HG5.out HRS.out.info HSZ.out HRS.out.one ?_)
            | (go_at_call 50; refine (HAB.out _).mono ?_; rintro e w' ⟨rfl, rfl⟩))
          go_roundw
          case rel =>
            refine ⟨k, u, f', sideF i T x, P', _, _, rfl, rfl, by rw [HPL.out], by rw [HPL.out]; have := HCP.out; omega, ?_, fun y hy => HP3.out y (by simp [hy]), by rw [HPL.out]; omega, HUB.out.2, by have := HUB.out; omega, by have := HUB.out; omega, sideF_len i T x, by rw [HCS.out]; exact HG6.out, HGY.out, HB6.out, (Array.getElem?_eq_some_iff.1 HG6.out).1⟩
            rw [HPL.out]
            by_cases hc1 : c' = 1
            · have hz : r = 0 := by have := HCP.out; omega
              have hz2 := HPL.out
              rw [hz] at hz2
              exact Or.inl ⟨_, _, by rw [hz], List.eq_nil_of_length_eq_zero hz2⟩
            · rw [if_neg hc1]
              exact HTL.out _
          case measure =>
            have := HUB.out
            simp [intOf]
            omega
      · have hqi : ¬ (q : Int) < (s : Int) := by omega
        have HGY := Lib.hid ((HGK.out hqs).symm.trans HGO.out)
        obtain ⟨r, hr⟩ : ∃ r, P.length = r := ⟨_, rfl⟩
        have HPL := Lib.hid hr
        rw [hr] at HPV hPm hcp
        rw [hr]
        clear hr
        go_wp2_with (first
          | (go_at_call 41; refine (HO.out _).mono ?_; rintro e w' ⟨rfl, rfl⟩)
          | (go_at_call 50; refine (HAB.out _).mono ?_; rintro e w' ⟨rfl, rfl⟩))
        go_roundw
        case rel => exact ⟨k, u, f', T, P, a', c', rfl, rfl, by rw [HPL.out], by rw [HPL.out]; exact hcp, by rw [HPL.out]; exact HPV.out, HP3.out, by rw [HPL.out]; exact hPm, HUB.out.2, by have := HUB.out; omega, by have := HUB.out; omega, HT.out, HGT.out, HGY.out, HBEL.out, hglt⟩
        case measure =>
          have := HUB.out
          simp [intOf]
          omega
    · have hks : ¬ (1 : Int) < (s : Int) := by omega
      rw [goC_one f s i T P (by omega)] at HGO
      by_cases hP0 : P.length = 0
      · have HC := Lib.hid (show c0 = (rootF n T == root) by rw [HG0.out, ← HGO.out, if_pos hP0])
        rw [hP0] at HPV
        rw [hP0]
        obtain ⟨CT, hCT⟩ : ∃ C, (valsB T).toArray = C := ⟨_, rfl⟩
        have HRO2 := Lib.hid (HRO.out T HT.out)
        have HE2 := HE.out T
        obtain ⟨CX, hCX⟩ : ∃ C, (valsB (rootF n T)).toArray = C := ⟨_, rfl⟩
        obtain ⟨bx, hbx⟩ : ∃ b, (rootF n T == root) = b := ⟨_, rfl⟩
        rw [hCT] at HRO2 HGT HRT
        rw [hCX] at HRO2 HE2
        rw [hbx] at HE2 HC
        clear hCT hCX hbx hP0
        go_wp2_with fail
        refine wp_region_quiet_below (by kernel_rfl) (by kernel_rfl) ?_
        repeat (first
          | (refine wpQuiet_step (fun K hK => ?_); rw [if_pos (by rfl)]; refine quiet_load_row 23 (.tmp 11) rfl gl rfl 23 CT (0, 0) _ HGT.out Try.underlying23 rfl HRT.out.info ?_; refine hK _ ?_; clear hK K)
          | (refine wpQuiet_step (fun K hK => ?_); rw [if_pos (by rfl)]; refine quiet_load_row 23 (.tmp 5) rfl w.heap.size rfl 23 CR (0, 0) _ HGR5.out Try.underlying23 rfl HRR.out.info ?_; refine hK _ ?_; clear hK K)
          | (quiet_step (with_reducible exact Calls.regrown_of (HRO2.out _))))
        refine wpQuiet_nil ?_
        intro _ hw'
        obtain ⟨⟨dq, osq⟩, hw''⟩ := hw'
        subst hw''
        have HBQ := Lib.hid (HB5.out.trans ((below_regrown wr dq osq).mono HB5.out.size))
        dsimp only
        generalize Sort.grow (redrawn wr dq) osq = w5 at HBQ ⊢
        go_wp2_with fail
        go_ret
        exact ⟨by rw [HC.out]; rfl, HBQ.out⟩
      · have HC := Lib.hid (show c0 = false by rw [HG0.out, ← HGO.out, if_neg hP0])
        obtain ⟨r, hr⟩ : ∃ r, P.length = r := ⟨_, rfl⟩
        rw [hr] at HPV hP0
        rw [hr]
        have hm1 : ((r : Int) == 0) = false := by simp; omega
        clear hr
        go_wp2_with fail
        refine wp_region_quiet_below (by kernel_rfl) (by kernel_rfl) ?_
        repeat (quiet_step (fail))
        refine wpQuiet_nil ?_
        intro _ hw'
        obtain ⟨⟨dq, osq⟩, hw''⟩ := hw'
        subst hw''
        have HBQ := Lib.hid (HB5.out.trans ((below_regrown wr dq osq).mono HB5.out.size))
        dsimp only
        generalize Sort.grow (redrawn wr dq) osq = w5 at HBQ ⊢
        go_wp2_with fail
        go_ret
        exact ⟨by rw [HC.out]; rfl, HBQ.out⟩

end Go.Proofs.Ytlalipomphgcoaa.Tree

namespace Go.Proofs.Ytlalipomphgcoaa.Tree
open Go.RowKit Go.Proofs.Ytlalipomphgcoaa.Sha

/-- What a place of a row becomes in the row above. -/
theorem up_place (M : List (List UInt8)) (i : Nat) (T : List UInt8) (hi : M[i]? = some T) : (upF M)[i / 2]? = some (match M[oth i]? with | none => T | some x => sideF i T x) := by
  have hil : i < M.length := (List.getElem?_eq_some_iff.1 hi).1
  have ho := oth_eq i
  by_cases hodd : i % 2 = 1
  · obtain ⟨j, rfl⟩ : ∃ j, i = 2 * j + 1 := ⟨i / 2, by omega⟩
    have ho2 : oth (2 * j + 1) = 2 * j := by rw [ho, if_neg (by omega)]; omega
    obtain ⟨x, hx⟩ : ∃ x, M[2 * j]? = some x := ⟨M[2 * j]'(by omega), List.getElem?_eq_getElem _⟩
    rw [ho2, hx, show (2 * j + 1) / 2 = j by omega, upF_two M j x T hx hi]
    show some (pairF x T) = some (sideF _ T x)
    unfold sideF
    rw [if_pos hodd]
  · obtain ⟨j, rfl⟩ : ∃ j, i = 2 * j := ⟨i / 2, by omega⟩
    have ho2 : oth (2 * j) = 2 * j + 1 := by rw [ho, if_pos (by omega)]
    rw [ho2, show 2 * j / 2 = j by omega]
    by_cases h1 : 2 * j + 1 < M.length
    · obtain ⟨x, hx⟩ : ∃ x, M[2 * j + 1]? = some x := ⟨M[2 * j + 1]'h1, List.getElem?_eq_getElem _⟩
      rw [hx, upF_two M j T x hi hx]
      show some (pairF T x) = some (sideF _ T x)
      unfold sideF
      rw [if_neg hodd]
    · have hnone : M[2 * j + 1]? = none := List.getElem?_eq_none (by omega)
      rw [hnone, upF_last M j T hi (by omega)]

theorem goC_proof (f : Nat) : ∀ (M : List (List UInt8)) (i : Nat) (T : List UInt8), M.length ≤ f → M[i]? = some T → goC f M.length i T (proofA M i) = (lastA M)[0]? := by
  induction f with
  | zero =>
    intro M i T h hi
    have := (List.getElem?_eq_some_iff.1 hi).1
    omega
  | succ f ih =>
    intro M i T h hi
    have hil := (List.getElem?_eq_some_iff.1 hi).1
    by_cases h1 : M.length ≤ 1
    · rw [goC_one _ _ _ _ _ h1, proofA_one M i h1, lastA_one M h1, if_pos (show ([] : List (List UInt8)).length = 0 from rfl)]
      obtain rfl : i = 0 := by omega
      exact hi.symm
    · have hup := up_place M i T hi
      have hul := upF_len M
      rw [proofA_step M i (by omega), lastA_step M (by omega)]
      by_cases ho : oth i < M.length
      · obtain ⟨x, hx⟩ : ∃ x, M[oth i]? = some x := ⟨M[oth i]'ho, List.getElem?_eq_getElem _⟩
        rw [hx] at hup
        rw [hx]
        show goC (f + 1) M.length i T (x :: proofA (upF M) (i / 2)) = _
        rw [goC_cons f M.length i T x _ (by omega) ho, ← hul]
        exact ih _ _ _ (by omega) hup
      · have hnone : M[oth i]? = none := List.getElem?_eq_none (by omega)
        rw [hnone] at hup
        rw [hnone]
        show goC (f + 1) M.length i T (proofA (upF M) (i / 2)) = _
        rw [goC_skip f M.length i T _ (by omega) ho, ← hul]
        exact ih _ _ _ (by omega) hup

/-- How many hashes a proof of this place wants. -/
def cntC : Nat → Nat → Nat → Nat
  | 0, _, _ => 0
  | f + 1, s, i => if s ≤ 1 then 0 else (if oth i < s then 1 else 0) + cntC f (s / 2 + s % 2) (i / 2)
theorem goC_some (f : Nat) : ∀ (s i : Nat) (T : List UInt8) (P : List (List UInt8)) (t : List UInt8), goC f s i T P = some t → P.length = cntC f s i := by
  induction f with
  | zero =>
    intro s i T P t h
    by_cases h0 : P.length = 0
    · exact h0
    · unfold goC at h
      rw [if_neg h0] at h
      cases h
  | succ f ih =>
    intro s i T P t h
    by_cases h1 : s ≤ 1
    · rw [goC_one _ _ _ _ _ h1] at h
      rw [cntC, if_pos h1]
      by_cases h0 : P.length = 0
      · exact h0
      · rw [if_neg h0] at h
        cases h
    · rw [cntC, if_neg h1]
      by_cases ho : oth i < s
      · rw [if_pos ho]
        cases P with
        | nil => rw [goC_nil f s i T (by omega) ho] at h; cases h
        | cons x P =>
          rw [goC_cons f s i T x P (by omega) ho] at h
          rw [List.length_cons, ih _ _ _ _ _ h]
          omega
      · rw [goC_skip f s i T P (by omega) ho] at h
        rw [if_neg ho, ih _ _ _ _ _ h]
        omega

theorem last_some (L : List (List UInt8)) (h0 : 0 < L.length) : (lastA (L.map leafF))[0]? = some (topA L) := by
  have hne : L ≠ [] := fun h => by rw [h] at h0; simp at h0
  obtain ⟨x, hx, _⟩ := lastA_len (L.map leafF).length (L.map leafF) (Nat.le_refl _) (by rw [List.length_map]; exact h0) (leaves_32 L)
  unfold topA
  rw [if_neg hne, hx]
  rfl
theorem goC_leaves (L : List (List UInt8)) (i : Nat) (h : List UInt8) (hi : L[i]? = some h) : goC L.length L.length i (leafF h) (proofA (L.map leafF) i) = some (topA L) := by
  have hil := (List.getElem?_eq_some_iff.1 hi).1
  have h1 := goC_proof (L.map leafF).length (L.map leafF) i (leafF h) (Nat.le_refl _) (by rw [List.getElem?_map, hi]; rfl)
  rw [List.length_map, last_some L (by omega)] at h1
  exact h1
/-- The proof of a hash is held; one hash more or one fewer is not. -/
theorem checkB_proof (L : List (List UInt8)) (i : Nat) (h : List UInt8) (hi : L[i]? = some h) : checkB (rootA L) L.length i h (proofA (L.map leafF) i) = true := by
  unfold checkB
  rw [goC_leaves L i h hi]
  show (rootF L.length (topA L) == rootA L) = true
  simp [rootA]
theorem checkB_other (L : List (List UInt8)) (i : Nat) (h root : List UInt8) (hi : L[i]? = some h) (P : List (List UInt8)) (hP : P.length ≠ (proofA (L.map leafF) i).length) : checkB root L.length i h P = false := by
  have h1 := goC_some _ _ _ _ _ _ (goC_leaves L i h hi)
  unfold checkB
  cases hg : goC L.length L.length i (leafF h) P with
  | none => rfl
  | some t =>
    have h2 := goC_some _ _ _ _ _ _ hg
    omega

end Go.Proofs.Ytlalipomphgcoaa.Tree

namespace Go.Proofs.Ytlalipomphgcoaa.Tree
open Go.RowKit Go.Proofs.Ytlalipomphgcoaa.Sha

theorem wp_runTo {P : Program} {o : Oper} {a : Act} {w : World} {K : Act → World → Prop} {Q : Exit → Act → World → Prop} (v : Value) (w' : World) (h : (execOp a.eval o).run P w = .ok (.value v) w') (hk : K (a.put o.dst v) w') : o.wp P a w K Q := by
  unfold Oper.wp
  rw [h]
  exact hk

def CellsKept (w w' : World) : Prop := ∀ (g i : Nat) (x : Value), w.cell? ⟨g, i, none⟩ = some x → w'.cell? ⟨g, i, none⟩ = some x
/-- What the operations of the great test leave: the first append keeps all cells, the second one may write into the first one's row. -/
def R8 (B c : Nat) (w w' : World) : Prop := if c = 20 then Below B w w' ∧ CellsKept w w' else if c = 23 then Below B w w' else Below w.heap.size w w'
theorem R8.of {B c : Nat} {w w' : World} (h1 : c ≠ 20) (h2 : c ≠ 23) (h : Below w.heap.size w w') : R8 B c w w' := by
  unfold R8
  rw [if_neg h1, if_neg h2]
  exact h
theorem R8.below {B c : Nat} {w w' : World} (h : R8 B c w w') (hB : B ≤ w.heap.size) : Below B w w' := by
  unfold R8 at h
  by_cases h1 : c = 20
  · rw [if_pos h1] at h
    exact h.1
  · rw [if_neg h1] at h
    by_cases h2 : c = 23
    · rw [if_pos h2] at h
      exact h
    · rw [if_neg h2] at h
      exact h.mono hB
theorem R8.refl20 (B : Nat) (w : World) : R8 B 20 w w := by
  unfold R8
  rw [if_pos rfl]
  exact ⟨Below.refl _ _, fun _ _ _ h => h⟩
def kills8 (c i : Nat) : Bool := (c == 20 && i == 18) || (c == 23 && (i == 18 || i == 20 || i == 22))

/-- What an operation leaves. -/
inductive FactB where
  | val (v : Value)
  | empty (B : Nat)
  | own (B : Nat) (P : List (List UInt8))
  | hs (L : List (List UInt8))
def FactB.holds : FactB → Value → World → Prop
  | .val v0, v, _ => v = v0
  | .empty B, v, w => ∃ g, v = .slice (some ⟨g, 0, none⟩) 0 0 ∧ B ≤ g ∧ w.heap[g]? = some (.cells #[] 23 (0, 0))
  | .own B P, v, w => OwnH B v P w
  | .hs L, v, w => ∃ a c, v = .slice a L.length c ∧ L.length ≤ c ∧ Hashes w (.slice a L.length c) L
def FactB.soft : FactB → Bool
  | .val _ => true
  | .hs _ => true
  | _ => false
def FactB.isVal : FactB → Bool
  | .val _ => true
  | _ => false
theorem FactB.kept (f : FactB) (v : Value) (w w' : World) (h : f.holds v w) (hb : Below w.heap.size w w') : f.holds v w' := by
  cases f with
  | val v0 => exact h
  | empty B =>
    obtain ⟨g, hv, hB, hr⟩ := h
    exact ⟨g, hv, hB, (hb.block g ((Array.getElem?_eq_some_iff.1 hr).1)).trans hr⟩
  | own B P => exact OwnH.kept h hb
  | hs L =>
    obtain ⟨a, c, hv, hc, hr⟩ := h
    exact ⟨a, c, hv, hc, hr.kept hb⟩
theorem Hashes.cells {w w' : World} {v : Value} {L : List (List UInt8)} (h : Hashes w v L) (hk : CellsKept w w') : Hashes w' v L := by
  rcases h with h | ⟨g, o, cap, hv, hp, hc⟩
  · exact Or.inl h
  · exact Or.inr ⟨g, o, cap, hv, hp, fun i s hs j u hu => hk _ _ _ (hc i s hs j u hu)⟩
theorem FactB.stable (L : List FactB) (h20 : (L.zipIdx.all fun p => p.1.soft || p.2 == 18 || p.2 == 20) = true) (h23 : (L.zipIdx.all fun p => p.1.isVal || p.2 == 18 || p.2 == 20 || p.2 == 22 || p.2 == 23) = true) (B i j : Nat) (v : Value) (w w' : World)
    (hk : kills8 i j = false) (hij : i ≠ j) (hF : (L.getD j (.val undef)).holds v w) (hr : R8 B i w w') : (L.getD j (.val undef)).holds v w' := by
  by_cases hj : j < L.length
  · have hg : L.getD j (.val undef) = L[j] := by rw [List.getD_eq_getElem?_getD, List.getElem?_eq_getElem hj]; rfl
    have hmem : (L[j], j) ∈ L.zipIdx := by
      rw [List.mem_zipIdx_iff_getElem?]
      simp
    rw [hg] at hF ⊢
    unfold R8 at hr
    by_cases hi : i = 20
    · subst hi
      rw [if_pos rfl] at hr
      have h1 := List.all_eq_true.1 h20 _ hmem
      have hn18 : j ≠ 18 := fun e => by subst e; simp [kills8] at hk
      simp only [Bool.or_eq_true, beq_iff_eq] at h1
      cases hf : L[j] with
      | val v0 => rw [hf] at hF; exact hF
      | hs l =>
        rw [hf] at hF
        obtain ⟨a, c, hv, hc, hh⟩ := hF
        exact ⟨a, c, hv, hc, hh.cells hr.2⟩
      | empty b => rw [hf] at h1; simp [FactB.soft] at h1; omega
      | own b p => rw [hf] at h1; simp [FactB.soft] at h1; omega
    · rw [if_neg hi] at hr
      by_cases hi3 : i = 23
      · subst hi3
        have h1 := List.all_eq_true.1 h23 _ hmem
        have hn : j ≠ 18 ∧ j ≠ 20 ∧ j ≠ 22 := by
          refine ⟨fun e => ?_, fun e => ?_, fun e => ?_⟩ <;> (subst e; simp [kills8] at hk)
        simp only [Bool.or_eq_true, beq_iff_eq] at h1
        cases hf : L[j] with
        | val v0 => rw [hf] at hF; exact hF
        | hs l => rw [hf] at h1; simp [FactB.isVal] at h1; omega
        | empty b => rw [hf] at h1; simp [FactB.isVal] at h1; omega
        | own b p => rw [hf] at h1; simp [FactB.isVal] at h1; omega
      · rw [if_neg hi3] at hr
        exact FactB.kept _ v w w' hF hr
  · have hg : L.getD j (.val undef) = .val undef := by rw [List.getD_eq_getElem?_getD, List.getElem?_eq_none (by omega)]; rfl
    rw [hg] at hF ⊢
    exact hF

theorem OwnH.form {B : Nat} {v : Value} {P : List (List UInt8)} {w : World} (h : OwnH B v P w) : ∃ a c, v = .slice a P.length c ∧ P.length ≤ c := by
  rcases h.own.2 with ⟨rfl, h0⟩ | ⟨g, cap, cur, rfl, _, _, hle, _⟩
  · exact ⟨_, _, by rw [h0], by rw [h0]; exact Nat.le_refl _⟩
  · exact ⟨_, _, rfl, hle⟩

/-- Hashes appended onto a row of one's own. -/
theorem wp_append_gen {o : Oper} {a : Act} {w : World} {K : Act → World → Prop} {Q : Exit → Act → World → Prop} (s x : Operand)
    (ho : o.op = .call { callee := .builtin .append, args := #[s, x], argTypes := #[28, 28] })
    (B : Nat) (v : Value) (P : List (List UInt8)) (hs : a.eval s = v) (hown : OwnH B v P w) (a1 : Option Addr) (cap1 m : Nat) (L : List (List UInt8)) (hx : a.eval x = .slice a1 m cap1) (hrow : Hashes w (.slice a1 m cap1) L) (h32 : H32 L) (hm : L.length = m) (h0 : 0 < m)
    (hn : P.length + m ≤ 2199023255552) (hB : B ≤ w.heap.size)
    (h : ∀ v' w', OwnH B v' (P ++ L) w' → w.grownBy w' v.ownBlock → K (a.put o.dst v') w') : o.wp Try.prog a w K Q := by
  obtain ⟨ie, hie, hz, hsz, hby⟩ := info_row
  obtain ⟨g1, o1, rfl, hat⟩ : ∃ g1 o1, a1 = some ⟨g1, o1, none⟩ ∧ ∀ (i : Nat) (h : List UInt8), L[i]? = some h → w.rangeAt g1 (o1 + i * 32) (valsB h) := by
    rcases hrow with ⟨a2, c2, hv, h1⟩ | ⟨g, o, c2, hv, _, hc⟩
    · rw [h1] at hm; simp at hm; omega
    · cases hv
      exact ⟨g, o, rfl, hc⟩
  refine wp_append_lies w s x 28 ho B 23 ie _ 32 32 Try.underlying28 hie hz hsz hby rfl (by omega) v P.length (valsH P) hs hown.own ⟨g1, o1, none⟩ m cap1 (valsH L) hx (by rw [valsH_len L h32, hm]) (fun j u hj => ?_) (valsH_oneCell L) h0 (by unfold maxLen; omega) (by omega) hB _ rfl ?_
  · have hj' := (List.getElem?_eq_some_iff.1 hj).1
    rw [valsH_len L h32] at hj'
    have hd : j / 32 < L.length := by omega
    have hh := h32 _ (List.getElem_mem hd)
    have hjm : j % 32 < (valsB L[j / 32]).length := by rw [valsB_len, hh]; omega
    have h1 := hat (j / 32) L[j / 32] (List.getElem?_eq_getElem hd) (j % 32) _ (List.getElem?_eq_getElem hjm)
    have h2 := valsH_at L h32 (j / 32) L[j / 32] (List.getElem?_eq_getElem hd) (j % 32) _ (List.getElem?_eq_getElem hjm)
    rw [show o1 + j / 32 * 32 + j % 32 = o1 + j by omega] at h1
    rw [show j / 32 * 32 + j % 32 = j by omega, hj] at h2
    rw [Addr.add_mid, h1, h2]
  · intro g cap w' hown' hgrow _ _
    have hl : (P ++ L).length = P.length + m := by rw [List.length_append, hm]
    exact h _ w' ⟨by rw [hl, show valsH (P ++ L) = valsH P ++ valsH L by simp [valsH]]; exact hown', fun y hy => (List.mem_append.1 hy).elim (hown.len y) (h32 y)⟩ hgrow

theorem empty_own {B g : Nat} {w : World} (hB : B ≤ g) (hg : w.heap[g]? = some (.cells #[] 23 (0, 0))) : OwnH B (.slice (some ⟨g, 0, none⟩) 0 0) [] w :=
  ⟨⟨rfl, Or.inr ⟨g, 0, #[], rfl, hB, hg, Nat.le_refl _, by unfold maxLen; omega, rfl, rfl⟩⟩, fun h hh => by simp at hh⟩

theorem wp_append_on0 {o : Oper} {a : Act} {w : World} {K : Act → World → Prop} {Q : Exit → Act → World → Prop} (s x : Operand)
    (ho : o.op = .call { callee := .builtin .append, args := #[s, x], argTypes := #[28, 28] })
    (B : Nat) (hs : (FactB.empty B).holds (a.eval s) w) (a1 : Option Addr) (m cap1 : Nat) (L : List (List UInt8)) (hx : a.eval x = .slice a1 m cap1) (hrow : Hashes w (.slice a1 m cap1) L) (h32 : H32 L) (hm : L.length = m) (h0 : 0 < m)
    (hn : m ≤ 2199023255552) (hB : B ≤ w.heap.size)
    (h : ∀ v' w', OwnH B v' L w' → R8 B 20 w w' → K (a.put o.dst v') w') : o.wp Try.prog a w K Q := by
  obtain ⟨g, hv, hBg, hg⟩ := hs
  refine wp_append_gen s x ho B _ [] hv (empty_own hBg hg) a1 cap1 m L hx hrow h32 hm h0 (by simpa using hn) hB fun v' w' h1 h2 => h v' w' (by simpa using h1) ?_
  unfold R8
  rw [if_pos rfl]
  refine ⟨(Below.refl _ _).grown h2 hB (fun k hk => by simp [Value.ownBlock] at hk; omega), fun b i u hu => ?_⟩
  have hbl := World.block_lt_of_cell? _ _ hu
  by_cases hbg : b = g
  · subst hbg
    rw [cell_of_row w b i _ _ _ hg] at hu
    simp at hu
  · rw [h2.cell_far ⟨b, i, none⟩ hbl (by simp [Value.ownBlock]; exact hbg)]
    exact hu

theorem wp_append_no {o : Oper} {a : Act} {w : World} {K : Act → World → Prop} {Q : Exit → Act → World → Prop} (s x : Operand)
    (ho : o.op = .call { callee := .builtin .append, args := #[s, x], argTypes := #[28, 28] })
    (B : Nat) (hs : (FactB.empty B).holds (a.eval s) w) (a1 : Option Addr) (cap1 : Nat) (hx : a.eval x = .slice a1 0 cap1)
    (h : ∀ v', OwnH B v' [] w → K (a.put o.dst v') w) : o.wp Try.prog a w K Q := by
  obtain ⟨g, hv, hBg, hg⟩ := hs
  obtain ⟨ie, hie, hz, hsz, hby⟩ := info_row
  have hr : (Builtin.append_ #[28, 28] o.type #[.slice (some ⟨g, 0, none⟩) 0 0, .slice a1 0 cap1]).run Try.prog w = .ok (.slice (some ⟨g, 0, none⟩) 0 0) w := by
    refine run_append_nothing w 28 28 o.type 23 ie Try.underlying28 hie _ 0 0 (Nat.le_refl _) _ ?_
    cases a1 with
    | none => exact Src.ofNil w Try.underlying28 cap1
    | some ad => exact Src.ofSlice w Try.underlying28 ad 0 cap1 [] (by simp) (fun j u hj => by simp at hj) (fun u hu => by simp at hu)
  unfold Oper.wp execOp
  simp only [ho, resolve, invoke, builtin, Sem.run_bind, Sem.run_pure, Result.andThen_ok, List.map_toArray, List.map_cons, List.map_nil, hv, hx, hr]
  exact h _ (empty_own hBg hg)

theorem wp_append_on {o : Oper} {a : Act} {w : World} {K : Act → World → Prop} {Q : Exit → Act → World → Prop} (s x : Operand)
    (ho : o.op = .call { callee := .builtin .append, args := #[s, x], argTypes := #[28, 28] })
    (B : Nat) (P : List (List UInt8)) (hown : OwnH B (a.eval s) P w) (a1 : Option Addr) (c1 : Nat) (y : List UInt8) (hy : y.length = 32) (hx : a.eval x = .slice a1 1 c1) (hrow : Hashes w (.slice a1 1 c1) [y])
    (hn : P.length ≤ 1099511627776) (hB : B ≤ w.heap.size)
    (h : ∀ v' w', (FactB.hs (P ++ [y])).holds v' w' → R8 B 23 w w' → K (a.put o.dst v') w') : o.wp Try.prog a w K Q := by
  refine wp_append_gen s x ho B _ P rfl hown a1 c1 1 [y] hx hrow (fun z hz => by simp at hz; subst hz; exact hy) rfl (by omega) (by omega) hB fun v' w' h1 h2 => h v' w' ?_ ?_
  · obtain ⟨a2, c2, hv, hc⟩ := h1.form
    exact ⟨a2, c2, hv, hc, hv ▸ h1.hashes⟩
  · unfold R8
    rw [if_neg (by decide), if_pos rfl]
    exact (Below.refl _ _).grown h2 hB hown.base

theorem hashes_cellB {w : World} {a : Option Addr} {n c : Nat} {L : List (List UInt8)} (h : Hashes w (.slice a n c) L) (i : Nat) (s : List UInt8) (hi : L[i]? = some s) : ∃ g o, a = some ⟨g, o, none⟩ ∧ w.rangeAt g (o + i * 32) (valsB s) := by
  rcases h with ⟨a', cap, hv, h0⟩ | ⟨g, o, cap, hv, _, hc⟩
  · rw [h0] at hi; simp at hi
  · cases hv
    exact ⟨g, o, rfl, hc i s hi⟩

theorem OwnH.empty_form {B : Nat} {v : Value} {w : World} (h : OwnH B v [] w) : ∃ a c, v = .slice a 0 c := by
  obtain ⟨a, c, hv, _⟩ := h.form
  exact ⟨a, c, hv⟩

set_option maxRecDepth 100000 in
set_option maxHeartbeats 12800000 in
theorem back_main (al : Option Addr) (ln cl : Nat) (L : List (List UInt8)) (w : World) (hL : L.length = ln) (w0 : Hashes w (.slice al ln cl) L) (x0 : H32 L) (h40 : ln ≤ 40) : Calls Try.prog 4 #[.slice al ln cl] w fun e w' => e = .returned (.bool true) ∧ Below w.heap.size w w' := by
  have HL := Lib.hid hL
  have HWL := Lib.hid w0
  have HX := Lib.hid x0
  have HRT := Lib.hid (code_Root (.slice al ln cl) L w w0 x0 (by rw [hL]; omega))
  have HRR := Lib.hid (row32 (rootA L) rfl)
  obtain ⟨CR, hCR⟩ : ∃ C, (valsB (rootA L)).toArray = C := ⟨_, rfl⟩
  rw [hCR] at HRT HRR
  have HCR := Lib.hid hCR
  have HZ32 := Lib.hid (show (List.replicate 32 (Value.int .u8 0)).toArray.size = CR.size by rw [HRR.out.size]; rfl)
  have hb : ¬ (40 : Int) < (ln : Int) := by omega
  clear hL w0 x0 hCR
  go_enter Try.func4, Try.ntmps4
  go_wp2_with fail
  refine HRT.out.mono ?_
  rintro e w1 ⟨rfl, hb1⟩
  have HB1 := Lib.hid hb1
  clear hb1
  go_upto_region 4 with (refine wpList_store_row rfl 23 (.tmp 3) (.tmp 13) rfl w1.heap.size CR rfl rfl 23 (List.replicate 32 (Value.int .u8 0)).toArray (heap_alloc_new _ _) HRR.out.info HZ32.out HRR.out.one ?_; rw [World.setRow_alloc_new])
  have hb2 : Below w1.heap.size w1 (w1.alloc (.cells CR 23)) := (Below.refl _ _).alloc (Nat.le_refl _) _
  have HG := Lib.hid (heap_alloc_new w1 (.cells CR 23))
  have HB2 := Lib.hid (HB1.out.trans (hb2.mono HB1.out.size))
  obtain ⟨g3, hg3⟩ : ∃ x, w1.heap.size = x := ⟨_, rfl⟩
  rw [hg3] at HG
  rw [hg3]
  clear hb2 hg3
  generalize w1.alloc (.cells CR 23) = W at HG HB2 ⊢
  have HGL := Lib.hid ((Array.getElem?_eq_some_iff.1 HG.out).1)
  have HWW := Lib.hid (HWL.out.kept HB2.out)
  go_wp2_with fail
  go_loopw [16] (fun iv wr => ∃ k : Nat, iv = .int .i64 k ∧ k ≤ ln ∧ Below W.heap.size W wr) (fun iv _ => ln - (intOf iv).toNat)
  case atStart => exact ⟨0, rfl, by omega, Below.refl _ _⟩
  case round =>
    obtain ⟨k, rfl, hk, hbel⟩ := hrel
    have HBEL := Lib.hid hbel
    clear hbel
    by_cases hkn : k < ln
    · obtain ⟨h, hh⟩ : ∃ h, L[k]? = some h := ⟨L[k]'(by rw [HL.out]; exact hkn), List.getElem?_eq_getElem _⟩
      have hhl := HX.out h (List.mem_of_getElem? hh)
      obtain ⟨gl, ol, hal, hrg⟩ := hashes_cellB (HWW.out.kept HBEL.out) k h hh
      subst hal
      have HRG := Lib.hid hrg
      have HRH := Lib.hid (row32 h hhl)
      have HIX := Lib.hid (info_len h hhl)
      have HHL := Lib.hid hhl
      have HPV := Lib.hid (fun W' (hb : Below W.heap.size W W') => code_Prove (.slice (some ⟨gl, ol, none⟩) ln cl) L k W' (HWW.out.kept hb) HX.out (by rw [HL.out]; omega) (by rw [HL.out]; exact hkn))
      have hmp := checkB_proof L k h hh
      have hmo := checkB_other L k h (rootA L) hh
      have hpb := proofA_len (L.map leafF).length (L.map leafF) k (Nat.le_refl _)
      rw [List.length_map, HL.out] at hpb
      obtain ⟨P, hP⟩ : ∃ P, proofA (L.map leafF) k = P := ⟨_, rfl⟩
      rw [hP] at HPV hmp hmo hpb
      rw [HL.out] at hmp hmo
      have HMP := Lib.hid hmp
      have HMO := Lib.hid hmo
      obtain ⟨p, hp⟩ : ∃ p, P.length = p := ⟨_, rfl⟩
      have HPL := Lib.hid hp
      rw [hp] at hpb
      obtain ⟨CH, hCH⟩ : ∃ C, (valsB h).toArray = C := ⟨_, rfl⟩
      rw [hCH] at HRH
      have HCH := Lib.hid hCH
      have HZH := Lib.hid (show (List.replicate 32 (Value.int .u8 0)).toArray.size = CH.size by rw [HRH.out.size]; rfl)
      have hki : (k : Int) < (ln : Int) := by omega
      have hk0 : (0 : Int) ≤ (k : Int) := by omega
      clear hh hhl hrg hP hmp hmo hp hCH
      go_upto_region 7 with (first
        | (refine wpList_load_mid rfl 23 (.tmp 19) rfl gl (ol + k * 32) (by simp [Act.eval]) (valsB h) _ HRG.out Try.underlying23 rfl HIX.out ?_; rw [HCH.out])
        | (refine wpList_store_row rfl 23 (.tmp 5) (.tmp 20) rfl wr.heap.size CH rfl rfl 23 (List.replicate 32 (Value.int .u8 0)).toArray (heap_alloc_new _ _) HRH.out.info HZH.out HRH.out.one ?_; rw [World.setRow_alloc_new]))
      have hb5 : Below wr.heap.size wr (wr.alloc (.cells CH 23)) := (Below.refl _ _).alloc (Nat.le_refl _) _
      have HG5' := Lib.hid (heap_alloc_new wr (.cells CH 23))
      have HB5 := Lib.hid (HBEL.out.trans (hb5.mono HBEL.out.size))
      obtain ⟨g5, hg5⟩ : ∃ x, wr.heap.size = x := ⟨_, rfl⟩
      rw [hg5] at HG5'
      rw [hg5]
      clear hb5 hg5
      generalize wr.alloc (.cells CH 23) = w5 at HG5' HB5 ⊢
      have HPV5 := Lib.hid (HPV.out w5 HB5.out)
      go_wp2_with fail
      refine HPV5.out.mono ?_
      rintro e w8 ⟨pv, B1, rfl, hB1, hown1, hb8⟩
      obtain ⟨sp, cp, rfl, hcp⟩ := hown1.form
      rw [HPL.out] at hcp
      have HOP := Lib.hid hown1
      have HB8 := Lib.hid (HB5.out.trans (hb8.mono HB5.out.size))
      have HG5 := Lib.hid ((hb8.block g5 ((Array.getElem?_eq_some_iff.1 HG5'.out).1)).trans HG5'.out)
      have HG3 := Lib.hid ((HB8.out.block g3 HGL.out).trans HG.out)
      have HL3 := Lib.hid ((Array.getElem?_eq_some_iff.1 HG3.out).1)
      have HL5 := Lib.hid ((Array.getElem?_eq_some_iff.1 HG5.out).1)
      have HP32 := Lib.hid hown1.len
      have HHP := Lib.hid hown1.hashes
      rw [HPL.out] at HHP
      rw [HPL.out]
      have HPW := Lib.hid (fun wz (hI : Below w8.heap.size w8 wz) => HHP.out.kept hI)
      have HCK := Lib.hid (fun wz (hI : Below w8.heap.size w8 wz) => code_Check (rootA L) h rfl HHL.out ln k sp cp P wz (by rw [HPL.out]; exact HPW.out wz hI) (by rw [HPL.out]; exact hcp) HP32.out (by omega) hkn (by rw [HPL.out]; omega))
      simp only [HMP.out, HPL.out, HCR.out, HCH.out] at HCK
      have HCM := Lib.hid (fun wz a2 c2 (hc2 : (P ++ [h]).length ≤ c2) (hh2 : Hashes wz (.slice a2 (P ++ [h]).length c2) (P ++ [h])) => code_Check (rootA L) h rfl HHL.out ln k a2 c2 (P ++ [h]) wz hh2 hc2 (fun y hy => by
        rcases List.mem_append.1 hy with h1 | h1
        · exact HP32.out y h1
        · simp at h1; subst h1; exact HHL.out) (by omega) hkn (by rw [List.length_append, HPL.out]; simp; omega))
      have hmore := HMO.out (P ++ [h]) (by rw [List.length_append]; simp)
      simp only [hmore, HCR.out, HCH.out] at HCM
      obtain ⟨nk, hnk⟩ : ∃ x, ln + k = x := ⟨_, rfl⟩
      have HCO := Lib.hid (fun wz => code_Check_no (rootA L) h ln nk (.slice sp p cp) (Or.inr (Or.inr (by omega))) wz)
      rw [HCR.out, HCH.out] at HCO
      have hnki : (ln : Int) + (k : Int) = (nk : Int) := by omega
      have hwnk : IntKind.i64.wrap (nk : Int) = (nk : Int) := by unfold IntKind.wrap; simp [IntKind.bits, IntKind.signed]; omega
      have HPB := Lib.hid (show p ≤ 2199023255552 by omega)
      have HPC := Lib.hid (show P.length ≤ 1099511627776 by rw [HPL.out]; omega)
      have HCP := Lib.hid hcp
      have HPP := Lib.hid hpb
      clear hown1 hb8 hmore hnk hcp hpb
      by_cases hp0 : 0 < p
      · obtain ⟨x, P', hPx⟩ : ∃ x P', P = x :: P' := by
          cases P with
          | nil => have := HPL.out; simp at this; omega
          | cons x P' => exact ⟨x, P', rfl⟩
        obtain ⟨p1, hp1⟩ : ∃ x, p - 1 = x := ⟨_, rfl⟩
        obtain ⟨c1, hc1⟩ : ∃ x, cp - 1 = x := ⟨_, rfl⟩
        have hlp1 : P'.length = p1 := by have := HPL.out; rw [hPx] at this; simp at this; omega
        obtain ⟨gp, so, capx, hvx, hrx, hhx⟩ := Hashes.at0 (hPx ▸ HHP.out)
        injection hvx with e1 e2 e3
        subst e1
        obtain ⟨sv, hsv⟩ : ∃ s : Option Addr, s = if cp = 1 then some ⟨gp, so, none⟩ else some ⟨gp, so + 32, none⟩ := ⟨_, rfl⟩
        have HTLH := Lib.hid (fun wz (hI : Below w8.heap.size w8 wz) => (show Hashes wz (.slice sv p1 c1) P' by
          by_cases hc : cp = 1
          · have hz1 : p1 = 0 := by have := HCP.out; omega
            rw [hz1] at hlp1 ⊢
            exact Or.inl ⟨_, _, rfl, List.eq_nil_of_length_eq_zero hlp1⟩
          · rw [hsv, if_neg hc]
            have h1 := (hhx.kept hI)
            rw [e2] at h1
            have h2 := h1.tail c1
            rw [hlp1] at h2
            exact h2))
        have HCL := Lib.hid (fun wz (hI : Below w8.heap.size w8 wz) => code_Check (rootA L) h rfl HHL.out ln k sv c1 P' wz (by rw [hlp1]; exact HTLH.out wz hI) (by have := HCP.out; omega) (fun y hy => HP32.out y (by rw [hPx]; exact List.mem_cons_of_mem _ hy)) (by omega) hkn (by have := HPP.out; omega))
        have hless := HMO.out P' (by rw [hPx]; simp)
        simp only [hless, hlp1, HCR.out, HCH.out] at HCL
        have HP0 := Lib.hid hp0
        have hsl1 : (1 : Int) ≤ (p : Int) := by omega
        clear e2 e3 hPx hlp1 hrx hhx hless
        go_wp2_with fail
        refine QT.wp_region_facts_kill kills8 (by kernel_rfl) (fun w' => Below w8.heap.size w8 w') (fun n v w' => (((.val (.int .i64 0) :: .val (.bool false) :: .val (.bool false) :: .val (.agg CR) :: .val (.slice (some ⟨gl, ol, none⟩) ln cl) :: .val (.int .i64 ln) :: .val (.int .i64 k) :: .val (.agg CH) :: .val (.slice (some ⟨gp, so, none⟩) p cp) :: .val (.bool true) :: .val (.bool false) :: .val (.bool false) :: .val (.bool false) :: .val (.agg CR) :: .val (.slice (some ⟨gl, ol, none⟩) ln cl) :: .val (.int .i64 ln) :: .val (.int .i64 k) :: .val (.agg CH) :: .empty w8.heap.size :: .val (.slice (some ⟨gp, so, none⟩) p cp) :: .own w8.heap.size P :: .val (.agg CH) :: .hs [h] :: .hs (P ++ [h]) :: .val (.bool false) :: .val (.bool false) :: .val (.bool false) :: .val (.slice (some ⟨gp, so, none⟩) p cp) :: .val (.int .i64 p) :: .val (.bool true) :: .val (.bool true) :: .val (.agg CR) :: .val (.slice (some ⟨gl, ol, none⟩) ln cl) :: .val (.int .i64 ln) :: .val (.int .i64 k) :: .val (.agg CH) :: .val (.slice (some ⟨gp, so, none⟩) p cp) :: .val (.slice sv p1 c1) :: .val (.bool false) :: .val (.bool false) :: .val (.bool false) :: .val (.bool false) :: .val (.agg CR) :: .val (.slice (some ⟨gl, ol, none⟩) ln cl) :: .val (.int .i64 ln) :: .val (.slice (some ⟨gl, ol, none⟩) ln cl) :: .val (.int .i64 ln) :: .val (.int .i64 k) :: .val (.int .i64 nk) :: .val (.agg CH) :: .val (.slice (some ⟨gp, so, none⟩) p cp) :: .val (.bool false) :: .val (.bool false) :: []) : List FactB).getD n (.val undef) : FactB).holds v w') (R8 w8.heap.size) (by kernel_rfl) (by kernel_rfl) (by kernel_rfl) (Below.refl _ _).drew (fun i w1 w2 h hr => h.trans (R8.below hr h.size)) (fun i j v w1 w2 hk hij h hr => FactB.stable _ (by kernel_rfl) (by kernel_rfl) _ i j v w1 w2 hk hij h hr) (fun n o ho a wz hI hag hdep => ?_) (fun a wz hI hag hf => ?_)
        · have t0 : a.eval (.tmp 0) = .slice (some ⟨gl, ol, none⟩) ln cl := hag.old 0 _ (by kernel_rfl) rfl
          have t3 : a.eval (.tmp 3) = .pointer (some ⟨g3, 0, none⟩) := hag.old 3 _ (by kernel_rfl) rfl
          have t4 : a.eval (.tmp 4) = .int .i64 k := hag.old 4 _ (by kernel_rfl) rfl
          have t5 : a.eval (.tmp 5) = .pointer (some ⟨g5, 0, none⟩) := hag.old 5 _ (by kernel_rfl) rfl
          have t6 : a.eval (.tmp 6) = .slice (some ⟨gp, so, none⟩) p cp := hag.old 6 _ (by kernel_rfl) rfl
          have t7 : a.eval (.tmp 7) = .int .i64 0 := hag.old 7 _ (by kernel_rfl) rfl
          match n, ho with
          | 0, ho =>
            obtain rfl := (Option.some.inj ho).symm
            exact Or.inl ⟨rfl, QT.wp_value (BigFrame.run_move (.tmp 7) rfl wz) ⟨_, rfl, t7, R8.of (by decide) (by decide) (Below.refl _ _)⟩⟩
          | 1, ho =>
            obtain rfl := (Option.some.inj ho).symm
            have d27 : a.eval (.tmp 27) = .int .i64 0 := hdep _ (Array.mem_of_getElem? (i := 0) rfl) rfl _ _ rfl rfl
            exact Or.inl ⟨rfl, QT.wp_value (v := .bool false) (by simp [go_sem, QT.nf d27]) ⟨_, rfl, rfl, R8.of (by decide) (by decide) (Below.refl _ _)⟩⟩
          | 2, ho =>
            obtain rfl := (Option.some.inj ho).symm
            have d28 : a.eval (.tmp 28) = .bool false := hdep _ (Array.mem_of_getElem? (i := 0) rfl) rfl _ _ rfl rfl
            exact Or.inl ⟨rfl, QT.wp_value (BigFrame.run_move (.tmp 28) rfl wz) ⟨_, rfl, d28, R8.of (by decide) (by decide) (Below.refl _ _)⟩⟩
          | 3, ho =>
            obtain rfl := (Option.some.inj ho).symm
            have d29 : a.eval (.tmp 29) = .bool false := hdep _ (Array.mem_of_getElem? (i := 0) rfl) rfl _ _ rfl rfl
            exact Or.inl ⟨QT.wanted_of rfl rfl rfl d29, wp_load_row 23 (.tmp 3) rfl g3 t3 23 CR (0, 0) _ ((hI.block g3 HL3.out).trans HG3.out) Try.underlying23 rfl HRR.out.info ⟨_, rfl, rfl, R8.of (by decide) (by decide) (Below.refl _ _)⟩⟩
          | 4, ho =>
            obtain rfl := (Option.some.inj ho).symm
            have d29 : a.eval (.tmp 29) = .bool false := hdep _ (Array.mem_of_getElem? (i := 0) rfl) rfl _ _ rfl rfl
            exact Or.inl ⟨QT.wanted_of rfl rfl rfl d29, QT.wp_value (BigFrame.run_move (.tmp 0) rfl wz) ⟨_, rfl, t0, R8.of (by decide) (by decide) (Below.refl _ _)⟩⟩
          | 5, ho =>
            obtain rfl := (Option.some.inj ho).symm
            have d31 : a.eval (.tmp 31) = .slice (some ⟨gl, ol, none⟩) ln cl := hdep _ (Array.mem_of_getElem? (i := 0) rfl) rfl _ _ rfl rfl
            have d29 : a.eval (.tmp 29) = .bool false := hdep _ (Array.mem_of_getElem? (i := 1) rfl) rfl _ _ rfl rfl
            exact Or.inl ⟨QT.wanted_of rfl rfl rfl d29, QT.wp_value (v := .int .i64 ln) (by simp [go_sem, QT.nf d31]) ⟨_, rfl, rfl, R8.of (by decide) (by decide) (Below.refl _ _)⟩⟩
          | 6, ho =>
            obtain rfl := (Option.some.inj ho).symm
            have d29 : a.eval (.tmp 29) = .bool false := hdep _ (Array.mem_of_getElem? (i := 0) rfl) rfl _ _ rfl rfl
            exact Or.inl ⟨QT.wanted_of rfl rfl rfl d29, QT.wp_value (BigFrame.run_move (.tmp 4) rfl wz) ⟨_, rfl, t4, R8.of (by decide) (by decide) (Below.refl _ _)⟩⟩
          | 7, ho =>
            obtain rfl := (Option.some.inj ho).symm
            have d29 : a.eval (.tmp 29) = .bool false := hdep _ (Array.mem_of_getElem? (i := 0) rfl) rfl _ _ rfl rfl
            exact Or.inl ⟨QT.wanted_of rfl rfl rfl d29, wp_load_row 23 (.tmp 5) rfl g5 t5 23 CH (0, 0) _ ((hI.block g5 HL5.out).trans HG5.out) Try.underlying23 rfl HRH.out.info ⟨_, rfl, rfl, R8.of (by decide) (by decide) (Below.refl _ _)⟩⟩
          | 8, ho =>
            obtain rfl := (Option.some.inj ho).symm
            have d29 : a.eval (.tmp 29) = .bool false := hdep _ (Array.mem_of_getElem? (i := 0) rfl) rfl _ _ rfl rfl
            exact Or.inl ⟨QT.wanted_of rfl rfl rfl d29, QT.wp_value (BigFrame.run_move (.tmp 6) rfl wz) ⟨_, rfl, t6, R8.of (by decide) (by decide) (Below.refl _ _)⟩⟩
          | 9, ho =>
            obtain rfl := (Option.some.inj ho).symm
            have d30 : a.eval (.tmp 30) = .agg CR := hdep _ (Array.mem_of_getElem? (i := 0) rfl) rfl _ _ rfl rfl
            have d32 : a.eval (.tmp 32) = .int .i64 ln := hdep _ (Array.mem_of_getElem? (i := 1) rfl) rfl _ _ rfl rfl
            have d33 : a.eval (.tmp 33) = .int .i64 k := hdep _ (Array.mem_of_getElem? (i := 2) rfl) rfl _ _ rfl rfl
            have d34 : a.eval (.tmp 34) = .agg CH := hdep _ (Array.mem_of_getElem? (i := 3) rfl) rfl _ _ rfl rfl
            have d35 : a.eval (.tmp 35) = .slice (some ⟨gp, so, none⟩) p cp := hdep _ (Array.mem_of_getElem? (i := 4) rfl) rfl _ _ rfl rfl
            have d29 : a.eval (.tmp 29) = .bool false := hdep _ (Array.mem_of_getElem? (i := 6) rfl) rfl _ _ rfl rfl
            exact Or.inl ⟨QT.wanted_of rfl rfl rfl d29, QT.wp_enter (f := 20) (args := #[.agg CR, .int .i64 ln, .int .i64 k, .agg CH, .slice (some ⟨gp, so, none⟩) p cp]) (by simp [go_sem, QT.nf d30, QT.nf d32, QT.nf d33, QT.nf d34, QT.nf d35]) (HCK.out wz hI) fun w' hb => ⟨_, rfl, rfl, R8.of (by decide) (by decide) hb⟩⟩
          | 10, ho =>
            obtain rfl := (Option.some.inj ho).symm
            have d36 : a.eval (.tmp 36) = .bool true := hdep _ (Array.mem_of_getElem? (i := 0) rfl) rfl _ _ rfl rfl
            have d29 : a.eval (.tmp 29) = .bool false := hdep _ (Array.mem_of_getElem? (i := 1) rfl) rfl _ _ rfl rfl
            exact Or.inl ⟨QT.wanted_of rfl rfl rfl d29, QT.wp_value (v := .bool false) (by simp [go_sem, QT.nf d36]) ⟨_, rfl, rfl, R8.of (by decide) (by decide) (Below.refl _ _)⟩⟩
          | 11, ho =>
            obtain rfl := (Option.some.inj ho).symm
            have d29 : a.eval (.tmp 29) = .bool false := hdep _ (Array.mem_of_getElem? (i := 0) rfl) rfl _ _ rfl rfl
            have d37 : a.eval (.tmp 37) = .bool false := hdep _ (Array.mem_of_getElem? (i := 1) rfl) rfl _ _ rfl rfl
            exact Or.inl ⟨rfl, QT.wp_value (v := .bool false) (by simp [go_sem, QT.nf d29, QT.nf d37]) ⟨_, rfl, rfl, R8.of (by decide) (by decide) (Below.refl _ _)⟩⟩
          | 12, ho =>
            obtain rfl := (Option.some.inj ho).symm
            have d38 : a.eval (.tmp 38) = .bool false := hdep _ (Array.mem_of_getElem? (i := 0) rfl) rfl _ _ rfl rfl
            exact Or.inl ⟨rfl, QT.wp_value (BigFrame.run_move (.tmp 38) rfl wz) ⟨_, rfl, d38, R8.of (by decide) (by decide) (Below.refl _ _)⟩⟩
          | 13, ho =>
            obtain rfl := (Option.some.inj ho).symm
            have d39 : a.eval (.tmp 39) = .bool false := hdep _ (Array.mem_of_getElem? (i := 0) rfl) rfl _ _ rfl rfl
            exact Or.inl ⟨QT.wanted_of rfl rfl rfl d39, wp_load_row 23 (.tmp 3) rfl g3 t3 23 CR (0, 0) _ ((hI.block g3 HL3.out).trans HG3.out) Try.underlying23 rfl HRR.out.info ⟨_, rfl, rfl, R8.of (by decide) (by decide) (Below.refl _ _)⟩⟩
          | 14, ho =>
            obtain rfl := (Option.some.inj ho).symm
            have d39 : a.eval (.tmp 39) = .bool false := hdep _ (Array.mem_of_getElem? (i := 0) rfl) rfl _ _ rfl rfl
            exact Or.inl ⟨QT.wanted_of rfl rfl rfl d39, QT.wp_value (BigFrame.run_move (.tmp 0) rfl wz) ⟨_, rfl, t0, R8.of (by decide) (by decide) (Below.refl _ _)⟩⟩
          | 15, ho =>
            obtain rfl := (Option.some.inj ho).symm
            have d41 : a.eval (.tmp 41) = .slice (some ⟨gl, ol, none⟩) ln cl := hdep _ (Array.mem_of_getElem? (i := 0) rfl) rfl _ _ rfl rfl
            have d39 : a.eval (.tmp 39) = .bool false := hdep _ (Array.mem_of_getElem? (i := 1) rfl) rfl _ _ rfl rfl
            exact Or.inl ⟨QT.wanted_of rfl rfl rfl d39, QT.wp_value (v := .int .i64 ln) (by simp [go_sem, QT.nf d41]) ⟨_, rfl, rfl, R8.of (by decide) (by decide) (Below.refl _ _)⟩⟩
          | 16, ho =>
            obtain rfl := (Option.some.inj ho).symm
            have d39 : a.eval (.tmp 39) = .bool false := hdep _ (Array.mem_of_getElem? (i := 0) rfl) rfl _ _ rfl rfl
            exact Or.inl ⟨QT.wanted_of rfl rfl rfl d39, QT.wp_value (BigFrame.run_move (.tmp 4) rfl wz) ⟨_, rfl, t4, R8.of (by decide) (by decide) (Below.refl _ _)⟩⟩
          | 17, ho =>
            obtain rfl := (Option.some.inj ho).symm
            have d39 : a.eval (.tmp 39) = .bool false := hdep _ (Array.mem_of_getElem? (i := 0) rfl) rfl _ _ rfl rfl
            exact Or.inl ⟨QT.wanted_of rfl rfl rfl d39, wp_load_row 23 (.tmp 5) rfl g5 t5 23 CH (0, 0) _ ((hI.block g5 HL5.out).trans HG5.out) Try.underlying23 rfl HRH.out.info ⟨_, rfl, rfl, R8.of (by decide) (by decide) (Below.refl _ _)⟩⟩
          | 18, ho =>
            obtain rfl := (Option.some.inj ho).symm
            have d39 : a.eval (.tmp 39) = .bool false := hdep _ (Array.mem_of_getElem? (i := 0) rfl) rfl _ _ rfl rfl
            exact Or.inl ⟨QT.wanted_of rfl rfl rfl d39, wp_runTo (.slice (some ⟨wz.heap.size, 0, none⟩) 0 0) (wz.alloc (.cells #[] 23)) (by simp [go_sem]) ⟨_, rfl, ⟨_, rfl, hI.size, heap_alloc_new _ _⟩, R8.of (by decide) (by decide) ((Below.refl _ _).alloc (Nat.le_refl _) _)⟩⟩
          | 19, ho =>
            obtain rfl := (Option.some.inj ho).symm
            have d39 : a.eval (.tmp 39) = .bool false := hdep _ (Array.mem_of_getElem? (i := 0) rfl) rfl _ _ rfl rfl
            exact Or.inl ⟨QT.wanted_of rfl rfl rfl d39, QT.wp_value (BigFrame.run_move (.tmp 6) rfl wz) ⟨_, rfl, t6, R8.of (by decide) (by decide) (Below.refl _ _)⟩⟩
          | 20, ho =>
            obtain rfl := (Option.some.inj ho).symm
            have d45 : ((.empty w8.heap.size) : FactB).holds (a.eval (.tmp 45)) wz := hdep _ (Array.mem_of_getElem? (i := 0) rfl) rfl _ _ rfl rfl
            have d46 : a.eval (.tmp 46) = .slice (some ⟨gp, so, none⟩) p cp := hdep _ (Array.mem_of_getElem? (i := 1) rfl) rfl _ _ rfl rfl
            have d39 : a.eval (.tmp 39) = .bool false := hdep _ (Array.mem_of_getElem? (i := 3) rfl) rfl _ _ rfl rfl
            exact Or.inl ⟨QT.wanted_of rfl rfl rfl d39, wp_append_on0 (.tmp 45) (.tmp 46) rfl w8.heap.size d45 (some ⟨gp, so, none⟩) p cp P d46 (HPW.out wz hI) HP32.out HPL.out HP0.out HPB.out hI.size fun v' w' h1 h2 => ⟨_, rfl, h1, h2⟩⟩
          | 21, ho =>
            obtain rfl := (Option.some.inj ho).symm
            have d39 : a.eval (.tmp 39) = .bool false := hdep _ (Array.mem_of_getElem? (i := 0) rfl) rfl _ _ rfl rfl
            exact Or.inl ⟨QT.wanted_of rfl rfl rfl d39, wp_load_row 23 (.tmp 5) rfl g5 t5 23 CH (0, 0) _ ((hI.block g5 HL5.out).trans HG5.out) Try.underlying23 rfl HRH.out.info ⟨_, rfl, rfl, R8.of (by decide) (by decide) (Below.refl _ _)⟩⟩
          | 22, ho =>
            obtain rfl := (Option.some.inj ho).symm
            have d48 : a.eval (.tmp 48) = .agg CH := hdep _ (Array.mem_of_getElem? (i := 0) rfl) rfl _ _ rfl rfl
            have d39 : a.eval (.tmp 39) = .bool false := hdep _ (Array.mem_of_getElem? (i := 1) rfl) rfl _ _ rfl rfl
            exact Or.inl ⟨QT.wanted_of rfl rfl rfl d39, wp_build1 (.tmp 48) rfl h HHL.out CH HCH.out d48 fun g w' hr hb => ⟨_, rfl, ⟨_, _, rfl, Nat.le_refl _, hr.hashes (cap := 1)⟩, R8.of (by decide) (by decide) hb⟩⟩
          | 23, ho =>
            obtain rfl := (Option.some.inj ho).symm
            have d47 : ((.own w8.heap.size P) : FactB).holds (a.eval (.tmp 47)) wz := hdep _ (Array.mem_of_getElem? (i := 0) rfl) rfl _ _ rfl rfl
            have d49 : ((.hs [h]) : FactB).holds (a.eval (.tmp 49)) wz := hdep _ (Array.mem_of_getElem? (i := 1) rfl) rfl _ _ rfl rfl
            have d39 : a.eval (.tmp 39) = .bool false := hdep _ (Array.mem_of_getElem? (i := 3) rfl) rfl _ _ rfl rfl
            obtain ⟨a1, c1, d1, _, hh1⟩ := d49
            exact Or.inl ⟨QT.wanted_of rfl rfl rfl d39, wp_append_on (.tmp 47) (.tmp 49) rfl w8.heap.size P d47 a1 c1 h HHL.out d1 hh1 HPC.out hI.size fun v' w' h1 h2 => ⟨_, rfl, h1, h2⟩⟩
          | 24, ho =>
            obtain rfl := (Option.some.inj ho).symm
            have d40 : a.eval (.tmp 40) = .agg CR := hdep _ (Array.mem_of_getElem? (i := 0) rfl) rfl _ _ rfl rfl
            have d42 : a.eval (.tmp 42) = .int .i64 ln := hdep _ (Array.mem_of_getElem? (i := 1) rfl) rfl _ _ rfl rfl
            have d43 : a.eval (.tmp 43) = .int .i64 k := hdep _ (Array.mem_of_getElem? (i := 2) rfl) rfl _ _ rfl rfl
            have d44 : a.eval (.tmp 44) = .agg CH := hdep _ (Array.mem_of_getElem? (i := 3) rfl) rfl _ _ rfl rfl
            have d50 : ((.hs (P ++ [h])) : FactB).holds (a.eval (.tmp 50)) wz := hdep _ (Array.mem_of_getElem? (i := 4) rfl) rfl _ _ rfl rfl
            have d39 : a.eval (.tmp 39) = .bool false := hdep _ (Array.mem_of_getElem? (i := 6) rfl) rfl _ _ rfl rfl
            obtain ⟨a2, c2, e50, hc2, hh2⟩ := d50
            exact Or.inl ⟨QT.wanted_of rfl rfl rfl d39, QT.wp_enter (f := 20) (args := #[.agg CR, .int .i64 ln, .int .i64 k, .agg CH, .slice a2 (P ++ [h]).length c2]) (by simp [go_sem, QT.nf d40, QT.nf d42, QT.nf d43, QT.nf d44, QT.nf e50]) (HCM.out wz a2 c2 hc2 hh2) fun w' hb => ⟨_, rfl, rfl, R8.of (by decide) (by decide) hb⟩⟩
          | 25, ho =>
            obtain rfl := (Option.some.inj ho).symm
            have d39 : a.eval (.tmp 39) = .bool false := hdep _ (Array.mem_of_getElem? (i := 0) rfl) rfl _ _ rfl rfl
            have d51 : a.eval (.tmp 51) = .bool false := hdep _ (Array.mem_of_getElem? (i := 1) rfl) rfl _ _ rfl rfl
            exact Or.inl ⟨rfl, QT.wp_value (v := .bool false) (by simp [go_sem, QT.nf d39, QT.nf d51]) ⟨_, rfl, rfl, R8.of (by decide) (by decide) (Below.refl _ _)⟩⟩
          | 26, ho =>
            obtain rfl := (Option.some.inj ho).symm
            have d52 : a.eval (.tmp 52) = .bool false := hdep _ (Array.mem_of_getElem? (i := 0) rfl) rfl _ _ rfl rfl
            exact Or.inl ⟨rfl, QT.wp_value (BigFrame.run_move (.tmp 52) rfl wz) ⟨_, rfl, d52, R8.of (by decide) (by decide) (Below.refl _ _)⟩⟩
          | 27, ho =>
            obtain rfl := (Option.some.inj ho).symm
            have d53 : a.eval (.tmp 53) = .bool false := hdep _ (Array.mem_of_getElem? (i := 0) rfl) rfl _ _ rfl rfl
            exact Or.inl ⟨QT.wanted_of rfl rfl rfl d53, QT.wp_value (BigFrame.run_move (.tmp 6) rfl wz) ⟨_, rfl, t6, R8.of (by decide) (by decide) (Below.refl _ _)⟩⟩
          | 28, ho =>
            obtain rfl := (Option.some.inj ho).symm
            have d54 : a.eval (.tmp 54) = .slice (some ⟨gp, so, none⟩) p cp := hdep _ (Array.mem_of_getElem? (i := 0) rfl) rfl _ _ rfl rfl
            have d53 : a.eval (.tmp 53) = .bool false := hdep _ (Array.mem_of_getElem? (i := 1) rfl) rfl _ _ rfl rfl
            exact Or.inl ⟨QT.wanted_of rfl rfl rfl d53, QT.wp_value (v := .int .i64 p) (by simp [go_sem, QT.nf d54]) ⟨_, rfl, rfl, R8.of (by decide) (by decide) (Below.refl _ _)⟩⟩
          | 29, ho =>
            obtain rfl := (Option.some.inj ho).symm
            have d55 : a.eval (.tmp 55) = .int .i64 p := hdep _ (Array.mem_of_getElem? (i := 0) rfl) rfl _ _ rfl rfl
            have d53 : a.eval (.tmp 53) = .bool false := hdep _ (Array.mem_of_getElem? (i := 1) rfl) rfl _ _ rfl rfl
            exact Or.inl ⟨QT.wanted_of rfl rfl rfl d53, QT.wp_value (v := .bool true) (by simp [go_sem, QT.nf d55, hp0]) ⟨_, rfl, rfl, R8.of (by decide) (by decide) (Below.refl _ _)⟩⟩
          | 30, ho =>
            obtain rfl := (Option.some.inj ho).symm
            have d56 : a.eval (.tmp 56) = .bool true := hdep _ (Array.mem_of_getElem? (i := 0) rfl) rfl _ _ rfl rfl
            have d53 : a.eval (.tmp 53) = .bool false := hdep _ (Array.mem_of_getElem? (i := 2) rfl) rfl _ _ rfl rfl
            exact Or.inl ⟨QT.wanted_of rfl rfl rfl d53, QT.wp_value (BigFrame.run_move (.tmp 56) rfl wz) ⟨_, rfl, d56, R8.of (by decide) (by decide) (Below.refl _ _)⟩⟩
          | 31, ho =>
            obtain rfl := (Option.some.inj ho).symm
            have d57 : a.eval (.tmp 57) = .bool true := hdep _ (Array.mem_of_getElem? (i := 0) rfl) rfl _ _ rfl rfl
            exact Or.inl ⟨QT.wanted_of rfl rfl rfl d57, wp_load_row 23 (.tmp 3) rfl g3 t3 23 CR (0, 0) _ ((hI.block g3 HL3.out).trans HG3.out) Try.underlying23 rfl HRR.out.info ⟨_, rfl, rfl, R8.of (by decide) (by decide) (Below.refl _ _)⟩⟩
          | 32, ho =>
            obtain rfl := (Option.some.inj ho).symm
            have d57 : a.eval (.tmp 57) = .bool true := hdep _ (Array.mem_of_getElem? (i := 0) rfl) rfl _ _ rfl rfl
            exact Or.inl ⟨QT.wanted_of rfl rfl rfl d57, QT.wp_value (BigFrame.run_move (.tmp 0) rfl wz) ⟨_, rfl, t0, R8.of (by decide) (by decide) (Below.refl _ _)⟩⟩
          | 33, ho =>
            obtain rfl := (Option.some.inj ho).symm
            have d59 : a.eval (.tmp 59) = .slice (some ⟨gl, ol, none⟩) ln cl := hdep _ (Array.mem_of_getElem? (i := 0) rfl) rfl _ _ rfl rfl
            have d57 : a.eval (.tmp 57) = .bool true := hdep _ (Array.mem_of_getElem? (i := 1) rfl) rfl _ _ rfl rfl
            exact Or.inl ⟨QT.wanted_of rfl rfl rfl d57, QT.wp_value (v := .int .i64 ln) (by simp [go_sem, QT.nf d59]) ⟨_, rfl, rfl, R8.of (by decide) (by decide) (Below.refl _ _)⟩⟩
          | 34, ho =>
            obtain rfl := (Option.some.inj ho).symm
            have d57 : a.eval (.tmp 57) = .bool true := hdep _ (Array.mem_of_getElem? (i := 0) rfl) rfl _ _ rfl rfl
            exact Or.inl ⟨QT.wanted_of rfl rfl rfl d57, QT.wp_value (BigFrame.run_move (.tmp 4) rfl wz) ⟨_, rfl, t4, R8.of (by decide) (by decide) (Below.refl _ _)⟩⟩
          | 35, ho =>
            obtain rfl := (Option.some.inj ho).symm
            have d57 : a.eval (.tmp 57) = .bool true := hdep _ (Array.mem_of_getElem? (i := 0) rfl) rfl _ _ rfl rfl
            exact Or.inl ⟨QT.wanted_of rfl rfl rfl d57, wp_load_row 23 (.tmp 5) rfl g5 t5 23 CH (0, 0) _ ((hI.block g5 HL5.out).trans HG5.out) Try.underlying23 rfl HRH.out.info ⟨_, rfl, rfl, R8.of (by decide) (by decide) (Below.refl _ _)⟩⟩
          | 36, ho =>
            obtain rfl := (Option.some.inj ho).symm
            have d57 : a.eval (.tmp 57) = .bool true := hdep _ (Array.mem_of_getElem? (i := 0) rfl) rfl _ _ rfl rfl
            exact Or.inl ⟨QT.wanted_of rfl rfl rfl d57, QT.wp_value (BigFrame.run_move (.tmp 6) rfl wz) ⟨_, rfl, t6, R8.of (by decide) (by decide) (Below.refl _ _)⟩⟩
          | 37, ho =>
            obtain rfl := (Option.some.inj ho).symm
            have d63 : a.eval (.tmp 63) = .slice (some ⟨gp, so, none⟩) p cp := hdep _ (Array.mem_of_getElem? (i := 0) rfl) rfl _ _ rfl rfl
            have d57 : a.eval (.tmp 57) = .bool true := hdep _ (Array.mem_of_getElem? (i := 1) rfl) rfl _ _ rfl rfl
            exact Or.inl ⟨QT.wanted_of rfl rfl rfl d57, QT.wp_value (v := .slice sv p1 c1) (by rw [hsv]; by_cases hc : cp = 1 <;> (simp [go_sem, QT.nf d63, hsl1, hc, hp1, hc1]; try omega)) ⟨_, rfl, rfl, R8.of (by decide) (by decide) (Below.refl _ _)⟩⟩
          | 38, ho =>
            obtain rfl := (Option.some.inj ho).symm
            have d58 : a.eval (.tmp 58) = .agg CR := hdep _ (Array.mem_of_getElem? (i := 0) rfl) rfl _ _ rfl rfl
            have d60 : a.eval (.tmp 60) = .int .i64 ln := hdep _ (Array.mem_of_getElem? (i := 1) rfl) rfl _ _ rfl rfl
            have d61 : a.eval (.tmp 61) = .int .i64 k := hdep _ (Array.mem_of_getElem? (i := 2) rfl) rfl _ _ rfl rfl
            have d62 : a.eval (.tmp 62) = .agg CH := hdep _ (Array.mem_of_getElem? (i := 3) rfl) rfl _ _ rfl rfl
            have d64 : a.eval (.tmp 64) = .slice sv p1 c1 := hdep _ (Array.mem_of_getElem? (i := 4) rfl) rfl _ _ rfl rfl
            have d57 : a.eval (.tmp 57) = .bool true := hdep _ (Array.mem_of_getElem? (i := 6) rfl) rfl _ _ rfl rfl
            exact Or.inl ⟨QT.wanted_of rfl rfl rfl d57, QT.wp_enter (f := 20) (args := #[.agg CR, .int .i64 ln, .int .i64 k, .agg CH, .slice sv p1 c1]) (by simp [go_sem, QT.nf d58, QT.nf d60, QT.nf d61, QT.nf d62, QT.nf d64]) (HCL.out wz hI) fun w' hb => ⟨_, rfl, rfl, R8.of (by decide) (by decide) hb⟩⟩
          | 39, ho =>
            obtain rfl := (Option.some.inj ho).symm
            have d57 : a.eval (.tmp 57) = .bool true := hdep _ (Array.mem_of_getElem? (i := 0) rfl) rfl _ _ rfl rfl
            have d65 : a.eval (.tmp 65) = .bool false := hdep _ (Array.mem_of_getElem? (i := 1) rfl) rfl _ _ rfl rfl
            have d53 : a.eval (.tmp 53) = .bool false := hdep _ (Array.mem_of_getElem? (i := 2) rfl) rfl _ _ rfl rfl
            exact Or.inl ⟨QT.wanted_of rfl rfl rfl d53, QT.wp_value (v := .bool false) (by simp [go_sem, QT.nf d57, QT.nf d65]) ⟨_, rfl, rfl, R8.of (by decide) (by decide) (Below.refl _ _)⟩⟩
          | 40, ho =>
            obtain rfl := (Option.some.inj ho).symm
            have d53 : a.eval (.tmp 53) = .bool false := hdep _ (Array.mem_of_getElem? (i := 0) rfl) rfl _ _ rfl rfl
            have d66 : a.eval (.tmp 66) = .bool false := hdep _ (Array.mem_of_getElem? (i := 1) rfl) rfl _ _ rfl rfl
            exact Or.inl ⟨rfl, QT.wp_value (v := .bool false) (by simp [go_sem, QT.nf d53, QT.nf d66]) ⟨_, rfl, rfl, R8.of (by decide) (by decide) (Below.refl _ _)⟩⟩
          | 41, ho =>
            obtain rfl := (Option.some.inj ho).symm
            have d67 : a.eval (.tmp 67) = .bool false := hdep _ (Array.mem_of_getElem? (i := 0) rfl) rfl _ _ rfl rfl
            exact Or.inl ⟨rfl, QT.wp_value (BigFrame.run_move (.tmp 67) rfl wz) ⟨_, rfl, d67, R8.of (by decide) (by decide) (Below.refl _ _)⟩⟩
          | 42, ho =>
            obtain rfl := (Option.some.inj ho).symm
            have d68 : a.eval (.tmp 68) = .bool false := hdep _ (Array.mem_of_getElem? (i := 0) rfl) rfl _ _ rfl rfl
            exact Or.inl ⟨QT.wanted_of rfl rfl rfl d68, wp_load_row 23 (.tmp 3) rfl g3 t3 23 CR (0, 0) _ ((hI.block g3 HL3.out).trans HG3.out) Try.underlying23 rfl HRR.out.info ⟨_, rfl, rfl, R8.of (by decide) (by decide) (Below.refl _ _)⟩⟩
          | 43, ho =>
            obtain rfl := (Option.some.inj ho).symm
            have d68 : a.eval (.tmp 68) = .bool false := hdep _ (Array.mem_of_getElem? (i := 0) rfl) rfl _ _ rfl rfl
            exact Or.inl ⟨QT.wanted_of rfl rfl rfl d68, QT.wp_value (BigFrame.run_move (.tmp 0) rfl wz) ⟨_, rfl, t0, R8.of (by decide) (by decide) (Below.refl _ _)⟩⟩
          | 44, ho =>
            obtain rfl := (Option.some.inj ho).symm
            have d70 : a.eval (.tmp 70) = .slice (some ⟨gl, ol, none⟩) ln cl := hdep _ (Array.mem_of_getElem? (i := 0) rfl) rfl _ _ rfl rfl
            have d68 : a.eval (.tmp 68) = .bool false := hdep _ (Array.mem_of_getElem? (i := 1) rfl) rfl _ _ rfl rfl
            exact Or.inl ⟨QT.wanted_of rfl rfl rfl d68, QT.wp_value (v := .int .i64 ln) (by simp [go_sem, QT.nf d70]) ⟨_, rfl, rfl, R8.of (by decide) (by decide) (Below.refl _ _)⟩⟩
          | 45, ho =>
            obtain rfl := (Option.some.inj ho).symm
            have d68 : a.eval (.tmp 68) = .bool false := hdep _ (Array.mem_of_getElem? (i := 0) rfl) rfl _ _ rfl rfl
            exact Or.inl ⟨QT.wanted_of rfl rfl rfl d68, QT.wp_value (BigFrame.run_move (.tmp 0) rfl wz) ⟨_, rfl, t0, R8.of (by decide) (by decide) (Below.refl _ _)⟩⟩
          | 46, ho =>
            obtain rfl := (Option.some.inj ho).symm
            have d72 : a.eval (.tmp 72) = .slice (some ⟨gl, ol, none⟩) ln cl := hdep _ (Array.mem_of_getElem? (i := 0) rfl) rfl _ _ rfl rfl
            have d68 : a.eval (.tmp 68) = .bool false := hdep _ (Array.mem_of_getElem? (i := 1) rfl) rfl _ _ rfl rfl
            exact Or.inl ⟨QT.wanted_of rfl rfl rfl d68, QT.wp_value (v := .int .i64 ln) (by simp [go_sem, QT.nf d72]) ⟨_, rfl, rfl, R8.of (by decide) (by decide) (Below.refl _ _)⟩⟩
          | 47, ho =>
            obtain rfl := (Option.some.inj ho).symm
            have d68 : a.eval (.tmp 68) = .bool false := hdep _ (Array.mem_of_getElem? (i := 0) rfl) rfl _ _ rfl rfl
            exact Or.inl ⟨QT.wanted_of rfl rfl rfl d68, QT.wp_value (BigFrame.run_move (.tmp 4) rfl wz) ⟨_, rfl, t4, R8.of (by decide) (by decide) (Below.refl _ _)⟩⟩
          | 48, ho =>
            obtain rfl := (Option.some.inj ho).symm
            have d73 : a.eval (.tmp 73) = .int .i64 ln := hdep _ (Array.mem_of_getElem? (i := 0) rfl) rfl _ _ rfl rfl
            have d74 : a.eval (.tmp 74) = .int .i64 k := hdep _ (Array.mem_of_getElem? (i := 1) rfl) rfl _ _ rfl rfl
            have d68 : a.eval (.tmp 68) = .bool false := hdep _ (Array.mem_of_getElem? (i := 2) rfl) rfl _ _ rfl rfl
            exact Or.inl ⟨QT.wanted_of rfl rfl rfl d68, QT.wp_value (v := .int .i64 nk) (by simp [go_sem, QT.nf d73, QT.nf d74, hnki, hwnk]) ⟨_, rfl, rfl, R8.of (by decide) (by decide) (Below.refl _ _)⟩⟩
          | 49, ho =>
            obtain rfl := (Option.some.inj ho).symm
            have d68 : a.eval (.tmp 68) = .bool false := hdep _ (Array.mem_of_getElem? (i := 0) rfl) rfl _ _ rfl rfl
            exact Or.inl ⟨QT.wanted_of rfl rfl rfl d68, wp_load_row 23 (.tmp 5) rfl g5 t5 23 CH (0, 0) _ ((hI.block g5 HL5.out).trans HG5.out) Try.underlying23 rfl HRH.out.info ⟨_, rfl, rfl, R8.of (by decide) (by decide) (Below.refl _ _)⟩⟩
          | 50, ho =>
            obtain rfl := (Option.some.inj ho).symm
            have d68 : a.eval (.tmp 68) = .bool false := hdep _ (Array.mem_of_getElem? (i := 0) rfl) rfl _ _ rfl rfl
            exact Or.inl ⟨QT.wanted_of rfl rfl rfl d68, QT.wp_value (BigFrame.run_move (.tmp 6) rfl wz) ⟨_, rfl, t6, R8.of (by decide) (by decide) (Below.refl _ _)⟩⟩
          | 51, ho =>
            obtain rfl := (Option.some.inj ho).symm
            have d69 : a.eval (.tmp 69) = .agg CR := hdep _ (Array.mem_of_getElem? (i := 0) rfl) rfl _ _ rfl rfl
            have d71 : a.eval (.tmp 71) = .int .i64 ln := hdep _ (Array.mem_of_getElem? (i := 1) rfl) rfl _ _ rfl rfl
            have d75 : a.eval (.tmp 75) = .int .i64 nk := hdep _ (Array.mem_of_getElem? (i := 2) rfl) rfl _ _ rfl rfl
            have d76 : a.eval (.tmp 76) = .agg CH := hdep _ (Array.mem_of_getElem? (i := 3) rfl) rfl _ _ rfl rfl
            have d77 : a.eval (.tmp 77) = .slice (some ⟨gp, so, none⟩) p cp := hdep _ (Array.mem_of_getElem? (i := 4) rfl) rfl _ _ rfl rfl
            have d68 : a.eval (.tmp 68) = .bool false := hdep _ (Array.mem_of_getElem? (i := 6) rfl) rfl _ _ rfl rfl
            exact Or.inl ⟨QT.wanted_of rfl rfl rfl d68, QT.wp_enter (f := 20) (args := #[.agg CR, .int .i64 ln, .int .i64 nk, .agg CH, .slice (some ⟨gp, so, none⟩) p cp]) (by simp [go_sem, QT.nf d69, QT.nf d71, QT.nf d75, QT.nf d76, QT.nf d77]) (HCO.out wz) fun w' hb => ⟨_, rfl, rfl, R8.of (by decide) (by decide) hb⟩⟩
          | 52, ho =>
            obtain rfl := (Option.some.inj ho).symm
            have d68 : a.eval (.tmp 68) = .bool false := hdep _ (Array.mem_of_getElem? (i := 0) rfl) rfl _ _ rfl rfl
            have d78 : a.eval (.tmp 78) = .bool false := hdep _ (Array.mem_of_getElem? (i := 1) rfl) rfl _ _ rfl rfl
            exact Or.inl ⟨rfl, QT.wp_value (v := .bool false) (by simp [go_sem, QT.nf d68, QT.nf d78]) ⟨_, rfl, rfl, R8.of (by decide) (by decide) (Below.refl _ _)⟩⟩
          | n + 53, ho => simp at ho
        · have f0 : a.eval (.tmp 27) = .int .i64 0 := hf 0 _ _ (by decide) rfl rfl
          have f1 : a.eval (.tmp 28) = .bool false := hf 1 _ _ (by decide) rfl rfl
          have f2 : a.eval (.tmp 29) = .bool false := hf 2 _ _ (by decide) rfl rfl
          have f3 : a.eval (.tmp 30) = .agg CR := hf 3 _ _ (by decide) rfl rfl
          have f4 : a.eval (.tmp 31) = .slice (some ⟨gl, ol, none⟩) ln cl := hf 4 _ _ (by decide) rfl rfl
          have f5 : a.eval (.tmp 32) = .int .i64 ln := hf 5 _ _ (by decide) rfl rfl
          have f6 : a.eval (.tmp 33) = .int .i64 k := hf 6 _ _ (by decide) rfl rfl
          have f7 : a.eval (.tmp 34) = .agg CH := hf 7 _ _ (by decide) rfl rfl
          have f8 : a.eval (.tmp 35) = .slice (some ⟨gp, so, none⟩) p cp := hf 8 _ _ (by decide) rfl rfl
          have f9 : a.eval (.tmp 36) = .bool true := hf 9 _ _ (by decide) rfl rfl
          have f10 : a.eval (.tmp 37) = .bool false := hf 10 _ _ (by decide) rfl rfl
          have f11 : a.eval (.tmp 38) = .bool false := hf 11 _ _ (by decide) rfl rfl
          have f12 : a.eval (.tmp 39) = .bool false := hf 12 _ _ (by decide) rfl rfl
          have f13 : a.eval (.tmp 40) = .agg CR := hf 13 _ _ (by decide) rfl rfl
          have f14 : a.eval (.tmp 41) = .slice (some ⟨gl, ol, none⟩) ln cl := hf 14 _ _ (by decide) rfl rfl
          have f15 : a.eval (.tmp 42) = .int .i64 ln := hf 15 _ _ (by decide) rfl rfl
          have f16 : a.eval (.tmp 43) = .int .i64 k := hf 16 _ _ (by decide) rfl rfl
          have f17 : a.eval (.tmp 44) = .agg CH := hf 17 _ _ (by decide) rfl rfl
          obtain ⟨u18, f18⟩ : ∃ u, a.eval (.tmp 45) = u := ⟨_, rfl⟩
          have f19 : a.eval (.tmp 46) = .slice (some ⟨gp, so, none⟩) p cp := hf 19 _ _ (by decide) rfl rfl
          obtain ⟨u20, f20⟩ : ∃ u, a.eval (.tmp 47) = u := ⟨_, rfl⟩
          have f21 : a.eval (.tmp 48) = .agg CH := hf 21 _ _ (by decide) rfl rfl
          obtain ⟨u22, f22⟩ : ∃ u, a.eval (.tmp 49) = u := ⟨_, rfl⟩
          obtain ⟨u23, f23⟩ : ∃ u, a.eval (.tmp 50) = u := ⟨_, rfl⟩
          have f24 : a.eval (.tmp 51) = .bool false := hf 24 _ _ (by decide) rfl rfl
          have f25 : a.eval (.tmp 52) = .bool false := hf 25 _ _ (by decide) rfl rfl
          have f26 : a.eval (.tmp 53) = .bool false := hf 26 _ _ (by decide) rfl rfl
          have f27 : a.eval (.tmp 54) = .slice (some ⟨gp, so, none⟩) p cp := hf 27 _ _ (by decide) rfl rfl
          have f28 : a.eval (.tmp 55) = .int .i64 p := hf 28 _ _ (by decide) rfl rfl
          have f29 : a.eval (.tmp 56) = .bool true := hf 29 _ _ (by decide) rfl rfl
          have f30 : a.eval (.tmp 57) = .bool true := hf 30 _ _ (by decide) rfl rfl
          have f31 : a.eval (.tmp 58) = .agg CR := hf 31 _ _ (by decide) rfl rfl
          have f32 : a.eval (.tmp 59) = .slice (some ⟨gl, ol, none⟩) ln cl := hf 32 _ _ (by decide) rfl rfl
          have f33 : a.eval (.tmp 60) = .int .i64 ln := hf 33 _ _ (by decide) rfl rfl
          have f34 : a.eval (.tmp 61) = .int .i64 k := hf 34 _ _ (by decide) rfl rfl
          have f35 : a.eval (.tmp 62) = .agg CH := hf 35 _ _ (by decide) rfl rfl
          have f36 : a.eval (.tmp 63) = .slice (some ⟨gp, so, none⟩) p cp := hf 36 _ _ (by decide) rfl rfl
          have f37 : a.eval (.tmp 64) = .slice sv p1 c1 := hf 37 _ _ (by decide) rfl rfl
          have f38 : a.eval (.tmp 65) = .bool false := hf 38 _ _ (by decide) rfl rfl
          have f39 : a.eval (.tmp 66) = .bool false := hf 39 _ _ (by decide) rfl rfl
          have f40 : a.eval (.tmp 67) = .bool false := hf 40 _ _ (by decide) rfl rfl
          have f41 : a.eval (.tmp 68) = .bool false := hf 41 _ _ (by decide) rfl rfl
          have f42 : a.eval (.tmp 69) = .agg CR := hf 42 _ _ (by decide) rfl rfl
          have f43 : a.eval (.tmp 70) = .slice (some ⟨gl, ol, none⟩) ln cl := hf 43 _ _ (by decide) rfl rfl
          have f44 : a.eval (.tmp 71) = .int .i64 ln := hf 44 _ _ (by decide) rfl rfl
          have f45 : a.eval (.tmp 72) = .slice (some ⟨gl, ol, none⟩) ln cl := hf 45 _ _ (by decide) rfl rfl
          have f46 : a.eval (.tmp 73) = .int .i64 ln := hf 46 _ _ (by decide) rfl rfl
          have f47 : a.eval (.tmp 74) = .int .i64 k := hf 47 _ _ (by decide) rfl rfl
          have f48 : a.eval (.tmp 75) = .int .i64 nk := hf 48 _ _ (by decide) rfl rfl
          have f49 : a.eval (.tmp 76) = .agg CH := hf 49 _ _ (by decide) rfl rfl
          have f50 : a.eval (.tmp 77) = .slice (some ⟨gp, so, none⟩) p cp := hf 50 _ _ (by decide) rfl rfl
          have f51 : a.eval (.tmp 78) = .bool false := hf 51 _ _ (by decide) rfl rfl
          have f52 : a.eval (.tmp 79) = .bool false := hf 52 _ _ (by decide) rfl rfl
          have ha := hag.puts ((27, .int .i64 0) :: (28, .bool false) :: (29, .bool false) :: (30, .agg CR) :: (31, .slice (some ⟨gl, ol, none⟩) ln cl) :: (32, .int .i64 ln) :: (33, .int .i64 k) :: (34, .agg CH) :: (35, .slice (some ⟨gp, so, none⟩) p cp) :: (36, .bool true) :: (37, .bool false) :: (38, .bool false) :: (39, .bool false) :: (40, .agg CR) :: (41, .slice (some ⟨gl, ol, none⟩) ln cl) :: (42, .int .i64 ln) :: (43, .int .i64 k) :: (44, .agg CH) :: (45, u18) :: (46, .slice (some ⟨gp, so, none⟩) p cp) :: (47, u20) :: (48, .agg CH) :: (49, u22) :: (50, u23) :: (51, .bool false) :: (52, .bool false) :: (53, .bool false) :: (54, .slice (some ⟨gp, so, none⟩) p cp) :: (55, .int .i64 p) :: (56, .bool true) :: (57, .bool true) :: (58, .agg CR) :: (59, .slice (some ⟨gl, ol, none⟩) ln cl) :: (60, .int .i64 ln) :: (61, .int .i64 k) :: (62, .agg CH) :: (63, .slice (some ⟨gp, so, none⟩) p cp) :: (64, .slice sv p1 c1) :: (65, .bool false) :: (66, .bool false) :: (67, .bool false) :: (68, .bool false) :: (69, .agg CR) :: (70, .slice (some ⟨gl, ol, none⟩) ln cl) :: (71, .int .i64 ln) :: (72, .slice (some ⟨gl, ol, none⟩) ln cl) :: (73, .int .i64 ln) :: (74, .int .i64 k) :: (75, .int .i64 nk) :: (76, .agg CH) :: (77, .slice (some ⟨gp, so, none⟩) p cp) :: (78, .bool false) :: (79, .bool false) :: []) rfl (by simp) (by simp only [List.forall_mem_cons, List.not_mem_nil, false_implies, implies_true, and_true]; exact ⟨f0, f1, f2, f3, f4, f5, f6, f7, f8, f9, f10, f11, f12, f13, f14, f15, f16, f17, f18, f19, f20, f21, f22, f23, f24, f25, f26, f27, f28, f29, f30, f31, f32, f33, f34, f35, f36, f37, f38, f39, f40, f41, f42, f43, f44, f45, f46, f47, f48, f49, f50, f51, f52⟩)
          subst ha
          clear hag hf f0 f1 f2 f3 f4 f5 f6 f7 f8 f9 f10 f11 f12 f13 f14 f15 f16 f17 f18 f19 f20 f21 f22 f23 f24 f25 f26 f27 f28 f29 f30 f31 f32 f33 f34 f35 f36 f37 f38 f39 f40 f41 f42 f43 f44 f45 f46 f47 f48 f49 f50 f51 f52
          simp only [List.foldl_cons, List.foldl_nil, Act.put, List.setIfInBounds_toArray, List.set_cons_succ, List.set_cons_zero]
          have HI := Lib.hid (HB8.out.trans (hI.mono HB8.out.size))
          clear hI
          go_wp2_with fail
          go_roundw
          case rel => exact ⟨k + 1, by go_num, by omega, HI.out⟩
          case measure => simp [intOf]; omega
      · obtain rfl : p = 0 := by omega
        have hP0 : P = [] := List.eq_nil_of_length_eq_zero HPL.out
        subst hP0
        go_wp2_with fail
        refine QT.wp_region_facts_kill kills8 (by kernel_rfl) (fun w' => Below w8.heap.size w8 w') (fun n v w' => (((.val (.int .i64 0) :: .val (.bool false) :: .val (.bool false) :: .val (.agg CR) :: .val (.slice (some ⟨gl, ol, none⟩) ln cl) :: .val (.int .i64 ln) :: .val (.int .i64 k) :: .val (.agg CH) :: .val (.slice sp 0 cp) :: .val (.bool true) :: .val (.bool false) :: .val (.bool false) :: .val (.bool false) :: .val (.agg CR) :: .val (.slice (some ⟨gl, ol, none⟩) ln cl) :: .val (.int .i64 ln) :: .val (.int .i64 k) :: .val (.agg CH) :: .empty w8.heap.size :: .val (.slice sp 0 cp) :: .own w8.heap.size ([] : List (List UInt8)) :: .val (.agg CH) :: .hs [h] :: .hs (([] : List (List UInt8)) ++ [h]) :: .val (.bool false) :: .val (.bool false) :: .val (.bool false) :: .val (.slice sp 0 cp) :: .val (.int .i64 0) :: .val (.bool false) :: .val (.bool false) :: .val undef :: .val undef :: .val undef :: .val undef :: .val undef :: .val undef :: .val undef :: .val undef :: .val (.bool false) :: .val (.bool false) :: .val (.bool false) :: .val (.agg CR) :: .val (.slice (some ⟨gl, ol, none⟩) ln cl) :: .val (.int .i64 ln) :: .val (.slice (some ⟨gl, ol, none⟩) ln cl) :: .val (.int .i64 ln) :: .val (.int .i64 k) :: .val (.int .i64 nk) :: .val (.agg CH) :: .val (.slice sp 0 cp) :: .val (.bool false) :: .val (.bool false) :: []) : List FactB).getD n (.val undef) : FactB).holds v w') (R8 w8.heap.size) (by kernel_rfl) (by kernel_rfl) (by kernel_rfl) (Below.refl _ _).drew (fun i w1 w2 h hr => h.trans (R8.below hr h.size)) (fun i j v w1 w2 hk hij h hr => FactB.stable _ (by kernel_rfl) (by kernel_rfl) _ i j v w1 w2 hk hij h hr) (fun n o ho a wz hI hag hdep => ?_) (fun a wz hI hag hf => ?_)
        · have t0 : a.eval (.tmp 0) = .slice (some ⟨gl, ol, none⟩) ln cl := hag.old 0 _ (by kernel_rfl) rfl
          have t3 : a.eval (.tmp 3) = .pointer (some ⟨g3, 0, none⟩) := hag.old 3 _ (by kernel_rfl) rfl
          have t4 : a.eval (.tmp 4) = .int .i64 k := hag.old 4 _ (by kernel_rfl) rfl
          have t5 : a.eval (.tmp 5) = .pointer (some ⟨g5, 0, none⟩) := hag.old 5 _ (by kernel_rfl) rfl
          have t6 : a.eval (.tmp 6) = .slice sp 0 cp := hag.old 6 _ (by kernel_rfl) rfl
          have t7 : a.eval (.tmp 7) = .int .i64 0 := hag.old 7 _ (by kernel_rfl) rfl
          match n, ho with
          | 0, ho =>
            obtain rfl := (Option.some.inj ho).symm
            exact Or.inl ⟨rfl, QT.wp_value (BigFrame.run_move (.tmp 7) rfl wz) ⟨_, rfl, t7, R8.of (by decide) (by decide) (Below.refl _ _)⟩⟩
          | 1, ho =>
            obtain rfl := (Option.some.inj ho).symm
            have d27 : a.eval (.tmp 27) = .int .i64 0 := hdep _ (Array.mem_of_getElem? (i := 0) rfl) rfl _ _ rfl rfl
            exact Or.inl ⟨rfl, QT.wp_value (v := .bool false) (by simp [go_sem, QT.nf d27]) ⟨_, rfl, rfl, R8.of (by decide) (by decide) (Below.refl _ _)⟩⟩
          | 2, ho =>
            obtain rfl := (Option.some.inj ho).symm
            have d28 : a.eval (.tmp 28) = .bool false := hdep _ (Array.mem_of_getElem? (i := 0) rfl) rfl _ _ rfl rfl
            exact Or.inl ⟨rfl, QT.wp_value (BigFrame.run_move (.tmp 28) rfl wz) ⟨_, rfl, d28, R8.of (by decide) (by decide) (Below.refl _ _)⟩⟩
          | 3, ho =>
            obtain rfl := (Option.some.inj ho).symm
            have d29 : a.eval (.tmp 29) = .bool false := hdep _ (Array.mem_of_getElem? (i := 0) rfl) rfl _ _ rfl rfl
            exact Or.inl ⟨QT.wanted_of rfl rfl rfl d29, wp_load_row 23 (.tmp 3) rfl g3 t3 23 CR (0, 0) _ ((hI.block g3 HL3.out).trans HG3.out) Try.underlying23 rfl HRR.out.info ⟨_, rfl, rfl, R8.of (by decide) (by decide) (Below.refl _ _)⟩⟩
          | 4, ho =>
            obtain rfl := (Option.some.inj ho).symm
            have d29 : a.eval (.tmp 29) = .bool false := hdep _ (Array.mem_of_getElem? (i := 0) rfl) rfl _ _ rfl rfl
            exact Or.inl ⟨QT.wanted_of rfl rfl rfl d29, QT.wp_value (BigFrame.run_move (.tmp 0) rfl wz) ⟨_, rfl, t0, R8.of (by decide) (by decide) (Below.refl _ _)⟩⟩
          | 5, ho =>
            obtain rfl := (Option.some.inj ho).symm
            have d31 : a.eval (.tmp 31) = .slice (some ⟨gl, ol, none⟩) ln cl := hdep _ (Array.mem_of_getElem? (i := 0) rfl) rfl _ _ rfl rfl
            have d29 : a.eval (.tmp 29) = .bool false := hdep _ (Array.mem_of_getElem? (i := 1) rfl) rfl _ _ rfl rfl
            exact Or.inl ⟨QT.wanted_of rfl rfl rfl d29, QT.wp_value (v := .int .i64 ln) (by simp [go_sem, QT.nf d31]) ⟨_, rfl, rfl, R8.of (by decide) (by decide) (Below.refl _ _)⟩⟩
          | 6, ho =>
            obtain rfl := (Option.some.inj ho).symm
            have d29 : a.eval (.tmp 29) = .bool false := hdep _ (Array.mem_of_getElem? (i := 0) rfl) rfl _ _ rfl rfl
            exact Or.inl ⟨QT.wanted_of rfl rfl rfl d29, QT.wp_value (BigFrame.run_move (.tmp 4) rfl wz) ⟨_, rfl, t4, R8.of (by decide) (by decide) (Below.refl _ _)⟩⟩
          | 7, ho =>
            obtain rfl := (Option.some.inj ho).symm
            have d29 : a.eval (.tmp 29) = .bool false := hdep _ (Array.mem_of_getElem? (i := 0) rfl) rfl _ _ rfl rfl
            exact Or.inl ⟨QT.wanted_of rfl rfl rfl d29, wp_load_row 23 (.tmp 5) rfl g5 t5 23 CH (0, 0) _ ((hI.block g5 HL5.out).trans HG5.out) Try.underlying23 rfl HRH.out.info ⟨_, rfl, rfl, R8.of (by decide) (by decide) (Below.refl _ _)⟩⟩
          | 8, ho =>
            obtain rfl := (Option.some.inj ho).symm
            have d29 : a.eval (.tmp 29) = .bool false := hdep _ (Array.mem_of_getElem? (i := 0) rfl) rfl _ _ rfl rfl
            exact Or.inl ⟨QT.wanted_of rfl rfl rfl d29, QT.wp_value (BigFrame.run_move (.tmp 6) rfl wz) ⟨_, rfl, t6, R8.of (by decide) (by decide) (Below.refl _ _)⟩⟩
          | 9, ho =>
            obtain rfl := (Option.some.inj ho).symm
            have d30 : a.eval (.tmp 30) = .agg CR := hdep _ (Array.mem_of_getElem? (i := 0) rfl) rfl _ _ rfl rfl
            have d32 : a.eval (.tmp 32) = .int .i64 ln := hdep _ (Array.mem_of_getElem? (i := 1) rfl) rfl _ _ rfl rfl
            have d33 : a.eval (.tmp 33) = .int .i64 k := hdep _ (Array.mem_of_getElem? (i := 2) rfl) rfl _ _ rfl rfl
            have d34 : a.eval (.tmp 34) = .agg CH := hdep _ (Array.mem_of_getElem? (i := 3) rfl) rfl _ _ rfl rfl
            have d35 : a.eval (.tmp 35) = .slice sp 0 cp := hdep _ (Array.mem_of_getElem? (i := 4) rfl) rfl _ _ rfl rfl
            have d29 : a.eval (.tmp 29) = .bool false := hdep _ (Array.mem_of_getElem? (i := 6) rfl) rfl _ _ rfl rfl
            exact Or.inl ⟨QT.wanted_of rfl rfl rfl d29, QT.wp_enter (f := 20) (args := #[.agg CR, .int .i64 ln, .int .i64 k, .agg CH, .slice sp 0 cp]) (by simp [go_sem, QT.nf d30, QT.nf d32, QT.nf d33, QT.nf d34, QT.nf d35]) (HCK.out wz hI) fun w' hb => ⟨_, rfl, rfl, R8.of (by decide) (by decide) hb⟩⟩
          | 10, ho =>
            obtain rfl := (Option.some.inj ho).symm
            have d36 : a.eval (.tmp 36) = .bool true := hdep _ (Array.mem_of_getElem? (i := 0) rfl) rfl _ _ rfl rfl
            have d29 : a.eval (.tmp 29) = .bool false := hdep _ (Array.mem_of_getElem? (i := 1) rfl) rfl _ _ rfl rfl
            exact Or.inl ⟨QT.wanted_of rfl rfl rfl d29, QT.wp_value (v := .bool false) (by simp [go_sem, QT.nf d36]) ⟨_, rfl, rfl, R8.of (by decide) (by decide) (Below.refl _ _)⟩⟩
          | 11, ho =>
            obtain rfl := (Option.some.inj ho).symm
            have d29 : a.eval (.tmp 29) = .bool false := hdep _ (Array.mem_of_getElem? (i := 0) rfl) rfl _ _ rfl rfl
            have d37 : a.eval (.tmp 37) = .bool false := hdep _ (Array.mem_of_getElem? (i := 1) rfl) rfl _ _ rfl rfl
            exact Or.inl ⟨rfl, QT.wp_value (v := .bool false) (by simp [go_sem, QT.nf d29, QT.nf d37]) ⟨_, rfl, rfl, R8.of (by decide) (by decide) (Below.refl _ _)⟩⟩
          | 12, ho =>
            obtain rfl := (Option.some.inj ho).symm
            have d38 : a.eval (.tmp 38) = .bool false := hdep _ (Array.mem_of_getElem? (i := 0) rfl) rfl _ _ rfl rfl
            exact Or.inl ⟨rfl, QT.wp_value (BigFrame.run_move (.tmp 38) rfl wz) ⟨_, rfl, d38, R8.of (by decide) (by decide) (Below.refl _ _)⟩⟩
          | 13, ho =>
            obtain rfl := (Option.some.inj ho).symm
            have d39 : a.eval (.tmp 39) = .bool false := hdep _ (Array.mem_of_getElem? (i := 0) rfl) rfl _ _ rfl rfl
            exact Or.inl ⟨QT.wanted_of rfl rfl rfl d39, wp_load_row 23 (.tmp 3) rfl g3 t3 23 CR (0, 0) _ ((hI.block g3 HL3.out).trans HG3.out) Try.underlying23 rfl HRR.out.info ⟨_, rfl, rfl, R8.of (by decide) (by decide) (Below.refl _ _)⟩⟩
          | 14, ho =>
            obtain rfl := (Option.some.inj ho).symm
            have d39 : a.eval (.tmp 39) = .bool false := hdep _ (Array.mem_of_getElem? (i := 0) rfl) rfl _ _ rfl rfl
            exact Or.inl ⟨QT.wanted_of rfl rfl rfl d39, QT.wp_value (BigFrame.run_move (.tmp 0) rfl wz) ⟨_, rfl, t0, R8.of (by decide) (by decide) (Below.refl _ _)⟩⟩
          | 15, ho =>
            obtain rfl := (Option.some.inj ho).symm
            have d41 : a.eval (.tmp 41) = .slice (some ⟨gl, ol, none⟩) ln cl := hdep _ (Array.mem_of_getElem? (i := 0) rfl) rfl _ _ rfl rfl
            have d39 : a.eval (.tmp 39) = .bool false := hdep _ (Array.mem_of_getElem? (i := 1) rfl) rfl _ _ rfl rfl
            exact Or.inl ⟨QT.wanted_of rfl rfl rfl d39, QT.wp_value (v := .int .i64 ln) (by simp [go_sem, QT.nf d41]) ⟨_, rfl, rfl, R8.of (by decide) (by decide) (Below.refl _ _)⟩⟩
          | 16, ho =>
            obtain rfl := (Option.some.inj ho).symm
            have d39 : a.eval (.tmp 39) = .bool false := hdep _ (Array.mem_of_getElem? (i := 0) rfl) rfl _ _ rfl rfl
            exact Or.inl ⟨QT.wanted_of rfl rfl rfl d39, QT.wp_value (BigFrame.run_move (.tmp 4) rfl wz) ⟨_, rfl, t4, R8.of (by decide) (by decide) (Below.refl _ _)⟩⟩
          | 17, ho =>
            obtain rfl := (Option.some.inj ho).symm
            have d39 : a.eval (.tmp 39) = .bool false := hdep _ (Array.mem_of_getElem? (i := 0) rfl) rfl _ _ rfl rfl
            exact Or.inl ⟨QT.wanted_of rfl rfl rfl d39, wp_load_row 23 (.tmp 5) rfl g5 t5 23 CH (0, 0) _ ((hI.block g5 HL5.out).trans HG5.out) Try.underlying23 rfl HRH.out.info ⟨_, rfl, rfl, R8.of (by decide) (by decide) (Below.refl _ _)⟩⟩
          | 18, ho =>
            obtain rfl := (Option.some.inj ho).symm
            have d39 : a.eval (.tmp 39) = .bool false := hdep _ (Array.mem_of_getElem? (i := 0) rfl) rfl _ _ rfl rfl
            exact Or.inl ⟨QT.wanted_of rfl rfl rfl d39, wp_runTo (.slice (some ⟨wz.heap.size, 0, none⟩) 0 0) (wz.alloc (.cells #[] 23)) (by simp [go_sem]) ⟨_, rfl, ⟨_, rfl, hI.size, heap_alloc_new _ _⟩, R8.of (by decide) (by decide) ((Below.refl _ _).alloc (Nat.le_refl _) _)⟩⟩
          | 19, ho =>
            obtain rfl := (Option.some.inj ho).symm
            have d39 : a.eval (.tmp 39) = .bool false := hdep _ (Array.mem_of_getElem? (i := 0) rfl) rfl _ _ rfl rfl
            exact Or.inl ⟨QT.wanted_of rfl rfl rfl d39, QT.wp_value (BigFrame.run_move (.tmp 6) rfl wz) ⟨_, rfl, t6, R8.of (by decide) (by decide) (Below.refl _ _)⟩⟩
          | 20, ho =>
            obtain rfl := (Option.some.inj ho).symm
            have d45 : ((.empty w8.heap.size) : FactB).holds (a.eval (.tmp 45)) wz := hdep _ (Array.mem_of_getElem? (i := 0) rfl) rfl _ _ rfl rfl
            have d46 : a.eval (.tmp 46) = .slice sp 0 cp := hdep _ (Array.mem_of_getElem? (i := 1) rfl) rfl _ _ rfl rfl
            have d39 : a.eval (.tmp 39) = .bool false := hdep _ (Array.mem_of_getElem? (i := 3) rfl) rfl _ _ rfl rfl
            exact Or.inl ⟨QT.wanted_of rfl rfl rfl d39, wp_append_no (.tmp 45) (.tmp 46) rfl w8.heap.size d45 sp cp d46 fun v' h1 => ⟨_, rfl, h1, R8.refl20 _ _⟩⟩
          | 21, ho =>
            obtain rfl := (Option.some.inj ho).symm
            have d39 : a.eval (.tmp 39) = .bool false := hdep _ (Array.mem_of_getElem? (i := 0) rfl) rfl _ _ rfl rfl
            exact Or.inl ⟨QT.wanted_of rfl rfl rfl d39, wp_load_row 23 (.tmp 5) rfl g5 t5 23 CH (0, 0) _ ((hI.block g5 HL5.out).trans HG5.out) Try.underlying23 rfl HRH.out.info ⟨_, rfl, rfl, R8.of (by decide) (by decide) (Below.refl _ _)⟩⟩
          | 22, ho =>
            obtain rfl := (Option.some.inj ho).symm
            have d48 : a.eval (.tmp 48) = .agg CH := hdep _ (Array.mem_of_getElem? (i := 0) rfl) rfl _ _ rfl rfl
            have d39 : a.eval (.tmp 39) = .bool false := hdep _ (Array.mem_of_getElem? (i := 1) rfl) rfl _ _ rfl rfl
            exact Or.inl ⟨QT.wanted_of rfl rfl rfl d39, wp_build1 (.tmp 48) rfl h HHL.out CH HCH.out d48 fun g w' hr hb => ⟨_, rfl, ⟨_, _, rfl, Nat.le_refl _, hr.hashes (cap := 1)⟩, R8.of (by decide) (by decide) hb⟩⟩
          | 23, ho =>
            obtain rfl := (Option.some.inj ho).symm
            have d47 : ((.own w8.heap.size ([] : List (List UInt8))) : FactB).holds (a.eval (.tmp 47)) wz := hdep _ (Array.mem_of_getElem? (i := 0) rfl) rfl _ _ rfl rfl
            have d49 : ((.hs [h]) : FactB).holds (a.eval (.tmp 49)) wz := hdep _ (Array.mem_of_getElem? (i := 1) rfl) rfl _ _ rfl rfl
            have d39 : a.eval (.tmp 39) = .bool false := hdep _ (Array.mem_of_getElem? (i := 3) rfl) rfl _ _ rfl rfl
            obtain ⟨a1, c1, d1, _, hh1⟩ := d49
            exact Or.inl ⟨QT.wanted_of rfl rfl rfl d39, wp_append_on (.tmp 47) (.tmp 49) rfl w8.heap.size ([] : List (List UInt8)) d47 a1 c1 h HHL.out d1 hh1 HPC.out hI.size fun v' w' h1 h2 => ⟨_, rfl, h1, h2⟩⟩
          | 24, ho =>
            obtain rfl := (Option.some.inj ho).symm
            have d40 : a.eval (.tmp 40) = .agg CR := hdep _ (Array.mem_of_getElem? (i := 0) rfl) rfl _ _ rfl rfl
            have d42 : a.eval (.tmp 42) = .int .i64 ln := hdep _ (Array.mem_of_getElem? (i := 1) rfl) rfl _ _ rfl rfl
            have d43 : a.eval (.tmp 43) = .int .i64 k := hdep _ (Array.mem_of_getElem? (i := 2) rfl) rfl _ _ rfl rfl
            have d44 : a.eval (.tmp 44) = .agg CH := hdep _ (Array.mem_of_getElem? (i := 3) rfl) rfl _ _ rfl rfl
            have d50 : ((.hs (([] : List (List UInt8)) ++ [h])) : FactB).holds (a.eval (.tmp 50)) wz := hdep _ (Array.mem_of_getElem? (i := 4) rfl) rfl _ _ rfl rfl
            have d39 : a.eval (.tmp 39) = .bool false := hdep _ (Array.mem_of_getElem? (i := 6) rfl) rfl _ _ rfl rfl
            obtain ⟨a2, c2, e50, hc2, hh2⟩ := d50
            exact Or.inl ⟨QT.wanted_of rfl rfl rfl d39, QT.wp_enter (f := 20) (args := #[.agg CR, .int .i64 ln, .int .i64 k, .agg CH, .slice a2 (([] : List (List UInt8)) ++ [h]).length c2]) (by simp [go_sem, QT.nf d40, QT.nf d42, QT.nf d43, QT.nf d44, QT.nf e50]) (HCM.out wz a2 c2 hc2 hh2) fun w' hb => ⟨_, rfl, rfl, R8.of (by decide) (by decide) hb⟩⟩
          | 25, ho =>
            obtain rfl := (Option.some.inj ho).symm
            have d39 : a.eval (.tmp 39) = .bool false := hdep _ (Array.mem_of_getElem? (i := 0) rfl) rfl _ _ rfl rfl
            have d51 : a.eval (.tmp 51) = .bool false := hdep _ (Array.mem_of_getElem? (i := 1) rfl) rfl _ _ rfl rfl
            exact Or.inl ⟨rfl, QT.wp_value (v := .bool false) (by simp [go_sem, QT.nf d39, QT.nf d51]) ⟨_, rfl, rfl, R8.of (by decide) (by decide) (Below.refl _ _)⟩⟩
          | 26, ho =>
            obtain rfl := (Option.some.inj ho).symm
            have d52 : a.eval (.tmp 52) = .bool false := hdep _ (Array.mem_of_getElem? (i := 0) rfl) rfl _ _ rfl rfl
            exact Or.inl ⟨rfl, QT.wp_value (BigFrame.run_move (.tmp 52) rfl wz) ⟨_, rfl, d52, R8.of (by decide) (by decide) (Below.refl _ _)⟩⟩
          | 27, ho =>
            obtain rfl := (Option.some.inj ho).symm
            have d53 : a.eval (.tmp 53) = .bool false := hdep _ (Array.mem_of_getElem? (i := 0) rfl) rfl _ _ rfl rfl
            exact Or.inl ⟨QT.wanted_of rfl rfl rfl d53, QT.wp_value (BigFrame.run_move (.tmp 6) rfl wz) ⟨_, rfl, t6, R8.of (by decide) (by decide) (Below.refl _ _)⟩⟩
          | 28, ho =>
            obtain rfl := (Option.some.inj ho).symm
            have d54 : a.eval (.tmp 54) = .slice sp 0 cp := hdep _ (Array.mem_of_getElem? (i := 0) rfl) rfl _ _ rfl rfl
            have d53 : a.eval (.tmp 53) = .bool false := hdep _ (Array.mem_of_getElem? (i := 1) rfl) rfl _ _ rfl rfl
            exact Or.inl ⟨QT.wanted_of rfl rfl rfl d53, QT.wp_value (v := .int .i64 0) (by simp [go_sem, QT.nf d54]) ⟨_, rfl, rfl, R8.of (by decide) (by decide) (Below.refl _ _)⟩⟩
          | 29, ho =>
            obtain rfl := (Option.some.inj ho).symm
            have d55 : a.eval (.tmp 55) = .int .i64 0 := hdep _ (Array.mem_of_getElem? (i := 0) rfl) rfl _ _ rfl rfl
            have d53 : a.eval (.tmp 53) = .bool false := hdep _ (Array.mem_of_getElem? (i := 1) rfl) rfl _ _ rfl rfl
            exact Or.inl ⟨QT.wanted_of rfl rfl rfl d53, QT.wp_value (v := .bool false) (by simp [go_sem, QT.nf d55]) ⟨_, rfl, rfl, R8.of (by decide) (by decide) (Below.refl _ _)⟩⟩
          | 30, ho =>
            obtain rfl := (Option.some.inj ho).symm
            have d56 : a.eval (.tmp 56) = .bool false := hdep _ (Array.mem_of_getElem? (i := 0) rfl) rfl _ _ rfl rfl
            have d53 : a.eval (.tmp 53) = .bool false := hdep _ (Array.mem_of_getElem? (i := 2) rfl) rfl _ _ rfl rfl
            exact Or.inl ⟨QT.wanted_of rfl rfl rfl d53, QT.wp_value (BigFrame.run_move (.tmp 56) rfl wz) ⟨_, rfl, d56, R8.of (by decide) (by decide) (Below.refl _ _)⟩⟩
          | 31, ho =>
            obtain rfl := (Option.some.inj ho).symm
            have d57 : a.eval (.tmp 57) = .bool false := hdep _ (Array.mem_of_getElem? (i := 0) rfl) rfl _ _ rfl rfl
            exact Or.inr ⟨QT.unwanted_of rfl rfl rfl d57 (by decide), rfl⟩
          | 32, ho =>
            obtain rfl := (Option.some.inj ho).symm
            have d57 : a.eval (.tmp 57) = .bool false := hdep _ (Array.mem_of_getElem? (i := 0) rfl) rfl _ _ rfl rfl
            exact Or.inr ⟨QT.unwanted_of rfl rfl rfl d57 (by decide), rfl⟩
          | 33, ho =>
            obtain rfl := (Option.some.inj ho).symm
            have d59 : a.eval (.tmp 59) = undef := hdep _ (Array.mem_of_getElem? (i := 0) rfl) rfl _ _ rfl rfl
            have d57 : a.eval (.tmp 57) = .bool false := hdep _ (Array.mem_of_getElem? (i := 1) rfl) rfl _ _ rfl rfl
            exact Or.inr ⟨QT.unwanted_of rfl rfl rfl d57 (by decide), rfl⟩
          | 34, ho =>
            obtain rfl := (Option.some.inj ho).symm
            have d57 : a.eval (.tmp 57) = .bool false := hdep _ (Array.mem_of_getElem? (i := 0) rfl) rfl _ _ rfl rfl
            exact Or.inr ⟨QT.unwanted_of rfl rfl rfl d57 (by decide), rfl⟩
          | 35, ho =>
            obtain rfl := (Option.some.inj ho).symm
            have d57 : a.eval (.tmp 57) = .bool false := hdep _ (Array.mem_of_getElem? (i := 0) rfl) rfl _ _ rfl rfl
            exact Or.inr ⟨QT.unwanted_of rfl rfl rfl d57 (by decide), rfl⟩
          | 36, ho =>
            obtain rfl := (Option.some.inj ho).symm
            have d57 : a.eval (.tmp 57) = .bool false := hdep _ (Array.mem_of_getElem? (i := 0) rfl) rfl _ _ rfl rfl
            exact Or.inr ⟨QT.unwanted_of rfl rfl rfl d57 (by decide), rfl⟩
          | 37, ho =>
            obtain rfl := (Option.some.inj ho).symm
            have d63 : a.eval (.tmp 63) = undef := hdep _ (Array.mem_of_getElem? (i := 0) rfl) rfl _ _ rfl rfl
            have d57 : a.eval (.tmp 57) = .bool false := hdep _ (Array.mem_of_getElem? (i := 1) rfl) rfl _ _ rfl rfl
            exact Or.inr ⟨QT.unwanted_of rfl rfl rfl d57 (by decide), rfl⟩
          | 38, ho =>
            obtain rfl := (Option.some.inj ho).symm
            have d58 : a.eval (.tmp 58) = undef := hdep _ (Array.mem_of_getElem? (i := 0) rfl) rfl _ _ rfl rfl
            have d60 : a.eval (.tmp 60) = undef := hdep _ (Array.mem_of_getElem? (i := 1) rfl) rfl _ _ rfl rfl
            have d61 : a.eval (.tmp 61) = undef := hdep _ (Array.mem_of_getElem? (i := 2) rfl) rfl _ _ rfl rfl
            have d62 : a.eval (.tmp 62) = undef := hdep _ (Array.mem_of_getElem? (i := 3) rfl) rfl _ _ rfl rfl
            have d64 : a.eval (.tmp 64) = undef := hdep _ (Array.mem_of_getElem? (i := 4) rfl) rfl _ _ rfl rfl
            have d57 : a.eval (.tmp 57) = .bool false := hdep _ (Array.mem_of_getElem? (i := 6) rfl) rfl _ _ rfl rfl
            exact Or.inr ⟨QT.unwanted_of rfl rfl rfl d57 (by decide), rfl⟩
          | 39, ho =>
            obtain rfl := (Option.some.inj ho).symm
            have d57 : a.eval (.tmp 57) = .bool false := hdep _ (Array.mem_of_getElem? (i := 0) rfl) rfl _ _ rfl rfl
            have d65 : a.eval (.tmp 65) = undef := hdep _ (Array.mem_of_getElem? (i := 1) rfl) rfl _ _ rfl rfl
            have d53 : a.eval (.tmp 53) = .bool false := hdep _ (Array.mem_of_getElem? (i := 2) rfl) rfl _ _ rfl rfl
            exact Or.inl ⟨QT.wanted_of rfl rfl rfl d53, QT.wp_value (v := .bool false) (by simp [go_sem, QT.nf d57]) ⟨_, rfl, rfl, R8.of (by decide) (by decide) (Below.refl _ _)⟩⟩
          | 40, ho =>
            obtain rfl := (Option.some.inj ho).symm
            have d53 : a.eval (.tmp 53) = .bool false := hdep _ (Array.mem_of_getElem? (i := 0) rfl) rfl _ _ rfl rfl
            have d66 : a.eval (.tmp 66) = .bool false := hdep _ (Array.mem_of_getElem? (i := 1) rfl) rfl _ _ rfl rfl
            exact Or.inl ⟨rfl, QT.wp_value (v := .bool false) (by simp [go_sem, QT.nf d53, QT.nf d66]) ⟨_, rfl, rfl, R8.of (by decide) (by decide) (Below.refl _ _)⟩⟩
          | 41, ho =>
            obtain rfl := (Option.some.inj ho).symm
            have d67 : a.eval (.tmp 67) = .bool false := hdep _ (Array.mem_of_getElem? (i := 0) rfl) rfl _ _ rfl rfl
            exact Or.inl ⟨rfl, QT.wp_value (BigFrame.run_move (.tmp 67) rfl wz) ⟨_, rfl, d67, R8.of (by decide) (by decide) (Below.refl _ _)⟩⟩
          | 42, ho =>
            obtain rfl := (Option.some.inj ho).symm
            have d68 : a.eval (.tmp 68) = .bool false := hdep _ (Array.mem_of_getElem? (i := 0) rfl) rfl _ _ rfl rfl
            exact Or.inl ⟨QT.wanted_of rfl rfl rfl d68, wp_load_row 23 (.tmp 3) rfl g3 t3 23 CR (0, 0) _ ((hI.block g3 HL3.out).trans HG3.out) Try.underlying23 rfl HRR.out.info ⟨_, rfl, rfl, R8.of (by decide) (by decide) (Below.refl _ _)⟩⟩
          | 43, ho =>
            obtain rfl := (Option.some.inj ho).symm
            have d68 : a.eval (.tmp 68) = .bool false := hdep _ (Array.mem_of_getElem? (i := 0) rfl) rfl _ _ rfl rfl
            exact Or.inl ⟨QT.wanted_of rfl rfl rfl d68, QT.wp_value (BigFrame.run_move (.tmp 0) rfl wz) ⟨_, rfl, t0, R8.of (by decide) (by decide) (Below.refl _ _)⟩⟩
          | 44, ho =>
            obtain rfl := (Option.some.inj ho).symm
            have d70 : a.eval (.tmp 70) = .slice (some ⟨gl, ol, none⟩) ln cl := hdep _ (Array.mem_of_getElem? (i := 0) rfl) rfl _ _ rfl rfl
            have d68 : a.eval (.tmp 68) = .bool false := hdep _ (Array.mem_of_getElem? (i := 1) rfl) rfl _ _ rfl rfl
            exact Or.inl ⟨QT.wanted_of rfl rfl rfl d68, QT.wp_value (v := .int .i64 ln) (by simp [go_sem, QT.nf d70]) ⟨_, rfl, rfl, R8.of (by decide) (by decide) (Below.refl _ _)⟩⟩
          | 45, ho =>
            obtain rfl := (Option.some.inj ho).symm
            have d68 : a.eval (.tmp 68) = .bool false := hdep _ (Array.mem_of_getElem? (i := 0) rfl) rfl _ _ rfl rfl
            exact Or.inl ⟨QT.wanted_of rfl rfl rfl d68, QT.wp_value (BigFrame.run_move (.tmp 0) rfl wz) ⟨_, rfl, t0, R8.of (by decide) (by decide) (Below.refl _ _)⟩⟩
          | 46, ho =>
            obtain rfl := (Option.some.inj ho).symm
            have d72 : a.eval (.tmp 72) = .slice (some ⟨gl, ol, none⟩) ln cl := hdep _ (Array.mem_of_getElem? (i := 0) rfl) rfl _ _ rfl rfl
            have d68 : a.eval (.tmp 68) = .bool false := hdep _ (Array.mem_of_getElem? (i := 1) rfl) rfl _ _ rfl rfl
            exact Or.inl ⟨QT.wanted_of rfl rfl rfl d68, QT.wp_value (v := .int .i64 ln) (by simp [go_sem, QT.nf d72]) ⟨_, rfl, rfl, R8.of (by decide) (by decide) (Below.refl _ _)⟩⟩
          | 47, ho =>
            obtain rfl := (Option.some.inj ho).symm
            have d68 : a.eval (.tmp 68) = .bool false := hdep _ (Array.mem_of_getElem? (i := 0) rfl) rfl _ _ rfl rfl
            exact Or.inl ⟨QT.wanted_of rfl rfl rfl d68, QT.wp_value (BigFrame.run_move (.tmp 4) rfl wz) ⟨_, rfl, t4, R8.of (by decide) (by decide) (Below.refl _ _)⟩⟩
          | 48, ho =>
            obtain rfl := (Option.some.inj ho).symm
            have d73 : a.eval (.tmp 73) = .int .i64 ln := hdep _ (Array.mem_of_getElem? (i := 0) rfl) rfl _ _ rfl rfl
            have d74 : a.eval (.tmp 74) = .int .i64 k := hdep _ (Array.mem_of_getElem? (i := 1) rfl) rfl _ _ rfl rfl
            have d68 : a.eval (.tmp 68) = .bool false := hdep _ (Array.mem_of_getElem? (i := 2) rfl) rfl _ _ rfl rfl
            exact Or.inl ⟨QT.wanted_of rfl rfl rfl d68, QT.wp_value (v := .int .i64 nk) (by simp [go_sem, QT.nf d73, QT.nf d74, hnki, hwnk]) ⟨_, rfl, rfl, R8.of (by decide) (by decide) (Below.refl _ _)⟩⟩
          | 49, ho =>
            obtain rfl := (Option.some.inj ho).symm
            have d68 : a.eval (.tmp 68) = .bool false := hdep _ (Array.mem_of_getElem? (i := 0) rfl) rfl _ _ rfl rfl
            exact Or.inl ⟨QT.wanted_of rfl rfl rfl d68, wp_load_row 23 (.tmp 5) rfl g5 t5 23 CH (0, 0) _ ((hI.block g5 HL5.out).trans HG5.out) Try.underlying23 rfl HRH.out.info ⟨_, rfl, rfl, R8.of (by decide) (by decide) (Below.refl _ _)⟩⟩
          | 50, ho =>
            obtain rfl := (Option.some.inj ho).symm
            have d68 : a.eval (.tmp 68) = .bool false := hdep _ (Array.mem_of_getElem? (i := 0) rfl) rfl _ _ rfl rfl
            exact Or.inl ⟨QT.wanted_of rfl rfl rfl d68, QT.wp_value (BigFrame.run_move (.tmp 6) rfl wz) ⟨_, rfl, t6, R8.of (by decide) (by decide) (Below.refl _ _)⟩⟩
          | 51, ho =>
            obtain rfl := (Option.some.inj ho).symm
            have d69 : a.eval (.tmp 69) = .agg CR := hdep _ (Array.mem_of_getElem? (i := 0) rfl) rfl _ _ rfl rfl
            have d71 : a.eval (.tmp 71) = .int .i64 ln := hdep _ (Array.mem_of_getElem? (i := 1) rfl) rfl _ _ rfl rfl
            have d75 : a.eval (.tmp 75) = .int .i64 nk := hdep _ (Array.mem_of_getElem? (i := 2) rfl) rfl _ _ rfl rfl
            have d76 : a.eval (.tmp 76) = .agg CH := hdep _ (Array.mem_of_getElem? (i := 3) rfl) rfl _ _ rfl rfl
            have d77 : a.eval (.tmp 77) = .slice sp 0 cp := hdep _ (Array.mem_of_getElem? (i := 4) rfl) rfl _ _ rfl rfl
            have d68 : a.eval (.tmp 68) = .bool false := hdep _ (Array.mem_of_getElem? (i := 6) rfl) rfl _ _ rfl rfl
            exact Or.inl ⟨QT.wanted_of rfl rfl rfl d68, QT.wp_enter (f := 20) (args := #[.agg CR, .int .i64 ln, .int .i64 nk, .agg CH, .slice sp 0 cp]) (by simp [go_sem, QT.nf d69, QT.nf d71, QT.nf d75, QT.nf d76, QT.nf d77]) (HCO.out wz) fun w' hb => ⟨_, rfl, rfl, R8.of (by decide) (by decide) hb⟩⟩
          | 52, ho =>
            obtain rfl := (Option.some.inj ho).symm
            have d68 : a.eval (.tmp 68) = .bool false := hdep _ (Array.mem_of_getElem? (i := 0) rfl) rfl _ _ rfl rfl
            have d78 : a.eval (.tmp 78) = .bool false := hdep _ (Array.mem_of_getElem? (i := 1) rfl) rfl _ _ rfl rfl
            exact Or.inl ⟨rfl, QT.wp_value (v := .bool false) (by simp [go_sem, QT.nf d68, QT.nf d78]) ⟨_, rfl, rfl, R8.of (by decide) (by decide) (Below.refl _ _)⟩⟩
          | n + 53, ho => simp at ho
        · have f0 : a.eval (.tmp 27) = .int .i64 0 := hf 0 _ _ (by decide) rfl rfl
          have f1 : a.eval (.tmp 28) = .bool false := hf 1 _ _ (by decide) rfl rfl
          have f2 : a.eval (.tmp 29) = .bool false := hf 2 _ _ (by decide) rfl rfl
          have f3 : a.eval (.tmp 30) = .agg CR := hf 3 _ _ (by decide) rfl rfl
          have f4 : a.eval (.tmp 31) = .slice (some ⟨gl, ol, none⟩) ln cl := hf 4 _ _ (by decide) rfl rfl
          have f5 : a.eval (.tmp 32) = .int .i64 ln := hf 5 _ _ (by decide) rfl rfl
          have f6 : a.eval (.tmp 33) = .int .i64 k := hf 6 _ _ (by decide) rfl rfl
          have f7 : a.eval (.tmp 34) = .agg CH := hf 7 _ _ (by decide) rfl rfl
          have f8 : a.eval (.tmp 35) = .slice sp 0 cp := hf 8 _ _ (by decide) rfl rfl
          have f9 : a.eval (.tmp 36) = .bool true := hf 9 _ _ (by decide) rfl rfl
          have f10 : a.eval (.tmp 37) = .bool false := hf 10 _ _ (by decide) rfl rfl
          have f11 : a.eval (.tmp 38) = .bool false := hf 11 _ _ (by decide) rfl rfl
          have f12 : a.eval (.tmp 39) = .bool false := hf 12 _ _ (by decide) rfl rfl
          have f13 : a.eval (.tmp 40) = .agg CR := hf 13 _ _ (by decide) rfl rfl
          have f14 : a.eval (.tmp 41) = .slice (some ⟨gl, ol, none⟩) ln cl := hf 14 _ _ (by decide) rfl rfl
          have f15 : a.eval (.tmp 42) = .int .i64 ln := hf 15 _ _ (by decide) rfl rfl
          have f16 : a.eval (.tmp 43) = .int .i64 k := hf 16 _ _ (by decide) rfl rfl
          have f17 : a.eval (.tmp 44) = .agg CH := hf 17 _ _ (by decide) rfl rfl
          obtain ⟨u18, f18⟩ : ∃ u, a.eval (.tmp 45) = u := ⟨_, rfl⟩
          have f19 : a.eval (.tmp 46) = .slice sp 0 cp := hf 19 _ _ (by decide) rfl rfl
          obtain ⟨u20, f20⟩ : ∃ u, a.eval (.tmp 47) = u := ⟨_, rfl⟩
          have f21 : a.eval (.tmp 48) = .agg CH := hf 21 _ _ (by decide) rfl rfl
          obtain ⟨u22, f22⟩ : ∃ u, a.eval (.tmp 49) = u := ⟨_, rfl⟩
          obtain ⟨u23, f23⟩ : ∃ u, a.eval (.tmp 50) = u := ⟨_, rfl⟩
          have f24 : a.eval (.tmp 51) = .bool false := hf 24 _ _ (by decide) rfl rfl
          have f25 : a.eval (.tmp 52) = .bool false := hf 25 _ _ (by decide) rfl rfl
          have f26 : a.eval (.tmp 53) = .bool false := hf 26 _ _ (by decide) rfl rfl
          have f27 : a.eval (.tmp 54) = .slice sp 0 cp := hf 27 _ _ (by decide) rfl rfl
          have f28 : a.eval (.tmp 55) = .int .i64 0 := hf 28 _ _ (by decide) rfl rfl
          have f29 : a.eval (.tmp 56) = .bool false := hf 29 _ _ (by decide) rfl rfl
          have f30 : a.eval (.tmp 57) = .bool false := hf 30 _ _ (by decide) rfl rfl
          have f31 : a.eval (.tmp 58) = undef := hf 31 _ _ (by decide) rfl rfl
          have f32 : a.eval (.tmp 59) = undef := hf 32 _ _ (by decide) rfl rfl
          have f33 : a.eval (.tmp 60) = undef := hf 33 _ _ (by decide) rfl rfl
          have f34 : a.eval (.tmp 61) = undef := hf 34 _ _ (by decide) rfl rfl
          have f35 : a.eval (.tmp 62) = undef := hf 35 _ _ (by decide) rfl rfl
          have f36 : a.eval (.tmp 63) = undef := hf 36 _ _ (by decide) rfl rfl
          have f37 : a.eval (.tmp 64) = undef := hf 37 _ _ (by decide) rfl rfl
          have f38 : a.eval (.tmp 65) = undef := hf 38 _ _ (by decide) rfl rfl
          have f39 : a.eval (.tmp 66) = .bool false := hf 39 _ _ (by decide) rfl rfl
          have f40 : a.eval (.tmp 67) = .bool false := hf 40 _ _ (by decide) rfl rfl
          have f41 : a.eval (.tmp 68) = .bool false := hf 41 _ _ (by decide) rfl rfl
          have f42 : a.eval (.tmp 69) = .agg CR := hf 42 _ _ (by decide) rfl rfl
          have f43 : a.eval (.tmp 70) = .slice (some ⟨gl, ol, none⟩) ln cl := hf 43 _ _ (by decide) rfl rfl
          have f44 : a.eval (.tmp 71) = .int .i64 ln := hf 44 _ _ (by decide) rfl rfl
          have f45 : a.eval (.tmp 72) = .slice (some ⟨gl, ol, none⟩) ln cl := hf 45 _ _ (by decide) rfl rfl
          have f46 : a.eval (.tmp 73) = .int .i64 ln := hf 46 _ _ (by decide) rfl rfl
          have f47 : a.eval (.tmp 74) = .int .i64 k := hf 47 _ _ (by decide) rfl rfl
          have f48 : a.eval (.tmp 75) = .int .i64 nk := hf 48 _ _ (by decide) rfl rfl
          have f49 : a.eval (.tmp 76) = .agg CH := hf 49 _ _ (by decide) rfl rfl
          have f50 : a.eval (.tmp 77) = .slice sp 0 cp := hf 50 _ _ (by decide) rfl rfl
          have f51 : a.eval (.tmp 78) = .bool false := hf 51 _ _ (by decide) rfl rfl
          have f52 : a.eval (.tmp 79) = .bool false := hf 52 _ _ (by decide) rfl rfl
          have ha := hag.puts ((27, .int .i64 0) :: (28, .bool false) :: (29, .bool false) :: (30, .agg CR) :: (31, .slice (some ⟨gl, ol, none⟩) ln cl) :: (32, .int .i64 ln) :: (33, .int .i64 k) :: (34, .agg CH) :: (35, .slice sp 0 cp) :: (36, .bool true) :: (37, .bool false) :: (38, .bool false) :: (39, .bool false) :: (40, .agg CR) :: (41, .slice (some ⟨gl, ol, none⟩) ln cl) :: (42, .int .i64 ln) :: (43, .int .i64 k) :: (44, .agg CH) :: (45, u18) :: (46, .slice sp 0 cp) :: (47, u20) :: (48, .agg CH) :: (49, u22) :: (50, u23) :: (51, .bool false) :: (52, .bool false) :: (53, .bool false) :: (54, .slice sp 0 cp) :: (55, .int .i64 0) :: (56, .bool false) :: (57, .bool false) :: (58, undef) :: (59, undef) :: (60, undef) :: (61, undef) :: (62, undef) :: (63, undef) :: (64, undef) :: (65, undef) :: (66, .bool false) :: (67, .bool false) :: (68, .bool false) :: (69, .agg CR) :: (70, .slice (some ⟨gl, ol, none⟩) ln cl) :: (71, .int .i64 ln) :: (72, .slice (some ⟨gl, ol, none⟩) ln cl) :: (73, .int .i64 ln) :: (74, .int .i64 k) :: (75, .int .i64 nk) :: (76, .agg CH) :: (77, .slice sp 0 cp) :: (78, .bool false) :: (79, .bool false) :: []) rfl (by simp) (by simp only [List.forall_mem_cons, List.not_mem_nil, false_implies, implies_true, and_true]; exact ⟨f0, f1, f2, f3, f4, f5, f6, f7, f8, f9, f10, f11, f12, f13, f14, f15, f16, f17, f18, f19, f20, f21, f22, f23, f24, f25, f26, f27, f28, f29, f30, f31, f32, f33, f34, f35, f36, f37, f38, f39, f40, f41, f42, f43, f44, f45, f46, f47, f48, f49, f50, f51, f52⟩)
          subst ha
          clear hag hf f0 f1 f2 f3 f4 f5 f6 f7 f8 f9 f10 f11 f12 f13 f14 f15 f16 f17 f18 f19 f20 f21 f22 f23 f24 f25 f26 f27 f28 f29 f30 f31 f32 f33 f34 f35 f36 f37 f38 f39 f40 f41 f42 f43 f44 f45 f46 f47 f48 f49 f50 f51 f52
          simp only [List.foldl_cons, List.foldl_nil, Act.put, List.setIfInBounds_toArray, List.set_cons_succ, List.set_cons_zero]
          have HI := Lib.hid (HB8.out.trans (hI.mono HB8.out.size))
          clear hI
          go_wp2_with fail
          go_roundw
          case rel => exact ⟨k + 1, by go_num, by omega, HI.out⟩
          case measure => simp [intOf]; omega
    · obtain rfl : ln = k := by omega
      go_wp2_with fail
      refine (works4 _).mono ?_
      rintro e w3 ⟨rfl, hb3⟩
      have HB3 := Lib.hid (HB2.out.trans ((HBEL.out.mono HB2.out.size).trans (hb3.mono (Nat.le_trans HB2.out.size HBEL.out.size))))
      clear hb3
      go_wp2_with fail
      go_ret
      exact ⟨rfl, HB3.out⟩

set_option maxRecDepth 100000 in
set_option maxHeartbeats 1600000 in
theorem back_big (al : Option Addr) (ln cl : Nat) (w : World) (hb : (40 : Int) < (ln : Int)) (_h63 : ln ≤ 9223372036854775807) : Calls Try.prog 4 #[.slice al ln cl] w fun e w' => e = .returned (.bool true) ∧ Below w.heap.size w w' := by
  go_enter Try.func4, Try.ntmps4
  go_wp2_with fail
  refine (works4 _).mono ?_
  rintro e w' ⟨rfl, hb4⟩
  go_wp2_with fail
  go_ret
  exact ⟨rfl, hb4⟩

theorem law_TreeBack (v0 : Value) (a0 : List (List UInt8)) (w : World) (w0 : Hashes w v0 a0) (x0 : H32 a0) (y0 : a0.length ≤ maxLen) : Calls Try.prog 4 #[v0] w fun e w' => e = .returned (.bool true) ∧ Below w.heap.size w w' := by
  obtain ⟨a, cap, rfl⟩ := slice_ofN w0
  have hm : a0.length ≤ 9223372036854775807 := y0
  by_cases hbig : 40 < a0.length
  · exact back_big a a0.length cap w (by omega) hm
  · exact back_main a a0.length cap a0 w rfl w0 x0 (by omega)

end Go.Proofs.Ytlalipomphgcoaa.Tree

