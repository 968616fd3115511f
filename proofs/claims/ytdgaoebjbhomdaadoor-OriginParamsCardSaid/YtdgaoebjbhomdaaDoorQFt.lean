/- A region that draws its order, whose first n operations each leave a fact about what they yield (in any order), and whose others come one behind the other behind them. -/
import Derived.Test.YtdgaoebjbhomdaaDoorQFa
namespace Go.Proofs.YtdgaoebjbhomdaaDoor.QT
open Go.RowKit

section
variable {P : Program}

def factsTailB (l : List Oper) (n : Nat) : Bool :=
  decide (n < l.toArray.size) && Region.sinkB .any l.toArray n && Region.chainB .any l.toArray n && Region.seqB .any l.toArray (l.toArray.size - n) n (firstN l.toArray.size n) && backB .any l.toArray

theorem wp_region_facts_tail {id : Nat} {Q : Exit → Act → World → Prop} {a0 : Act} {w0 : World} {l : List Oper} (n : Nat) (hm : P.follows .mixedOrders = true) (I : World → Prop) (F : Nat → Value → World → Prop)
    (hB : factsTailB l n = true) (hD : dstsB (l.take n) a0.tmps.size = true) (hI : I { w0 with drawn := w0.drawn + 1 })
    (hIs : ∀ w w', I w → Below w.heap.size w w' → I w') (hF : ∀ i v w w', F i v w → Below w.heap.size w w' → F i v w')
    (hstep : ∀ (i : Nat) (o : Oper), i < n → l[i]? = some o → ∀ a w, I w → Agrees (l.take n) a0 a → (∀ e ∈ o.after, Region.binds .any e = true → ∀ (oj : Oper) (d : Tmp), l[e.on]? = some oj → oj.dst = some d → F e.on (a.eval (.tmp d)) w) →
      Region.wanted o (yielded l.toArray a.tmps) = true ∧ o.wp P a w (fun a' w' => ∃ v, a' = a.put o.dst v ∧ F i v w' ∧ Below w.heap.size w w') Q)
    (hfin : ∀ a w, I w → Agrees (l.take n) a0 a → (∀ (i : Nat) (o : Oper) (d : Tmp), i < n → l[i]? = some o → o.dst = some d → F i (a.eval (.tmp d)) w) → wpList P l.toArray Q (l.drop n) a w) : (Code.region id l.toArray true).wp P Q a0 w0 := by
  simp only [factsTailB, Bool.and_eq_true, decide_eq_true_eq] at hB
  obtain ⟨⟨⟨⟨hn, hs⟩, hc⟩, hseq⟩, hbk⟩ := hB
  simp only [dstsB, Bool.and_eq_true, decide_eq_true_eq] at hD
  obtain ⟨hall, hnd⟩ := hD
  have htk : ∀ (i : Nat), i < n → (l.take n)[i]? = l[i]? := fun i hi => List.getElem?_take_of_lt hi
  have hdst : ∀ (i : Nat) (o : Oper), i < n → l[i]? = some o → ∃ d, o.dst = some d ∧ d < a0.tmps.size := fun i o hi ho => by
    have h1 := List.all_eq_true.1 hall o (List.mem_of_getElem? ((htk i hi).trans ho))
    cases hd : o.dst with
    | none => rw [hd] at h1; cases h1
    | some d => rw [hd] at h1; exact ⟨d, rfl, by simpa using h1⟩
  have hinj : ∀ (i j : Nat) (oi oj : Oper) (d : Tmp), i < n → j < n → l[i]? = some oi → l[j]? = some oj → oi.dst = some d → oj.dst = some d → i = j := fun i j oi oj d hin hjn hi hj h1 h2 => by
    obtain ⟨hil, hie⟩ := List.getElem?_eq_some_iff.1 ((htk i hin).trans hi)
    obtain ⟨hjl, hje⟩ := List.getElem?_eq_some_iff.1 ((htk j hjn).trans hj)
    have hp := List.pairwise_iff_getElem.1 hnd
    rcases Nat.lt_trichotomy i j with h | h | h
    · exact (hp i j (by simpa using hil) (by simpa using hjl) h (by rw [List.getElem_map, List.getElem_map, hie, hje, h1, h2])).elim
    · exact h
    · exact (hp j i (by simpa using hjl) (by simpa using hil) h (by rw [List.getElem_map, List.getElem_map, hie, hje, h1, h2])).elim
  have key : ∀ (fuel : Nat) (listed : Array Bool) (a : Act) (w : World), I w → HeadInv .any l.toArray n listed → Agrees (l.take n) a0 a → (∀ i o d, i < n → l[i]? = some o → o.dst = some d → listed.getD i false = true → F i (a.eval (.tmp d)) w) →
      fuel + listed.toList.count true = l.toArray.size → wpAny P .any l.toArray Q fuel listed a w := by
    intro fuel
    induction fuel with
    | zero =>
      intro listed a w hw inv hag hf hcnt
      exfalso
      have hlen : listed.toList.length = l.toArray.size := by simp [inv.size]
      have hall2 := (List.count_eq_length (a := true) (l := listed.toList)).1 (by omega)
      have := inv.tail n (Nat.le_refl _) hn
      have hi : n < listed.size := by rw [inv.size]; exact hn
      simp [hi] at this
      have h2 := hall2 listed[n] (by simp)
      rw [this] at h2
      cases h2
    | succ fuel ih =>
      intro listed a w hw inv hag hf hcnt
      by_cases hall2 : ∀ i, i < n → listed.getD i true = true
      · have he := listed_first inv hall2
        have hFu : fuel + 1 = l.toArray.size - n := by
          rw [he, count_first _ _ (by omega)] at hcnt
          omega
        have hQ := hfin a w hw hag fun i o d hi ho hd => hf i o d hi ho hd (by
          have h1 := hall2 i hi
          have hil : i < listed.size := by rw [inv.size]; omega
          simp [hil] at h1 ⊢
          exact h1)
        have hd : (l.drop n).length = fuel + 1 := by rw [hFu]; simp
        rw [← hd]
        exact wpAny_of_seq (l.drop n) n listed a w (fun j => by simp [List.getElem?_drop]) (by rw [hd, hFu, he]; exact hseq) hQ
      · have : ∃ i, i < n ∧ listed.getD i true = false := by
          apply Classical.byContradiction
          intro hno
          refine hall2 fun i hi => ?_
          cases hg : listed.getD i true with
          | true => rfl
          | false => exact absurd ⟨i, hi, hg⟩ hno
        obtain ⟨i, hi, hun⟩ := this
        refine ⟨fun h0 => absurd h0 (ready_some hbk inv.size i (by omega) hun), fun j hj => ?_⟩
        have hjn : j < n := by
          rcases Nat.lt_or_ge j n with h1 | h1
          · exact h1
          · exact absurd hj (tail_waits hs hc hn inv _ i rfl hi hun j h1)
        obtain ⟨hjun, o, ho, hall3⟩ := mem_ready.1 hj
        have hol : l[j]? = some o := by simpa using ho
        have hjl := (Array.getElem?_eq_some_iff.1 ho).1
        have hbj : ∀ e ∈ o.after, Region.binds .any e = true → e.on < j := fun e he hb => by
          have h1 := List.all_eq_true.1 hbk j (List.mem_range.2 hjl)
          simp only [ho] at h1
          have h2 := Array.all_eq_true'.1 h1 e he
          simpa [hb] using h2
        obtain ⟨hwt, hwp⟩ := hstep j o hjn hol a w hw hag fun e he hb oj d hj' hd => hf e.on oj d (by have := hbj e he hb; omega) hj' hd (hall3 e he hb)
        have hop : wpOp P l.toArray Q j (fun a' w' => ∃ v, a' = a.put o.dst v ∧ F j v w' ∧ Below w.heap.size w w') a w := by
          unfold wpOp
          simp only [ho, hwt, if_true]
          exact Or.inl hwp
        refine wpOp_mono (fun a' w' hh => ?_) hop
        obtain ⟨v, rfl, hFv, hb⟩ := hh
        obtain ⟨d, hd, hdl⟩ := hdst j o hjn hol
        rw [hd]
        refine ih _ _ _ (hIs w w' hw hb) (inv.set hj hjn) ⟨?_, ?_, fun t ht => ?_⟩ (fun k ok dk hkn hk hdk hlk => ?_) ?_
        · simp [Act.put, hag.size]
        · exact hag.defers
        · have hne : d ≠ t := fun e => ht o (List.mem_of_getElem? ((htk j hjn).trans hol)) (by rw [hd, e])
          rw [← hag.same t ht]
          simp [Act.put, Array.getElem?_setIfInBounds_ne hne]
        · by_cases hij : j = k
          · subst hij
            obtain rfl : ok = o := Option.some.inj (hk.symm.trans hol)
            obtain rfl : dk = d := Option.some.inj (hdk.symm.trans hd)
            rw [eval_put_same (by rw [hag.size]; exact hdl)]
            exact hFv
          · have hne : d ≠ dk := fun e => hij (hinj j k o ok d hjn hkn hol hk hd (by rw [hdk, e]))
            rw [eval_put_other hne]
            rw [getD_set_ne false hij] at hlk
            exact hF k _ w w' (hf k ok dk hkn hk hdk hlk) hb
        · rw [count_set (by rw [inv.size]; exact hjl) hjun]
          omega
  have inv0 : HeadInv .any l.toArray n (Array.replicate l.toArray.size false) :=
    ⟨by simp, fun j oj _ hl => (by rw [getD_replicate_false] at hl; cases hl), fun t _ ht => getD_in (by simpa using ht) (getD_replicate_false _ _)⟩
  refine wp_region_any hm (key _ _ _ _ hI inv0 ⟨rfl, rfl, fun _ _ => rfl⟩ (fun i o d _ _ _ hl => by rw [getD_replicate_false] at hl; cases hl) (by simp [List.count_replicate]))

theorem puts_eq {a : Act} : ∀ (L : List (Tmp × Value)) (a0 : Act), a.tmps.size = a0.tmps.size → a.defers = a0.defers → (∀ t, (∀ p ∈ L, p.1 ≠ t) → a.tmps[t]? = a0.tmps[t]?) → (∀ p ∈ L, p.1 < a.tmps.size ∧ a.eval (.tmp p.1) = p.2) → a = L.foldl (fun a p => a.put (some p.1) p.2) a0
  | [], a0, hs, hd, hsame, _ => by
    have ht : a.tmps = a0.tmps := Array.ext_getElem? fun t => hsame t (fun p hp => by cases hp)
    cases a; cases a0
    simp only at ht hd
    subst ht hd
    rfl
  | p :: L, a0, hs, hd, hsame, hv => by
    rw [List.foldl_cons]
    refine puts_eq L (a0.put (some p.1) p.2) (by simp [Act.put, hs]) hd (fun t ht => ?_) (fun q hq => hv q (by simp [hq]))
    by_cases htp : p.1 = t
    · subst htp
      obtain ⟨hl, he⟩ := hv p (by simp)
      have h1 : a.tmps[p.1]? = some p.2 := by
        have he2 : a.tmps.getD p.1 undef = p.2 := he
        rw [Array.getD_eq_getD_getElem?, Array.getElem?_eq_getElem hl] at he2
        rw [Array.getElem?_eq_getElem hl]
        simpa using he2
      rw [h1]
      simp [Act.put, hs ▸ hl]
    · rw [hsame t (fun q hq => by
        rcases List.mem_cons.1 hq with h | h
        · rw [h]; exact htp
        · exact ht q h)]
      simp [Act.put, Array.getElem?_setIfInBounds_ne htp]
/-- The frame behind the head: the slots that it wrote, one by one. -/
theorem Agrees.puts {l : List Oper} {a0 a : Act} (h : Agrees l a0 a) (L : List (Tmp × Value)) (hL : l.map (·.dst) = L.map fun p => some p.1) (hlt : ∀ p ∈ L, p.1 < a0.tmps.size) (hv : ∀ p ∈ L, a.eval (.tmp p.1) = p.2) : a = L.foldl (fun a p => a.put (some p.1) p.2) a0 := by
  refine puts_eq L a0 h.size h.defers (fun t ht => h.same t fun o ho e => ?_) fun p hp => ⟨by rw [h.size]; exact hlt p hp, hv p hp⟩
  have h1 : some t ∈ l.map (·.dst) := e ▸ List.mem_map_of_mem (f := (·.dst)) ho
  rw [hL] at h1
  obtain ⟨p, hp, hpt⟩ := List.mem_map.1 h1
  exact ht p hp (Option.some.inj hpt)

theorem wp_value {o : Oper} {a : Act} {w : World} {K : Act → World → Prop} {Q : Exit → Act → World → Prop} {v : Value} (h : (execOp a.eval o).run P w = .ok (.value v) w) (hk : K (a.put o.dst v) w) : o.wp P a w K Q := by
  unfold Oper.wp
  rw [h]
  exact hk
theorem wp_enter {o : Oper} {a : Act} {w : World} {K : Act → World → Prop} {Q : Exit → Act → World → Prop} {v : Value} {f : FuncId} {args : Array Value} {R : World → Prop} (h : (execOp a.eval o).run P w = .ok (.enter f args) w) (hc : Calls P f args w fun e w' => e = .returned v ∧ R w') (hk : ∀ w', R w' → K (a.put o.dst v) w') : o.wp P a w K Q := by
  unfold Oper.wp
  rw [h]
  exact hc.mono fun e w' ⟨he, hr⟩ => by subst he; exact hk w' hr
theorem wanted_of {ops : Array Oper} {a : Act} {o og : Oper} {g : Nat} {b : Bool} {d : Tmp} (hg : o.guard = some (g, b)) (ho : ops[g]? = some og) (hd : og.dst = some d) (h : a.eval (.tmp d) = .bool b) : Region.wanted o (yielded ops a.tmps) = true := by
  have hy : yielded ops a.tmps g = some b := by
    unfold yielded
    rw [ho]
    simp only [Option.bind_some, hd]
    unfold Act.eval at h
    cases ht : a.tmps[d]? with
    | none => simp [ht, undef] at h
    | some v =>
      simp [ht] at h
      subst h
      rfl
  unfold Region.wanted
  rw [hg]
  simp [hy]
theorem not_dst {l : List Oper} {t : Tmp} (h : (l.all fun o => o.dst != some t) = true) : ∀ o ∈ l, o.dst ≠ some t := fun o ho => by
  have := List.all_eq_true.1 h o ho
  simpa using this
theorem nf {a : Act} {t : Tmp} {v : Value} (h : a.eval (.tmp t) = v) : a.tmps[t]?.getD undef = v := by
  rw [← Array.getD_eq_getD_getElem?]
  exact h
/-- A slot that the region does not write. -/
theorem Agrees.old {l : List Oper} {a0 a : Act} (h : Agrees l a0 a) (t : Tmp) (v : Value) (hl : (l.all fun o => o.dst != some t) = true) (h0 : a0.tmps[t]? = some v) : a.eval (.tmp t) = v := by
  show a.tmps.getD t undef = v
  rw [Array.getD_eq_getD_getElem?, h.same t (not_dst hl), h0]
  rfl

end
end Go.Proofs.YtdgaoebjbhomdaaDoor.QT
