/- A region that draws its order, one of whose first n operations (m) turns the world, the others being values whichever world they meet; what comes behind them comes in order. -/
import Derived.Test.YtdgaoebjbhomdaaDoorQFt
namespace Go.Proofs.YtdgaoebjbhomdaaDoor.QT
open Go.RowKit

section
variable {P : Program}

def dstsS (l : List Oper) (n : Nat) : Bool := l.all (fun o => match o.dst with | some d => decide (d < n) | none => true) && decide ((l.filterMap (·.dst)).Nodup)

theorem nodup_dst : ∀ (l : List Oper), (l.filterMap (·.dst)).Nodup → ∀ (i j : Nat) (oi oj : Oper) (d : Tmp), l[i]? = some oi → l[j]? = some oj → oi.dst = some d → oj.dst = some d → i = j
  | [], _, i, j, oi, oj, d, hi, _, _, _ => by simp at hi
  | o :: l, h, i, j, oi, oj, d, hi, hj, h1, h2 => by
    have hl : (l.filterMap (·.dst)).Nodup := by
      rw [List.filterMap_cons] at h
      split at h
      · exact h
      · exact (List.nodup_cons.1 h).2
    have hno : ∀ d, o.dst = some d → ∀ (k : Nat) (ok : Oper), l[k]? = some ok → ok.dst ≠ some d := fun d hd k ok hk he => by
      rw [List.filterMap_cons, hd] at h
      exact (List.nodup_cons.1 h).1 (List.mem_filterMap.2 ⟨ok, List.mem_of_getElem? hk, he⟩)
    cases i with
    | zero =>
      cases j with
      | zero => rfl
      | succ j =>
        simp at hi hj
        subst hi
        exact absurd h2 (hno d h1 j oj hj)
    | succ i =>
      cases j with
      | zero =>
        simp at hi hj
        subst hj
        exact absurd h1 (hno d h2 i oi hi)
      | succ j =>
        simp at hi hj
        rw [nodup_dst l hl i j oi oj d hi hj h1 h2]

theorem wp_region_turn_tail {id : Nat} {Q : Exit → Act → World → Prop} {a0 : Act} {w0 : World} {l : List Oper} (n m : Nat) (hm : P.follows .mixedOrders = true) (J : World → Prop) (wB : World) (F : Nat → Value → Prop)
    (hB : factsTailB l n = true) (hD : dstsS (l.take n) a0.tmps.size = true) (hmn : m < n) (hA : J w0.drew)
    (hstep : ∀ (i : Nat) (o : Oper), i < n → i ≠ m → l[i]? = some o → ∀ a w, J w → Agrees (l.take n) a0 a → (∀ e ∈ o.after, Region.binds .any e = true → ∀ (oj : Oper) (d : Tmp), l[e.on]? = some oj → oj.dst = some d → F e.on (a.eval (.tmp d))) →
      Region.wanted o (yielded l.toArray a.tmps) = true ∧ o.wp P a w (fun a' w' => ∃ v, a' = a.put o.dst v ∧ F i v ∧ w' = w) Q)
    (hmid : ∀ (o : Oper), l[m]? = some o → ∀ a, Agrees (l.take n) a0 a → (∀ e ∈ o.after, Region.binds .any e = true → ∀ (oj : Oper) (d : Tmp), l[e.on]? = some oj → oj.dst = some d → F e.on (a.eval (.tmp d))) →
      Region.wanted o (yielded l.toArray a.tmps) = true ∧ o.wp P a w0.drew (fun a' w' => ∃ v, a' = a.put o.dst v ∧ F m v ∧ w' = wB ∧ J wB) Q)
    (hfin : ∀ a, Agrees (l.take n) a0 a → (∀ (i : Nat) (o : Oper) (d : Tmp), i < n → l[i]? = some o → o.dst = some d → F i (a.eval (.tmp d))) → wpList P l.toArray Q (l.drop n) a wB) : (Code.region id l.toArray true).wp P Q a0 w0 := by
  simp only [factsTailB, Bool.and_eq_true, decide_eq_true_eq] at hB
  obtain ⟨⟨⟨⟨hn, hs⟩, hc⟩, hseq⟩, hbk⟩ := hB
  simp only [dstsS, Bool.and_eq_true, decide_eq_true_eq] at hD
  obtain ⟨hall, hnd⟩ := hD
  have htk : ∀ (i : Nat), i < n → (l.take n)[i]? = l[i]? := fun i hi => List.getElem?_take_of_lt hi
  have hdst : ∀ (i : Nat) (o : Oper) (d : Tmp), i < n → l[i]? = some o → o.dst = some d → d < a0.tmps.size := fun i o d hi ho hd => by
    have h1 := List.all_eq_true.1 hall o (List.mem_of_getElem? ((htk i hi).trans ho))
    rw [hd] at h1
    simpa using h1
  have hinj : ∀ (i j : Nat) (oi oj : Oper) (d : Tmp), i < n → j < n → l[i]? = some oi → l[j]? = some oj → oi.dst = some d → oj.dst = some d → i = j := fun i j oi oj d hin hjn hi hj h1 h2 =>
    nodup_dst _ hnd i j oi oj d ((htk i hin).trans hi) ((htk j hjn).trans hj) h1 h2
  have key : ∀ (fuel : Nat) (listed : Array Bool) (a : Act) (w : World), J w → (listed.getD m false = false → w = w0.drew) → (listed.getD m false = true → w = wB) → HeadInv .any l.toArray n listed → Agrees (l.take n) a0 a → (∀ i o d, i < n → l[i]? = some o → o.dst = some d → listed.getD i false = true → F i (a.eval (.tmp d))) →
      fuel + listed.toList.count true = l.toArray.size → wpAny P .any l.toArray Q fuel listed a w := by
    intro fuel
    induction fuel with
    | zero =>
      intro listed a w hJ hw0 hwB inv hag hf hcnt
      exfalso
      have hlen : listed.toList.length = l.toArray.size := by simp [inv.size]
      have hall2 := (List.count_eq_length (a := true) (l := listed.toList)).1 (by omega)
      have := inv.tail n (Nat.le_refl _) hn
      have hi : n < listed.size := by rw [inv.size]; exact hn
      simp [hi] at this
      have h2 := hall2 listed[n] (by simp)
      rw [this] at h2
      cases h2
    | succ fuel ih =>
      intro listed a w hJ hw0 hwB inv hag hf hcnt
      by_cases hall2 : ∀ i, i < n → listed.getD i true = true
      · have he := listed_first inv hall2
        have hFu : fuel + 1 = l.toArray.size - n := by
          rw [he, count_first _ _ (by omega)] at hcnt
          omega
        have hin : ∀ i, i < n → listed.getD i false = true := fun i hi => by
          have h1 := hall2 i hi
          have hil : i < listed.size := by rw [inv.size]; omega
          simp [hil] at h1 ⊢
          exact h1
        have hQ := hfin a hag fun i o d hi ho hd => hf i o d hi ho hd (hin i hi)
        rw [← hwB (hin m hmn)] at hQ
        have hd : (l.drop n).length = fuel + 1 := by rw [hFu]; simp
        rw [← hd]
        exact wpAny_of_seq (l.drop n) n listed a w (fun j => by simp [List.getElem?_drop]) (by rw [hd, hFu, he]; exact hseq) hQ
      · have : ∃ i, i < n ∧ listed.getD i true = false := by
          apply Classical.byContradiction
          intro hno
          refine hall2 fun i hi => ?_
          cases hg : listed.getD i true with
          | true => rfl
          | false => exact absurd ⟨i, hi, hg⟩ hno
        obtain ⟨i, hi, hun⟩ := this
        refine ⟨fun h0 => absurd h0 (ready_some hbk inv.size i (by omega) hun), fun j hj => ?_⟩
        have hjn : j < n := by
          rcases Nat.lt_or_ge j n with h1 | h1
          · exact h1
          · exact absurd hj (tail_waits hs hc hn inv _ i rfl hi hun j h1)
        obtain ⟨hjun, o, ho, hall3⟩ := mem_ready.1 hj
        have hol : l[j]? = some o := by simpa using ho
        have hjl := (Array.getElem?_eq_some_iff.1 ho).1
        have hbj : ∀ e ∈ o.after, Region.binds .any e = true → e.on < j := fun e he hb => by
          have h1 := List.all_eq_true.1 hbk j (List.mem_range.2 hjl)
          simp only [ho] at h1
          have h2 := Array.all_eq_true'.1 h1 e he
          simpa [hb] using h2
        have hdep : ∀ e ∈ o.after, Region.binds .any e = true → ∀ (oj : Oper) (d : Tmp), l[e.on]? = some oj → oj.dst = some d → F e.on (a.eval (.tmp d)) := fun e he hb oj d hj' hd => hf e.on oj d (by have := hbj e he hb; omega) hj' hd (hall3 e he hb)
        have hnext : ∀ (v : Value) (w' : World), J w' → (j = m → w' = wB) → (j ≠ m → w' = w) → F j v → wpAny P .any l.toArray Q fuel (listed.setIfInBounds j true) (a.put o.dst v) w' := fun v w' hJ' h1 h2 hFv => by
          refine ih _ _ _ hJ' (fun hl => ?_) (fun hl => ?_) (inv.set hj hjn) ⟨?_, ?_, fun t ht => ?_⟩ (fun k ok dk hkn hk hdk hlk => ?_) ?_
          · by_cases hjm : j = m
            · subst hjm
              have hil : j < listed.size := by rw [inv.size]; exact hjl
              simp [hil] at hl
            · rw [getD_set_ne false hjm] at hl
              rw [h2 hjm]
              exact hw0 hl
          · by_cases hjm : j = m
            · exact h1 hjm
            · rw [getD_set_ne false hjm] at hl
              rw [h2 hjm]
              exact hwB hl
          · cases hd : o.dst with
            | none => simpa [Act.put] using hag.size
            | some d => simp [Act.put, hag.size]
          · cases hd : o.dst with
            | none => simpa [Act.put] using hag.defers
            | some d => exact hag.defers
          · rw [← hag.same t ht]
            cases hd : o.dst with
            | none => rfl
            | some d =>
              have hne : d ≠ t := fun e => ht o (List.mem_of_getElem? ((htk j hjn).trans hol)) (by rw [hd, e])
              simp [Act.put, Array.getElem?_setIfInBounds_ne hne]
          · by_cases hij : j = k
            · subst hij
              obtain rfl : ok = o := Option.some.inj (hk.symm.trans hol)
              rw [hdk, eval_put_same (by rw [hag.size]; exact hdst j ok dk hjn hol hdk)]
              exact hFv
            · rw [getD_set_ne false hij] at hlk
              cases hd : o.dst with
              | none => exact hf k ok dk hkn hk hdk hlk
              | some d =>
                have hne : d ≠ dk := fun e => hij (hinj j k o ok d hjn hkn hol hk hd (by rw [hdk, e]))
                rw [eval_put_other hne]
                exact hf k ok dk hkn hk hdk hlk
          · rw [count_set (by rw [inv.size]; exact hjl) hjun]
            omega
        by_cases hjm : j = m
        · subst hjm
          have hwj : w = w0.drew := hw0 (getD_both hjun)
          obtain ⟨hwt, hwp⟩ := hmid o hol a hag hdep
          rw [← hwj] at hwp
          have hop : wpOp P l.toArray Q j (fun a' w' => ∃ v, a' = a.put o.dst v ∧ F j v ∧ w' = wB ∧ J wB) a w := by
            unfold wpOp
            simp only [ho, hwt, if_true]
            exact Or.inl hwp
          refine wpOp_mono (fun a' w' hh => ?_) hop
          obtain ⟨v, rfl, hFv, rfl, hJB⟩ := hh
          exact hnext v _ hJB (fun _ => rfl) (fun h => absurd rfl h) hFv
        · obtain ⟨hwt, hwp⟩ := hstep j o hjn hjm hol a w hJ hag hdep
          have hop : wpOp P l.toArray Q j (fun a' w' => ∃ v, a' = a.put o.dst v ∧ F j v ∧ w' = w) a w := by
            unfold wpOp
            simp only [ho, hwt, if_true]
            exact Or.inl hwp
          refine wpOp_mono (fun a' w' hh => ?_) hop
          obtain ⟨v, rfl, hFv, rfl⟩ := hh
          exact hnext v _ hJ (fun h => absurd h hjm) (fun _ => rfl) hFv
  have inv0 : HeadInv .any l.toArray n (Array.replicate l.toArray.size false) :=
    ⟨by simp, fun j oj _ hl => (by rw [getD_replicate_false] at hl; cases hl), fun t _ ht => getD_in (by simpa using ht) (getD_replicate_false _ _)⟩
  refine wp_region_any hm (key _ _ _ _ hA (fun _ => rfl) (fun hl => by rw [getD_replicate_false] at hl; cases hl) inv0 ⟨rfl, rfl, fun _ _ => rfl⟩ (fun i o d _ _ _ hl => by rw [getD_replicate_false] at hl; cases hl) (by simp [List.count_replicate]))
end
end Go.Proofs.YtdgaoebjbhomdaaDoor.QT
