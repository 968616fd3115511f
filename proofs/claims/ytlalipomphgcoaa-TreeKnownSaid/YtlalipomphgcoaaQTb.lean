/- A region that draws its order, whose head is quiet and whose others come one behind the other, where the first operation (a slot's value handed on) may wait for nobody till late: it is taken first. -/
import Derived.Test.YtlalipomphgcoaaQTail
import Derived.BigQuiet
namespace Go.Proofs.Ytlalipomphgcoaa.QT
open Go.RowKit Go.BigFrame

section
variable {P : Program} {ops : Array Oper} {md : Region.Mode} {C : World → Prop}

/-- As 'sinkB', where the first operation has come up already. -/
def sink1 (md : Region.Mode) (ops : Array Oper) (n : Nat) : Bool :=
  (List.range n).all fun i => i == 0 || (List.range (n + 1)).any fun j => decide (i < j) && Region.waitsFor md ops j i

theorem waits1 {n : Nat} {listed : Array Bool} (hs : sink1 md ops n = true) (hc : Region.chainB md ops n = true) (inv : HeadInv md ops n listed) (h0 : listed.getD 0 true = true) :
    ∀ (d i : Nat), n - i = d → i < n → listed.getD i true = false → ∀ t, n ≤ t → t ∉ Region.ready md ops listed := by
  intro d
  induction d using Nat.strongRecOn with
  | _ d ih =>
    intro i hd hi hun t ht hr
    obtain ⟨_, ot, hot, hall⟩ := mem_ready.1 hr
    have htlt : t < ops.size := (Array.getElem?_eq_some_iff.1 hot).1
    have hun' : listed.getD i false = false := by
      have hil : i < listed.size := by rw [inv.size]; omega
      simp [hil] at hun ⊢; exact hun
    rcases Nat.lt_or_ge n t with htn | htn
    · have h1 := List.all_eq_true.1 hc t (List.mem_range.2 htlt)
      simp only [Bool.or_eq_true, decide_eq_true_eq] at h1
      obtain ⟨o', ho', e, he, hb, hon⟩ := Region.waitsFor_spec (h1.resolve_left (by omega))
      obtain rfl : o' = ot := Option.some.inj (ho'.symm.trans hot)
      have h2 := hall e he hb
      have h3 := inv.tail (t - 1) (by omega) (by omega)
      have hl : t - 1 < listed.size := by rw [inv.size]; omega
      rw [hon] at h2
      simp [hl] at h2 h3
      rw [h3] at h2
      cases h2
    · obtain rfl : t = n := by omega
      have h1 := List.all_eq_true.1 hs i (List.mem_range.2 hi)
      rw [Bool.or_eq_true] at h1
      rcases h1 with h1 | h1
      · have : i = 0 := by simpa using h1
        subst this
        rw [h0] at hun
        cases hun
      · obtain ⟨j, hj, hj2⟩ := List.any_eq_true.1 h1
        simp only [Bool.and_eq_true, decide_eq_true_eq] at hj2
        obtain ⟨oj, hoj, e, he, hb, hon⟩ := Region.waitsFor_spec hj2.2
        have hjle : j ≤ t := by have := List.mem_range.1 hj; omega
        by_cases hjt : j = t
        · subst hjt
          obtain rfl : oj = ot := Option.some.inj (hoj.symm.trans hot)
          have h2 := hall e he hb
          rw [hon, hun'] at h2
          cases h2
        · have hjs : j < listed.size := by rw [inv.size]; omega
          cases hl : listed.getD j false with
          | true =>
            have h2 := inv.closed j oj hoj hl e he hb
            rw [hon, hun'] at h2
            cases h2
          | false =>
            refine ih (t - j) (by omega) j rfl (by omega) ?_ t (Nat.le_refl _) hr
            simp [hjs] at hl ⊢; exact hl

theorem any_of_quiet1 {n : Nat} {l : List Oper} {Q : Exit → Act → World → Prop} (hl : l = ops.toList) (hn : n < ops.size) (hs : sink1 md ops n = true) (hc : Region.chainB md ops n = true)
    (hgs : ∀ i o, i < n → ops[i]? = some o → guardIn n o = true) (hb : backB md ops = true) (hseq : Region.seqB md ops (ops.size - n) n (firstN ops.size n) = true) :
    ∀ (F : Nat) (listed : Array Bool) (a : Act) (w : World), C w → HeadInv md ops n listed → listed.getD 0 true = true → F + listed.toList.count true = ops.size →
      wpAnyQ P md (blanked ops n) C (fun a' => ∀ w', C w' → wpList P ops Q (l.drop n) a' w') F listed a → wpAny P md ops Q F listed a w := by
  intro F
  induction F with
  | zero =>
    intro listed a w hw inv _ hcnt h
    exfalso
    have hlen : listed.toList.length = ops.size := by simp [inv.size]
    have hall := (List.count_eq_length (a := true) (l := listed.toList)).1 (by omega)
    have := inv.tail n (Nat.le_refl _) hn
    have hi : n < listed.size := by rw [inv.size]; exact hn
    simp [hi] at this
    have h2 := hall listed[n] (by simp)
    rw [this] at h2
    cases h2
  | succ F ih =>
    intro listed a w hw inv h0 hcnt h
    by_cases hall : ∀ i, i < n → listed.getD i true = true
    · have he := listed_first inv hall
      have hF : F + 1 = ops.size - n := by
        rw [he, count_first _ _ (by omega)] at hcnt
        omega
      have hQ := quiet_drop (F + 1) n listed a (Nat.le_refl _) (by rw [hF, he]; exact hseq) h w hw
      have hd : (l.drop n).length = F + 1 := by rw [hF, hl]; simp
      rw [← hd]
      exact wpAny_of_seq (l.drop n) n listed a w (fun j => by rw [hl]; simp [List.getElem?_drop]) (by rw [hd, hF, he]; exact hseq) hQ
    · have : ∃ i, i < n ∧ listed.getD i true = false := by
        apply Classical.byContradiction
        intro hno
        refine hall fun i hi => ?_
        cases hg : listed.getD i true with
        | true => rfl
        | false => exact absurd ⟨i, hi, hg⟩ hno
      obtain ⟨i, hi, hun⟩ := this
      refine ⟨fun h0 => absurd h0 (ready_some hb inv.size i (by omega) hun), fun j hj => ?_⟩
      have hjn : j < n := by
        rcases Nat.lt_or_ge j n with h1 | h1
        · exact h1
        · exact absurd hj (waits1 hs hc inv h0 _ i rfl hi hun j h1)
      have h1 := h.2 j (by rw [ready_blanked]; exact hj)
      obtain ⟨hjun, oj, hoj, _⟩ := mem_ready.1 hj
      have h2 : qOp P ops C j (wpAnyQ P md (blanked ops n) C (fun a' => ∀ w', C w' → wpList P ops Q (l.drop n) a' w') F (listed.setIfInBounds j true)) a := by
        unfold qOp at h1 ⊢
        rw [blanked_get, hoj] at h1
        rw [hoj]
        simp only [Option.map_some] at h1 ⊢
        rw [blank_lt hjn, wanted_blanked (hgs j oj hjn hoj)] at h1
        exact h1
      refine wpOp_of_qOp hw (fun a' w' hw' h3 => ih (listed.setIfInBounds j true) a' w' hw' (inv.set hj hjn) ?_ ?_ h3) h2
      · by_cases hj0 : j = 0
        · subst hj0
          have hjl : 0 < listed.size := by rw [inv.size]; omega
          simp [hjl]
        · rw [getD_set_ne true hj0]; exact h0
      · rw [count_set (by rw [inv.size]; omega) hjun]
        omega

def tail1B (ops : Array Oper) (n : Nat) : Bool :=
  Region.noSelect ops && decide (n < ops.size) && decide (1 ≤ n) && sink1 .any ops n && Region.chainB .any ops n && (Region.ready .any ops (Array.replicate ops.size false)).contains 0 && Region.free .any ops (Array.replicate ops.size false) 0 &&
    Region.lexHead .any ops (ops.size - n) (n - 1) 1 (firstN ops.size 1) && ops.toList.all (guardIn n) && backB .any ops

/-- The first operation hands a slot's value on and may wait for nobody: it is taken first; then as above. -/
theorem wp_region_quiet_tail1 {id : Nat} {Q : Exit → Act → World → Prop} {a : Act} {w : World} {o : Oper} {l : List Oper} (n : Nat) (x : Operand) (ho : o.op = .move x) (hog : o.guard = none) (hm : P.follows .mixedOrders = true) (hB : tail1B (o :: l).toArray n = true)
    (hQ2 : ∀ v c a w, Q (.panic c) (a.put o.dst v) w → Q (.panic c) a w) (hC : C { w with drawn := w.drawn + 1 })
    (h : wpQuiet P (o :: l).toArray C (fun a' => ∀ w', C w' → wpList P (o :: l).toArray Q (l.drop (n - 1)) a' w') (l.take (n - 1)) (a.put o.dst (a.eval x))) : (Code.region id (o :: l).toArray true).wp P Q a w := by
  simp only [tail1B, Bool.and_eq_true, decide_eq_true_eq] at hB
  obtain ⟨⟨⟨⟨⟨⟨⟨⟨⟨hsel, hn⟩, hn1⟩, hs⟩, hc⟩, hr0⟩, hf0⟩, hhead⟩, hg⟩, hb⟩ := hB
  have hga : ∀ i o', (o :: l).toArray[i]? = some o' → guardIn n o' = true := fun i o' ho' => List.all_eq_true.1 hg o' (by simpa using Array.mem_of_getElem? ho')
  have hn' : n - 1 < l.length := by simp at hn; omega
  obtain ⟨hlexF, hseq⟩ := lex_of_head (md := .any) hga hn (n - 1) 1 (by omega) hhead
  have hlist : (blanked (o :: l).toArray n).toList.drop 1 = l.take (n - 1) ++ (l.drop (n - 1)).mapIdx fun i o => blank n (n + i) o := by
    apply List.ext_getElem?
    intro i
    rw [List.getElem?_drop, Array.getElem?_toList, blanked_get]
    have hsh : (o :: l).toArray[1 + i]? = l[i]? := by rw [Nat.add_comm]; simp
    rw [hsh]
    by_cases hi : i < n - 1
    · rw [List.getElem?_append_left (by simp; omega), List.getElem?_take_of_lt hi]
      cases l[i]? with
      | none => rfl
      | some o' => simp [blank_lt (show 1 + i < n by omega)]
    · have ht : (l.take (n - 1)).length = n - 1 := by simp; omega
      rw [List.getElem?_append_right (by omega), ht, List.getElem?_mapIdx, List.getElem?_drop, show n - 1 + (i - (n - 1)) = i by omega, show n + (i - (n - 1)) = 1 + i by omega]
  have hmono : ∀ (l1 : List Oper) (a : Act) (Q1 Q2 : Act → Prop), (∀ a, Q1 a → Q2 a) → wpQuiet P (o :: l).toArray C Q1 l1 a → wpQuiet P (o :: l).toArray C Q2 l1 a := by
    intro l1
    induction l1 with
    | nil => intro a Q1 Q2 hQ h; exact hQ _ h
    | cons o' r ih =>
      intro a Q1 Q2 hQ h
      unfold wpQuiet at h ⊢
      split
      · rename_i hw
        simp only [hw, if_true] at h
        exact Oper.quiet_mono (fun a' => ih a' Q1 Q2 hQ) h
      · rename_i hw
        simp only [hw] at h
        exact ih _ Q1 Q2 hQ h
  have hq : wpQuiet P (blanked (o :: l).toArray n) C (fun a' => ∀ w', C w' → wpList P (o :: l).toArray Q ((o :: l).drop n) a' w') ((blanked (o :: l).toArray n).toList.drop 1) (a.put o.dst (a.eval x)) := by
    rw [hlist]
    refine quiet_append _ _ _ ?_
    refine quiet_blanked _ _ (fun o' ho' => List.all_eq_true.1 hg o' (by simpa using Or.inr (List.mem_of_mem_take ho'))) ?_
    refine hmono _ _ _ _ (fun a' ha' => quiet_blanks (l.drop (n - 1)) n a' (Nat.le_refl _) ?_) h
    have e : (o :: l).drop n = l.drop (n - 1) := by
      obtain ⟨k, rfl⟩ : ∃ k, n = k + 1 := ⟨n - 1, by omega⟩
      simp
    rw [e]
    exact ha'
  have hsz : ((blanked (o :: l).toArray n).toList.drop 1).length = (o :: l).toArray.size - 1 := by
    rw [List.length_drop, Array.length_toList, blanked_size]
  have hA := wpAnyQ_lex (C := C) (md := .any) (select_blanked (n := n) hsel) ((blanked (o :: l).toArray n).toList.drop 1) 1 (firstN (o :: l).toArray.size 1) (a.put o.dst (a.eval x)) (fun j => by
    rw [List.getElem?_drop, Array.getElem?_toList]) (by rw [hsz]; exact hlexF) hq
  rw [hsz] at hA
  have h0r : 0 ∈ Region.ready .any (o :: l).toArray (Array.replicate (o :: l).toArray.size false) := by simpa using hr0
  have h0o : (o :: l).toArray[0]? = some o := by simp
  have hy : Yields P (o :: l).toArray o (a.eval x) a := .inl ⟨by simp [Region.wanted, hog], fun w => run_move x ho w⟩
  refine wp_region_any hm ?_
  have e1 : (o :: l).toArray.size = ((o :: l).toArray.size - 1) + 1 := by simp
  rw [e1]
  refine wpAny_first h0o (Region.noSelect_spec hsel) (fun c a' w' => hQ2 _ c a' w') _ _ _ _ ?_ ?_ hy ?_
  · rw [← e1]; exact Region.free_spec h0o hf0
  · rw [← e1]; exact h0r
  · have inv0 : HeadInv .any (o :: l).toArray n (Array.replicate (o :: l).toArray.size false) :=
      ⟨by simp, fun j oj _ hl => (by rw [getD_replicate_false] at hl; cases hl), fun t _ ht => getD_in (by simpa using ht) (getD_replicate_false _ _)⟩
    have hset : (Array.replicate (o :: l).toArray.size false).setIfInBounds 0 true = firstN (o :: l).toArray.size 1 := by
      rw [firstN_zero, firstN_set (by simp)]
    rw [← e1, hset]
    have inv1 := inv0.set h0r (by omega)
    rw [hset] at inv1
    refine any_of_quiet1 (n := n) (l := o :: l) (by simp) hn hs hc (fun i o' hi ho' => hga i o' ho') hb hseq _ _ _ _ hC inv1 (by simp [firstN]) ?_ hA
    rw [count_first _ _ (by simp)]
    simp

/-- The same, where blocks may be laid. -/
theorem wp_region_below_tail1 {id : Nat} {Q : Exit → Act → World → Prop} {a : Act} {w : World} {o : Oper} {l : List Oper} (n : Nat) (x : Operand) (ho : o.op = .move x) (hog : o.guard = none) (hm : P.follows .mixedOrders = true) (hB : tail1B (o :: l).toArray n = true)
    (hQ2 : ∀ v c a w, Q (.panic c) (a.put o.dst v) w → Q (.panic c) a w)
    (h : wpQuiet P (o :: l).toArray (fun w' => ∃ p : Regrown, w' = Sort.grow (redrawn w p.d) p.os) (fun a' => ∀ w', (∃ p : Regrown, w' = Sort.grow (redrawn w p.d) p.os) → wpList P (o :: l).toArray Q (l.drop (n - 1)) a' w') (l.take (n - 1)) (a.put o.dst (a.eval x))) : (Code.region id (o :: l).toArray true).wp P Q a w :=
  wp_region_quiet_tail1 (C := fun w' => ∃ p : Regrown, w' = Sort.grow (redrawn w p.d) p.os) n x ho hog hm hB hQ2 ⟨⟨w.drawn + 1, #[]⟩, by rw [Sort.grow_empty]; rfl⟩ h

end
end Go.Proofs.Ytlalipomphgcoaa.QT
