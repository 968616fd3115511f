/- A region that draws its order, whose first n operations are quiet in a class of worlds (they read, or call what leaves a world of the class), and whose others come one behind the other behind them: one walk of the head in the text's order, then the others in every world of the class. -/
import Derived.Deep.QuietTactic
import Derived.StillTail
import Derived.Lib.QuietBelow
namespace Go.Proofs.YtdgaoebjbhomdaaDoor.QT
open Go.RowKit

section
variable {P : Program} {ops : Array Oper} {md : Region.Mode} {C : World → Prop}

/-- What stands from n on is struck out: an operation that does nothing, and waits for what it waited for. -/
def blank (n i : Nat) (o : Oper) : Oper := if i < n then o else { o with dst := none, op := .assign (.const (.bool true)), guard := none }
def blanked (ops : Array Oper) (n : Nat) : Array Oper := ops.mapIdx (blank n)

theorem blanked_get (n i : Nat) : (blanked ops n)[i]? = (ops[i]?).map (blank n i) := by
  unfold blanked; simp
theorem blanked_size (n : Nat) : (blanked ops n).size = ops.size := by simp [blanked]
theorem blank_lt {n i : Nat} (h : i < n) (o : Oper) : blank n i o = o := by unfold blank; rw [if_pos h]
theorem blank_after (n i : Nat) (o : Oper) : (blank n i o).after = o.after := by
  unfold blank; split <;> rfl

theorem ready_blanked (n : Nat) (listed : Array Bool) : Region.ready md (blanked ops n) listed = Region.ready md ops listed := by
  unfold Region.ready
  rw [blanked_size]
  congr 1
  funext i
  rw [blanked_get]
  cases ops[i]? with
  | none => rfl
  | some o => simp [blank_after]

/-- Each guard of the head is of the head. -/
def guardIn (n : Nat) (o : Oper) : Bool := match o.guard with
  | some (g, _) => decide (g < n)
  | none => true
/-- Each operation waits for earlier ones alone. -/
def backB (md : Region.Mode) (ops : Array Oper) : Bool := (List.range ops.size).all fun i => match ops[i]? with
  | some o => o.after.all fun e => !Region.binds md e || decide (e.on < i)
  | none => true
def firstN (m n : Nat) : Array Bool := ((List.range m).map fun i => decide (i < n)).toArray
def tailB (ops : Array Oper) (n : Nat) : Bool := Region.lexTailB .any ops n && ops.toList.all (guardIn n) && backB .any ops

theorem wanted_blanked {n : Nat} {o : Oper} (h : guardIn n o = true) (t : Array Value) : Region.wanted o (yielded (blanked ops n) t) = Region.wanted o (yielded ops t) := by
  unfold Region.wanted
  unfold guardIn at h
  cases hg : o.guard with
  | none => rfl
  | some gw =>
    obtain ⟨g, want⟩ := gw
    rw [hg] at h
    have hlt : g < n := by simpa using h
    have : yielded (blanked ops n) t g = yielded ops t g := by
      unfold yielded
      rw [blanked_get]
      cases ops[g]? with
      | none => rfl
      | some o' => simp [blank_lt hlt]
    simp only [this]

theorem looks_blanked {n : Nat} {o : Oper} (h : guardIn n o = true) : o.looksAt (blanked ops n) = o.looksAt ops := by
  unfold Oper.looksAt
  unfold guardIn at h
  cases hg : o.guard with
  | none => rfl
  | some gw =>
    obtain ⟨g, want⟩ := gw
    rw [hg] at h
    have hlt : g < n := by simpa using h
    simp only [blanked_get]
    cases ops[g]? with
    | none => rfl
    | some o' => simp [blank_lt hlt]

theorem apart_blanked {n : Nat} {x y : Oper} (hx : guardIn n x = true) (hy : guardIn n y = true) (h : x.apart ops y = true) : x.apart (blanked ops n) y = true := by
  unfold Oper.apart at h ⊢
  rw [looks_blanked hx, looks_blanked hy]
  exact h

theorem blank_looks {n i : Nat} (hi : ¬ i < n) (o : Oper) : (blank n i o).looksAt (blanked ops n) = [] := by
  unfold blank
  rw [if_neg hi]
  rfl
theorem blank_dst {n i : Nat} (hi : ¬ i < n) (o : Oper) : (blank n i o).dst = none := by
  unfold blank
  rw [if_neg hi]

theorem apart_blank {n i : Nat} (hi : ¬ i < n) (x o : Oper) : x.apart (blanked ops n) (blank n i o) = true := by
  unfold Oper.apart
  rw [blank_looks hi, blank_dst hi]
  cases x.dst <;> rfl
theorem blank_apart {n i : Nat} (hi : ¬ i < n) (x o : Oper) : (blank n i o).apart (blanked ops n) x = true := by
  unfold Oper.apart
  rw [blank_looks hi, blank_dst hi]
  cases x.dst <;> rfl

theorem free_head {n k : Nat} {listed : Array Bool} (hg : ∀ (i : Nat) (o : Oper), ops[i]? = some o → guardIn n o = true) (hk : k < n) (h : Region.free md ops listed k = true) : Region.free md (blanked ops n) listed k = true := by
  unfold Region.free at h ⊢
  rw [blanked_get]
  cases ho : ops[k]? with
  | none => rw [ho] at h; exact h
  | some ok =>
    rw [ho] at h
    simp only [Option.map_some, blank_lt hk, blanked_size] at h ⊢
    rw [List.all_eq_true] at h ⊢
    intro j hj
    have h1 := h j hj
    rw [Bool.or_eq_true] at h1 ⊢
    rcases h1 with h1 | h1
    · exact .inl h1
    · refine .inr ?_
      rw [blanked_get]
      cases hoj : ops[j]? with
      | none => rfl
      | some oj =>
        rw [hoj] at h1
        simp only [Option.map_some, blank_after] at h1 ⊢
        rw [Bool.or_eq_true] at h1 ⊢
        by_cases hjn : j < n
        · rw [blank_lt hjn]
          exact h1.imp id (apart_blanked (hg k ok ho) (hg j oj hoj))
        · exact .inr (apart_blank hjn ok oj)

theorem free_tail {n k : Nat} {listed : Array Bool} (hk : ¬ k < n) (hks : k < ops.size) : Region.free md (blanked ops n) listed k = true := by
  unfold Region.free
  rw [blanked_get, Array.getElem?_eq_getElem hks]
  simp only [Option.map_some]
  rw [List.all_eq_true]
  intro j _
  rw [Bool.or_eq_true]
  refine .inr ?_
  cases (blanked ops n)[j]? with
  | none => rfl
  | some oj =>
    simp only []
    rw [blank_apart hk]
    simp

theorem lex_of_seq {n : Nat} : ∀ (g k : Nat) (listed : Array Bool), n ≤ k → k + g = ops.size → Region.seqB md ops g k listed = true → Region.lexFrom md (blanked ops n) g k listed = true
  | 0, _, _, _, _, h => by
    simp only [Region.seqB] at h
    simp only [Region.lexFrom, ready_blanked, h]
  | g + 1, k, listed, hk, hs, h => by
    simp only [Region.seqB, Bool.and_eq_true, decide_eq_true_eq] at h
    simp only [Region.lexFrom, ready_blanked, h.1, free_tail (md := md) (listed := listed) (show ¬ k < n by omega) (show k < ops.size by omega), lex_of_seq g (k + 1) (listed.setIfInBounds k true) (Nat.le_succ_of_le hk) (by omega) h.2]
    simp

theorem firstN_set {m k : Nat} (_h : k < m) : (firstN m k).setIfInBounds k true = firstN m (k + 1) := by
  apply Array.ext
  · simp [firstN]
  · intro i h1 h2
    have hi : i < m := by simpa [firstN] using h2
    rw [Array.getElem_setIfInBounds]
    · simp only [firstN, List.getElem_toArray, List.getElem_map, List.getElem_range]
      by_cases hik : k = i
      · subst hik; simp
      · rw [if_neg hik]
        have : (i < k) ↔ (i < k + 1) := by omega
        simp [this]
    · simpa [firstN] using hi
theorem firstN_zero (m : Nat) : Array.replicate m false = firstN m 0 := by
  apply Array.ext
  · simp [firstN]
  · intro i h1 h2
    simp [firstN]

theorem lex_of_head {n : Nat} (hg : ∀ (i : Nat) (o : Oper), ops[i]? = some o → guardIn n o = true) (hn : n < ops.size) : ∀ (f k : Nat), k + f = n → Region.lexHead md ops (ops.size - n) f k (firstN ops.size k) = true →
    Region.lexFrom md (blanked ops n) (ops.size - k) k (firstN ops.size k) = true ∧ Region.seqB md ops (ops.size - n) n (firstN ops.size n) = true
  | 0, k, hk, h => by
    obtain rfl : k = n := by omega
    simp only [Region.lexHead] at h
    exact ⟨lex_of_seq _ _ _ (Nat.le_refl _) (by omega) h, h⟩
  | f + 1, k, hk, h => by
    simp only [Region.lexHead, Bool.and_eq_true] at h
    obtain ⟨⟨hr, hf⟩, h3⟩ := h
    rw [firstN_set (by omega)] at h3
    obtain ⟨h4, h5⟩ := lex_of_head hg hn f (k + 1) (by omega) h3
    refine ⟨?_, h5⟩
    rw [show ops.size - k = (ops.size - (k + 1)) + 1 by omega]
    simp only [Region.lexFrom, ready_blanked, Bool.and_eq_true]
    refine ⟨⟨hr, free_head hg (by omega) hf⟩, ?_⟩
    rw [firstN_set (by omega)]
    exact h4

theorem select_blanked {n : Nat} (h : Region.noSelect ops = true) : Region.noSelect (blanked ops n) = true := by
  unfold Region.noSelect at h ⊢
  rw [Array.all_eq_true_iff_forall_mem] at h ⊢
  intro x hx
  obtain ⟨i, hi⟩ := Array.getElem?_of_mem hx
  rw [blanked_get] at hi
  obtain ⟨o, ho, rfl⟩ := Option.map_eq_some_iff.1 hi
  have h1 := h o (Array.mem_of_getElem? ho)
  by_cases hi' : i < n
  · rw [blank_lt hi']
    exact h1
  · unfold blank
    rw [if_neg hi']

theorem quiet_append {Q : Act → Prop} (l2 : List Oper) : ∀ (l1 : List Oper) (a : Act), wpQuiet P ops C (wpQuiet P ops C Q l2) l1 a → wpQuiet P ops C Q (l1 ++ l2) a
  | [], _, h => h
  | o :: r, a, h => by
    unfold wpQuiet at h
    rw [List.cons_append]
    unfold wpQuiet
    split
    · rename_i hw
      simp only [hw, if_true] at h
      exact Oper.quiet_mono (fun a' => quiet_append l2 r a') h
    · rename_i hw
      simp only [hw] at h
      exact quiet_append l2 r _ h

theorem quiet_blanked {n : Nat} {Q : Act → Prop} : ∀ (l : List Oper) (a : Act), (∀ o ∈ l, guardIn n o = true) → wpQuiet P ops C Q l a → wpQuiet P (blanked ops n) C Q l a
  | [], _, _, h => h
  | o :: r, a, hg, h => by
    unfold wpQuiet at h ⊢
    rw [wanted_blanked (hg o (by simp))]
    split
    · rename_i hw
      simp only [hw, if_true] at h
      exact Oper.quiet_mono (fun a' => quiet_blanked r a' (fun o ho => hg o (by simp [ho]))) h
    · rename_i hw
      simp only [hw] at h
      exact quiet_blanked r _ (fun o ho => hg o (by simp [ho])) h

theorem quietAt_blank (n i : Nat) (hi : ¬ i < n) (o : Oper) (a : Act) (w : World) : (blank n i o).quietAt P a C w (.bool true) := by
  unfold blank
  rw [if_neg hi]
  exact ⟨rfl, rfl⟩

theorem quiet_blanks {n : Nat} {Q : Act → Prop} : ∀ (l : List Oper) (k : Nat) (a : Act), n ≤ k → Q a → wpQuiet P (blanked ops n) C Q (l.mapIdx fun i o => blank n (k + i) o) a
  | [], _, _, _, h => h
  | o :: r, k, a, hk, h => by
    rw [List.mapIdx_cons]
    unfold wpQuiet
    have hk' : ¬ (k + 0) < n := by omega
    have hw : Region.wanted (blank n (k + 0) o) (yielded (blanked ops n) a.tmps) = true := by
      unfold blank; rw [if_neg hk']; rfl
    have hd : (blank n (k + 0) o).dst = none := by unfold blank; rw [if_neg hk']
    rw [if_pos hw]
    refine ⟨.bool true, fun w _ => quietAt_blank n _ hk' o a w, ?_⟩
    rw [hd]
    have := quiet_blanks r (k + 1) (a.put none (.bool true)) (Nat.le_succ_of_le hk) h
    have e : (fun i o => blank n (k + (i + 1)) o) = fun i o => blank n (k + 1 + i) o := by
      funext i o; rw [show k + (i + 1) = k + 1 + i by omega]
    rw [e]
    exact this

theorem getD_true_in {listed : Array Bool} {i : Nat} (hi : i < listed.size) (h : listed.getD i false = false) : listed.getD i true = false := by
  simp [hi] at h ⊢; exact h

/-- While one is left, one may come up. -/
theorem ready_some (hb : backB md ops = true) {listed : Array Bool} (hs : listed.size = ops.size) : ∀ i, i < ops.size → listed.getD i true = false → Region.ready md ops listed ≠ [] := by
  intro i
  induction i using Nat.strongRecOn with
  | _ i ih =>
    intro hi hun
    by_cases hr : i ∈ Region.ready md ops listed
    · exact fun h => by rw [h] at hr; cases hr
    · have hoi : ops[i]? = some ops[i] := Array.getElem?_eq_getElem hi
      have h1 : ¬ ∀ e ∈ ops[i].after, Region.binds md e = true → listed.getD e.on false = true := fun hall => hr (mem_ready.2 ⟨hun, _, hoi, hall⟩)
      have h2 : ∃ e ∈ ops[i].after, Region.binds md e = true ∧ listed.getD e.on false = false := by
        apply Classical.byContradiction
        intro hn
        refine h1 fun e he hbd => ?_
        cases hg : listed.getD e.on false with
        | true => rfl
        | false => exact absurd ⟨e, he, hbd, hg⟩ hn
      obtain ⟨e, he, hbd, hg⟩ := h2
      have h3 := List.all_eq_true.1 hb i (List.mem_range.2 hi)
      simp only [hoi] at h3
      have h4 := Array.all_eq_true'.1 h3 e he
      rw [hbd] at h4
      have hlt : e.on < i := by simpa using h4
      exact ih e.on hlt (by omega) (getD_true_in (by omega) hg)

/-- What is struck out comes up one by one, and does nothing. -/
theorem quiet_drop {n : Nat} {Q : Act → Prop} : ∀ (g k : Nat) (listed : Array Bool) (a : Act), n ≤ k → Region.seqB md ops g k listed = true → wpAnyQ P md (blanked ops n) C Q g listed a → Q a
  | 0, _, _, _, _, _, h => h.2
  | g + 1, k, listed, a, hk, hB, h => by
    simp only [Region.seqB, Bool.and_eq_true, decide_eq_true_eq] at hB
    have hr : k ∈ Region.ready md (blanked ops n) listed := by rw [ready_blanked, hB.1]; simp
    have h1 := h.2 k hr
    obtain ⟨_, o, ho, _⟩ := mem_ready.1 hr
    rw [blanked_get] at ho
    obtain ⟨o', ho', he⟩ := Option.map_eq_some_iff.1 ho
    unfold qOp at h1
    rw [blanked_get, ho'] at h1
    simp only [Option.map_some] at h1
    have hk' : ¬ k < n := by omega
    have hw : Region.wanted (blank n k o') (yielded (blanked ops n) a.tmps) = true := by
      unfold blank; rw [if_neg hk']; rfl
    have hd : (blank n k o').dst = none := by unfold blank; rw [if_neg hk']
    rw [if_pos hw] at h1
    obtain ⟨v, _, h2⟩ := h1
    rw [hd] at h2
    exact quiet_drop g (k + 1) _ _ (by omega) hB.2 h2

theorem listed_first {n : Nat} {listed : Array Bool} (inv : HeadInv md ops n listed) (hall : ∀ i, i < n → listed.getD i true = true) : listed = firstN ops.size n := by
  apply Array.ext
  · simp [firstN, inv.size]
  · intro i h1 h2
    have hi : i < ops.size := by rw [← inv.size]; exact h1
    have e2 : (firstN ops.size n)[i] = decide (i < n) := by simp [firstN]
    rw [e2]
    by_cases hn : i < n
    · have := hall i hn
      simp [h1] at this
      simp [this, hn]
    · have := inv.tail i (by omega) hi
      simp [h1] at this
      simp [this, hn]

theorem count_first (m n : Nat) (h : n ≤ m) : (firstN m n).toList.count true = n := by
  unfold firstN
  simp only [List.count_eq_countP]
  rw [List.countP_map]
  induction m generalizing n with
  | zero => simp; omega
  | succ m ih =>
    rw [List.range_succ, List.countP_append]
    by_cases hn : n ≤ m
    · rw [ih n hn]
      have : ¬ m < n := by omega
      simp [this]
    · have hnm : n = m + 1 := by omega
      subst hnm
      have := ih m (Nat.le_refl _)
      have h2 : List.countP ((fun x => x == true) ∘ fun i => decide (i < m + 1)) (List.range m) = List.countP ((fun x => x == true) ∘ fun i => decide (i < m)) (List.range m) := by
        apply List.countP_congr
        intro x hx
        have := List.mem_range.1 hx
        simp
        omega
      rw [h2, this]
      simp

theorem count_set {listed : Array Bool} {i : Nat} (hi : i < listed.size) (h : listed.getD i true = false) : (listed.setIfInBounds i true).toList.count true = listed.toList.count true + 1 := by
  have h' : listed.toList[i]'(by simpa using hi) = false := by simpa [hi] using h
  rw [Array.toList_setIfInBounds, List.count_set (by simpa using hi), h']
  simp

theorem any_of_quiet {n : Nat} {l : List Oper} {Q : Exit → Act → World → Prop} (hl : l = ops.toList) (hn : n < ops.size) (hs : Region.sinkB md ops n = true) (hc : Region.chainB md ops n = true)
    (hgs : ∀ i o, i < n → ops[i]? = some o → guardIn n o = true) (hb : backB md ops = true) (hseq : Region.seqB md ops (ops.size - n) n (firstN ops.size n) = true) :
    ∀ (F : Nat) (listed : Array Bool) (a : Act) (w : World), C w → HeadInv md ops n listed → F + listed.toList.count true = ops.size →
      wpAnyQ P md (blanked ops n) C (fun a' => ∀ w', C w' → wpList P ops Q (l.drop n) a' w') F listed a → wpAny P md ops Q F listed a w := by
  intro F
  induction F with
  | zero =>
    intro listed a w hw inv hcnt h
    exfalso
    have hlen : listed.toList.length = ops.size := by simp [inv.size]
    have hall := (List.count_eq_length (a := true) (l := listed.toList)).1 (by omega)
    have := inv.tail n (Nat.le_refl _) hn
    have hi : n < listed.size := by rw [inv.size]; exact hn
    simp [hi] at this
    have h2 := hall listed[n] (by simp)
    rw [this] at h2
    cases h2
  | succ F ih =>
    intro listed a w hw inv hcnt h
    by_cases hall : ∀ i, i < n → listed.getD i true = true
    · have he := listed_first inv hall
      have hF : F + 1 = ops.size - n := by
        rw [he, count_first _ _ (by omega)] at hcnt
        omega
      have hQ := quiet_drop (F + 1) n listed a (Nat.le_refl _) (by rw [hF, he]; exact hseq) h w hw
      have hd : (l.drop n).length = F + 1 := by rw [hF, hl]; simp
      rw [← hd]
      exact wpAny_of_seq (l.drop n) n listed a w (fun j => by rw [hl]; simp [List.getElem?_drop]) (by rw [hd, hF, he]; exact hseq) hQ
    · have : ∃ i, i < n ∧ listed.getD i true = false := by
        apply Classical.byContradiction
        intro hno
        refine hall fun i hi => ?_
        cases hg : listed.getD i true with
        | true => rfl
        | false => exact absurd ⟨i, hi, hg⟩ hno
      obtain ⟨i, hi, hun⟩ := this
      refine ⟨fun h0 => absurd h0 (ready_some hb inv.size i (by omega) hun), fun j hj => ?_⟩
      have hjn : j < n := by
        rcases Nat.lt_or_ge j n with h1 | h1
        · exact h1
        · exact absurd hj (tail_waits hs hc hn inv _ i rfl hi hun j h1)
      have h1 := h.2 j (by rw [ready_blanked]; exact hj)
      obtain ⟨hjun, oj, hoj, _⟩ := mem_ready.1 hj
      have h2 : qOp P ops C j (wpAnyQ P md (blanked ops n) C (fun a' => ∀ w', C w' → wpList P ops Q (l.drop n) a' w') F (listed.setIfInBounds j true)) a := by
        unfold qOp at h1 ⊢
        rw [blanked_get, hoj] at h1
        rw [hoj]
        simp only [Option.map_some] at h1 ⊢
        rw [blank_lt hjn, wanted_blanked (hgs j oj hjn hoj)] at h1
        exact h1
      refine wpOp_of_qOp hw (fun a' w' hw' h3 => ih (listed.setIfInBounds j true) a' w' hw' (inv.set hj hjn) ?_ h3) h2
      rw [count_set (by rw [inv.size]; omega) hjun]
      omega

theorem wp_region_quiet_tail {id : Nat} {Q : Exit → Act → World → Prop} {a : Act} {w : World} {l : List Oper} (n : Nat) (hm : P.follows .mixedOrders = true) (hB : tailB l.toArray n = true) (hC : C { w with drawn := w.drawn + 1 })
    (h : wpQuiet P l.toArray C (fun a' => ∀ w', C w' → wpList P l.toArray Q (l.drop n) a' w') (l.take n) a) : (Code.region id l.toArray true).wp P Q a w := by
  simp only [tailB, Region.lexTailB, Bool.and_eq_true, decide_eq_true_eq] at hB
  obtain ⟨⟨⟨⟨⟨⟨hsel, hn⟩, hs⟩, hc⟩, hhead⟩, hg⟩, hb⟩ := hB
  have hn' : n < l.length := by simpa using hn
  have hga : ∀ i o, l.toArray[i]? = some o → guardIn n o = true := fun i o ho => List.all_eq_true.1 hg o (by simpa using Array.mem_of_getElem? ho)
  have hgl : ∀ o ∈ l.take n, guardIn n o = true := fun o ho => List.all_eq_true.1 hg o (by simpa using List.mem_of_mem_take ho)
  rw [firstN_zero] at hhead
  obtain ⟨hlexF, hseq⟩ := lex_of_head (md := .any) hga hn n 0 (by omega) hhead
  have hlex : Region.noSelect (blanked l.toArray n) = true ∧ Region.lexFrom .any (blanked l.toArray n) (blanked l.toArray n).size 0 (Array.replicate (blanked l.toArray n).size false) = true := by
    refine ⟨select_blanked hsel, ?_⟩
    rw [blanked_size, firstN_zero]
    exact hlexF
  have hlist : (blanked l.toArray n).toList = l.take n ++ (l.drop n).mapIdx fun i o => blank n (n + i) o := by
    apply List.ext_getElem?
    intro i
    rw [Array.getElem?_toList, blanked_get]
    by_cases hi : i < n
    · rw [List.getElem?_append_left (by simp; omega), List.getElem?_take_of_lt hi]
      have : l.toArray[i]? = l[i]? := by simp
      rw [this]
      cases l[i]? with
      | none => rfl
      | some o => simp [blank_lt hi]
    · have ht : (l.take n).length = n := by simp; omega
      rw [List.getElem?_append_right (by omega), ht, List.getElem?_mapIdx, List.getElem?_drop, show n + (i - n) = i by omega]
      simp
  have hq : wpQuiet P (blanked l.toArray n) C (fun a' => ∀ w', C w' → wpList P l.toArray Q (l.drop n) a' w') (blanked l.toArray n).toList a := by
    rw [hlist]
    refine quiet_append _ _ _ ?_
    refine quiet_blanked _ _ hgl ?_
    have hmono : ∀ (l1 : List Oper) (a : Act) (Q1 Q2 : Act → Prop), (∀ a, Q1 a → Q2 a) → wpQuiet P l.toArray C Q1 l1 a → wpQuiet P l.toArray C Q2 l1 a := by
      intro l1
      induction l1 with
      | nil => intro a Q1 Q2 hQ h; exact hQ _ h
      | cons o r ih =>
        intro a Q1 Q2 hQ h
        unfold wpQuiet at h ⊢
        split
        · rename_i hw
          simp only [hw, if_true] at h
          exact Oper.quiet_mono (fun a' => ih a' Q1 Q2 hQ) h
        · rename_i hw
          simp only [hw] at h
          exact ih _ Q1 Q2 hQ h
    exact hmono _ _ _ _ (fun a' ha' => quiet_blanks (l.drop n) n a' (Nat.le_refl _) ha') h
  have hA := wpAnyQ_lex (C := C) (md := .any) hlex.1 (blanked l.toArray n).toList 0 (Array.replicate (blanked l.toArray n).size false) a (by simp) (by simpa using hlex.2) hq
  refine wp_region_any hm ?_
  have inv0 : HeadInv .any l.toArray n (Array.replicate l.toArray.size false) :=
    ⟨by simp, fun j oj _ hl => (by rw [getD_replicate_false] at hl; cases hl), fun t _ ht => getD_in (by simpa using ht) (getD_replicate_false _ _)⟩
  refine any_of_quiet (n := n) (l := l) (by simp) hn hs hc (fun i o hi ho => hgl o ?_) hb hseq _ _ _ _ hC inv0 ?_ ?_
  · have : l[i]? = some o := by simpa using ho
    exact List.mem_of_getElem? (i := i) (by rw [List.getElem?_take_of_lt hi]; exact this)
  · simp [List.count_replicate]
  · have e1 : (blanked l.toArray n).toList.length = l.toArray.size := by rw [Array.length_toList, blanked_size]
    rw [e1, blanked_size] at hA
    exact hA

/-- The same, at the class 'w after some draws'. -/
theorem wp_region_drew_tail {id : Nat} {Q : Exit → Act → World → Prop} {a : Act} {w : World} {l : List Oper} (n : Nat) (hm : P.follows .mixedOrders = true) (hB : tailB l.toArray n = true)
    (h : wpQuiet P l.toArray (fun w' => ∃ n, w' = w.drewN n) (fun a' => ∀ w', (∃ n, w' = w.drewN n) → wpList P l.toArray Q (l.drop n) a' w') (l.take n) a) : (Code.region id l.toArray true).wp P Q a w :=
  wp_region_quiet_tail (C := fun w' => ∃ n, w' = w.drewN n) n hm hB ⟨1, rfl⟩ h

/-- The same, where blocks may be laid. -/
theorem wp_region_below_tail {id : Nat} {Q : Exit → Act → World → Prop} {a : Act} {w : World} {l : List Oper} (n : Nat) (hm : P.follows .mixedOrders = true) (hB : tailB l.toArray n = true)
    (h : wpQuiet P l.toArray (fun w' => ∃ p : Regrown, w' = Sort.grow (redrawn w p.d) p.os) (fun a' => ∀ w', (∃ p : Regrown, w' = Sort.grow (redrawn w p.d) p.os) → wpList P l.toArray Q (l.drop n) a' w') (l.take n) a) : (Code.region id l.toArray true).wp P Q a w :=
  wp_region_quiet_tail (C := fun w' => ∃ p : Regrown, w' = Sort.grow (redrawn w p.d) p.os) n hm hB ⟨⟨w.drawn + 1, #[]⟩, by rw [Sort.grow_empty]; rfl⟩ h

end
end Go.Proofs.YtdgaoebjbhomdaaDoor.QT
