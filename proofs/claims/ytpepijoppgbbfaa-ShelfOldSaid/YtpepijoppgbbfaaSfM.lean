/- shelf: plain mathematics: things by their keys, as a rising list. -/
import Derived.WalkKit
import Derived.Sort.LotA
namespace Go.Proofs.Ytpepijoppgbbfaa.Shf

/-- A thing at its key. -/
abbrev Th := ByteArray × Nat
/-- The order of keys, byte by byte. -/
def ltK (a b : ByteArray) : Bool := decide (a.data.toList < b.data.toList)

theorem key_ext {a b : ByteArray} (h : a.data.toList = b.data.toList) : a = b := by
  cases a; cases b
  simp only [ByteArray.mk.injEq]
  exact Array.ext' h
theorem ltK_irrefl (a : ByteArray) : ltK a a = false := by
  unfold ltK
  simp
theorem ltK_trans {a b c : ByteArray} (h1 : ltK a b = true) (h2 : ltK b c = true) : ltK a c = true := by
  unfold ltK at *
  rw [decide_eq_true_eq] at *
  exact List.lt_trans h1 h2
theorem ltK_asymm {a b : ByteArray} (h1 : ltK a b = true) : ltK b a = false := by
  cases h : ltK b a with
  | false => rfl
  | true =>
    have := ltK_trans h1 h
    rw [ltK_irrefl] at this
    cases this
theorem ltK_ne {a b : ByteArray} (h : ltK a b = true) : a ≠ b := fun e => by
  subst e
  rw [ltK_irrefl] at h
  cases h
theorem ltK_total {a b : ByteArray} (h1 : ltK a b = false) (h2 : a ≠ b) : ltK b a = true := by
  unfold ltK at *
  rw [decide_eq_false_iff_not] at h1
  rw [decide_eq_true_eq]
  apply Classical.byContradiction
  intro h
  exact h2 (key_ext (List.le_antisymm (List.not_lt.1 h) (List.not_lt.1 h1)))
theorem ltK_of_le {a b c : ByteArray} (h1 : ltK b a = false) (h2 : ltK b c = true) (h3 : a ≠ b) : ltK a c = true :=
  ltK_trans (ltK_total h1 (Ne.symm h3)) h2

def placeN : List Th → ByteArray → Nat
  | [], _ => 0
  | x :: l, k => if ltK x.1 k then placeN l k + 1 else 0
def hasN : List Th → ByteArray → Bool
  | [], _ => false
  | x :: l, k => if ltK x.1 k then hasN l k else decide (x.1 = k)
def putL : List Th → ByteArray → Nat → List Th
  | [], k, v => [(k, v)]
  | x :: l, k, v => if ltK x.1 k then x :: putL l k v else if x.1 = k then (k, v) :: l else (k, v) :: x :: l
def dropL : List Th → ByteArray → List Th
  | [], _ => []
  | x :: l, k => if ltK x.1 k then x :: dropL l k else if x.1 = k then l else x :: l
def getL : List Th → ByteArray → Option Nat
  | [], _ => none
  | x :: l, k => if ltK x.1 k then getL l k else if x.1 = k then some x.2 else none
def nextL : List Th → ByteArray → Option Th
  | [], _ => none
  | x :: l, k => if ltK x.1 k then nextL l k else some x

theorem place_le : ∀ (l : List Th) (k : ByteArray), placeN l k ≤ l.length
  | [], _ => Nat.le_refl _
  | x :: l, k => by
    unfold placeN
    split
    · have := place_le l k
      simp only [List.length_cons]
      omega
    · exact Nat.zero_le _
theorem place_below : ∀ (l : List Th) (k : ByteArray) (i : Nat) (x : Th), l[i]? = some x → i < placeN l k → ltK x.1 k = true
  | [], _, _, _, h, _ => by simp at h
  | y :: l, k, i, x, h, hi => by
    unfold placeN at hi
    split at hi
    · rename_i hy
      cases i with
      | zero => simp at h; subst h; exact hy
      | succ i => exact place_below l k i x (by simpa using h) (by omega)
    · omega
theorem place_at : ∀ (l : List Th) (k : ByteArray) (x : Th), l[placeN l k]? = some x → ltK x.1 k = false
  | [], _, _, h => by simp at h
  | y :: l, k, x, h => by
    unfold placeN at h
    split at h
    · exact place_at l k x (by simpa using h)
    · rename_i hy
      simp at h
      subst h
      simpa using hy
/-- The place, told by what stands ahead of it and at it. -/
theorem place_eq : ∀ (l : List Th) (k : ByteArray) (i : Nat), i ≤ l.length → (∀ j x, l[j]? = some x → j < i → ltK x.1 k = true) → (∀ x, l[i]? = some x → ltK x.1 k = false) → placeN l k = i
  | [], _, i, hi, _, _ => by simp at hi; subst hi; rfl
  | y :: l, k, i, hi, h1, h2 => by
    unfold placeN
    cases i with
    | zero =>
      have := h2 y (by simp)
      rw [this]
      rfl
    | succ i =>
      have := h1 0 y (by simp) (by omega)
      rw [this, if_pos rfl, place_eq l k i (by simpa using hi) (fun j x hj hji => h1 (j + 1) x (by simpa using hj) (by omega)) (fun x hx => h2 x (by simpa using hx))]
theorem has_place : ∀ (l : List Th) (k : ByteArray), hasN l k = match l[placeN l k]? with | some x => decide (x.1 = k) | none => false
  | [], _ => rfl
  | x :: l, k => by
    unfold hasN placeN
    split
    · rw [has_place l k]
      simp
    · simp
theorem put_place : ∀ (l : List Th) (k : ByteArray) (v : Nat), putL l k v = l.take (placeN l k) ++ (k, v) :: l.drop (if hasN l k then placeN l k + 1 else placeN l k)
  | [], _, _ => rfl
  | x :: l, k, v => by
    unfold putL placeN hasN
    by_cases h1 : ltK x.1 k = true
    · simp only [h1, if_true]
      rw [put_place l k v]
      cases hasN l k <;> simp
    · simp only [h1]
      by_cases h2 : x.1 = k <;> simp [h2]
theorem drop_place : ∀ (l : List Th) (k : ByteArray), dropL l k = if hasN l k then l.take (placeN l k) ++ l.drop (placeN l k + 1) else l
  | [], _ => rfl
  | x :: l, k => by
    unfold dropL placeN hasN
    by_cases h1 : ltK x.1 k = true
    · simp only [h1, if_true]
      rw [drop_place l k]
      cases hasN l k <;> simp
    · simp only [h1]
      by_cases h2 : x.1 = k <;> simp [h2]
theorem get_place : ∀ (l : List Th) (k : ByteArray), getL l k = if hasN l k then (l[placeN l k]?).map (·.2) else none
  | [], _ => rfl
  | x :: l, k => by
    unfold getL placeN hasN
    by_cases h1 : ltK x.1 k = true
    · simp only [h1, if_true]
      rw [get_place l k]
      simp
    · simp only [h1]
      by_cases h2 : x.1 = k <;> simp [h2]
theorem next_place : ∀ (l : List Th) (k : ByteArray), nextL l k = l[placeN l k]?
  | [], _ => rfl
  | x :: l, k => by
    unfold nextL placeN
    by_cases h1 : ltK x.1 k = true
    · simp only [h1, if_true]
      rw [next_place l k]
      simp
    · simp [h1]

/-- Rising. -/
def SortedL (l : List Th) : Prop := l.Pairwise fun x y => ltK x.1 y.1 = true
theorem sorted_nil : SortedL [] := List.Pairwise.nil
theorem sorted_tail {x : Th} {l : List Th} (h : SortedL (x :: l)) : SortedL l := (List.pairwise_cons.1 h).2
theorem mem_put : ∀ (l : List Th) (k : ByteArray) (v : Nat) (y : Th), y ∈ putL l k v → y = (k, v) ∨ y ∈ l
  | [], _, _, _, h => by simp [putL] at h; exact Or.inl h
  | x :: l, k, v, y, h => by
    unfold putL at h
    split at h
    · rcases List.mem_cons.1 h with h | h
      · exact Or.inr (by simp [h])
      · rcases mem_put l k v y h with h | h
        · exact Or.inl h
        · exact Or.inr (List.mem_cons_of_mem _ h)
    · split at h
      · rcases List.mem_cons.1 h with h | h
        · exact Or.inl h
        · exact Or.inr (List.mem_cons_of_mem _ h)
      · rcases List.mem_cons.1 h with h | h
        · exact Or.inl h
        · exact Or.inr h
theorem sorted_put : ∀ (l : List Th) (k : ByteArray) (v : Nat), SortedL l → SortedL (putL l k v)
  | [], _, _, _ => by simp [putL, SortedL]
  | x :: l, k, v, h => by
    obtain ⟨h1, h2⟩ := List.pairwise_cons.1 h
    unfold putL
    split
    · rename_i hx
      refine List.pairwise_cons.2 ⟨fun y hy => ?_, sorted_put l k v h2⟩
      rcases mem_put l k v y hy with rfl | hy
      · exact hx
      · exact h1 y hy
    · rename_i hx
      have hx' : ltK x.1 k = false := by simpa using hx
      split
      · rename_i he
        refine List.pairwise_cons.2 ⟨fun y hy => ?_, h2⟩
        rw [← he]
        exact h1 y hy
      · rename_i he
        have hkx := ltK_total hx' he
        refine List.pairwise_cons.2 ⟨fun y hy => ?_, h⟩
        rcases List.mem_cons.1 hy with rfl | hy
        · exact hkx
        · exact ltK_trans hkx (h1 y hy)
theorem mem_drop : ∀ (l : List Th) (k : ByteArray) (y : Th), y ∈ dropL l k → y ∈ l
  | [], _, _, h => by simp [dropL] at h
  | x :: l, k, y, h => by
    unfold dropL at h
    split at h
    · rcases List.mem_cons.1 h with h | h
      · simp [h]
      · exact List.mem_cons_of_mem _ (mem_drop l k y h)
    · split at h
      · exact List.mem_cons_of_mem _ h
      · exact h
theorem sorted_drop : ∀ (l : List Th) (k : ByteArray), SortedL l → SortedL (dropL l k)
  | [], _, _ => by simp [dropL, SortedL]
  | x :: l, k, h => by
    obtain ⟨h1, h2⟩ := List.pairwise_cons.1 h
    unfold dropL
    split
    · exact List.pairwise_cons.2 ⟨fun y hy => h1 y (mem_drop l k y hy), sorted_drop l k h2⟩
    · split
      · exact h2
      · exact h
theorem get_below : ∀ (l : List Th) (k : ByteArray), (∀ x ∈ l, ltK k x.1 = true) → getL l k = none
  | [], _, _ => rfl
  | x :: l, k, h => by
    have h1 := h x (List.mem_cons_self ..)
    unfold getL
    rw [ltK_asymm h1, if_neg (by simp), if_neg (Ne.symm (ltK_ne h1))]
theorem get_put : ∀ (l : List Th) (k : ByteArray) (v : Nat) (j : ByteArray), SortedL l → getL (putL l k v) j = if j = k then some v else getL l j
  | [], k, v, j, _ => by
    simp only [putL, getL]
    by_cases h1 : ltK k j = true
    · have := ltK_ne h1
      simp [h1, Ne.symm this]
    · by_cases h2 : k = j
      · subst h2; simp [h1]
      · simp [h1, h2, Ne.symm h2]
  | x :: l, k, v, j, h => by
    obtain ⟨h1, h2⟩ := List.pairwise_cons.1 h
    unfold putL
    by_cases hx : ltK x.1 k = true
    · rw [if_pos hx]
      rw [show getL (x :: putL l k v) j = if ltK x.1 j then getL (putL l k v) j else if x.1 = j then some x.2 else none from rfl, show getL (x :: l) j = if ltK x.1 j then getL l j else if x.1 = j then some x.2 else none from rfl, get_put l k v j h2]
      by_cases hj : ltK x.1 j = true
      · simp [hj]
      · have hjk : j ≠ k := fun e => hj (by rw [e]; exact hx)
        simp [hj, hjk]
    · rw [if_neg hx]
      have hx' : ltK x.1 k = false := by simpa using hx
      by_cases he : x.1 = k
      · rw [if_pos he]
        rw [show getL ((k, v) :: l) j = if ltK k j then getL l j else if k = j then some v else none from rfl, show getL (x :: l) j = if ltK x.1 j then getL l j else if x.1 = j then some x.2 else none from rfl, he]
        by_cases hj : ltK k j = true
        · simp [hj, Ne.symm (ltK_ne hj)]
        · by_cases hjk : k = j
          · subst hjk; simp [hj]
          · simp [hj, hjk, Ne.symm hjk]
      · rw [if_neg he]
        have hkx := ltK_total hx' he
        rw [show getL ((k, v) :: x :: l) j = if ltK k j then getL (x :: l) j else if k = j then some v else none from rfl]
        by_cases hj : ltK k j = true
        · simp [hj, Ne.symm (ltK_ne hj)]
        · by_cases hjk : k = j
          · subst hjk; simp [hj]
          · have hjk' : ltK j k = true := ltK_total (by simpa using hj) hjk
            rw [if_neg hj, if_neg hjk, if_neg (Ne.symm hjk), get_below (x :: l) j (fun y hy => ?_)]
            rcases List.mem_cons.1 hy with rfl | hy
            · exact ltK_trans hjk' hkx
            · exact ltK_trans hjk' (ltK_trans hkx (h1 y hy))
theorem get_drop : ∀ (l : List Th) (k : ByteArray) (j : ByteArray), SortedL l → getL (dropL l k) j = if j = k then none else getL l j
  | [], k, j, _ => by simp [dropL, getL]
  | x :: l, k, j, h => by
    obtain ⟨h1, h2⟩ := List.pairwise_cons.1 h
    unfold dropL
    by_cases hx : ltK x.1 k = true
    · rw [if_pos hx]
      rw [show getL (x :: dropL l k) j = if ltK x.1 j then getL (dropL l k) j else if x.1 = j then some x.2 else none from rfl, show getL (x :: l) j = if ltK x.1 j then getL l j else if x.1 = j then some x.2 else none from rfl, get_drop l k j h2]
      by_cases hj : ltK x.1 j = true
      · simp [hj]
      · have hjk : j ≠ k := fun e => hj (by rw [e]; exact hx)
        simp [hj, hjk]
    · rw [if_neg hx]
      have hx' : ltK x.1 k = false := by simpa using hx
      by_cases he : x.1 = k
      · rw [if_pos he]
        rw [show getL (x :: l) j = if ltK x.1 j then getL l j else if x.1 = j then some x.2 else none from rfl]
        by_cases hj : ltK x.1 j = true
        · simp [hj, Ne.symm (he ▸ ltK_ne hj)]
        · by_cases hjk : j = k
          · rw [if_pos hjk]
            exact get_below l j (fun y hy => by rw [hjk, ← he]; exact h1 y hy)
          · rw [if_neg hj, if_neg hjk, if_neg (fun e => hjk (by rw [← e, he]))]
            have hjx : ltK j x.1 = true := ltK_total (by simpa using hj) (fun e => hjk (by rw [← e, he]))
            exact get_below l j (fun y hy => ltK_trans hjx (h1 y hy))
      · rw [if_neg he]
        have hkx := ltK_total hx' he
        by_cases hjk : j = k
        · subst hjk
          rw [if_pos rfl]
          exact get_below (x :: l) j fun y hy => by
            rcases List.mem_cons.1 hy with rfl | hy
            · exact hkx
            · exact ltK_trans hkx (h1 y hy)
        · rw [if_neg hjk]
theorem get_none_nil : ∀ (l : List Th), (∀ j, getL l j = none) → l = []
  | [], _ => rfl
  | x :: l, h => by
    have := h x.1
    simp [getL, ltK_irrefl] at this
/-- Rising lists that tell the same are the same. -/
theorem list_ext : ∀ (l m : List Th), SortedL l → SortedL m → (∀ j, getL l j = getL m j) → l = m
  | [], m, _, _, h => (get_none_nil m fun j => (h j).symm).symm
  | x :: l, [], _, _, h => absurd (get_none_nil (x :: l) h) (by simp)
  | x :: l, y :: m, hl, hm, h => by
    obtain ⟨h1, h2⟩ := List.pairwise_cons.1 hl
    obtain ⟨h3, h4⟩ := List.pairwise_cons.1 hm
    have hx := h x.1
    have hy := h y.1
    simp only [getL, ltK_irrefl, if_true, Bool.false_eq_true, if_false] at hx hy
    have hxy : x.1 = y.1 := by
      apply Classical.byContradiction
      intro hne
      cases hlt : ltK y.1 x.1 with
      | true =>
        have hyx := ltK_asymm hlt
        rw [hyx] at hy
        simp [hne] at hy
      | false =>
        rw [hlt] at hx
        simp [Ne.symm hne] at hx
    have hv : x.2 = y.2 := by
      rw [hxy, ltK_irrefl] at hx
      simpa using hx
    have hxe : x = y := Prod.ext hxy hv
    subst hxe
    rw [list_ext l m h2 h4 fun j => ?_]
    have hj := h j
    simp only [getL] at hj
    by_cases hlt : ltK x.1 j = true
    · simpa [hlt] using hj
    · have hjl : ∀ (n : List Th), (∀ y ∈ n, ltK x.1 y.1 = true) → getL n j = none := fun n hn => by
        by_cases hje : x.1 = j
        · rw [← hje]
          exact get_below n x.1 hn
        · have hjx : ltK j x.1 = true := ltK_total (by simpa using hlt) hje
          exact get_below n j fun y hy => ltK_trans hjx (hn y hy)
      rw [hjl l h1, hjl m h3]

section
variable {lo hi : List Th} {x : Th} {k : ByteArray} {v : Nat}
theorem put_left (h : ltK k x.1 = true) : putL (lo ++ x :: hi) k v = putL lo k v ++ x :: hi := by
  induction lo with
  | nil =>
    simp only [List.nil_append, putL, List.cons_append]
    rw [ltK_asymm h, if_neg (by simp), if_neg (Ne.symm (ltK_ne h))]
  | cons y lo ih =>
    simp only [List.cons_append, putL]
    split
    · rw [ih]; rfl
    · split <;> rfl
theorem put_right (hlo : ∀ y ∈ lo, ltK y.1 x.1 = true) (h : ltK x.1 k = true) : putL (lo ++ x :: hi) k v = lo ++ x :: putL hi k v := by
  induction lo with
  | nil => simp [putL, h]
  | cons y lo ih =>
    have hy := ltK_trans (hlo y (List.mem_cons_self ..)) h
    simp only [List.cons_append, putL, hy, if_true]
    rw [ih fun z hz => hlo z (List.mem_cons_of_mem _ hz)]
theorem put_mid (hlo : ∀ y ∈ lo, ltK y.1 x.1 = true) : putL (lo ++ x :: hi) x.1 v = lo ++ (x.1, v) :: hi := by
  induction lo with
  | nil => simp [putL, ltK_irrefl]
  | cons y lo ih =>
    have hy := hlo y (List.mem_cons_self ..)
    simp only [List.cons_append, putL, hy, if_true]
    rw [ih fun z hz => hlo z (List.mem_cons_of_mem _ hz)]
theorem drop_left (h : ltK k x.1 = true) : dropL (lo ++ x :: hi) k = dropL lo k ++ x :: hi := by
  induction lo with
  | nil =>
    simp only [List.nil_append, dropL]
    rw [ltK_asymm h, if_neg (by simp), if_neg (Ne.symm (ltK_ne h))]
  | cons y lo ih =>
    simp only [List.cons_append, dropL]
    split
    · rw [ih]; rfl
    · split <;> rfl
theorem drop_right (hlo : ∀ y ∈ lo, ltK y.1 x.1 = true) (h : ltK x.1 k = true) : dropL (lo ++ x :: hi) k = lo ++ x :: dropL hi k := by
  induction lo with
  | nil => simp [dropL, h]
  | cons y lo ih =>
    have hy := ltK_trans (hlo y (List.mem_cons_self ..)) h
    simp only [List.cons_append, dropL, hy, if_true]
    rw [ih fun z hz => hlo z (List.mem_cons_of_mem _ hz)]
theorem drop_mid (hlo : ∀ y ∈ lo, ltK y.1 x.1 = true) : dropL (lo ++ x :: hi) x.1 = lo ++ hi := by
  induction lo with
  | nil => simp [dropL, ltK_irrefl]
  | cons y lo ih =>
    have hy := hlo y (List.mem_cons_self ..)
    simp only [List.cons_append, dropL, hy, if_true]
    rw [ih fun z hz => hlo z (List.mem_cons_of_mem _ hz)]
theorem get_left (h : ltK k x.1 = true) : getL (lo ++ x :: hi) k = getL lo k := by
  induction lo with
  | nil =>
    simp only [List.nil_append, getL]
    rw [ltK_asymm h, if_neg (by simp), if_neg (Ne.symm (ltK_ne h))]
  | cons y lo ih =>
    simp only [List.cons_append, getL]
    rw [ih]
theorem get_right (hlo : ∀ y ∈ lo, ltK y.1 x.1 = true) (h : ltK x.1 k = true) : getL (lo ++ x :: hi) k = getL hi k := by
  induction lo with
  | nil => simp [getL, h]
  | cons y lo ih =>
    have hy := ltK_trans (hlo y (List.mem_cons_self ..)) h
    simp only [List.cons_append, getL, hy, if_true]
    rw [ih fun z hz => hlo z (List.mem_cons_of_mem _ hz)]
theorem get_mid (hlo : ∀ y ∈ lo, ltK y.1 x.1 = true) : getL (lo ++ x :: hi) x.1 = some x.2 := by
  induction lo with
  | nil => simp [getL, ltK_irrefl]
  | cons y lo ih =>
    have hy := hlo y (List.mem_cons_self ..)
    simp only [List.cons_append, getL, hy, if_true]
    rw [ih fun z hz => hlo z (List.mem_cons_of_mem _ hz)]
theorem next_left (h : ltK x.1 k = false) : nextL (lo ++ x :: hi) k = (nextL lo k).orElse fun _ => some x := by
  induction lo with
  | nil => simp [nextL, h]
  | cons y lo ih =>
    simp only [List.cons_append, nextL]
    split
    · exact ih
    · rfl
theorem next_right (hlo : ∀ y ∈ lo, ltK y.1 x.1 = true) (h : ltK x.1 k = true) : nextL (lo ++ x :: hi) k = nextL hi k := by
  induction lo with
  | nil => simp [nextL, h]
  | cons y lo ih =>
    have hy := ltK_trans (hlo y (List.mem_cons_self ..)) h
    simp only [List.cons_append, nextL, hy, if_true]
    rw [ih fun z hz => hlo z (List.mem_cons_of_mem _ hz)]
end
theorem put_len (l : List Th) (k : ByteArray) (v : Nat) : (putL l k v).length = if hasN l k then l.length else l.length + 1 := by
  induction l with
  | nil => rfl
  | cons x l ih =>
    simp only [putL, hasN]
    split
    · simp only [List.length_cons, ih]
      split <;> rfl
    · split <;> simp [*]
theorem drop_len (l : List Th) (k : ByteArray) : (dropL l k).length = if hasN l k then l.length - 1 else l.length := by
  induction l with
  | nil => rfl
  | cons x l ih =>
    simp only [dropL, hasN]
    split
    · simp only [List.length_cons, ih]
      split
      · rename_i h1 h2
        have : 0 < l.length := by
          cases l with
          | nil => simp [hasN] at h2
          | cons y l => simp
        omega
      · rfl
    · split <;> simp [*]
theorem has_get (l : List Th) (k : ByteArray) : hasN l k = (getL l k).isSome := by
  induction l with
  | nil => rfl
  | cons x l ih =>
    simp only [hasN, getL]
    split
    · exact ih
    · split <;> simp [*]
end Go.Proofs.Ytpepijoppgbbfaa.Shf
