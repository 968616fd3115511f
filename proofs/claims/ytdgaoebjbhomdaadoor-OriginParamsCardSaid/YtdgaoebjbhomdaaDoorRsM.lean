/- rising lists: things by the bytes of their keys; plain mathematics. -/
import Derived.WalkKit
import Derived.Laws.Strings
namespace Go.Proofs.YtdgaoebjbhomdaaDoor.Rise

theorem bytesLess_lt : ∀ (x y : List UInt8), Op.bytesLess x y = decide (x < y)
  | x, [] => by
    unfold Op.bytesLess
    simp
  | [], b :: y => by
    unfold Op.bytesLess
    simp
  | a :: x, b :: y => by
    rw [Op.bytesLess, bytesLess_lt x y, Bool.eq_iff_iff]
    simp only [Bool.or_eq_true, Bool.and_eq_true, decide_eq_true_eq, beq_iff_eq, List.cons_lt_cons_iff]
theorem lt_irrefl (a : List UInt8) : Op.bytesLess a a = false := by
  rw [bytesLess_lt]
  simp
theorem lt_trans {a b c : List UInt8} (h1 : Op.bytesLess a b = true) (h2 : Op.bytesLess b c = true) : Op.bytesLess a c = true := by
  rw [bytesLess_lt, decide_eq_true_eq] at *
  exact List.lt_trans h1 h2
theorem lt_asymm {a b : List UInt8} (h : Op.bytesLess a b = true) : Op.bytesLess b a = false := by
  cases h2 : Op.bytesLess b a with
  | false => rfl
  | true =>
    have h3 := lt_trans h h2
    rw [lt_irrefl] at h3
    cases h3
theorem lt_ne {a b : List UInt8} (h : Op.bytesLess a b = true) : a ≠ b := fun e => by
  subst e
  rw [lt_irrefl] at h
  cases h
theorem lt_total {a b : List UInt8} (h1 : Op.bytesLess a b = false) (h2 : a ≠ b) : Op.bytesLess b a = true := by
  rw [bytesLess_lt, decide_eq_false_iff_not] at h1
  rw [bytesLess_lt, decide_eq_true_eq]
  apply Classical.byContradiction
  intro h
  exact h2 (List.le_antisymm (List.not_lt.1 h) (List.not_lt.1 h1))

section
variable {α : Type} (key : α → List UInt8)
/-- Where a key stands, or would. -/
def place : List α → List UInt8 → Nat
  | [], _ => 0
  | x :: l, k => if Op.bytesLess (key x) k then place l k + 1 else 0
/-- What stands at a key. -/
def look (l : List α) (k : List UInt8) : Option α := (l[place key l k]?).filter fun x => decide (key x = k)
/-- One more. -/
def ins (l : List α) (y : α) : List α := l.take (place key l (key y)) ++ y :: l.drop (place key l (key y))
/-- One less. -/
def del (l : List α) (k : List UInt8) : List α := l.take (place key l k) ++ l.drop (place key l k + 1)
/-- It rises. -/
def Up (l : List α) : Prop := l.Pairwise fun a b => Op.bytesLess (key a) (key b) = true

variable {key}
theorem place_le : ∀ (l : List α) (k : List UInt8), place key l k ≤ l.length
  | [], _ => Nat.le_refl _
  | x :: l, k => by
    unfold place
    split
    · have := place_le l k
      simp only [List.length_cons]
      omega
    · exact Nat.zero_le _
theorem place_below : ∀ (l : List α) (k : List UInt8) (i : Nat) (x : α), l[i]? = some x → i < place key l k → Op.bytesLess (key x) k = true
  | [], _, _, _, h, _ => by simp at h
  | y :: l, k, i, x, h, hi => by
    unfold place at hi
    split at hi
    · rename_i hy
      cases i with
      | zero => simp at h; subst h; exact hy
      | succ i => exact place_below l k i x (by simpa using h) (by omega)
    · omega
theorem place_at : ∀ (l : List α) (k : List UInt8) (x : α), l[place key l k]? = some x → Op.bytesLess (key x) k = false
  | [], _, _, h => by simp at h
  | y :: l, k, x, h => by
    unfold place at h
    split at h
    · exact place_at l k x (by simpa using h)
    · rename_i hy
      simp at h
      subst h
      simpa using hy
/-- The place, told by what stands ahead of it and at it. -/
theorem place_eq : ∀ (l : List α) (k : List UInt8) (i : Nat), i ≤ l.length → (∀ j x, l[j]? = some x → j < i → Op.bytesLess (key x) k = true) → (∀ x, l[i]? = some x → Op.bytesLess (key x) k = false) → place key l k = i
  | [], _, i, hi, _, _ => by simp at hi; subst hi; rfl
  | y :: l, k, i, hi, h1, h2 => by
    unfold place
    cases i with
    | zero =>
      have := h2 y (by simp)
      rw [this]
      rfl
    | succ i =>
      have := h1 0 y (by simp) (by omega)
      rw [this, if_pos rfl, place_eq l k i (by simpa using hi) (fun j x hj hji => h1 (j + 1) x (by simpa using hj) (by omega)) (fun x hx => h2 x (by simpa using hx))]
theorem look_some {l : List α} {k : List UInt8} {x : α} (h : look key l k = some x) : l[place key l k]? = some x ∧ key x = k := by
  unfold look at h
  rw [Option.filter_eq_some_iff] at h
  exact ⟨h.1, of_decide_eq_true h.2⟩
theorem look_none {l : List α} {k : List UInt8} (h : look key l k = none) {x : α} (hx : l[place key l k]? = some x) : key x ≠ k := fun e => by
  unfold look at h
  rw [hx] at h
  simp [Option.filter, e] at h
theorem look_mem {l : List α} {k : List UInt8} {x : α} (h : look key l k = some x) : x ∈ l := List.mem_of_getElem? (look_some h).1
theorem Up.look_of {l : List α} (hu : Up key l) {x : α} (hx : x ∈ l) : look key l (key x) = some x := by
  obtain ⟨i, hi⟩ := List.getElem?_of_mem hx
  have hp : place key l (key x) = i := place_eq l (key x) i (Nat.le_of_lt (List.getElem?_eq_some_iff.1 hi).1) (fun j y hj hji => by
    have h1 := List.pairwise_iff_getElem.1 hu j i (List.getElem?_eq_some_iff.1 hj).1 (List.getElem?_eq_some_iff.1 hi).1 hji
    rw [(List.getElem?_eq_some_iff.1 hj).2, (List.getElem?_eq_some_iff.1 hi).2] at h1
    exact h1) (fun y hy => by
    rw [hi] at hy
    injection hy with hy
    subst hy
    exact lt_irrefl _)
  unfold look
  rw [hp, hi]
  simp [Option.filter]
theorem Up.look_iff {l : List α} (hu : Up key l) {k : List UInt8} {x : α} : look key l k = some x ↔ x ∈ l ∧ key x = k :=
  ⟨fun h => ⟨look_mem h, (look_some h).2⟩, fun ⟨h1, h2⟩ => h2 ▸ hu.look_of h1⟩
theorem Up.look_none_iff {l : List α} (hu : Up key l) {k : List UInt8} : look key l k = none ↔ ∀ x ∈ l, key x ≠ k := by
  constructor
  · intro h x hx e
    rw [← e, hu.look_of hx] at h
    cases h
  · intro h
    cases e : look key l k with
    | none => rfl
    | some x => exact absurd (look_some e).2 (h x (look_mem e))
theorem ins_perm (l : List α) (y : α) : (ins key l y).Perm (y :: l) := by
  unfold ins
  refine List.perm_middle.trans ?_
  rw [List.take_append_drop]
theorem ins_len (l : List α) (y : α) : (ins key l y).length = l.length + 1 := (ins_perm l y).length_eq
theorem look_split {l : List α} {k : List UInt8} {x : α} (h : look key l k = some x) : l = l.take (place key l k) ++ x :: l.drop (place key l k + 1) := by
  obtain ⟨h1, _⟩ := look_some h
  obtain ⟨h2, h3⟩ := List.getElem?_eq_some_iff.1 h1
  conv => lhs; rw [← List.take_append_drop (place key l k) l, List.drop_eq_getElem_cons h2, h3]
theorem del_perm {l : List α} {k : List UInt8} {x : α} (h : look key l k = some x) : l.Perm (x :: del key l k) := by
  conv => lhs; rw [look_split h]
  exact List.perm_middle
theorem del_len {l : List α} {k : List UInt8} {x : α} (h : look key l k = some x) : l.length = (del key l k).length + 1 := (del_perm h).length_eq
theorem Up.ins {l : List α} (hu : Up key l) {y : α} (hn : look key l (key y) = none) : Up key (ins key l y) := by
  unfold Rise.ins Up
  have h0 := hu
  unfold Up at h0
  rw [← List.take_append_drop (place key l (key y)) l, List.pairwise_append] at h0
  obtain ⟨h1, h2, h3⟩ := h0
  rw [List.pairwise_append, List.pairwise_cons]
  have ha : ∀ a ∈ l.take (place key l (key y)), Op.bytesLess (key a) (key y) = true := fun a ha => by
    obtain ⟨i, hi⟩ := List.getElem?_of_mem ha
    have hlt := (List.getElem?_eq_some_iff.1 hi).1
    rw [List.length_take] at hlt
    rw [List.getElem?_take_of_lt (by omega)] at hi
    exact place_below l _ i a hi (by omega)
  have hb : ∀ b ∈ l.drop (place key l (key y)), Op.bytesLess (key y) (key b) = true := fun b hb => by
    obtain ⟨i, hi⟩ := List.getElem?_of_mem hb
    rw [List.getElem?_drop] at hi
    have hp : (place key l (key y)) < l.length := by have := (List.getElem?_eq_some_iff.1 hi).1; omega
    have hx := List.getElem?_eq_getElem hp
    have h5 := lt_total (place_at l (key y) _ hx) (look_none hn hx)
    cases i with
    | zero =>
      rw [Nat.add_zero, hx] at hi
      injection hi with hi
      rw [← hi]
      exact h5
    | succ i =>
      have h6 := List.pairwise_iff_getElem.1 hu _ _ hp (List.getElem?_eq_some_iff.1 hi).1 (by omega)
      rw [(List.getElem?_eq_some_iff.1 hi).2] at h6
      exact lt_trans h5 h6
  refine ⟨h1, ⟨hb, h2⟩, fun a ha' b hb' => ?_⟩
  rcases List.mem_cons.1 hb' with rfl | hb'
  · exact ha a ha'
  · exact h3 a ha' b hb'
theorem Up.del {l : List α} (hu : Up key l) (k : List UInt8) : Up key (del key l k) := by
  unfold Rise.del Up
  have h0 := hu
  unfold Up at h0
  refine h0.sublist ?_
  conv => rhs; rw [← List.take_append_drop (place key l k) l]
  refine List.Sublist.append (List.Sublist.refl _) ?_
  rw [← List.drop_drop]
  exact List.drop_sublist _ _
theorem Up.nil : Up key ([] : List α) := List.Pairwise.nil
/-- Rising lists with the same things are the same. -/
theorem Up.eq {l m : List α} (hl : Up key l) (hm : Up key m) (hp : l.Perm m) : l = m :=
  List.Perm.eq_of_pairwise (le := fun a b => Op.bytesLess (key a) (key b) = true) (fun a b _ _ h1 h2 => by rw [lt_asymm h1] at h2; cases h2) hl hm hp
theorem look_perm {l m : List α} (hl : Up key l) (hm : Up key m) (hp : l.Perm m) (k : List UInt8) : look key l k = look key m k := by rw [hl.eq hm hp]
end
end Go.Proofs.YtdgaoebjbhomdaaDoor.Rise
