/- shelf: in which order things come makes no difference (plain mathematics). -/
import Derived.Test.YtpepijoppgbbfaaSfM
namespace Go.Proofs.Ytpepijoppgbbfaa.Shf

/-- Two of a list change places. -/
def swapL {α : Type} (L : List α) (i j : Nat) (x y : α) : List α := (L.set i y).set j x
theorem swap_perm {α : Type} [DecidableEq α] {L : List α} {i j : Nat} {x y : α} (hi : L[i]? = some x) (hj : L[j]? = some y) : (swapL L i j x y).Perm L := by
  obtain ⟨hil, hie⟩ := List.getElem?_eq_some_iff.1 hi
  obtain ⟨hjl, hje⟩ := List.getElem?_eq_some_iff.1 hj
  refine List.perm_iff_count.2 fun a => ?_
  unfold swapL
  rw [List.count_set (by rw [List.length_set]; exact hjl), List.count_set hil, List.getElem_set]
  have h1 : L[i] = x := hie
  have h2 : L[j] = y := hje
  have p1 : 0 < L.count L[i] := List.count_pos_iff.2 (List.getElem_mem hil)
  have p2 : 0 < L.count L[j] := List.count_pos_iff.2 (List.getElem_mem hjl)
  by_cases hij : i = j
  · subst hij
    have : x = y := by rw [← h1, ← h2]
    subst this
    by_cases ha : x = a
    · subst ha
      rw [h1] at p1
      simp [h1]
      omega
    · simp [h1, ha]
  · rw [if_neg hij, h1, h2]
    rw [h1] at p1
    rw [h2] at p2
    by_cases ha : x = a
    · subst ha
      by_cases hb : y = x
      · subst hb
        simp
        omega
      · simp [hb]
        omega
    · by_cases hb : y = a
      · subst hb
        simp [ha]
      · simp [ha, hb]
theorem swap_len {α : Type} (L : List α) (i j : Nat) (x y : α) : (swapL L i j x y).length = L.length := by simp [swapL]

/-- Keys put one behind the other, each with its length. -/
def putK (l : List Th) (ks : List ByteArray) : List Th := ks.foldl (fun l k => putL l k k.size) l
def dropK (l : List Th) (ks : List ByteArray) : List Th := ks.foldl dropL l
theorem putK_step (l : List Th) (ks : List ByteArray) (k : ByteArray) : putK l (ks ++ [k]) = putL (putK l ks) k k.size := by simp [putK, List.foldl_append]
theorem dropK_step (l : List Th) (ks : List ByteArray) (k : ByteArray) : dropK l (ks ++ [k]) = dropL (dropK l ks) k := by simp [dropK, List.foldl_append]
theorem sorted_putK : ∀ (ks : List ByteArray) (l : List Th), SortedL l → SortedL (putK l ks)
  | [], _, h => h
  | k :: ks, l, h => sorted_putK ks _ (sorted_put l k k.size h)
theorem sorted_dropK : ∀ (ks : List ByteArray) (l : List Th), SortedL l → SortedL (dropK l ks)
  | [], _, h => h
  | k :: ks, l, h => sorted_dropK ks _ (sorted_drop l k h)
theorem get_putK : ∀ (ks : List ByteArray) (l : List Th) (j : ByteArray), SortedL l → (j ∈ ks → getL (putK l ks) j = some j.size) ∧ (j ∉ ks → getL (putK l ks) j = getL l j)
  | [], l, j, _ => ⟨fun h => (by cases h), fun _ => rfl⟩
  | k :: ks, l, j, h => by
    show (_ → getL (putK (putL l k k.size) ks) j = _) ∧ (_ → getL (putK (putL l k k.size) ks) j = _)
    obtain ⟨i1, i2⟩ := get_putK ks _ j (sorted_put l k k.size h)
    rw [get_put l k k.size j h] at i2
    refine ⟨fun hm => ?_, fun hm => ?_⟩
    · by_cases h1 : j ∈ ks
      · exact i1 h1
      · rcases List.mem_cons.1 hm with h2 | h2
        · rw [i2 h1, if_pos h2, h2]
        · exact absurd h2 h1
    · rw [List.mem_cons] at hm
      rw [i2 fun h1 => hm (Or.inr h1), if_neg fun h2 => hm (Or.inl h2)]
theorem get_dropK : ∀ (ks : List ByteArray) (l : List Th) (j : ByteArray), SortedL l → (j ∈ ks → getL (dropK l ks) j = none) ∧ (j ∉ ks → getL (dropK l ks) j = getL l j)
  | [], l, j, _ => ⟨fun h => (by cases h), fun _ => rfl⟩
  | k :: ks, l, j, h => by
    show (_ → getL (dropK (dropL l k) ks) j = _) ∧ (_ → getL (dropK (dropL l k) ks) j = _)
    obtain ⟨i1, i2⟩ := get_dropK ks _ j (sorted_drop l k h)
    rw [get_drop l k j h] at i2
    refine ⟨fun hm => ?_, fun hm => ?_⟩
    · by_cases h1 : j ∈ ks
      · exact i1 h1
      · rcases List.mem_cons.1 hm with h2 | h2
        · rw [i2 h1, if_pos h2]
        · exact absurd h2 h1
    · rw [List.mem_cons] at hm
      rw [i2 fun h1 => hm (Or.inr h1), if_neg fun h2 => hm (Or.inl h2)]
theorem putK_perm {ks ms : List ByteArray} (h : ks.Perm ms) : putK [] ks = putK [] ms :=
  list_ext _ _ (sorted_putK ks _ sorted_nil) (sorted_putK ms _ sorted_nil) fun j => by
    obtain ⟨i1, i2⟩ := get_putK ks _ j sorted_nil
    obtain ⟨k1, k2⟩ := get_putK ms _ j sorted_nil
    by_cases h1 : j ∈ ks
    · rw [i1 h1, k1 (h.mem_iff.1 h1)]
    · rw [i2 h1, k2 fun h2 => h1 (h.mem_iff.2 h2)]
theorem dropK_perm {ks ms : List ByteArray} (h : ks.Perm ms) : dropK (putK [] ks) ms = [] :=
  get_none_nil _ fun j => by
    obtain ⟨i1, i2⟩ := get_dropK ms _ j (sorted_putK ks _ sorted_nil)
    obtain ⟨k1, k2⟩ := get_putK ks _ j sorted_nil
    by_cases h1 : j ∈ ms
    · exact i1 h1
    · rw [i2 h1, k2 fun h2 => h1 (h.mem_iff.1 h2)]
      rfl
theorem putK_len : ∀ (ks : List ByteArray) (l : List Th), (putK l ks).length ≤ l.length + ks.length
  | [], _ => Nat.le_refl _
  | k :: ks, l => by
    have h1 := putK_len ks (putL l k k.size)
    have h2 : (putL l k k.size).length ≤ l.length + 1 := by
      rw [put_len]
      split <;> omega
    show (putK (putL l k k.size) ks).length ≤ _
    rw [List.length_cons]
    omega
theorem dropK_len : ∀ (ks : List ByteArray) (l : List Th), (dropK l ks).length ≤ l.length
  | [], _ => Nat.le_refl _
  | k :: ks, l => by
    have h1 := dropK_len ks (dropL l k)
    have h2 : (dropL l k).length ≤ l.length := by
      rw [drop_len]
      split <;> omega
    show (dropK (dropL l k) ks).length ≤ _
    omega

end Go.Proofs.Ytpepijoppgbbfaa.Shf
