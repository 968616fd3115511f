/- frame: plain mathematics of what was spoilt. -/
import Derived.Test.YtfemebdiailacaaDoorFrMath
namespace Go.Proofs.YtfemebdiailacaaDoor.Frame

/-- k bytes from a place on, each turned by its own. -/
def spoilK (l : List UInt8) (o k : Nat) (d : Nat → UInt8) : List UInt8 := l.mapIdx fun i c => if o ≤ i ∧ i < o + k then c ^^^ d (i - o) else c
theorem spoilK_len (l : List UInt8) (o k : Nat) (d : Nat → UInt8) : (spoilK l o k d).length = l.length := by simp [spoilK]
theorem spoilK_get (l : List UInt8) (o k : Nat) (d : Nat → UInt8) (i : Nat) : (spoilK l o k d)[i]? = l[i]?.map fun c => if o ≤ i ∧ i < o + k then c ^^^ d (i - o) else c := by simp [spoilK]
theorem spoilK_zero (l : List UInt8) (o : Nat) (d : Nat → UInt8) : spoilK l o 0 d = l := by
  apply List.ext_getElem?
  intro i
  rw [spoilK_get]
  cases l[i]? with
  | none => rfl
  | some c => simp; omega
theorem spoilK_out (l : List UInt8) (o k : Nat) (d : Nat → UInt8) (h : l.length ≤ o + k) : spoilK l o (k + 1) d = spoilK l o k d := by
  apply List.ext_getElem?
  intro i
  rw [spoilK_get, spoilK_get]
  by_cases hi : i < l.length
  · rw [List.getElem?_eq_getElem hi]
    simp only [Option.map_some]
    by_cases h1 : o ≤ i ∧ i < o + k
    · rw [if_pos h1, if_pos (by omega)]
    · rw [if_neg h1, if_neg (by omega)]
  · rw [List.getElem?_eq_none (by omega)]
    rfl
theorem spoilK_here (l : List UInt8) (o k : Nat) (d : Nat → UInt8) (c : UInt8) (h : l[o + k]? = some c) : (spoilK l o k d)[o + k]? = some c := by
  rw [spoilK_get, h]
  simp
theorem spoilK_set (l : List UInt8) (o k : Nat) (d : Nat → UInt8) (c : UInt8) (h : l[o + k]? = some c) : (spoilK l o k d).set (o + k) (c ^^^ d k) = spoilK l o (k + 1) d := by
  have hlt := (List.getElem?_eq_some_iff.1 h).1
  apply List.ext_getElem?
  intro i
  rw [List.getElem?_set, spoilK_len, spoilK_get, spoilK_get]
  by_cases hi : o + k = i
  · subst hi
    rw [if_pos rfl, if_pos hlt, h]
    simp
  · rw [if_neg hi]
    by_cases hil : i < l.length
    · rw [List.getElem?_eq_getElem hil]
      simp only [Option.map_some]
      by_cases h1 : o ≤ i ∧ i < o + k
      · rw [if_pos h1, if_pos (by omega)]
      · rw [if_neg h1, if_neg (by omega)]
    · rw [List.getElem?_eq_none (by omega)]
      rfl
theorem spoil_parts (l : List UInt8) (o : Nat) (d : Nat → UInt8) : spoilK l o 4 d = l.take o ++ ((spoilK l o 4 d).drop o).take 4 ++ l.drop (o + 4) := by
  have h1 : (spoilK l o 4 d).take o = l.take o := by
    apply List.ext_getElem?
    intro i
    rw [List.getElem?_take, List.getElem?_take]
    split
    · rw [spoilK_get]
      cases l[i]? with
      | none => rfl
      | some c => simp; omega
    · rfl
  have h2 : (spoilK l o 4 d).drop (o + 4) = l.drop (o + 4) := by
    apply List.ext_getElem?
    intro i
    rw [List.getElem?_drop, List.getElem?_drop, spoilK_get]
    cases l[o + 4 + i]? with
    | none => rfl
    | some c => simp; omega
  rw [← h1, ← h2, List.append_assoc, ← List.drop_drop, List.take_append_drop, List.take_append_drop]
/-- Whether four bytes were spoilt shows in the check. -/
theorem check_spoil (l : List UInt8) (o : Nat) (d : Nat → UInt8) (h : checkN (spoilK l o 4 d) = checkN l) : spoilK l o 4 d = l := by
  have e := spoil_parts l o d
  have e2 : l = l.take o ++ (l.drop o).take 4 ++ l.drop (o + 4) := by
    rw [List.append_assoc, ← List.drop_drop, List.take_append_drop, List.take_append_drop]
  rw [e] at h
  conv at h => rhs; rw [e2]
  have hb := check_burst _ _ _ _ (by simp only [List.length_take, List.length_drop, spoilK_len]) (by rw [List.length_take]; omega) h
  rw [e, hb]
  exact e2.symm

theorem take_ok_check {l : List UInt8} (h : (takeL l).2.2 = 0) : checkN (l.take 4 ++ (l.drop 8).take (valL (l.take 4))) = valL ((l.drop 4).take 4) := by
  unfold takeL at h
  split at h
  · simp at h
  split at h
  · simp at h
  split at h
  · simp at h
  split at h
  · simp at h
  split at h
  · simp at h
  · rename_i hc
    exact Decidable.of_not_not hc
theorem xor_self8 (x b : UInt8) (h : x = x ^^^ b) : b = 0 := by
  have h1 : x ^^^ (x ^^^ b) = x ^^^ x := by rw [← h]
  rw [← UInt8.xor_assoc, UInt8.xor_self, UInt8.zero_xor] at h1
  exact h1
theorem take_set_lo (F : List UInt8) (i k : Nat) (x : UInt8) (h : k ≤ i) : (F.set i x).take k = F.take k := by
  rw [List.take_set, List.set_eq_of_length_le (by rw [List.length_take]; omega)]
/-- A frame of which a byte of the check or of the text is another one is refused. -/
theorem spoilt_frame (l : List UInt8) (hl : l.length ≤ 65536) (o : Nat) (ho : o < l.length) (b x : UInt8) (hx : (frameL l)[4 + o]? = some x) : ((takeL ((frameL l).set (4 + o) (x ^^^ b))).2.2 = 0) ↔ b = 0 := by
  have hfl := frameL_len l
  obtain ⟨p1, p2, p3, p4⟩ := frame_parts l []
  rw [List.append_nil] at p1 p2 p3 p4
  have hlen : ((frameL l).set (4 + o) (x ^^^ b)).length = l.length + 9 := by rw [List.length_set, hfl]
  constructor
  · intro h
    have hc := take_ok_check h
    have ht4 : ((frameL l).set (4 + o) (x ^^^ b)).take 4 = fourL l.length := by rw [take_set_lo _ _ _ _ (by omega), p1]
    rw [ht4, val_four (by omega)] at hc
    by_cases h4 : o < 4
    · have h8 : (((frameL l).set (4 + o) (x ^^^ b)).drop 8).take l.length = l := by
        rw [List.drop_set, if_pos (by omega), p3]
      rw [h8] at hc
      have e := four_val ((((frameL l).set (4 + o) (x ^^^ b)).drop 4).take 4) (by rw [List.length_take, List.length_drop, hlen]; omega)
      rw [← hc, ← p2] at e
      have g := congrArg (fun y : List UInt8 => y[o]?) e
      simp only [List.getElem?_take, if_pos h4, List.getElem?_drop] at g
      rw [hx, List.getElem?_set, if_pos rfl, if_pos (by omega)] at g
      exact xor_self8 x b (by simpa using g)
    · have hd4 : (((frameL l).set (4 + o) (x ^^^ b)).drop 4).take 4 = fourL (checkN (fourL l.length ++ l)) := by
        rw [List.drop_set, if_neg (by omega), take_set_lo _ _ _ _ (by omega), p2]
      rw [hd4, val_four (checkN_lt _)] at hc
      have hox : l[o - 4]? = some x := by
        have : (((frameL l).drop 8).take l.length)[o - 4]? = some x := by
          rw [List.getElem?_take, if_pos (by omega), List.getElem?_drop, show 8 + (o - 4) = 4 + o by omega]
          exact hx
        rw [p3] at this
        exact this
      have h8 : (((frameL l).set (4 + o) (x ^^^ b)).drop 8).take l.length = l.set (o - 4) (x ^^^ b) := by
        rw [List.drop_set, if_neg (by omega), List.take_set, p3, show 4 + o - 8 = o - 4 by omega]
      rw [h8] at hc
      have hlt : o - 4 < l.length := by omega
      have e1 : l.set (o - 4) (x ^^^ b) = l.take (o - 4) ++ ([x ^^^ b] ++ l.drop (o - 4 + 1)) := by
        rw [List.set_eq_take_append_cons_drop, if_pos hlt]
        rfl
      have e2 : l = l.take (o - 4) ++ ([x] ++ l.drop (o - 4 + 1)) := by
        have hxx : l[o - 4] = x := by rw [List.getElem?_eq_getElem hlt] at hox; simpa using hox
        rw [← hxx]
        show l = l.take (o - 4) ++ (l[o - 4] :: l.drop (o - 4 + 1))
        rw [← List.drop_eq_getElem_cons hlt, List.take_append_drop]
      rw [e1] at hc
      have hc2 : checkN (fourL l.length ++ l) = checkN ((fourL l.length ++ l.take (o - 4)) ++ [x] ++ l.drop (o - 4 + 1)) := by
        have := congrArg (fun z => checkN (fourL l.length ++ z)) e2
        simpa [List.append_assoc] using this
      rw [hc2, show fourL l.length ++ (l.take (o - 4) ++ ([x ^^^ b] ++ l.drop (o - 4 + 1))) = (fourL l.length ++ l.take (o - 4)) ++ [x ^^^ b] ++ l.drop (o - 4 + 1) by simp] at hc
      have hb := check_burst _ _ _ _ (by simp) (by simp) hc
      exact xor_self8 x b (by simpa using hb.symm)
  · intro hb
    subst hb
    rw [UInt8.xor_zero]
    have e : (frameL l).set (4 + o) x = frameL l := by
      apply List.ext_getElem?
      intro i
      rw [List.getElem?_set]
      split
      · rename_i h
        subst h
        rw [hx, if_pos (List.getElem?_eq_some_iff.1 hx).1]
      · rfl
    have := take_frame l [] hl
    rw [List.append_nil] at this
    rw [e, this]
end Go.Proofs.YtfemebdiailacaaDoor.Frame
