/- disk: one file, plainly: what calls on it come to. -/
import Derived.Test.YtepcfmigkhacgaaDoorDkL
namespace Go.Proofs.YtepcfmigkhacgaaDoor.Dk
open Go.RowKit Go.Proofs.YtepcfmigkhacgaaDoor.Gr

theorem mergeN_get (sure : List ByteArray) (X : List Fl) : ∀ (n f : Nat), (mergeN sure X n)[f]? = if f < n then (match X.getD f none with | some b => (sure[f]?).map (fun _ => ⟨b.toArray⟩) | none => sure[f]?) else sure[f]?
  | 0, f => by simp [mergeN]
  | n + 1, f => by
    have ih := mergeN_get sure X n
    cases hx : X.getD n none with
    | none =>
      rw [mergeN_none hx, ih f]
      by_cases h1 : f < n
      · rw [if_pos h1, if_pos (by omega)]
      · rw [if_neg h1]
        by_cases h2 : f = n
        · subst h2
          rw [if_pos (by omega), hx]
        · rw [if_neg (by omega)]
    | some b =>
      rw [mergeN_some hx]
      by_cases h2 : f = n
      · subst h2
        rw [if_pos (by omega), hx]
        have e := ih f
        rw [if_neg (by omega)] at e
        rw [List.getElem?_set, if_pos rfl]
        by_cases hl : f < (mergeN sure X f).length
        · rw [if_pos hl]
          rw [mergeN_len] at hl
          rw [List.getElem?_eq_getElem hl]
          rfl
        · rw [if_neg hl]
          rw [mergeN_len] at hl
          rw [List.getElem?_eq_none (by omega)]
          rfl
      · rw [List.getElem?_set_ne (Ne.symm h2), ih f]
        by_cases h1 : f < n
        · rw [if_pos h1, if_pos (by omega)]
        · rw [if_neg h1, if_neg (by omega)]

def E64 : List ByteArray := List.replicate 64 ⟨#[]⟩
def rowF (f : Nat) (s : ByteArray) : List ByteArray := E64.set f s
theorem rowF_len (f : Nat) (s : ByteArray) : (rowF f s).length = 64 := by simp [rowF, E64]
theorem rowF_at {f : Nat} (hf : f < 64) (s : ByteArray) : (rowF f s).getD f ⟨#[]⟩ = s := by
  unfold rowF
  rw [List.getD_eq_getElem?_getD, List.getElem?_set_self (by simpa [E64] using hf)]
  rfl
theorem rowF_set (f : Nat) (s t : ByteArray) : (rowF f s).set f t = rowF f t := by unfold rowF; rw [List.set_set]
theorem empty_app (s : ByteArray) : (⟨#[]⟩ : ByteArray) ++ s = s := by
  apply ByteArray.ext
  simp
/-- A crash where one change to one file is loose. -/
theorem crash_one {f : Nat} (hf : f < 64) (now : List ByteArray) (u : ByteArray) (c : Ch) (hc : c.file = f) (on : Bool) (lasts : Int) (ops : Nat) (keep : List Int) :
    crashS ⟨now, rowF f u, [c], on, lasts, ops⟩ keep = ⟨rowF f ⟨(doneB c u.data.toList (keptN keep 0)).toArray⟩, rowF f ⟨(doneB c u.data.toList (keptN keep 0)).toArray⟩, [], true, -1, ops⟩ := by
  have hq : crashQ ⟨now, rowF f u, [c], on, lasts, ops⟩ keep = rowF f ⟨(doneB c u.data.toList (keptN keep 0)).toArray⟩ := by
    unfold crashQ
    show mergeN (rowF f u) (stepX (rowF f u) (List.replicate 64 none) c (keptN keep 0)) 64 = _
    unfold stepX
    have hg : getX (rowF f u) (List.replicate 64 none) c.file = u.data.toList := by
      rw [hc]
      refine getX_none ?_ (rowF_at hf u)
      rw [List.getD_eq_getElem?_getD, List.getElem?_replicate]
      split <;> rfl
    rw [hg, hc]
    generalize doneB c u.data.toList (keptN keep 0) = b
    apply List.ext_getElem?
    intro j
    rw [mergeN_get]
    by_cases hj : j < 64
    · rw [if_pos hj]
      by_cases e : j = f
      · subst e
        rw [List.getD_eq_getElem?_getD, List.getElem?_set_self (by simpa using hf)]
        unfold rowF
        simp [E64, hf]
      · rw [List.getD_eq_getElem?_getD, List.getElem?_set_ne (Ne.symm e), List.getElem?_replicate, if_pos hj]
        unfold rowF
        rw [List.getElem?_set_ne (Ne.symm e), List.getElem?_set_ne (Ne.symm e)]
        rfl
    · rw [if_neg hj, List.getElem?_eq_none (by rw [rowF_len]; omega), List.getElem?_eq_none (by rw [rowF_len]; omega)]
  unfold crashS
  rw [hq]
theorem app_done (f : Nat) (s t : ByteArray) (k : Nat) : doneB ⟨f, s.size, false, t⟩ s.data.toList k = s.data.toList ++ t.data.toList.take k := by
  have hs : s.data.toList.length = s.size := by rw [Array.length_toList]; rfl
  have ht : t.data.toList.length = t.size := by rw [Array.length_toList]; rfl
  unfold doneB
  by_cases hk : k = 0
  · rw [if_pos hk, hk, List.take_zero, List.append_nil]
  · rw [if_neg hk]
    show (if false = true then _ else if min k t.size = 0 then s.data.toList else doneT s.size (t.data.toList.take k) s.data.toList) = _
    rw [if_neg (by decide)]
    by_cases hm : min k t.size = 0
    · rw [if_pos hm]
      have : t.data.toList = [] := List.eq_nil_of_length_eq_zero (by omega)
      rw [this, List.take_nil, List.append_nil]
    · rw [if_neg hm]
      unfold doneT
      rw [List.take_append_of_le_length (by omega), List.take_of_length_le (by omega), List.drop_of_length_le (by simp), List.append_nil]
theorem cut_done (f n k : Nat) (u : ByteArray) : (⟨(doneB ⟨f, n, true, ⟨#[]⟩⟩ u.data.toList k).toArray⟩ : ByteArray) = if k = 0 then u else u.extract 0 n := by
  unfold doneB
  by_cases hk : k = 0
  · rw [if_pos hk, if_pos hk]
  · rw [if_neg hk, if_neg hk]
    apply ByteArray.ext
    apply Array.ext'
    simp

section
variable {f : Nat} (hf : f < 64)
include hf
theorem errF_file : errF true (f : Int) = 0 := errF_yes (by omega)
theorem app_new (s : ByteArray) (hs : s.size ≤ 1048576) : appendS newS f s = (0, ⟨rowF f s, E64, [⟨f, 0, false, s⟩], true, -1, 1⟩) := by
  have h1 : newS.now.getD f ⟨#[]⟩ = ⟨#[]⟩ := by
    show (List.replicate 64 (⟨#[]⟩ : ByteArray)).getD f ⟨#[]⟩ = _
    rw [List.getD_eq_getElem?_getD, List.getElem?_replicate]
    split <;> rfl
  unfold appendS
  rw [show newS.on = true from rfl, if_neg (by rw [errF_file hf]; simp), Int.toNat_natCast, h1, if_neg (by show ¬ (1048576 - ((0 : Nat) : Int) < s.size); omega)]
  have ho : opS newS = (0, { newS with ops := 1 }) := rfl
  rw [ho, if_neg (by simp)]
  unfold putS
  show ((0 : Int), (⟨newS.now.set f (newS.now.getD f ⟨#[]⟩ ++ s), newS.sure, newS.loose ++ [⟨f, (newS.now.getD f ⟨#[]⟩).size, false, s⟩], true, -1, 1⟩ : St)) = _
  rw [h1, empty_app]
  rfl
theorem app_row (s t : ByteArray) (sure : List ByteArray) (L : List Ch) (ops : Nat) (hs : s.size + t.size ≤ 1048576) : appendS ⟨rowF f s, sure, L, true, -1, ops⟩ f t = (0, ⟨rowF f (s ++ t), sure, L ++ [⟨f, s.size, false, t⟩], true, -1, ops + 1⟩) := by
  unfold appendS
  rw [if_neg (by show ¬ errF true f ≠ 0; rw [errF_file hf]; simp), Int.toNat_natCast]
  show (if 1048576 - (((rowF f s).getD f ⟨#[]⟩).size : Int) < t.size then _ else _) = _
  rw [rowF_at hf, if_neg (by omega)]
  have ho : opS ⟨rowF f s, sure, L, true, -1, ops⟩ = (0, ⟨rowF f s, sure, L, true, -1, ops + 1⟩) := rfl
  rw [ho, if_neg (by simp)]
  unfold putS
  show ((0 : Int), (⟨(rowF f s).set f ((rowF f s).getD f ⟨#[]⟩ ++ t), sure, L ++ [⟨f, ((rowF f s).getD f ⟨#[]⟩).size, false, t⟩], true, -1, ops + 1⟩ : St)) = _
  rw [rowF_at hf, rowF_set]
theorem sync_row (s u : ByteArray) (c : Ch) (hc : c.file = f) (ops : Nat) : syncerS ⟨rowF f s, rowF f u, [c], true, -1, ops⟩ f = (0, ⟨rowF f s, rowF f s, [], true, -1, ops + 1⟩) := by
  unfold syncerS
  rw [if_neg (by show ¬ errF true f ≠ 0; rw [errF_file hf]; simp), Int.toNat_natCast]
  have ho : opS ⟨rowF f s, rowF f u, [c], true, -1, ops⟩ = (0, ⟨rowF f s, rowF f u, [c], true, -1, ops + 1⟩) := rfl
  rw [ho, if_neg (by simp)]
  unfold syncS
  show ((0 : Int), (⟨rowF f s, (rowF f u).set f ((rowF f s).getD f ⟨#[]⟩), keepF f [c], true, -1, ops + 1⟩ : St)) = _
  rw [rowF_at hf, rowF_set]
  simp [keepF, hc]
theorem cut_no (u : ByteArray) (sure : List ByteArray) (L : List Ch) (ops : Nat) (n : Int) (h : n < 0 ∨ (u.size : Int) < n) : cutterS ⟨rowF f u, sure, L, true, -1, ops⟩ f n = (5, ⟨rowF f u, sure, L, true, -1, ops⟩) := by
  unfold cutterS
  rw [if_neg (by show ¬ errF true f ≠ 0; rw [errF_file hf]; simp), Int.toNat_natCast]
  show (if n < 0 ∨ (((rowF f u).getD f ⟨#[]⟩).size : Int) < n then _ else _) = _
  rw [rowF_at hf, if_pos h]
theorem cut_yes (u : ByteArray) (sure : List ByteArray) (L : List Ch) (ops n : Nat) (h : n ≤ u.size) : cutterS ⟨rowF f u, sure, L, true, -1, ops⟩ f n = (0, ⟨rowF f (u.extract 0 n), sure, L ++ [⟨f, n, true, ⟨#[]⟩⟩], true, -1, ops + 1⟩) := by
  unfold cutterS
  rw [if_neg (by show ¬ errF true f ≠ 0; rw [errF_file hf]; simp), Int.toNat_natCast]
  show (if (n : Int) < 0 ∨ (((rowF f u).getD f ⟨#[]⟩).size : Int) < n then _ else _) = _
  rw [rowF_at hf, if_neg (by omega)]
  have ho : opS ⟨rowF f u, sure, L, true, -1, ops⟩ = (0, ⟨rowF f u, sure, L, true, -1, ops + 1⟩) := rfl
  rw [ho, if_neg (by simp)]
  unfold cutS
  show ((0 : Int), (⟨(rowF f u).set f (((rowF f u).getD f ⟨#[]⟩).extract 0 (n : Int).toNat), sure, L ++ [⟨f, (n : Int).toNat, true, ⟨#[]⟩⟩], true, -1, ops + 1⟩ : St)) = _
  rw [rowF_at hf, rowF_set, Int.toNat_natCast]
theorem all_row (u : ByteArray) (sure : List ByteArray) (L : List Ch) (lasts : Int) (ops : Nat) : allS ⟨rowF f u, sure, L, true, lasts, ops⟩ f = u := by
  unfold allS
  rw [if_neg (by show ¬ errF true f ≠ 0; rw [errF_file hf]; simp), Int.toNat_natCast]
  exact rowF_at hf u
theorem size_row (u : ByteArray) (sure : List ByteArray) (L : List Ch) (on : Bool) (lasts : Int) (ops : Nat) : sizeF ⟨rowF f u, sure, L, on, lasts, ops⟩ f = u.size := by
  unfold sizeF
  rw [if_neg (by omega), Int.toNat_natCast]
  show ((rowF f u).getD f ⟨#[]⟩).size = _
  rw [rowF_at hf]
end
theorem sync_new {f : Nat} (hf : f < 64) (s : ByteArray) (c : Ch) (hc : c.file = f) (ops : Nat) : syncerS ⟨rowF f s, E64, [c], true, -1, ops⟩ f = (0, ⟨rowF f s, rowF f s, [], true, -1, ops + 1⟩) := by
  have h : rowF f ⟨#[]⟩ = E64 := by
    unfold rowF
    apply List.ext_getElem?
    intro j
    rw [List.getElem?_set]
    split
    · rename_i e
      subst e
      rw [if_pos (by simpa [E64] using hf)]
      unfold E64
      rw [List.getElem?_replicate, if_pos hf]
    · rfl
  rw [← h]
  exact sync_row hf s ⟨#[]⟩ c hc ops
end Go.Proofs.YtepcfmigkhacgaaDoor.Dk
