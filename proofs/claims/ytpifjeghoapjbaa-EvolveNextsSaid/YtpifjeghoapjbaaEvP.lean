/- evolve: mathematics: the keys of a seed, one behind the other; what they sign. -/
import Derived.KernelRfl
import Derived.Test.YtpifjeghoapjbaaEvO0
import Derived.Test.YtpifjeghoapjbaaEvL
import Derived.Test.YtpifjeghoapjbaaEwM
namespace Go.Proofs.Ytpifjeghoapjbaa.Evolve
open Go.RowKit Go.Proofs.Ytpifjeghoapjbaa.Sha Go.Proofs.Ytpifjeghoapjbaa.Tree Go.Proofs.Ytpifjeghoapjbaa.Once

section
variable {α : Type} (L R : α → α) (M : α → α → α) (P : α → α) (z e : α)
def rootG : Nat → α → α
  | 0, s => P s
  | d + 1, s => M (rootG d (L s)) (rootG d (R s))
def keyG (way : List Bool) (d : Nat) (seed : α) : Nat → α × List α × List α
  | 0 => (seed, [], [])
  | i + 1 =>
    let t := keyG way d seed i
    if way.getD i false then (R t.1, t.2.1 ++ [z], t.2.2 ++ [rootG L R M P (d - 1 - i) (L t.1)]) else (L t.1, t.2.1 ++ [R t.1], t.2.2 ++ [rootG L R M P (d - 1 - i) (R t.1)])
def overG (way : List Bool) (side : List α) (top : Nat) : Nat → α → α
  | 0, h => h
  | n + 1, h => if n < top then h else overG way side top n (if way.getD n false then M (side.getD n e) h else M h (side.getD n e))
def firstG (d n : Nat) (seed : α) (A B : List α) : Nat → α × List α × List α
  | 0 => (seed, A, B)
  | k + 1 =>
    let t := firstG d n seed A B k
    (L t.1, t.2.1 ++ [R t.1], t.2.2 ++ [rootG L R M P (d - 1 - (n + k)) (R t.1)])
def nextG (d p j : Nat) (leaf : α) (A B : List α) : α × List α × List α :=
  firstG L R M P d (j + 1) (A.getD j e) (A.take j ++ [z]) (B.take j ++ [overG M e (digitsE d p) B (j + 1) d (P leaf)]) (d - (j + 1))
def keyD (d p : Nat) (s : α) : α × List α × List α := keyG L R M P z (digitsE d p) d s d
def nextD (d p : Nat) (s : α) : α × List α × List α := nextG L R M P z e d p (lastG d p d).toNat (keyD L R M P z d p s).1 (keyD L R M P z d p s).2.1 (keyD L R M P z d p s).2.2
theorem next_gen (s : α) (d p : Nat) (hd : d ≤ 4) (hp : p + 1 < 2 ^ d) : ∃ j : Nat, lastG d p d = (j : Int) ∧ j < d ∧ nextG L R M P z e d p j (keyD L R M P z d p s).1 (keyD L R M P z d p s).2.1 (keyD L R M P z d p s).2.2 = keyD L R M P z d (p + 1) s := by
  rcases (show d = 0 ∨ d = 1 ∨ d = 2 ∨ d = 3 ∨ d = 4 by omega) with rfl | rfl | rfl | rfl | rfl
  · omega
  · obtain rfl : p = 0 := by omega
    exact ⟨0, by decide, by decide, by kernel_rfl⟩
  · rcases (show p = 0 ∨ p = 1 ∨ p = 2 by omega) with rfl | rfl | rfl
    · exact ⟨1, by decide, by decide, by kernel_rfl⟩
    · exact ⟨0, by decide, by decide, by kernel_rfl⟩
    · exact ⟨1, by decide, by decide, by kernel_rfl⟩
  · rcases (show p = 0 ∨ p = 1 ∨ p = 2 ∨ p = 3 ∨ p = 4 ∨ p = 5 ∨ p = 6 by omega) with rfl | rfl | rfl | rfl | rfl | rfl | rfl
    · exact ⟨2, by decide, by decide, by kernel_rfl⟩
    · exact ⟨1, by decide, by decide, by kernel_rfl⟩
    · exact ⟨2, by decide, by decide, by kernel_rfl⟩
    · exact ⟨0, by decide, by decide, by kernel_rfl⟩
    · exact ⟨2, by decide, by decide, by kernel_rfl⟩
    · exact ⟨1, by decide, by decide, by kernel_rfl⟩
    · exact ⟨2, by decide, by decide, by kernel_rfl⟩
  · rcases (show p = 0 ∨ p = 1 ∨ p = 2 ∨ p = 3 ∨ p = 4 ∨ p = 5 ∨ p = 6 ∨ p = 7 ∨ p = 8 ∨ p = 9 ∨ p = 10 ∨ p = 11 ∨ p = 12 ∨ p = 13 ∨ p = 14 by omega) with rfl | rfl | rfl | rfl | rfl | rfl | rfl | rfl | rfl | rfl | rfl | rfl | rfl | rfl | rfl
    · exact ⟨3, by decide, by decide, by kernel_rfl⟩
    · exact ⟨2, by decide, by decide, by kernel_rfl⟩
    · exact ⟨3, by decide, by decide, by kernel_rfl⟩
    · exact ⟨1, by decide, by decide, by kernel_rfl⟩
    · exact ⟨3, by decide, by decide, by kernel_rfl⟩
    · exact ⟨2, by decide, by decide, by kernel_rfl⟩
    · exact ⟨3, by decide, by decide, by kernel_rfl⟩
    · exact ⟨0, by decide, by decide, by kernel_rfl⟩
    · exact ⟨3, by decide, by decide, by kernel_rfl⟩
    · exact ⟨2, by decide, by decide, by kernel_rfl⟩
    · exact ⟨3, by decide, by decide, by kernel_rfl⟩
    · exact ⟨1, by decide, by decide, by kernel_rfl⟩
    · exact ⟨3, by decide, by decide, by kernel_rfl⟩
    · exact ⟨2, by decide, by decide, by kernel_rfl⟩
    · exact ⟨3, by decide, by decide, by kernel_rfl⟩
theorem root_gen (s : α) (d p : Nat) (hd : d ≤ 4) (hp : p < 2 ^ d) : overG M e (digitsE d p) (keyD L R M P z d p s).2.2 0 d (P (keyD L R M P z d p s).1) = rootG L R M P d s := by
  rcases (show d = 0 ∨ d = 1 ∨ d = 2 ∨ d = 3 ∨ d = 4 by omega) with rfl | rfl | rfl | rfl | rfl
  · obtain rfl : p = 0 := by omega
    kernel_rfl
  · rcases (show p = 0 ∨ p = 1 by omega) with rfl | rfl
    · kernel_rfl
    · kernel_rfl
  · rcases (show p = 0 ∨ p = 1 ∨ p = 2 ∨ p = 3 by omega) with rfl | rfl | rfl | rfl
    · kernel_rfl
    · kernel_rfl
    · kernel_rfl
    · kernel_rfl
  · rcases (show p = 0 ∨ p = 1 ∨ p = 2 ∨ p = 3 ∨ p = 4 ∨ p = 5 ∨ p = 6 ∨ p = 7 by omega) with rfl | rfl | rfl | rfl | rfl | rfl | rfl | rfl
    · kernel_rfl
    · kernel_rfl
    · kernel_rfl
    · kernel_rfl
    · kernel_rfl
    · kernel_rfl
    · kernel_rfl
    · kernel_rfl
  · rcases (show p = 0 ∨ p = 1 ∨ p = 2 ∨ p = 3 ∨ p = 4 ∨ p = 5 ∨ p = 6 ∨ p = 7 ∨ p = 8 ∨ p = 9 ∨ p = 10 ∨ p = 11 ∨ p = 12 ∨ p = 13 ∨ p = 14 ∨ p = 15 by omega) with rfl | rfl | rfl | rfl | rfl | rfl | rfl | rfl | rfl | rfl | rfl | rfl | rfl | rfl | rfl | rfl
    · kernel_rfl
    · kernel_rfl
    · kernel_rfl
    · kernel_rfl
    · kernel_rfl
    · kernel_rfl
    · kernel_rfl
    · kernel_rfl
    · kernel_rfl
    · kernel_rfl
    · kernel_rfl
    · kernel_rfl
    · kernel_rfl
    · kernel_rfl
    · kernel_rfl
    · kernel_rfl
theorem first_gen (s : α) (d : Nat) (hd : d ≤ 4) : firstG L R M P d 0 s [] [] d = keyD L R M P z d 0 s := by
  rcases (show d = 0 ∨ d = 1 ∨ d = 2 ∨ d = 3 ∨ d = 4 by omega) with rfl | rfl | rfl | rfl | rfl
  all_goals kernel_rfl
end
theorem last_none (d : Nat) (hd : d ≤ 4) : lastG d (2 ^ d - 1) d = -1 := by
  rcases (show d = 0 ∨ d = 1 ∨ d = 2 ∨ d = 3 ∨ d = 4 by omega) with rfl | rfl | rfl | rfl | rfl
  all_goals decide

theorem rootE_gen (d : Nat) : ∀ s, rootE d s = rootG leftF rightF sumF pubK d s := by
  induction d with
  | zero => intro s; simp only [rootE, rootG]
  | succ d ih => intro s; simp only [rootE, rootG, ih]
theorem keyT_gen (way : List Bool) (d : Nat) (s : List UInt8) : ∀ i, keyT way d s i = keyG leftF rightF sumF pubK zeroL way d s i
  | 0 => by simp only [keyT, keyG]
  | i + 1 => by simp only [keyT, keyG, keyT_gen way d s i, rootE_gen]
theorem overE_gen (way : List Bool) (side : List (List UInt8)) (top : Nat) : ∀ n h, overE way side top n h = overG sumF [] way side top n h
  | 0, h => by simp only [overE, overG]
  | n + 1, h => by simp only [overE, overG, overE_gen way side top n, beside]
theorem firstT_gen (d n : Nat) (s : List UInt8) (A B : List (List UInt8)) : ∀ k, firstT d n s A B k = firstG leftF rightF sumF pubK d n s A B k
  | 0 => by simp only [firstT, firstG]
  | k + 1 => by simp only [firstT, firstG, firstT_gen d n s A B k, rootE_gen]
theorem nextT_gen (d p j : Nat) (leaf : List UInt8) (A B : List (List UInt8)) : nextT d p j leaf A B = nextG leftF rightF sumF pubK zeroL [] d p j leaf A B := by
  simp only [nextT, nextG, firstT_gen, overE_gen]

/-- The key of a seed, of a depth, of a period: leaf, Right, Side. -/
def keyP (d p : Nat) (s : List UInt8) : List UInt8 × List (List UInt8) × List (List UInt8) := keyT (digitsE d p) d s d
theorem keyP_gen (d p : Nat) (s : List UInt8) : keyP d p s = keyD leftF rightF sumF pubK zeroL d p s := by simp only [keyP, keyD, keyT_gen]
theorem keyP_next (s : List UInt8) (d p : Nat) (hd : d ≤ 4) (hp : p + 1 < 2 ^ d) : ∃ j : Nat, lastG d p d = (j : Int) ∧ j < d ∧ nextT d p j (keyP d p s).1 (keyP d p s).2.1 (keyP d p s).2.2 = keyP d (p + 1) s := by
  simp only [nextT_gen, keyP_gen]
  exact next_gen leftF rightF sumF pubK zeroL [] s d p hd hp
theorem keyP_root (s : List UInt8) (d p : Nat) (hd : d ≤ 4) (hp : p < 2 ^ d) : overE (digitsE d p) (keyP d p s).2.2 0 d (pubK (keyP d p s).1) = rootE d s := by
  simp only [overE_gen, keyP_gen, rootE_gen]
  exact root_gen leftF rightF sumF pubK zeroL [] s d p hd hp
theorem keyP_first (s : List UInt8) (d : Nat) (hd : d ≤ 4) : firstT d 0 s [] [] d = keyP d 0 s := by
  simp only [firstT_gen, keyP_gen]
  exact first_gen leftF rightF sumF pubK zeroL s d hd
theorem keyP_len (s : List UInt8) (hs : s.length = 32) (d p : Nat) : (keyP d p s).1.length = 32 ∧ (keyP d p s).2.1.length = d ∧ (keyP d p s).2.2.length = d := keyT_len _ _ _ hs _
theorem zeroL_len : zeroL.length = 32 := rfl
theorem keyT_h32 (way : List Bool) (d : Nat) (s : List UInt8) : ∀ i, H32 (keyT way d s i).2.1 ∧ H32 (keyT way d s i).2.2
  | 0 => ⟨fun h hh => by simp [keyT] at hh, fun h hh => by simp [keyT] at hh⟩
  | i + 1 => by
    obtain ⟨h1, h2⟩ := keyT_h32 way d s i
    have h3 : ∀ (A : List (List UInt8)) (x : List UInt8), H32 A → x.length = 32 → H32 (A ++ [x]) := fun A x hA hx y hy => by
      rcases List.mem_append.1 hy with h | h
      · exact hA y h
      · simp at h; subst h; exact hx
    rw [keyT]
    split
    · exact ⟨h3 _ _ h1 rfl, h3 _ _ h2 (rootE_len _ _)⟩
    · exact ⟨h3 _ _ h1 rfl, h3 _ _ h2 (rootE_len _ _)⟩
theorem keyP_h32 (s : List UInt8) (d p : Nat) : H32 (keyP d p s).2.1 ∧ H32 (keyP d p s).2.2 := keyT_h32 _ _ _ _
theorem firstT_h32 (d n : Nat) (s : List UInt8) (A B : List (List UInt8)) (hA : H32 A) (hB : H32 B) : ∀ k, H32 (firstT d n s A B k).2.1 ∧ H32 (firstT d n s A B k).2.2
  | 0 => ⟨hA, hB⟩
  | k + 1 => by
    obtain ⟨h1, h2⟩ := firstT_h32 d n s A B hA hB k
    have h3 : ∀ (A : List (List UInt8)) (x : List UInt8), H32 A → x.length = 32 → H32 (A ++ [x]) := fun A x hA hx y hy => by
      rcases List.mem_append.1 hy with h | h
      · exact hA y h
      · simp at h; subst h; exact hx
    rw [firstT]
    exact ⟨h3 _ _ h1 rfl, h3 _ _ h2 (rootE_len _ _)⟩
theorem nextT_h32 (d p j : Nat) (leaf : List UInt8) (A B : List (List UInt8)) (hA : H32 A) (hB : H32 B) : H32 (nextT d p j leaf A B).2.1 ∧ H32 (nextT d p j leaf A B).2.2 := by
  have h3 : ∀ (A : List (List UInt8)) (x : List UInt8), H32 A → x.length = 32 → H32 (A ++ [x]) := fun A x hA hx y hy => by
    rcases List.mem_append.1 hy with h | h
    · exact hA y h
    · simp at h; subst h; exact hx
  unfold nextT
  exact firstT_h32 _ _ _ _ _ (h3 _ _ (h32_take hA j) rfl) (h3 _ _ (h32_take hB j) (overE_len _ _ _ _ _ (pubK_len leaf))) _
theorem keyT_right (way : List Bool) (d : Nat) (s : List UInt8) (hs : s.length = 32) : ∀ n i, i < n → way.getD i false = true → (keyT way d s n).2.1.getD i [] = zeroL
  | 0, i, h, _ => by omega
  | n + 1, i, h, hw => by
    have hl := (keyT_len way d s hs n).2.1
    by_cases hi : i < n
    · have ih := keyT_right way d s hs n i hi hw
      rw [keyT]
      split
      · rw [List.getD_eq_getElem?_getD, List.getElem?_append_left (by omega), ← List.getD_eq_getElem?_getD]; exact ih
      · rw [List.getD_eq_getElem?_getD, List.getElem?_append_left (by omega), ← List.getD_eq_getElem?_getD]; exact ih
    · obtain rfl : i = n := by omega
      rw [keyT, if_pos hw]
      rw [List.getD_eq_getElem?_getD, List.getElem?_append_right (by omega), hl, Nat.sub_self]
      rfl
theorem keyP_right (s : List UInt8) (hs : s.length = 32) (d p : Nat) : ∀ i, i < d → rightAt d p i = true → (keyP d p s).2.1.getD i [] = zeroL := fun i hi hr =>
  keyT_right _ d s hs d i hi (by rw [List.getD_eq_getElem?_getD, digitsE_get d p i hi, hr]; rfl)

/-- What is signed is told. -/
theorem flat_get (S : List (List UInt8)) (h32 : H32 S) (i : Nat) (s : List UInt8) (hs : S[i]? = some s) : (S.flatten.drop (32 * i)).take 32 = s := by
  induction S generalizing i with
  | nil => simp at hs
  | cons x S ih =>
    have hx := h32 x (by simp)
    cases i with
    | zero =>
      simp at hs
      subst hs
      rw [List.flatten_cons, Nat.mul_zero, List.drop_zero, List.take_append_of_le_length (by omega), List.take_of_length_le (by omega)]
    | succ i =>
      rw [List.getElem?_cons_succ] at hs
      rw [List.flatten_cons, show 32 * (i + 1) = x.length + 32 * i by omega, List.drop_append]
      rw [show x.length + 32 * i - x.length = 32 * i by omega, List.drop_of_length_le (by omega), List.nil_append]
      exact ih (fun y hy => h32 y (by simp [hy])) i hs
theorem sig_size (leaf m : List UInt8) (S : List (List UInt8)) (h32 : H32 S) (d : Nat) (hd : S.length = d) : (⟨(sigL leaf m S d).toArray⟩ : ByteArray).size = 1024 + 32 * d := by
  have hf : ∀ (S : List (List UInt8)), H32 S → S.flatten.length = 32 * S.length := by
    intro S
    induction S with
    | nil => intro _; rfl
    | cons x S ih => intro h; rw [List.flatten_cons, List.length_append, ih (fun y hy => h y (by simp [hy])), h x (by simp), List.length_cons]; omega
  rw [size_mk]
  unfold sigL
  rw [List.length_append, signK_len, List.take_of_length_le (by omega), hf S h32, hd]
theorem sig_sides (leaf m : List UInt8) (S : List (List UInt8)) (h32 : H32 S) (d : Nat) (hd : S.length = d) : sideL ⟨(sigL leaf m S d).toArray⟩ d = S := by
  apply List.ext_getElem?
  intro i
  by_cases hi : i < d
  · rw [sideL_get _ d i hi]
    obtain ⟨s, hs⟩ : ∃ s, S[i]? = some s := ⟨S[i]'(by omega), List.getElem?_eq_getElem _⟩
    rw [hs]
    congr 1
    show ((sigL leaf m S d).toArray.toList.drop (1024 + 32 * i)).take 32 = s
    rw [List.toList_toArray]
    unfold sigL
    have hdt : S.take d = S := List.take_of_length_le (by omega)
    rw [hdt, List.drop_append, signK_len, show 1024 + 32 * i - 1024 = 32 * i by omega, List.drop_of_length_le (by rw [signK_len]; omega), List.nil_append]
    exact flat_get S h32 i s hs
  · rw [List.getElem?_eq_none (by rw [sideL_len]; omega), List.getElem?_eq_none (by omega)]
theorem sig_first (leaf m : List UInt8) (S : List (List UInt8)) (d : Nat) : ((⟨(sigL leaf m S d).toArray⟩ : ByteArray).extract 0 1024).data.toList = signK leaf m := by
  rw [Lib.extract_data]
  show (((sigL leaf m S d).toArray.toList).drop 0).take (1024 - 0) = _
  rw [List.toList_toArray, List.drop_zero]
  unfold sigL
  rw [List.take_append_of_le_length (by rw [signK_len]; omega), List.take_of_length_le (by rw [signK_len]; omega)]
theorem check_sign (pub leaf m : List UInt8) (S : List (List UInt8)) (h32 : H32 S) (d p : Nat) (hd : S.length = d) : checkE pub d p m ⟨(sigL leaf m S d).toArray⟩ = (overE (digitsE d p) S 0 d (pubK leaf) == pub) := by
  unfold checkE
  rw [sig_sides leaf m S h32 d hd, sig_first, tell_right]

end Go.Proofs.Ytpifjeghoapjbaa.Evolve
