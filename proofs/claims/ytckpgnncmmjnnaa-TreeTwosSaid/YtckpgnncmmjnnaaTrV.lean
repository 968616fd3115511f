/- The code's Check on any proof. -/
import Derived.Test.YtckpgnncmmjnnaaTrW
namespace Go.Proofs.Ytckpgnncmmjnnaa.Tree
open Go.RowKit Go.Proofs.Ytckpgnncmmjnnaa.Sha

def sideF (i : Nat) (t x : List UInt8) : List UInt8 := if i % 2 = 1 then pairF x t else pairF t x
theorem sideF_len (i : Nat) (t x : List UInt8) : (sideF i t x).length = 32 := by unfold sideF; split <;> rfl
def goC : Nat → Nat → Nat → List UInt8 → List (List UInt8) → Option (List UInt8)
  | 0, _, _, T, P => if P.length = 0 then some T else none
  | f + 1, s, i, T, P => if s ≤ 1 then (if P.length = 0 then some T else none) else if oth i < s then (match P with | [] => none | x :: P' => goC f (s / 2 + s % 2) (i / 2) (sideF i T x) P') else goC f (s / 2 + s % 2) (i / 2) T P
theorem goC_one (f s i : Nat) (T : List UInt8) (P : List (List UInt8)) (h : s ≤ 1) : goC f s i T P = if P.length = 0 then some T else none := by
  cases f with
  | zero => rfl
  | succ f => unfold goC; rw [if_pos h]
theorem goC_nil (f s i : Nat) (T : List UInt8) (h : 1 < s) (h2 : oth i < s) : goC (f + 1) s i T [] = none := by
  unfold goC
  rw [if_neg (by omega), if_pos h2]
theorem goC_cons (f s i : Nat) (T x : List UInt8) (P : List (List UInt8)) (h : 1 < s) (h2 : oth i < s) : goC (f + 1) s i T (x :: P) = goC f (s / 2 + s % 2) (i / 2) (sideF i T x) P := by
  conv => lhs; unfold goC
  rw [if_neg (by omega), if_pos h2]
theorem goC_skip (f s i : Nat) (T : List UInt8) (P : List (List UInt8)) (h : 1 < s) (h2 : ¬ oth i < s) : goC (f + 1) s i T P = goC f (s / 2 + s % 2) (i / 2) T P := by
  conv => lhs; unfold goC
  rw [if_neg (by omega), if_neg h2]
def checkB (root : List UInt8) (n i : Nat) (h : List UInt8) (P : List (List UInt8)) : Bool := match goC n n i (leafF h) P with | none => false | some t => rootF n t == root

theorem slice_ofN {w : World} {v : Value} {L : List (List UInt8)} (h : Hashes w v L) : ∃ a cap, v = .slice a L.length cap := by
  rcases h with ⟨a, cap, rfl, rfl⟩ | ⟨g, o, cap, rfl, _, _⟩
  · exact ⟨a, cap, rfl⟩
  · exact ⟨_, cap, rfl⟩

set_option maxRecDepth 100000 in
set_option maxHeartbeats 1600000 in
theorem code_joined (i : Nat) (a b : List UInt8) (ha : a.length = 32) (hb : b.length = 32) (hi : i ≤ 1048576) (w : World) :
    Calls Try.prog 55 #[.int .i64 i, .agg (valsB a).toArray, .agg (valsB b).toArray] w fun e w' => e = .returned (.agg (valsB (sideF i a b)).toArray) ∧ Below w.heap.size w w' := by
  have HO := Lib.hid (fun w => code_other' i (by omega) w)
  obtain ⟨q, hq⟩ : ∃ q, oth i = q := ⟨_, rfl⟩
  have hq2 := oth_eq i
  rw [hq] at HO hq2
  have HRA := Lib.hid (row32 a ha)
  have HRB := Lib.hid (row32 b hb)
  have HRD := Lib.hid (row32 (sideF i a b) (sideF_len i a b))
  have HP := Lib.hid (show ∀ w, if i % 2 = 1 then Calls Try.prog 65 #[.agg (valsB b).toArray, .agg (valsB a).toArray] w fun e w' => e = .returned (.agg (valsB (sideF i a b)).toArray) ∧ Below w.heap.size w w' else Calls Try.prog 65 #[.agg (valsB a).toArray, .agg (valsB b).toArray] w fun e w' => e = .returned (.agg (valsB (sideF i a b)).toArray) ∧ Below w.heap.size w w' from fun w => by
    unfold sideF
    split
    · exact code_pair b a hb ha w
    · exact code_pair a b ha hb w)
  obtain ⟨CA, hCA⟩ : ∃ C, (valsB a).toArray = C := ⟨_, rfl⟩
  obtain ⟨CB, hCB⟩ : ∃ C, (valsB b).toArray = C := ⟨_, rfl⟩
  obtain ⟨D, hD⟩ : ∃ C, (valsB (sideF i a b)).toArray = C := ⟨_, rfl⟩
  rw [hD, hCA, hCB] at HP
  rw [hCA] at HRA
  rw [hCB] at HRB
  rw [hD] at HRD
  rw [hD, hCA, hCB]
  clear hCA hCB hD hq ha hb
  go_enter Try.func55, Try.ntmps55
  go_upto_region 1 with (fail)
  rw [zero32]
  obtain ⟨Z, hZ⟩ : ∃ Z, (List.replicate 32 (Value.int .u8 0)).toArray = Z := ⟨_, rfl⟩
  have HZD := Lib.hid (show Z.size = D.size by rw [← hZ, HRD.out.size]; rfl)
  rw [hZ]
  clear hZ
  have hs0 : (((w.alloc (.cells CA 24)).alloc (.cells CB 24)).alloc (.cells Z 24)).heap.size = w.heap.size + 3 := by simp
  have hw1 : (w.alloc (.cells CA 24)).heap.size = w.heap.size + 1 := by simp
  have HA := Lib.hid ((Below.heap_alloc _ (.cells Z 24) w.heap.size (by simp; omega)).trans (heap_alloc2_old w (.cells CA 24) (.cells CB 24)))
  have HB := Lib.hid ((Below.heap_alloc _ (.cells Z 24) (w.heap.size + 1) (by simp)).trans (heap_alloc2_new w (.cells CA 24) (.cells CB 24)))
  have HZ := Lib.hid (show (((w.alloc (.cells CA 24)).alloc (.cells CB 24)).alloc (.cells Z 24)).heap[w.heap.size + 2]? = some (.cells Z 24 (0, 0)) by
    have h := heap_alloc2_new (w.alloc (.cells CA 24)) (.cells CB 24) (.cells Z 24)
    rw [hw1] at h
    exact h)
  have HBW := Lib.hid (show Below w.heap.size w (((w.alloc (.cells CA 24)).alloc (.cells CB 24)).alloc (.cells Z 24)) from (((Below.refl _ _).alloc (Nat.le_refl _) _).alloc (by simp) _).alloc (by simp; omega) _)
  have HS0 := Lib.hid hs0
  clear hs0 hw1
  generalize ((w.alloc (.cells CA 24)).alloc (.cells CB 24)).alloc (.cells Z 24) = W at HA HB HZ HBW HS0 ⊢
  have hW : w.heap.size + 2 < W.heap.size := by rw [HS0.out]; omega
  by_cases hodd : i % 2 = 1
  · have hqi : (q : Int) < (i : Int) := by rw [if_neg (by omega)] at hq2; omega
    have HPP := Lib.hid (fun w => by have := HP.out w; rw [if_pos hodd] at this; exact this)
    clear hq2 hodd
    go_wp2_with (first
      | (go_at_call 44; refine (HO.out _).mono ?_; rintro e w' ⟨rfl, rfl⟩)
      | (refine wpList_load_row rfl 24 (.tmp 5) rfl (w.heap.size + 1) rfl 24 CB (0, 0) _ HB.out Try.underlying24 rfl HRB.out.info ?_)
      | (refine wpList_load_row rfl 24 (.tmp 4) rfl w.heap.size rfl 24 CA (0, 0) _ HA.out Try.underlying24 rfl HRA.out.info ?_))
    refine (HPP.out _).mono ?_
    rintro e w4 ⟨rfl, hb⟩
    have HZ2 := Lib.hid ((hb.block _ hW).trans HZ.out)
    have HB2 := Lib.hid (HBW.out.trans (hb.mono (by omega)))
    clear hb
    go_wp2_with (refine wpList_store_row rfl 24 (.tmp 6) (.tmp 13) rfl (w.heap.size + 2) D rfl rfl 24 Z HZ2.out HRD.out.info HZD.out HRD.out.one ?_)
    refine bodyPost_ret (results_cell_row (p := 6) (ty := 24) Try.results55 _ _ (w.heap.size + 2) 24 D (0, 0) _ rfl (setRow_heap _ _ _ _ _ _ HZ2.out) Try.underlying24 rfl HRD.out.info) rfl ⟨rfl, below_setRow HB2.out (by omega) _⟩
  · have hqi : ¬ (q : Int) < (i : Int) := by rw [if_pos (by omega)] at hq2; omega
    have HPP := Lib.hid (fun w => by have := HP.out w; rw [if_neg hodd] at this; exact this)
    clear hq2 hodd
    go_wp2_with (first
      | (go_at_call 44; refine (HO.out _).mono ?_; rintro e w' ⟨rfl, rfl⟩)
      | (refine wpList_load_row rfl 24 (.tmp 5) rfl (w.heap.size + 1) rfl 24 CB (0, 0) _ HB.out Try.underlying24 rfl HRB.out.info ?_)
      | (refine wpList_load_row rfl 24 (.tmp 4) rfl w.heap.size rfl 24 CA (0, 0) _ HA.out Try.underlying24 rfl HRA.out.info ?_))
    refine (HPP.out _).mono ?_
    rintro e w4 ⟨rfl, hb⟩
    have HZ2 := Lib.hid ((hb.block _ hW).trans HZ.out)
    have HB2 := Lib.hid (HBW.out.trans (hb.mono (by omega)))
    clear hb
    go_wp2_with (refine wpList_store_row rfl 24 (.tmp 6) (.tmp 16) rfl (w.heap.size + 2) D rfl rfl 24 Z HZ2.out HRD.out.info HZD.out HRD.out.one ?_)
    refine bodyPost_ret (results_cell_row (p := 6) (ty := 24) Try.results55 _ _ (w.heap.size + 2) 24 D (0, 0) _ rfl (setRow_heap _ _ _ _ _ _ HZ2.out) Try.underlying24 rfl HRD.out.info) rfl ⟨rfl, below_setRow HB2.out (by omega) _⟩

set_option maxRecDepth 100000 in
set_option maxHeartbeats 1600000 in
theorem code_Check_no (root h : List UInt8) (n i : Int) (v : Value) (hb : 1048576 < n ∨ i < 0 ∨ n ≤ i) (w : World) :
    Calls Try.prog 26 #[.agg (valsB root).toArray, .int .i64 n, .int .i64 i, .agg (valsB h).toArray, v] w fun e w' => e = .returned (.bool false) ∧ Below w.heap.size w w' := by
  obtain ⟨CR, hCR⟩ : ∃ C, (valsB root).toArray = C := ⟨_, rfl⟩
  obtain ⟨CH, hCH⟩ : ∃ C, (valsB h).toArray = C := ⟨_, rfl⟩
  rw [hCR, hCH]
  clear hCR hCH
  by_cases hn : 1048576 < n
  · clear hb
    go_enter Try.func26, Try.ntmps26
    go_wp2_with fail
    go_ret
    exact ⟨rfl, ((Below.refl _ _).alloc (Nat.le_refl _) _).alloc (by simp) _⟩
  · have HIP := Lib.hid (fun w => code_isPlace_no i n (by omega) w)
    clear hb
    go_enter Try.func26, Try.ntmps26
    go_wp2_with (go_at_call 41; refine (HIP.out _).mono ?_; rintro e w' ⟨rfl, rfl⟩)
    go_ret
    exact ⟨rfl, ((Below.refl _ _).alloc (Nat.le_refl _) _).alloc (by simp) _⟩

end Go.Proofs.Ytckpgnncmmjnnaa.Tree

namespace Go.Proofs.Ytckpgnncmmjnnaa.Tree
open Go.RowKit Go.Proofs.Ytckpgnncmmjnnaa.Sha

/-- What a place of a row becomes in the row above. -/
theorem up_place (M : List (List UInt8)) (i : Nat) (T : List UInt8) (hi : M[i]? = some T) : (upF M)[i / 2]? = some (match M[oth i]? with | none => T | some x => sideF i T x) := by
  have hil : i < M.length := (List.getElem?_eq_some_iff.1 hi).1
  have ho := oth_eq i
  by_cases hodd : i % 2 = 1
  · obtain ⟨j, rfl⟩ : ∃ j, i = 2 * j + 1 := ⟨i / 2, by omega⟩
    have ho2 : oth (2 * j + 1) = 2 * j := by rw [ho, if_neg (by omega)]; omega
    obtain ⟨x, hx⟩ : ∃ x, M[2 * j]? = some x := ⟨M[2 * j]'(by omega), List.getElem?_eq_getElem _⟩
    rw [ho2, hx, show (2 * j + 1) / 2 = j by omega, upF_two M j x T hx hi]
    show some (pairF x T) = some (sideF _ T x)
    unfold sideF
    rw [if_pos hodd]
  · obtain ⟨j, rfl⟩ : ∃ j, i = 2 * j := ⟨i / 2, by omega⟩
    have ho2 : oth (2 * j) = 2 * j + 1 := by rw [ho, if_pos (by omega)]
    rw [ho2, show 2 * j / 2 = j by omega]
    by_cases h1 : 2 * j + 1 < M.length
    · obtain ⟨x, hx⟩ : ∃ x, M[2 * j + 1]? = some x := ⟨M[2 * j + 1]'h1, List.getElem?_eq_getElem _⟩
      rw [hx, upF_two M j T x hi hx]
      show some (pairF T x) = some (sideF _ T x)
      unfold sideF
      rw [if_neg hodd]
    · have hnone : M[2 * j + 1]? = none := List.getElem?_eq_none (by omega)
      rw [hnone, upF_last M j T hi (by omega)]

theorem goC_proof (f : Nat) : ∀ (M : List (List UInt8)) (i : Nat) (T : List UInt8), M.length ≤ f → M[i]? = some T → goC f M.length i T (proofA M i) = (lastA M)[0]? := by
  induction f with
  | zero =>
    intro M i T h hi
    have := (List.getElem?_eq_some_iff.1 hi).1
    omega
  | succ f ih =>
    intro M i T h hi
    have hil := (List.getElem?_eq_some_iff.1 hi).1
    by_cases h1 : M.length ≤ 1
    · rw [goC_one _ _ _ _ _ h1, proofA_one M i h1, lastA_one M h1, if_pos (show ([] : List (List UInt8)).length = 0 from rfl)]
      obtain rfl : i = 0 := by omega
      exact hi.symm
    · have hup := up_place M i T hi
      have hul := upF_len M
      rw [proofA_step M i (by omega), lastA_step M (by omega)]
      by_cases ho : oth i < M.length
      · obtain ⟨x, hx⟩ : ∃ x, M[oth i]? = some x := ⟨M[oth i]'ho, List.getElem?_eq_getElem _⟩
        rw [hx] at hup
        rw [hx]
        show goC (f + 1) M.length i T (x :: proofA (upF M) (i / 2)) = _
        rw [goC_cons f M.length i T x _ (by omega) ho, ← hul]
        exact ih _ _ _ (by omega) hup
      · have hnone : M[oth i]? = none := List.getElem?_eq_none (by omega)
        rw [hnone] at hup
        rw [hnone]
        show goC (f + 1) M.length i T (proofA (upF M) (i / 2)) = _
        rw [goC_skip f M.length i T _ (by omega) ho, ← hul]
        exact ih _ _ _ (by omega) hup

/-- How many hashes a proof of this place wants. -/
def cntC : Nat → Nat → Nat → Nat
  | 0, _, _ => 0
  | f + 1, s, i => if s ≤ 1 then 0 else (if oth i < s then 1 else 0) + cntC f (s / 2 + s % 2) (i / 2)
theorem goC_some (f : Nat) : ∀ (s i : Nat) (T : List UInt8) (P : List (List UInt8)) (t : List UInt8), goC f s i T P = some t → P.length = cntC f s i := by
  induction f with
  | zero =>
    intro s i T P t h
    by_cases h0 : P.length = 0
    · exact h0
    · unfold goC at h
      rw [if_neg h0] at h
      cases h
  | succ f ih =>
    intro s i T P t h
    by_cases h1 : s ≤ 1
    · rw [goC_one _ _ _ _ _ h1] at h
      rw [cntC, if_pos h1]
      by_cases h0 : P.length = 0
      · exact h0
      · rw [if_neg h0] at h
        cases h
    · rw [cntC, if_neg h1]
      by_cases ho : oth i < s
      · rw [if_pos ho]
        cases P with
        | nil => rw [goC_nil f s i T (by omega) ho] at h; cases h
        | cons x P =>
          rw [goC_cons f s i T x P (by omega) ho] at h
          rw [List.length_cons, ih _ _ _ _ _ h]
          omega
      · rw [goC_skip f s i T P (by omega) ho] at h
        rw [if_neg ho, ih _ _ _ _ _ h]
        omega

theorem last_some (L : List (List UInt8)) (h0 : 0 < L.length) : (lastA (L.map leafF))[0]? = some (topA L) := by
  have hne : L ≠ [] := fun h => by rw [h] at h0; simp at h0
  obtain ⟨x, hx, _⟩ := lastA_len (L.map leafF).length (L.map leafF) (Nat.le_refl _) (by rw [List.length_map]; exact h0) (leaves_32 L)
  unfold topA
  rw [if_neg hne, hx]
  rfl
theorem goC_leaves (L : List (List UInt8)) (i : Nat) (h : List UInt8) (hi : L[i]? = some h) : goC L.length L.length i (leafF h) (proofA (L.map leafF) i) = some (topA L) := by
  have hil := (List.getElem?_eq_some_iff.1 hi).1
  have h1 := goC_proof (L.map leafF).length (L.map leafF) i (leafF h) (Nat.le_refl _) (by rw [List.getElem?_map, hi]; rfl)
  rw [List.length_map, last_some L (by omega)] at h1
  exact h1
/-- The proof of a hash is held; one hash more or one fewer is not. -/
theorem checkB_proof (L : List (List UInt8)) (i : Nat) (h : List UInt8) (hi : L[i]? = some h) : checkB (rootA L) L.length i h (proofA (L.map leafF) i) = true := by
  unfold checkB
  rw [goC_leaves L i h hi]
  show (rootF L.length (topA L) == rootA L) = true
  simp [rootA]
theorem checkB_other (L : List (List UInt8)) (i : Nat) (h root : List UInt8) (hi : L[i]? = some h) (P : List (List UInt8)) (hP : P.length ≠ (proofA (L.map leafF) i).length) : checkB root L.length i h P = false := by
  have h1 := goC_some _ _ _ _ _ _ (goC_leaves L i h hi)
  unfold checkB
  cases hg : goC L.length L.length i (leafF h) P with
  | none => rfl
  | some t =>
    have h2 := goC_some _ _ _ _ _ _ hg
    omega

/-- Two rows of as many hashes, a power of two: the whole's proofs begin with the halves'. -/
theorem upF_append : ∀ (k : Nat) (M N : List (List UInt8)), M.length = 2 * k → upF (M ++ N) = upF M ++ upF N
  | 0, M, N, h => by
    obtain rfl := List.eq_nil_of_length_eq_zero (by omega : M.length = 0)
    rfl
  | k + 1, [], N, h => by simp at h
  | k + 1, [a], N, h => by simp at h; omega
  | k + 1, a :: b :: M, N, h => by
    simp only [List.cons_append, upF]
    rw [upF_append k M N (by simp only [List.length_cons] at h; omega)]
theorem proof_left (k : Nat) : ∀ (M N : List (List UInt8)) (i : Nat), M.length = 2 ^ k → N.length = 2 ^ k → i < 2 ^ k → ∃ z, proofA (M ++ N) i = proofA M i ++ [z] := by
  induction k with
  | zero =>
    intro M N i hM hN hi
    obtain ⟨x, rfl⟩ := List.length_eq_one_iff.1 hM
    obtain ⟨y, rfl⟩ := List.length_eq_one_iff.1 hN
    obtain rfl : i = 0 := by omega
    exact ⟨y, rfl⟩
  | succ k ih =>
    intro M N i hM hN hi
    have hp : 0 < 2 ^ k := Nat.two_pow_pos k
    rw [Nat.pow_succ] at hM hN hi
    have ho := oth_eq i
    have hol : oth i < M.length := by split at ho <;> omega
    obtain ⟨z, hz⟩ := ih (upF M) (upF N) (i / 2) (by rw [upF_len]; omega) (by rw [upF_len]; omega) (by omega)
    refine ⟨z, ?_⟩
    rw [proofA_step (M ++ N) i (by rw [List.length_append]; omega), proofA_step M i (by omega), List.getElem?_append_left hol, upF_append (2 ^ k) M N (by omega), hz, List.append_assoc]
theorem proof_right (k : Nat) : ∀ (M N : List (List UInt8)) (i : Nat), M.length = 2 ^ k → N.length = 2 ^ k → i < 2 ^ k → ∃ z, proofA (M ++ N) (2 ^ k + i) = proofA N i ++ [z] := by
  induction k with
  | zero =>
    intro M N i hM hN hi
    obtain ⟨x, rfl⟩ := List.length_eq_one_iff.1 hM
    obtain ⟨y, rfl⟩ := List.length_eq_one_iff.1 hN
    obtain rfl : i = 0 := by omega
    exact ⟨x, rfl⟩
  | succ k ih =>
    intro M N i hM hN hi
    have hp : 0 < 2 ^ k := Nat.two_pow_pos k
    rw [Nat.pow_succ] at hM hN hi
    rw [Nat.pow_succ]
    have ho := oth_eq i
    have ho2 := oth_eq (2 ^ k * 2 + i)
    have hoo : oth (2 ^ k * 2 + i) = M.length + oth i := by
      rw [ho, ho2]
      by_cases hev : i % 2 = 0
      · rw [if_pos hev, if_pos (by omega)]; omega
      · rw [if_neg hev, if_neg (by omega)]; omega
    obtain ⟨z, hz⟩ := ih (upF M) (upF N) (i / 2) (by rw [upF_len]; omega) (by rw [upF_len]; omega) (by omega)
    refine ⟨z, ?_⟩
    rw [proofA_step (M ++ N) _ (by rw [List.length_append]; omega), proofA_step N i (by omega), hoo, List.getElem?_append_right (by omega), show M.length + oth i - M.length = oth i by omega, upF_append (2 ^ k) M N (by omega), show (2 ^ k * 2 + i) / 2 = 2 ^ k + i / 2 by omega, hz, List.append_assoc]

end Go.Proofs.Ytckpgnncmmjnnaa.Tree

namespace Go.Proofs.Ytckpgnncmmjnnaa.Tree
open Go.RowKit Go.Proofs.Ytckpgnncmmjnnaa.Sha

theorem wpList_append_came {ops : Array Oper} {rest : List Oper} {o : Oper} {a : Act} {w : World} {Q : Exit → Act → World → Prop} (hgd : o.guard = none) (s x : Operand)
    (ho : o.op = .call { callee := .builtin .append, args := #[s, x], argTypes := #[33, 33] })
    (B : Nat) (v : Value) (P : List (List UInt8)) (hs : a.eval s = v) (hown : OwnH B v P w) (a1 : Option Addr) (cap1 m : Nat) (L : List (List UInt8)) (hx : a.eval x = .slice a1 m cap1) (hrow : Hashes w (.slice a1 m cap1) L) (h32 : H32 L) (hm : L.length = m) (h0 : 0 < m)
    (hn : P.length + m ≤ 2199023255552) (hB : B ≤ w.heap.size)
    (h : ∀ v' w', OwnH B v' (P ++ L) w' → Below B w w' → (∃ g cap, v' = .slice (some ⟨g, 0, none⟩) (P.length + m) cap) → wpList Try.prog ops Q rest (a.put o.dst v') w') : wpList Try.prog ops Q (o :: rest) a w := by
  obtain ⟨ie, hie, hz, hsz, hby⟩ := info_row
  obtain ⟨g1, o1, rfl, hat⟩ : ∃ g1 o1, a1 = some ⟨g1, o1, none⟩ ∧ ∀ (i : Nat) (h : List UInt8), L[i]? = some h → w.rangeAt g1 (o1 + i * 32) (valsB h) := by
    rcases hrow with ⟨a2, c2, hv, h1⟩ | ⟨g, o, c2, hv, _, hc⟩
    · rw [h1] at hm; simp at hm; omega
    · cases hv
      exact ⟨g, o, rfl, hc⟩
  refine wpList_append_lies w hgd s x 33 ho B 24 ie _ 32 32 Try.underlying33 hie hz hsz hby rfl (by omega) v P.length (valsH P) hs hown.own ⟨g1, o1, none⟩ m cap1 (valsH L) hx (by rw [valsH_len L h32, hm]) (fun j u hj => ?_) (valsH_oneCell L) h0 (by unfold maxLen; omega) (by omega) hB _ rfl ?_
  · have hj' := (List.getElem?_eq_some_iff.1 hj).1
    rw [valsH_len L h32] at hj'
    have hd : j / 32 < L.length := by omega
    have hh := h32 _ (List.getElem_mem hd)
    have hjm : j % 32 < (valsB L[j / 32]).length := by rw [valsB_len, hh]; omega
    have h1 := hat (j / 32) L[j / 32] (List.getElem?_eq_getElem hd) (j % 32) _ (List.getElem?_eq_getElem hjm)
    have h2 := valsH_at L h32 (j / 32) L[j / 32] (List.getElem?_eq_getElem hd) (j % 32) _ (List.getElem?_eq_getElem hjm)
    rw [show o1 + j / 32 * 32 + j % 32 = o1 + j by omega] at h1
    rw [show j / 32 * 32 + j % 32 = j by omega, hj] at h2
    rw [Addr.add_mid, h1, h2]
  · intro g cap w' hown' hgrow _ _
    have hl : (P ++ L).length = P.length + m := by rw [List.length_append, hm]
    refine h _ w' ⟨by rw [hl, show valsH (P ++ L) = valsH P ++ valsH L by simp [valsH]]; exact hown', fun y hy => (List.mem_append.1 hy).elim (hown.len y) (h32 y)⟩ ((Below.refl _ _).grown hgrow hB hown.base) ⟨g, cap, rfl⟩

theorem and_told : ∀ n : Fin 65, 0 < n.val → bits .and .i64 (n.val : Int) ((n.val : Int) - 1) = ((n.val &&& (n.val - 1) : Nat) : Int) := by decide
theorem two_told : ∀ n : Fin 65, 0 < n.val → n.val &&& (n.val - 1) = 0 → n.val = 2 ^ 0 ∨ n.val = 2 ^ 1 ∨ n.val = 2 ^ 2 ∨ n.val = 2 ^ 3 ∨ n.val = 2 ^ 4 ∨ n.val = 2 ^ 5 ∨ n.val = 2 ^ 6 := by decide
theorem pow_told (n : Nat) (h0 : 0 < n) (h64 : n ≤ 64) (h : n &&& (n - 1) = 0) : ∃ k, n = 2 ^ k := by
  rcases two_told ⟨n, by omega⟩ h0 h with h | h | h | h | h | h | h
  all_goals exact ⟨_, h⟩
/-- A whole's proofs and its halves': of one hash more, which is their last. -/
theorem proof_twos (M N : List (List UInt8)) (n i : Nat) (hM : M.length = n) (hN : N.length = n) (hn : ∃ k, n = 2 ^ k) (hi : i < n) :
    (∃ z, proofA ((M ++ N).map leafF) i = proofA (M.map leafF) i ++ [z]) ∧ ∃ z, proofA ((M ++ N).map leafF) (n + i) = proofA (N.map leafF) i ++ [z] := by
  obtain ⟨k, rfl⟩ := hn
  rw [List.map_append]
  exact ⟨proof_left k _ _ i (by rw [List.length_map]; exact hM) (by rw [List.length_map]; exact hN) hi, proof_right k _ _ i (by rw [List.length_map]; exact hM) (by rw [List.length_map]; exact hN) hi⟩

end Go.Proofs.Ytckpgnncmmjnnaa.Tree

namespace Go.Proofs.Ytckpgnncmmjnnaa.Tree
open Go.RowKit Go.Proofs.Ytckpgnncmmjnnaa.Sha

set_option maxRecDepth 100000 in
set_option maxHeartbeats 1600000 in
theorem twos_skip (a b : Option Addr) (n m cap capb : Nat) (w : World) (hn63 : n ≤ 9223372036854775807) (hm63 : m ≤ 9223372036854775807) (h : 64 < n ∨ n ≠ m ∨ n = 0 ∨ n &&& (n - 1) ≠ 0) : Calls Try.prog 11 #[.slice a n cap, .slice b m capb] w fun e w' => e = .returned (.bool true) ∧ Below w.heap.size w w' := by
  by_cases h1 : 64 < n
  · have hb : (64 : Int) < (n : Int) := by omega
    clear h
    go_enter Try.func11, Try.ntmps11
    go_wp2_with fail
    refine (works4 _).mono ?_
    rintro e w' ⟨rfl, hb4⟩
    go_wp2_with fail
    go_ret
    exact ⟨rfl, hb4⟩
  · have hb : ¬ (64 : Int) < (n : Int) := by omega
    by_cases h2 : n = m
    · subst h2
      by_cases h3 : n = 0
      · subst h3
        clear h
        go_enter Try.func11, Try.ntmps11
        go_wp2_with fail
        refine (works4 _).mono ?_
        rintro e w' ⟨rfl, hb4⟩
        go_wp2_with fail
        go_ret
        exact ⟨rfl, hb4⟩
      · have h4 : n &&& (n - 1) ≠ 0 := by
          rcases h with h | h | h | h
          · exact absurd h h1
          · exact absurd rfl h
          · exact absurd h h3
          · exact h
        have h5 := and_told ⟨n, by omega⟩ (by simp; omega)
        dsimp only at h5
        obtain ⟨c, hc⟩ : ∃ c, n &&& (n - 1) = c := ⟨_, rfl⟩
        rw [hc] at h4 h5
        obtain ⟨s, hs⟩ : ∃ s, n - 1 = s := ⟨_, rfl⟩
        have hsi : (n : Int) - 1 = (s : Int) := by omega
        rw [hsi] at h5
        have hne : ((n : Int) != (n : Int)) = false := by simp
        have hn0 : ((n : Int) == 0) = false := by simp; omega
        have hc0 : ((c : Int) != 0) = true := by simp; omega
        clear h hc hs
        go_enter Try.func11, Try.ntmps11
        go_wp2_with fail
        refine (works4 _).mono ?_
        rintro e w' ⟨rfl, hb4⟩
        go_wp2_with fail
        go_ret
        exact ⟨rfl, hb4⟩
    · have hne : ((n : Int) != (m : Int)) = true := by simp; omega
      clear h
      go_enter Try.func11, Try.ntmps11
      go_wp2_with fail
      refine (works4 _).mono ?_
      rintro e w' ⟨rfl, hb4⟩
      go_wp2_with fail
      go_ret
      exact ⟨rfl, hb4⟩

theorem own_slice2 {B : Nat} {v : Value} {P : List (List UInt8)} {w : World} (h : OwnH B v P w) : ∃ a c, v = .slice a P.length c := by
  rcases h.shape with ⟨rfl, rfl⟩ | ⟨g, cap, rfl, _, _⟩
  · exact ⟨_, _, rfl⟩
  · exact ⟨_, _, rfl⟩
theorem own_empty (w : World) : OwnH w.heap.size (.slice (some ⟨w.heap.size, 0, none⟩) 0 0) [] (w.alloc (.cells #[] 24)) :=
  ⟨⟨rfl, Or.inr ⟨w.heap.size, 0, #[], rfl, Nat.le_refl _, heap_alloc_new _ _, Nat.le_refl _, by unfold maxLen; omega, rfl, rfl⟩⟩, fun h hh => by simp at hh⟩
theorem proof_len_alike (M N : List (List UInt8)) (i : Nat) (h : M.length = N.length) (hi : i < M.length) : (proofA (M.map leafF) i).length = (proofA (N.map leafF) i).length := by
  have h1 := goC_some _ _ _ _ _ _ (goC_leaves M i (M[i]'hi) (List.getElem?_eq_getElem hi))
  have h2 := goC_some _ _ _ _ _ _ (goC_leaves N i (N[i]'(by omega)) (List.getElem?_eq_getElem (by omega)))
  rw [h1, h2, h]

theorem hashes_cell {w : World} {a : Option Addr} {n c : Nat} {L : List (List UInt8)} (h : Hashes w (.slice a n c) L) (i : Nat) (s : List UInt8) (hi : L[i]? = some s) : ∃ g o, a = some ⟨g, o, none⟩ ∧ w.rangeAt g (o + i * 32) (valsB s) := by
  rcases h with ⟨a', cap, hv, h0⟩ | ⟨g, o, cap, hv, _, hc⟩
  · rw [h0] at hi; simp at hi
  · cases hv
    exact ⟨g, o, rfl, hc i s hi⟩

set_option maxRecDepth 100000 in
set_option maxHeartbeats 3200000 in
theorem twos_main (a b : Option Addr) (n cap capb : Nat) (A B : List (List UInt8)) (w : World) (hA : A.length = n) (hB : B.length = n) (w0 : Hashes w (.slice a n cap) A) (x0 : H32 A) (w1 : Hashes w (.slice b n capb) B) (x1 : H32 B) (hn0 : 0 < n) (hn64 : n ≤ 64) (hnn : n &&& (n - 1) = 0) : Calls Try.prog 11 #[.slice a n cap, .slice b n capb] w fun e w' => e = .returned (.bool true) ∧ Below w.heap.size w w' := by
  have HA := Lib.hid hA
  have HB := Lib.hid hB
  have HWA := Lib.hid w0
  have HWB := Lib.hid w1
  have HXA := Lib.hid x0
  have HXB := Lib.hid x1
  have HPW := Lib.hid (pow_told n hn0 hn64 hnn)
  have HPT := Lib.hid (fun i (hi : i < n) => proof_twos A B n i hA hB (pow_told n hn0 hn64 hnn) hi)
  have h5 := and_told ⟨n, by omega⟩ (by simp; omega)
  dsimp only at h5
  rw [hnn] at h5
  obtain ⟨s, hs⟩ : ∃ s, n - 1 = s := ⟨_, rfl⟩
  have hsi : (n : Int) - 1 = (s : Int) := by omega
  rw [hsi] at h5
  have hb : ¬ (64 : Int) < (n : Int) := by omega
  have hne : ((n : Int) != (n : Int)) = false := by simp
  have hn00 : ((n : Int) == 0) = false := by simp; omega
  clear hA hB w0 w1 x0 x1 hnn hs
  go_enter Try.func11, Try.ntmps11
  go_upto_region 4 with (fail)
  have HB0 := Lib.hid (show Below w.heap.size w (w.alloc (.cells #[] 24)) from (Below.refl _ _).alloc (Nat.le_refl _) _)
  go_wp2_with (first
    | (refine wpList_append_came rfl (.tmp 39) (.tmp 40) rfl w.heap.size _ [] rfl (own_empty w) a cap n A rfl (HWA.out.kept HB0.out) HXA.out HA.out hn0 (by simp; omega) (by simp) ?_; intro v4 w4 hown4 hb4 hv4; rw [List.nil_append] at hown4; have HB4 := HB0.out.trans hb4; clear hv4 hb4)
    | (refine wpList_append_came rfl (.tmp 41) (.tmp 42) rfl w.heap.size _ A rfl (by assumption) b capb n B rfl (HWB.out.kept (by assumption)) HXB.out HB.out hn0 (by rw [HA.out]; omega) (Below.size (show Below w.heap.size w _ by assumption)) ?_; intro v6 w6 hown6 hb6 hv6; obtain ⟨g6, c6, rfl⟩ := hv6))
  have HB6 := Lib.hid (HB4.trans hb6)
  clear HB4 hown4
  have HALL := Lib.hid hown6.hashes
  have HX6 := Lib.hid hown6.len
  rw [HA.out] at HALL
  rw [HA.out]
  have HWA6 := Lib.hid (HWA.out.kept HB6.out)
  have HWB6 := Lib.hid (HWB.out.kept HB6.out)
  have HLEN := Lib.hid (show (A ++ B).length = n + n by rw [List.length_append, HA.out, HB.out])
  obtain ⟨nn, hnn⟩ : ∃ x, n + n = x := ⟨_, rfl⟩
  rw [hnn] at HALL HLEN
  rw [hnn]
  have HNN := Lib.hid hnn
  clear hown6 hb6 hnn
  go_wp2_with fail
  go_loopw [45] (fun iv wr => ∃ k : Nat, iv = .int .i64 k ∧ k ≤ n ∧ Below w6.heap.size w6 wr) (fun iv _ => n - (intOf iv).toNat)
  case atStart => exact ⟨0, rfl, by omega, Below.refl _ _⟩
  case round =>
    obtain ⟨k, rfl, hk, hbel⟩ := hrel
    have HBEL := Lib.hid hbel
    clear hbel
    by_cases hkn : k < n
    · have HP1 := Lib.hid (fun W (hb : Below w6.heap.size w6 W) => code_Prove (.slice a n cap) A k W (HWA6.out.kept hb) HXA.out (by rw [HA.out]; omega) (by rw [HA.out]; exact hkn))
      have HP2 := Lib.hid (fun W (hb : Below w6.heap.size w6 W) => code_Prove _ (A ++ B) k W (HALL.out.kept hb) HX6.out (by rw [HLEN.out]; have := HNN.out; omega) (by rw [HLEN.out]; have := HNN.out; omega))
      have HP3 := Lib.hid (fun W (hb : Below w6.heap.size w6 W) => code_Prove (.slice b n capb) B k W (HWB6.out.kept hb) HXB.out (by rw [HB.out]; omega) (by rw [HB.out]; exact hkn))
      have HP4 := Lib.hid (fun W (hb : Below w6.heap.size w6 W) => code_Prove _ (A ++ B) (n + k) W (HALL.out.kept hb) HX6.out (by rw [HLEN.out]; have := HNN.out; omega) (by rw [HLEN.out]; have := HNN.out; omega))
      obtain ⟨⟨z1, hz1⟩, ⟨z2, hz2⟩⟩ := HPT.out k hkn
      have hpl := proof_len_alike A B k (by rw [HA.out, HB.out]) (by rw [HA.out]; exact hkn)
      have hpb := proofA_len (A.map leafF).length (A.map leafF) k (Nat.le_refl _)
      rw [List.length_map, HA.out] at hpb
      rw [hz1] at HP2
      rw [hz2] at HP4
      obtain ⟨P, hP⟩ : ∃ P, proofA (A.map leafF) k = P := ⟨_, rfl⟩
      obtain ⟨R, hR⟩ : ∃ P, proofA (B.map leafF) k = P := ⟨_, rfl⟩
      rw [hP] at HP1 HP2 hpl hpb
      rw [hR] at HP3 HP4 hpl
      obtain ⟨p, hp⟩ : ∃ p, P.length = p := ⟨_, rfl⟩
      rw [hp] at hpl hpb
      have HPL := Lib.hid hp
      have HRL := Lib.hid hpl.symm
      obtain ⟨q, hq⟩ : ∃ q, p + 1 = q := ⟨_, rfl⟩
      have HQL := Lib.hid (show (P ++ [z1]).length = q by rw [List.length_append, HPL.out]; exact hq)
      have HSL := Lib.hid (show (R ++ [z2]).length = q by rw [List.length_append, HRL.out]; exact hq)
      have HQP := Lib.hid hq
      obtain ⟨kk, hkk⟩ : ∃ x, n + k = x := ⟨_, rfl⟩
      rw [hkk] at HP4
      have hkki : (n : Int) + (k : Int) = (kk : Int) := by omega
      have hkk2 : kk ≤ 128 := by omega
      have hki : (k : Int) < (n : Int) := by omega
      have hpq : (p : Int) + 1 = (q : Int) := by omega
      have hqq : ((q : Int) != (q : Int)) = false := by simp
      have hpb2 : p ≤ 64 := by omega
      clear hz1 hz2 hP hR hp hpl hq hkk hpb
      go_wp2_with fail
      refine (HP1.out _ HBEL.out).mono ?_
      rintro e x1 ⟨pv, B1, rfl, hB1, hown1, hb1⟩
      obtain ⟨s1, c1, rfl⟩ := own_slice2 hown1
      have HC1 := Lib.hid (HBEL.out.trans (hb1.mono HBEL.out.size))
      have HO1 := Lib.hid hown1.hashes
      have HX1 := Lib.hid hown1.len
      rw [HPL.out] at HO1
      rw [HPL.out]
      clear hown1 hb1 hB1
      go_wp2_with fail
      refine (HP2.out _ HC1.out).mono ?_
      rintro e x2 ⟨qv, B2, rfl, hB2, hown2, hb2⟩
      obtain ⟨s2, c2, rfl⟩ := own_slice2 hown2
      have HC2 := Lib.hid (HC1.out.trans (hb2.mono HC1.out.size))
      have HO12 := Lib.hid (HO1.out.kept hb2)
      have HO2 := Lib.hid hown2.hashes
      rw [HQL.out] at HO2
      rw [HQL.out]
      clear hown2 hb2 hB2
      go_wp2_with fail
      refine (HP3.out _ HC2.out).mono ?_
      rintro e x3 ⟨rv, B3, rfl, hB3, hown3, hb3⟩
      obtain ⟨s3, c3, rfl⟩ := own_slice2 hown3
      have HC3 := Lib.hid (HC2.out.trans (hb3.mono HC2.out.size))
      have HO13 := Lib.hid (HO12.out.kept hb3)
      have HO23 := Lib.hid (HO2.out.kept hb3)
      have HO3 := Lib.hid hown3.hashes
      have HX3 := Lib.hid hown3.len
      rw [HRL.out] at HO3
      rw [HRL.out]
      clear hown3 hb3 hB3
      go_wp2_with fail
      refine (HP4.out _ HC3.out).mono ?_
      rintro e x4 ⟨sv, B4, rfl, hB4, hown4, hb4⟩
      obtain ⟨s4, c5, rfl⟩ := own_slice2 hown4
      have HC4 := Lib.hid (HC3.out.trans (hb4.mono HC3.out.size))
      have HO14 := Lib.hid (HO13.out.kept hb4)
      have HO24 := Lib.hid (HO23.out.kept hb4)
      have HO34 := Lib.hid (HO3.out.kept hb4)
      have HO44 := Lib.hid hown4.hashes
      rw [HSL.out] at HO44
      rw [HSL.out]
      clear hown4 hb4 hB4
      go_wp2_with fail
      go_loopw [106] (fun iv wr => ∃ j : Nat, iv = .int .i64 j ∧ j ≤ p ∧ Below x4.heap.size x4 wr) (fun iv _ => p - (intOf iv).toNat)
      case atStart => exact ⟨0, rfl, by omega, Below.refl _ _⟩
      case round =>
        obtain ⟨j, rfl, hj, hbel⟩ := hrel
        have HBJ := Lib.hid hbel
        clear hbel
        by_cases hjp : j < p
        · obtain ⟨x, hx⟩ : ∃ x, P[j]? = some x := ⟨P[j]'(by rw [HPL.out]; exact hjp), List.getElem?_eq_getElem _⟩
          obtain ⟨y, hy⟩ : ∃ y, R[j]? = some y := ⟨R[j]'(by rw [HRL.out]; exact hjp), List.getElem?_eq_getElem _⟩
          have hx2 : (P ++ [z1])[j]? = some x := by rw [List.getElem?_append_left (by rw [HPL.out]; exact hjp)]; exact hx
          have hy2 : (R ++ [z2])[j]? = some y := by rw [List.getElem?_append_left (by rw [HRL.out]; exact hjp)]; exact hy
          have hxl := HX1.out x (List.mem_of_getElem? hx)
          have hyl := HX3.out y (List.mem_of_getElem? hy)
          obtain ⟨g1, o1, rfl, r1⟩ := hashes_cell HO14.out j x hx
          obtain ⟨g2, o2, rfl, r2⟩ := hashes_cell HO24.out j x hx2
          obtain ⟨g3, o3, rfl, r3⟩ := hashes_cell HO34.out j y hy
          obtain ⟨g4, o4, rfl, r4⟩ := hashes_cell HO44.out j y hy2
          have HRG1 := Lib.hid (range_kept HBJ.out r1)
          have HRG2 := Lib.hid (range_kept HBJ.out r2)
          have HRG3 := Lib.hid (range_kept HBJ.out r3)
          have HRG4 := Lib.hid (range_kept HBJ.out r4)
          have HIx := Lib.hid (info_len x hxl)
          have HIy := Lib.hid (info_len y hyl)
          have HE1 := fun w => eqIn_hash x x hxl hxl w
          rw [show (x == x) = true by simp] at HE1
          have HE2 := fun w => eqIn_hash y y hyl hyl w
          rw [show (y == y) = true by simp] at HE2
          have hj0 : (0 : Int) ≤ (j : Int) := by omega
          have hjpi : (j : Int) < (p : Int) := by omega
          have hjqi : (j : Int) < (q : Int) := by omega
          clear hx hy hx2 hy2 hxl hyl r1 r2 r3 r4
          go_wp2_with fail
          refine wp_region_quiet_below (by kernel_rfl) (by kernel_rfl) ?_
          repeat (first
        | (refine wpQuiet_step (fun K hK => ?_); rw [if_pos (by rfl)]; refine quiet_load_mid 24 (.tmp 111) rfl g1 (o1 + j * 32) (by simp [Act.eval]) (valsB x) _ HRG1.out Try.underlying24 rfl HIx.out ?_; refine hK _ ?_; clear hK K)
        | (refine wpQuiet_step (fun K hK => ?_); rw [if_pos (by rfl)]; refine quiet_load_mid 24 (.tmp 115) rfl g2 (o2 + j * 32) (by simp [Act.eval]) (valsB x) _ HRG2.out Try.underlying24 rfl HIx.out ?_; refine hK _ ?_; clear hK K)
        | (refine wpQuiet_step (fun K hK => ?_); rw [if_pos (by rfl)]; refine quiet_load_mid 24 (.tmp 121) rfl g3 (o3 + j * 32) (by simp [Act.eval]) (valsB y) _ HRG3.out Try.underlying24 rfl HIy.out ?_; refine hK _ ?_; clear hK K)
        | (refine wpQuiet_step (fun K hK => ?_); rw [if_pos (by rfl)]; refine quiet_load_mid 24 (.tmp 125) rfl g4 (o4 + j * 32) (by simp [Act.eval]) (valsB y) _ HRG4.out Try.underlying24 rfl HIy.out ?_; refine hK _ ?_; clear hK K)
        | (quiet_step (fail)))
          refine wpQuiet_nil ?_
          intro _ hw'
          obtain ⟨⟨dq, osq⟩, hw''⟩ := hw'
          subst hw''
          have HBQ := Lib.hid (HBJ.out.trans ((below_regrown _ dq osq).mono HBJ.out.size))
          dsimp only
          generalize Sort.grow (redrawn _ dq) osq = w9 at HBQ ⊢
          go_wp2_with fail
          go_roundw
          case rel => exact ⟨j + 1, by go_num, by omega, HBQ.out⟩
          case measure => simp [intOf]; omega
        · obtain rfl : j = p := by omega
          go_wp2_with fail
          go_roundw
          case rel => exact ⟨k + 1, by go_num, by omega, HC4.out.trans (HBJ.out.mono HC4.out.size)⟩
          case measure => simp [intOf]; omega
    · obtain rfl : n = k := by omega
      go_wp2_with fail
      refine (works4 _).mono ?_
      rintro e w' ⟨rfl, hb9⟩
      have HB9 := Lib.hid (HB6.out.trans ((HBEL.out.mono HB6.out.size).trans (hb9.mono (Nat.le_trans HB6.out.size HBEL.out.size))))
      clear hb9
      go_wp2_with fail
      go_ret
      exact ⟨rfl, HB9.out⟩

theorem law_TreeTwos (v0 : Value) (a0 : List (List UInt8)) (v1 : Value) (a1 : List (List UInt8)) (w : World) (w0 : Hashes w v0 a0) (x0 : H32 a0) (y0 : a0.length ≤ maxLen) (w1 : Hashes w v1 a1) (x1 : H32 a1) (y1 : a1.length ≤ maxLen) : Calls Try.prog 11 #[v0, v1] w fun e w' => e = .returned (.bool true) ∧ Below w.heap.size w w' := by
  obtain ⟨a, cap, rfl⟩ := slice_ofN w0
  obtain ⟨b, capb, rfl⟩ := slice_ofN w1
  by_cases h : 64 < a0.length ∨ a0.length ≠ a1.length ∨ a0.length = 0 ∨ a0.length &&& (a0.length - 1) ≠ 0
  · exact twos_skip a b _ _ cap capb w y0 y1 h
  · obtain ⟨n, hn⟩ : ∃ n, a0.length = n := ⟨_, rfl⟩
    have h1 : ¬ 64 < a0.length := fun h2 => h (Or.inl h2)
    have h2 : a1.length = a0.length := Decidable.byContradiction fun h3 => h (Or.inr (Or.inl fun h4 => h3 h4.symm))
    have h3 : ¬ a0.length = 0 := fun h4 => h (Or.inr (Or.inr (Or.inl h4)))
    have h4 : a0.length &&& (a0.length - 1) = 0 := Decidable.byContradiction fun h5 => h (Or.inr (Or.inr (Or.inr h5)))
    rw [h2] at w1 ⊢
    exact twos_main a b a0.length cap capb a0 a1 w rfl h2 w0 x0 w1 x1 (by omega) (by omega) h4

end Go.Proofs.Ytckpgnncmmjnnaa.Tree
