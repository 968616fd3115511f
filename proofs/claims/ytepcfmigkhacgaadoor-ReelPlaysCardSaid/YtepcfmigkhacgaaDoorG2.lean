/- reel: plain mathematics: where the records' ends are; what opening finds, and leaves. -/
import Derived.Test.YtepcfmigkhacgaaDoorG1
import Derived.Test.YtepcfmigkhacgaaDoorDkL
import Derived.Test.YtepcfmigkhacgaaDoorRmA
import Derived.Laws.EntriesVeiled
import Derived.Test.YtepcfmigkhacgaaDoorRmB
import Derived.Test.YtepcfmigkhacgaaDoorG4
import Derived.WalkMore
import Derived.OwnWalk
import Derived.Deep.Cut
import Derived.BigQuiet
import Derived.Deep.QuietTactic
import Derived.StillTail
import Derived.StillTailTactics
namespace Go.Proofs.YtepcfmigkhacgaaDoor.Rl
open Go.Proofs.YtepcfmigkhacgaaDoor.Frame Go.Proofs.YtepcfmigkhacgaaDoor.Dk

/-- The place behind a record, in its file. -/
def endN (all : List Tx) (i : Nat) : Nat := (frs ((fileT all (i / 8)).take (i % 8 + 1))).length
def endsN (all : List Tx) : List Int := (List.range all.length).map fun i => (endN all i : Int)
theorem endsN_len (all : List Tx) : (endsN all).length = all.length := by simp [endsN]
theorem endN_snoc (all : List Tx) (s : Tx) {i : Nat} (hi : i < all.length) : endN (all ++ [s]) i = endN all i := by
  unfold endN
  rw [fileT_snoc]
  by_cases h : i / 8 = all.length / 8
  · rw [if_pos h, List.take_append_of_le_length (by rw [fileT_len]; omega)]
  · rw [if_neg h]
theorem endN_last (all : List Tx) (s : Tx) : endN (all ++ [s]) all.length = (frs (fileT (all ++ [s]) (all.length / 8))).length := by
  unfold endN
  rw [List.take_of_length_le (by rw [fileT_len, List.length_append, List.length_singleton]; omega)]
theorem endsN_snoc (all : List Tx) (s : Tx) : endsN (all ++ [s]) = endsN all ++ [((frs (fileT (all ++ [s]) (all.length / 8))).length : Int)] := by
  unfold endsN
  rw [List.length_append, List.length_singleton, List.range_succ, List.map_append, List.map_singleton, endN_last]
  congr 1
  apply List.map_congr_left
  intro i hi
  rw [endN_snoc all s (List.mem_range.1 hi)]
/-- In the file that is walked. -/
theorem endsN_file (pre X : List Tx) (t : Tx) {f : Nat} (hp : pre.length = 8 * f) (hX : X.length < 8) : endsN (pre ++ (X ++ [t])) = endsN (pre ++ X) ++ [(((frs X).length + (t.length + 9) : Nat) : Int)] := by
  rw [← List.append_assoc, endsN_snoc]
  have e : fileT (pre ++ X ++ [t]) ((pre ++ X).length / 8) = X ++ [t] := by
    rw [List.length_append, hp, show (8 * f + X.length) / 8 = f by omega]
    unfold fileT
    rw [List.append_assoc, List.drop_append_of_le_length (by omega), List.drop_of_length_le (by omega), List.nil_append, List.take_of_length_le (by rw [List.length_append, List.length_singleton]; omega)]
  rw [e, frs_app, frs_one, List.length_append, frameL_len]

/-- Files that have just these records. -/
structure Files (N : List ByteArray) (all : List Tx) : Prop where
  lenN : N.length = 64
  len : all.length ≤ 512
  small : ∀ t ∈ all, t.length ≤ 65536
  now : ∀ f, f < 64 → fileN N f = frs (fileT all f)
theorem append_now (S : St) (f : Nat) (s : ByteArray) : ((appendS S f s).1 = 0 → (appendS S f s).2.now = S.now.set f (S.now.getD f ⟨#[]⟩ ++ s)) ∧ ((appendS S f s).1 ≠ 0 → (appendS S f s).2.now = S.now) := by
  unfold appendS
  by_cases h1 : errF S.on (f : Int) ≠ 0
  · rw [if_pos h1]
    exact ⟨fun e => absurd e h1, fun _ => rfl⟩
  rw [if_neg h1]
  split
  · exact ⟨fun e => by simp at e, fun _ => rfl⟩
  by_cases h2 : (opS S).1 ≠ 0
  · rw [if_pos h2]
    exact ⟨fun e => absurd e h2, fun _ => opS_now S⟩
  rw [if_neg h2]
  refine ⟨fun _ => ?_, fun e => absurd rfl e⟩
  show ((opS S).2.now.set (f : Int).toNat ((opS S).2.now.getD (f : Int).toNat ⟨#[]⟩ ++ s)) = _
  rw [opS_now, Int.toNat_natCast]
theorem Files.snoc {N : List ByteArray} {all : List Tx} (h : Files N all) (s : Tx) (hs : s.length ≤ 65536) (hl : all.length < 512) : Files (N.set (all.length / 8) (N.getD (all.length / 8) ⟨#[]⟩ ++ bt (frameL s))) (all ++ [s]) := by
  refine ⟨by rw [List.length_set]; exact h.lenN, by rw [List.length_append, List.length_singleton]; omega, fun t ht => ?_, fun f hf => ?_⟩
  · rcases List.mem_append.1 ht with h1 | h1
    · exact h.small t h1
    · rw [List.mem_singleton.1 h1]; exact hs
  · rw [fileT_snoc]
    by_cases e : f = all.length / 8
    · subst e
      rw [if_pos rfl, fileN_set_self (by rw [h.lenN]; exact hf), ByteArray.data_append, Array.toList_append, frs_app, frs_one, ← h.now _ hf]
      rfl
    · rw [if_neg e, fileN_set_other (Ne.symm e)]
      exact h.now f hf
theorem Files.size {N : List ByteArray} {all : List Tx} (h : Files N all) {f : Nat} (hf : f < 64) : (N.getD f ⟨#[]⟩).size = (frs (fileT all f)).length := by rw [fileN_size, h.now f hf]

theorem cut_now (S : St) (f : Nat) (m : Nat) (h : (cutterS S f (m : Int)).1 = 0) : (cutterS S f (m : Int)).2.now = S.now.set f ((S.now.getD f ⟨#[]⟩).extract 0 m) ∧ (cutterS S f (m : Int)).2.on = S.on := by
  unfold cutterS at h ⊢
  by_cases h1 : errF S.on (f : Int) ≠ 0
  · rw [if_pos h1] at h
    exact absurd h h1
  rw [if_neg h1] at h ⊢
  by_cases h2 : (m : Int) < 0 ∨ ((S.now.getD (f : Int).toNat ⟨#[]⟩).size : Int) < (m : Int)
  · rw [if_pos h2] at h
    simp at h
  rw [if_neg h2] at h ⊢
  by_cases h3 : (opS S).1 ≠ 0
  · rw [if_pos h3] at h
    exact absurd h h3
  rw [if_neg h3]
  refine ⟨?_, opS_on (Decidable.of_not_not h3)⟩
  show ((opS S).2.now.set (f : Int).toNat (((opS S).2.now.getD (f : Int).toNat ⟨#[]⟩).extract 0 (m : Int).toNat)) = _
  rw [opS_now, Int.toNat_natCast, Int.toNat_natCast]
theorem sync_now (S : St) (f : Int) : (syncerS S f).2.now = S.now := by
  unfold syncerS
  split
  · rfl
  split
  · exact opS_now S
  · show (opS S).2.now = _
    exact opS_now S
theorem syncAll_now : ∀ (L : List Nat) (S : St), (syncAll L S).2.now = S.now
  | [], _ => rfl
  | f :: L, S => by
    rw [syncAll]
    split
    · exact sync_now S f
    · rw [syncAll_now L, sync_now]
theorem cutAll_now {last size : Nat} : ∀ (L : List Nat) (S : St), L.Nodup → (∀ f ∈ L, f < 64) → S.now.length = 64 → (cutAll last size L S).1 = 0 →
    (cutAll last size L S).2.now.length = 64 ∧ ∀ f, f < 64 → fileN (cutAll last size L S).2.now f = if L.contains f then (fileN S.now f).take (left last size f) else fileN S.now f
  | [], S, _, _, h64, _ => ⟨h64, fun f _ => by simp [cutAll]⟩
  | g :: L, S, hnd, hm, h64, h0 => by
    rw [cutAll] at h0 ⊢
    by_cases h1 : (cutterS S g (left last size g : Nat)).1 ≠ 0
    · rw [if_pos h1] at h0
      exact absurd h0 h1
    rw [if_neg h1] at h0 ⊢
    have hg := hm g (by simp)
    obtain ⟨k1, _⟩ := cut_now S g (left last size g) (Decidable.of_not_not h1)
    obtain ⟨k3, k4⟩ := cutAll_now L _ (List.nodup_cons.1 hnd).2 (fun f hf => hm f (by simp [hf])) (by rw [k1, List.length_set]; exact h64) h0
    refine ⟨k3, fun f hf => ?_⟩
    rw [k4 f hf, k1]
    by_cases e : f = g
    · subst e
      have hn : L.contains f = false := by
        rw [← Bool.not_eq_true, List.contains_iff_mem]
        exact (List.nodup_cons.1 hnd).1
      rw [hn, fileN_set_self (by omega), ByteArray.data_extract, Array.toList_extract, List.extract_eq_take_drop]
      simp [fileN]
    · rw [fileN_set_other (Ne.symm e)]
      have : (g :: L).contains f = L.contains f := by
        rw [List.contains_cons]
        have : (f == g) = false := by simpa using e
        rw [this, Bool.false_or]
      rw [this]
theorem Shape.files {N M : List ByteArray} {all : List Tx} {last c : Nat} (hs : Shape N all last c) (hl : all.length ≤ 512) (h64 : M.length = 64)
    (h : ∀ f, f < 64 → fileN M f = if (needL N last (frs ((fileT all last).take c)).length).contains f then (fileN N f).take (left last (frs ((fileT all last).take c)).length f) else fileN N f) : Files M (all.take (8 * last + c)) := by
  obtain ⟨rest, r1, r2, r3⟩ := hs.here
  have hc8 : c ≤ 8 := by
    have h1 := hs.c8
    rw [fileT_len] at h1
    omega
  have hft : ∀ f, fileT (all.take (8 * last + c)) f = if f < last then fileT all f else if f = last then (fileT all last).take c else [] := by
    intro f
    rw [fileT_take]
    by_cases h1 : f < last
    · rw [if_pos h1, List.take_of_length_le (by rw [fileT_len]; omega)]
    · rw [if_neg h1]
      by_cases h2 : f = last
      · subst h2
        rw [if_pos rfl, show 8 * f + c - 8 * f = c by omega]
      · rw [if_neg h2, show 8 * last + c - 8 * f = 0 by omega, List.take_zero]
  refine ⟨h64, by rw [List.length_take]; omega, fun t ht => hs.small t (List.mem_of_mem_take ht), fun f hf => ?_⟩
  rw [h f hf, hft f]
  by_cases h1 : f < last
  · have : (needL N last (frs ((fileT all last).take c)).length).contains f = false := by
      rw [← Bool.not_eq_true, List.contains_iff_mem, needL_mem]
      omega
    rw [this, if_pos h1]
    simp only [Bool.false_eq_true, if_false]
    exact (hs.ahead f h1).1
  · rw [if_neg h1]
    have e2 : (fileN N f).take (left last (frs ((fileT all last).take c)).length f) = frs (if f = last then (fileT all last).take c else []) := by
      unfold left
      by_cases h2 : f = last
      · subst h2
        rw [if_pos rfl, if_pos rfl, r1, take_pre]
      · rw [if_neg h2, if_neg h2, List.take_zero]
        rfl
    cases hb : (needL N last (frs ((fileT all last).take c)).length).contains f with
    | true => exact e2
    | false =>
      have hn : ¬ f ∈ needL N last (frs ((fileT all last).take c)).length := by
        rw [← List.contains_iff_mem, hb]
        simp
      rw [needL_mem] at hn
      rw [← e2, List.take_of_length_le (by omega)]
      rfl
theorem recs_shape (N : List ByteArray) : ∃ c, Shape N (recs N).1 (recs N).2.1 c ∧ (recs N).1.length ≤ 512 ∧ (recs N).2.1 < 64 ∧ (recs N).1.length = 8 * (recs N).2.1 + c ∧ (recs N).2.2 = (frs ((fileT (recs N).1 (recs N).2.1).take c)).length := by
  obtain ⟨last, c, hs, h1, h2⟩ := rec_shape N 64 0 [] rfl (by omega) rfl (by simp) (fun g hg => by omega)
  rw [List.nil_append] at hs h1
  have h5 := hs.recs
  have hr : (recN N 64 0).1 = (recs N).1 := rfl
  rw [hr] at hs h1 h5
  have e1 : (recs N).2.1 = last := by rw [h5]
  have e2 : (recs N).2.2 = (frs ((fileT (recs N).1 last).take c)).length := congrArg (fun x => x.2.2) h5
  have h3 := hs.c8
  rw [fileT_len] at h3
  rw [e1]
  exact ⟨c, hs, by omega, h2, h1, e2⟩
/-- What was opened has just these records. -/
theorem open_files {S T : St} {R : List Tx} (h64 : S.now.length = 64) (h : openS S = (0, T, R)) : Files T.now R := by
  obtain ⟨c, hs, hl, hlt, hlen, hsz⟩ := recs_shape S.now
  unfold openS at h
  by_cases hon : S.on = true
  · rw [if_pos hon] at h
    by_cases h1 : (openN S (recs S.now).2.1 (recs S.now).2.2 (needL S.now (recs S.now).2.1 (recs S.now).2.2)).1 = 0
    · rw [if_pos h1] at h
      simp only [Prod.mk.injEq, true_and] at h
      obtain ⟨rfl, rfl⟩ := h
      unfold openN at h1 ⊢
      by_cases h3 : (cutAll (recs S.now).2.1 (recs S.now).2.2 (needL S.now (recs S.now).2.1 (recs S.now).2.2) S).1 ≠ 0
      · rw [if_pos h3] at h1
        exact absurd h1 h3
      rw [if_neg h3]
      have hm : ∀ f ∈ needL S.now (recs S.now).2.1 (recs S.now).2.2, f < 64 := fun f hf => (needL_mem.1 hf).1
      obtain ⟨k1, k2⟩ := cutAll_now (last := (recs S.now).2.1) (size := (recs S.now).2.2) _ S (needL_nodup _ _ _) hm h64 (Decidable.of_not_not h3)
      rw [syncAll_now]
      have h8 := hs.files (M := (cutAll (recs S.now).2.1 (recs S.now).2.2 (needL S.now (recs S.now).2.1 (recs S.now).2.2) S).2.now) hl k1 (by rw [← hsz]; exact k2)
      rwa [List.take_of_length_le (by omega)] at h8
    · rw [if_neg h1] at h
      simp only [Prod.mk.injEq] at h
      exact absurd h.1 h1
  · rw [if_neg hon] at h
    simp at h

/-- The files from one on that Open has to cut. -/
def needE (N : List ByteArray) (last size f : Nat) : List Nat := (List.range' f (64 - f)).filter fun g => decide (last ≤ g ∧ left last size g < (fileN N g).length)
theorem needE_end (N : List ByteArray) (last size : Nat) : needE N last size 64 = [] := rfl
theorem needE_yes {N : List ByteArray} {last size f : Nat} (hf : f < 64) (hl : last ≤ f) (h : left last size f < (fileN N f).length) : needE N last size f = f :: needE N last size (f + 1) := by
  unfold needE
  rw [show 64 - f = (64 - (f + 1)) + 1 by omega, List.range'_succ, List.filter_cons, if_pos (by simp [hl, h])]
theorem needE_no {N : List ByteArray} {last size f : Nat} (hf : f < 64) (h : ¬ (last ≤ f ∧ left last size f < (fileN N f).length)) : needE N last size f = needE N last size (f + 1) := by
  unfold needE
  rw [show 64 - f = (64 - (f + 1)) + 1 by omega, List.range'_succ, List.filter_cons, if_neg (by simpa using h)]
theorem needE_all (N : List ByteArray) (last size : Nat) : needL N last size = needE N last size 0 := by
  unfold needL needE
  rw [List.range_eq_range']
/-- How many bytes of each file stay, as the code has it. -/
def stayN (N : List ByteArray) (last size f : Nat) : Nat := if f < last then (fileN N f).length else left last size f
theorem stay_need {N : List ByteArray} {last size f : Nat} : stayN N last size f < (fileN N f).length ↔ last ≤ f ∧ left last size f < (fileN N f).length := by
  unfold stayN
  by_cases h : f < last
  · rw [if_pos h]
    omega
  · rw [if_neg h]
    omega
def staysN (N : List ByteArray) (last size : Nat) : List Int := (List.range 64).map fun f => (stayN N last size f : Int)
theorem staysN_len (N : List ByteArray) (last size : Nat) : (staysN N last size).length = 64 := by simp [staysN]
theorem staysN_get {N : List ByteArray} {last size f : Nat} (hf : f < 64) : (staysN N last size)[f]? = some (stayN N last size f : Int) := by
  unfold staysN
  rw [List.getElem?_map, List.getElem?_range hf]
  rfl
theorem staysN_start (N : List ByteArray) : staysN N 0 0 = List.replicate 64 0 := by
  apply List.ext_getElem?
  intro i
  by_cases hi : i < 64
  · rw [staysN_get hi, List.getElem?_replicate, if_pos hi]
    unfold stayN left
    simp
  · rw [List.getElem?_eq_none (by rw [staysN_len]; omega), List.getElem?_eq_none (by simp; omega)]
theorem staysN_set (N : List ByteArray) {f size : Nat} (hf : f < 64) : (staysN N f 0).set f (size : Int) = staysN N f size := by
  apply List.ext_getElem?
  intro i
  rw [List.getElem?_set]
  by_cases hi : i < 64
  · by_cases e : f = i
    · subst e
      rw [if_pos rfl, if_pos (by rw [staysN_len]; exact hf), staysN_get hi]
      unfold stayN left
      simp
    · rw [if_neg e, staysN_get hi, staysN_get hi]
      unfold stayN left
      have e2 : ¬ i = f := fun h => e h.symm
      simp [e2]
  · rw [List.getElem?_eq_none (show (staysN N f 0).length ≤ i by rw [staysN_len]; omega), List.getElem?_eq_none (show (staysN N f size).length ≤ i by rw [staysN_len]; omega)]
    by_cases e : f = i
    · rw [if_pos e, if_neg (by rw [staysN_len]; omega)]
    · rw [if_neg e]
theorem staysN_next (N : List ByteArray) {f : Nat} (hf : f < 64) : staysN N f (fileN N f).length = staysN N (f + 1) 0 := by
  apply List.ext_getElem?
  intro i
  by_cases hi : i < 64
  · rw [staysN_get hi, staysN_get hi]
    unfold stayN left
    by_cases h1 : i < f
    · rw [if_pos h1, if_pos (by omega)]
    · rw [if_neg h1]
      by_cases h2 : i = f
      · subst h2
        rw [if_pos rfl, if_pos (by omega)]
      · rw [if_neg h2, if_neg (by omega)]
        simp
  · rw [List.getElem?_eq_none (by rw [staysN_len]; omega), List.getElem?_eq_none (by rw [staysN_len]; omega)]

/-- The files that Sync has to sync, from one on. -/
def dueE (n rs m f : Nat) : List Nat := (List.range' f (m - f)).filter fun g => decide (rs < min (8 * g + 8) n)
theorem dueE_end (n rs m : Nat) : dueE n rs m m = [] := by simp [dueE]
theorem dueE_yes {n rs m f : Nat} (hf : f < m) (h : rs < min (8 * f + 8) n) : dueE n rs m f = f :: dueE n rs m (f + 1) := by
  unfold dueE
  rw [show m - f = (m - (f + 1)) + 1 by omega, List.range'_succ, List.filter_cons, if_pos (decide_eq_true h)]
theorem dueE_no {n rs m f : Nat} (hf : f < m) (h : ¬ rs < min (8 * f + 8) n) : dueE n rs m f = dueE n rs m (f + 1) := by
  unfold dueE
  rw [show m - f = (m - (f + 1)) + 1 by omega, List.range'_succ, List.filter_cons, if_neg (by rw [decide_eq_true_eq]; exact h)]
/-- Its steps, one after the other. -/
def runS (n : Nat) : List Nat → St → Nat → Int × St × Nat
  | [], S, rs => (0, S, rs)
  | f :: L, S, rs => if (syncerS S f).1 = 0 then runS n L (syncerS S f).2 (min (8 * f + 8) n) else ((syncerS S f).1, (syncerS S f).2, rs)
theorem syncR_none (n : Nat) : ∀ (k f : Nat) (S : St) (rs : Nat), n ≤ rs → syncR n k f S rs = (0, S, rs)
  | 0, _, _, _, _ => rfl
  | k + 1, f, S, rs, h => by
    rw [syncR, if_neg (by omega)]
    exact syncR_none n k (f + 1) S rs h
theorem runS_due (n rs0 : Nat) (hn : n ≤ 512) (h0 : rs0 < n) : ∀ (k f : Nat) (S : St) (rs : Nat), f + k = 64 → f ≤ (n + 7) / 8 → ((rs = rs0) ∨ (rs0 < rs ∧ rs = min (8 * f) n)) → (rs = rs0 → f < (n + 7) / 8) → runS n (dueE n rs0 ((n + 7) / 8) f) S rs = syncR n k f S rs
  | 0, f, S, rs, hf, hm, hr, _ => by
    have : f = (n + 7) / 8 := by omega
    rw [this, dueE_end]
    rfl
  | k + 1, f, S, rs, hf, hm, hr, hlt => by
    by_cases e : f = (n + 7) / 8
    · have h1 : n ≤ rs := by
        rcases hr with h | h
        · have := hlt h; omega
        · omega
      rw [syncR_none n (k + 1) f S rs h1, e, dueE_end]
      rfl
    · have hf2 : f < (n + 7) / 8 := by omega
      rw [syncR]
      by_cases h1 : rs0 < min (8 * f + 8) n
      · have hlt2 : rs < min (8 * f + 8) n := by omega
        rw [dueE_yes hf2 h1, runS, if_pos hlt2]
        by_cases h2 : (syncerS S f).1 = 0
        · rw [if_pos h2, if_pos h2]
          exact runS_due n rs0 hn h0 k (f + 1) _ _ (by omega) (by omega) (Or.inr ⟨h1, by omega⟩) (fun e2 => by omega)
        · rw [if_neg h2, if_neg h2]
      · rw [dueE_no hf2 h1, if_neg (by omega)]
        exact runS_due n rs0 hn h0 k (f + 1) S rs (by omega) (by omega) (by omega) (fun _ => by omega)
theorem dueE_none (n rs m : Nat) (h : n ≤ rs) : ∀ f, dueE n rs m f = [] := fun f => by
  unfold dueE
  rw [List.filter_eq_nil_iff]
  intro g _
  rw [decide_eq_true_eq]
  omega
theorem sync_due (n rs : Nat) (hn : n ≤ 512) (S : St) : runS n (dueE n rs ((n + 7) / 8) 0) S rs = syncR n 64 0 S rs := by
  by_cases h : rs < n
  · exact runS_due n rs hn h 64 0 S rs (by omega) (by omega) (Or.inl rfl) (fun _ => by omega)
  · rw [dueE_none n rs _ (by omega), syncR_none n 64 0 S rs (by omega)]
    rfl

/-- Where a record lies. -/
theorem file_record {all : List Tx} {i : Nat} (hi : i < all.length) : frs (fileT all (i / 8)) = frs ((fileT all (i / 8)).take (i % 8)) ++ frameL (all.getD i []) ++ frs ((fileT all (i / 8)).drop (i % 8 + 1)) ∧ endN all i = (frs ((fileT all (i / 8)).take (i % 8))).length + (frameL (all.getD i [])).length := by
  have hl : i % 8 < (fileT all (i / 8)).length := by rw [fileT_len]; omega
  have hg : (fileT all (i / 8))[i % 8]'hl = all.getD i [] := by
    have e : (fileT all (i / 8))[i % 8]? = all[i]? := by
      unfold fileT
      rw [List.getElem?_take, if_pos (by omega), List.getElem?_drop, show 8 * (i / 8) + i % 8 = i by omega]
    rw [List.getElem?_eq_getElem hl] at e
    rw [List.getD_eq_getElem?_getD, ← e]
    rfl
  have e1 : (fileT all (i / 8)).take (i % 8 + 1) = (fileT all (i / 8)).take (i % 8) ++ [all.getD i []] := by rw [List.take_succ_eq_append_getElem hl, hg]
  refine ⟨?_, ?_⟩
  · conv => lhs; rw [← List.take_append_drop (i % 8 + 1) (fileT all (i / 8)), frs_app, e1, frs_app, frs_one]
  · unfold endN
    rw [e1, frs_app, frs_one, List.length_append]
/-- Where a record begins. -/
def begN (all : List Tx) (i : Nat) : Nat := (frs ((fileT all (i / 8)).take (i % 8))).length
theorem begN_zero {all : List Tx} {i : Nat} (h : i % 8 = 0) : begN all i = 0 := by unfold begN; rw [h, List.take_zero]; rfl
theorem begN_prev {all : List Tx} {i : Nat} (h : 0 < i % 8) : begN all i = endN all (i - 1) := by
  unfold begN endN
  rw [show (i - 1) / 8 = i / 8 by omega, show (i - 1) % 8 + 1 = i % 8 by omega]
theorem read_record {S : St} {all : List Tx} (h : Files S.now all) {i : Nat} (hi : i < all.length) : readV S ((i / 8 : Nat) : Int) (begN all i : Nat) ((endN all i : Int) - (begN all i : Nat)) = if S.on = true then (bt (frameL (all.getD i [])), 0) else (⟨#[]⟩, 100) := by
  have hf : i / 8 < 64 := by have := h.len; omega
  obtain ⟨h1, h2⟩ := file_record hi
  have h3 : endN all i = begN all i + (frameL (all.getD i [])).length := h2
  have hsz := h.size hf
  rw [h1, List.length_append, List.length_append] at hsz
  have hb : (frs ((fileT all (i / 8)).take (i % 8))).length = begN all i := rfl
  unfold readV errF
  cases hon : S.on with
  | false => rfl
  | true =>
    rw [if_pos rfl, if_neg (show ¬ (((i / 8 : Nat) : Int) < 0 ∨ 64 ≤ ((i / 8 : Nat) : Int)) by omega), if_neg (by decide), Int.toNat_natCast, if_neg (by omega), if_pos rfl]
    congr 1
    apply ByteArray.ext
    apply Array.ext'
    rw [ByteArray.data_extract, Array.toList_extract, List.extract_eq_take_drop, show ((begN all i : Nat) : Int).toNat = begN all i from Int.toNat_natCast _, show ((endN all i : Int) - (begN all i : Nat)).toNat = (frameL (all.getD i [])).length by omega, Nat.add_sub_cancel_left]
    have e := h.now _ hf
    unfold fileN at e
    rw [e, h1, List.append_assoc, ← hb, List.drop_left', List.take_left']
    · rfl
    · rfl
theorem rec_power (S : St) (n : Int) : (powerS S n).2.now = S.now := by
  unfold powerS
  split
  · split <;> rfl
  · rfl

/-- What is found in one file. -/
structure Found (l : List UInt8) (k : Nat) (X : List Tx) : Prop where
  len : X.length = k
  le : k ≤ 8
  size : (frs X).length ≤ l.length
  scan : scanL 8 l = (X ++ (scanL (8 - k) (l.drop (frs X).length)).1, (frs X).length + (scanL (8 - k) (l.drop (frs X).length)).2)
theorem Found.start (l : List UInt8) : Found l 0 [] := ⟨rfl, by omega, Nat.zero_le _, by simp [frs]⟩
theorem Found.next {l : List UInt8} {k : Nat} {X : List Tx} (h : Found l k X) (hk : k < 8) (h0 : (takeL (l.drop (frs X).length)).2.2 = 0) : Found l (k + 1) (X ++ [(takeL (l.drop (frs X).length)).1]) ∧ (takeL (l.drop (frs X).length)).2.1 = (takeL (l.drop (frs X).length)).1.length + 9 := by
  obtain ⟨h1, h2⟩ := takeL_size (l.drop (frs X).length)
  have h3 := (h2 h0).2
  rw [List.length_drop] at h1
  have hs := h.size
  have e : (frs (X ++ [(takeL (l.drop (frs X).length)).1])).length = (frs X).length + (takeL (l.drop (frs X).length)).2.1 := by rw [frs_app, frs_one, List.length_append, frameL_len, h3]
  refine ⟨⟨by rw [List.length_append, List.length_singleton, h.len], by omega, by omega, ?_⟩, h3.symm⟩
  rw [h.scan, e, ← List.drop_drop, show 8 - k = (8 - (k + 1)) + 1 by omega, scanL, if_pos h0, List.append_assoc, Nat.add_assoc]
  rfl
theorem Found.bad {l : List UInt8} {k : Nat} {X : List Tx} (h : Found l k X) (h0 : (takeL (l.drop (frs X).length)).2.2 ≠ 0) : scanL 8 l = (X, (frs X).length) := by
  rw [h.scan, scanL_none _ h0, List.append_nil]
  rfl
theorem Found.full {l : List UInt8} {X : List Tx} (h : Found l 8 X) : scanL 8 l = (X, (frs X).length) := by
  rw [h.scan, Nat.sub_self]
  show (X ++ [], (frs X).length + 0) = _
  rw [List.append_nil]
  rfl
/-- What is found ahead of a file. -/
structure Ahead (N : List ByteArray) (f : Nat) (pre : List Tx) : Prop where
  len : pre.length = 8 * f
  le : f ≤ 64
  told : f < 64 → Rl.recs N = (pre ++ (recN N (64 - f) f).1, (recN N (64 - f) f).2)
  whole : f = 64 → Rl.recs N = (pre, 63, (fileN N 63).length)
theorem Ahead.start (N : List ByteArray) : Ahead N 0 [] := ⟨rfl, by omega, fun _ => by simp [Rl.recs], fun h => by omega⟩
theorem Ahead.last {N : List ByteArray} {f : Nat} {pre : List Tx} (h : Ahead N f pre) (hf : f < 64) (hb : (pre ++ (scanL 8 (fileN N f)).1).length < (f + 1) * 8 ∨ (scanL 8 (fileN N f)).2 < (fileN N f).length) : recs N = (pre ++ (scanL 8 (fileN N f)).1, f, (scanL 8 (fileN N f)).2) := by
  have hl := h.len
  rw [List.length_append] at hb
  rw [h.told hf, show 64 - f = (64 - (f + 1)) + 1 by omega, recN, if_pos (by omega)]
theorem Ahead.next {N : List ByteArray} {f : Nat} {pre : List Tx} (h : Ahead N f pre) (hf : f < 64) (hb : ¬ ((pre ++ (scanL 8 (fileN N f)).1).length < (f + 1) * 8 ∨ (scanL 8 (fileN N f)).2 < (fileN N f).length)) : Ahead N (f + 1) (pre ++ (scanL 8 (fileN N f)).1) ∧ (scanL 8 (fileN N f)).2 = (fileN N f).length := by
  have hl := h.len
  have h2 := scanL_size 8 (fileN N f)
  obtain ⟨_, _, _, h4, _⟩ := scan_took 8 (fileN N f)
  rw [List.length_append] at hb
  refine ⟨⟨by rw [List.length_append]; omega, by omega, fun hlt => ?_, fun e => ?_⟩, by omega⟩
  · rw [h.told hf, show 64 - f = (64 - (f + 1)) + 1 by omega, recN, if_neg (by omega), List.append_assoc]
  · have e63 : f = 63 := by omega
    subst e63
    rw [h.told hf, show 64 - 63 = (64 - 64) + 1 by omega, recN, if_pos (by omega)]
    simp only [Prod.mk.injEq, true_and]
    omega
end Go.Proofs.YtepcfmigkhacgaaDoor.Rl

namespace Go.Proofs.YtepcfmigkhacgaaDoor.Rl
open Go.RowKit Go.Proofs.YtepcfmigkhacgaaDoor.Gr Go.Proofs.YtepcfmigkhacgaaDoor.Frame Go.Proofs.YtepcfmigkhacgaaDoor.Dk

/-- A step: a closure, and what it has caught. -/
structure Clo where
  fn : Nat
  caps : List Addr
def Clo.val (c : Clo) : Value := .func (.func c.fn) #[] (c.caps.map fun a => Value.pointer (some a)).toArray
/-- Steps among others. -/
def KF : Kind Tryd.prog Clo where
  T := 33
  size := 1
  bytes := 8
  zero := .nilFunc
  enc c := [c.val]
  info := by kernel_rfl
  zsize := rfl
  pos := by decide
  len _ := rfl
  one x u hu := by simp at hu; subst hu; rfl

/-- A reel in block q. -/
structure QAt (w : World) (q g : Nat) (ev : Value) (all : List Tx) (rs : Nat) : Prop where
  heap : w.heap[q]? = some (.cells #[.pointer (some ⟨g, 0, none⟩), ev, .int .i64 rs] 69 (0, 0))
  row : KI.Own 0 ev (endsN all) w
section
variable {w w' : World} {q g : Nat} {ev : Value} {all : List Tx} {rs : Nat}
theorem QAt.cDisk (h : QAt w q g ev all rs) : w.cell? ⟨q, 0, none⟩ = some (.pointer (some ⟨g, 0, none⟩)) := by rw [Lib.cell_of_heap h.heap]; rfl
theorem QAt.cRow (h : QAt w q g ev all rs) : w.cell? ⟨q, 1, none⟩ = some ev := by rw [Lib.cell_of_heap h.heap]; rfl
theorem QAt.cSure (h : QAt w q g ev all rs) : w.cell? ⟨q, 2, none⟩ = some (.int .i64 rs) := by rw [Lib.cell_of_heap h.heap]; rfl
theorem QAt.fz (h : QAt w q g ev all rs) (i : Nat) : w.frozen? ⟨q, i, none⟩ = false := by simp [World.frozen?, h.heap]
theorem QAt.lt (h : QAt w q g ev all rs) : q < w.heap.size := (Array.getElem?_eq_some_iff.1 h.heap).1
theorem QAt.rowLt (h : QAt w q g ev all rs) : ∀ k, ev.ownBlock = some k → k < w.heap.size := fun k hk => by
  obtain ⟨c, hc⟩ := own_type h.row k hk
  exact (Array.getElem?_eq_some_iff.1 hc).1
theorem QAt.ne (h : QAt w q g ev all rs) : ev.ownBlock ≠ some q := fun e => by
  obtain ⟨c, hc⟩ := own_type h.row q e
  rw [h.heap] at hc
  simp at hc
  exact absurd hc.2 (by decide)
/-- The blocks of a reel, but for its disk's. -/
def qfoot (q : Nat) (ev : Value) (k : Nat) : Prop := k = q ∨ ev.ownBlock = some k
theorem own_frm1 {α : Type} {K : Kind Tryd.prog α} {C : Nat} {v : Value} {L : List α} {F : Nat → Prop} (h : K.Own C v L w) (hf : Frm F w w') (hF : ∀ k, v.ownBlock = some k → ¬ F k) : K.Own C v L w' := by
  rcases h.2 with ⟨rfl, e⟩ | ⟨b, cp, cur, rfl, hb, hc, r⟩
  · exact ⟨h.1, Or.inl ⟨rfl, e⟩⟩
  · exact ⟨h.1, Or.inr ⟨b, cp, cur, rfl, hb, (hf.block b (Array.getElem?_eq_some_iff.1 hc).1 (hF b rfl)).trans hc, r⟩⟩
theorem QAt.kept {F : Nat → Prop} (h : QAt w q g ev all rs) (hf : Frm F w w') (hF : ∀ k, qfoot q ev k → ¬ F k) : QAt w' q g ev all rs :=
  ⟨(hf.block q h.lt (hF q (Or.inl rfl))).trans h.heap, own_frm1 h.row hf fun k hk => hF k (Or.inr hk)⟩
theorem QAt.below (h : QAt w q g ev all rs) (hb : Below w.heap.size w w') : QAt w' q g ev all rs := h.kept (F := fun _ => False) (Frm.of_below hb) (fun _ _ => id)
theorem QAt.form (h : QAt w q g ev all rs) : ∃ a c, ev = .slice a all.length c ∧ all.length ≤ c := by
  obtain ⟨a, c, e, hc⟩ := h.row.reads.form
  rw [endsN_len] at e hc
  exact ⟨a, c, e, hc⟩
/-- A reel's blocks are none of a disk's. -/
theorem apart {lv : Value} {S : St} (h : QAt w q g ev all rs) (hd : DAt w g lv S) : ∀ k, qfoot q ev k → ¬ foot g lv k := by
  intro k hk hf
  have h1 : ∃ cs t, w.heap[k]? = some (.cells cs t (0, 0)) ∧ (t = 69 ∨ t = 3) := by
    rcases hk with rfl | hk
    · exact ⟨_, _, h.heap, Or.inl rfl⟩
    · obtain ⟨c, hc⟩ := own_type h.row k hk
      exact ⟨c, _, hc, Or.inr rfl⟩
  have h2 : ∃ cs t, w.heap[k]? = some (.cells cs t (0, 0)) ∧ (t = 67 ∨ t = 84) := by
    rcases hf with rfl | hf
    · exact ⟨_, _, hd.heap, Or.inl rfl⟩
    · obtain ⟨c, hc⟩ := own_type hd.own k hf
      exact ⟨c, _, hc, Or.inr rfl⟩
  obtain ⟨c1, t1, e1, k1⟩ := h1
  obtain ⟨c2, t2, e2, k2⟩ := h2
  rw [e1] at e2
  simp only [Option.some.injEq, Obj.cells.injEq] at e2
  rcases k1 with k1 | k1 <;> rcases k2 with k2 | k2 <;> exact absurd (k1.symm.trans (e2.2.1.trans k2)) (by decide)
/-- Its field of the sure ones is set. -/
theorem QAt.setSure (h : QAt w q g ev all rs) (n : Nat) : QAt (w.setCell ⟨q, 2, none⟩ (.int .i64 n)) q g ev all n := by
  refine ⟨?_, ?_⟩
  · rw [setCell_eq_setRow w q 2 _ _ _ _ h.heap, setRow_heap _ _ _ _ _ _ h.heap]
    rfl
  · refine own_frm1 h.row (F := fun k => k = q) ?_ (fun k hk e => h.ne (e ▸ hk))
    rw [setCell_eq_setRow w q 2 _ _ _ _ h.heap]
    exact (Frm.refl (fun k => k = q) w).setRow (Or.inl rfl) _
theorem QAt.setFrm (h : QAt w q g ev all rs) (i : Nat) (v : Value) : Frm (fun k => k = q) w (w.setCell ⟨q, i, none⟩ v) := by
  rw [setCell_eq_setRow w q i _ _ _ _ h.heap]
  exact (Frm.refl (fun k => k = q) w).setRow (Or.inl rfl) _
/-- Its row is set. -/
theorem QAt.setRow1 {ev1 : Value} {all1 : List Tx} (h : QAt w q g ev all rs) (hrow : KI.Own 0 ev1 (endsN all1) w) (hne : ev1.ownBlock ≠ some q) : QAt (w.setCell ⟨q, 1, none⟩ ev1) q g ev1 all1 rs := by
  refine ⟨?_, own_frm1 hrow (h.setFrm 1 ev1) (fun k hk e => hne (e ▸ hk))⟩
  rw [setCell_eq_setRow w q 1 _ _ _ _ h.heap, setRow_heap _ _ _ _ _ _ h.heap]
  rfl

theorem code_Len (h : QAt w q g ev all rs) : Calls Tryd.prog 12 #[.pointer (some ⟨q, 0, none⟩)] w fun e w' => e = .returned (.int .i64 (all.length : Nat)) ∧ w' = w := by
  obtain ⟨a, c, rfl, _⟩ := h.form
  have hc := h.cRow
  clear h
  go_enter Tryd.func12, Tryd.ntmps12
  go_wp2
  go_ret
  exact ⟨rfl, rfl⟩
theorem code_Sure (h : QAt w q g ev all rs) : Calls Tryd.prog 13 #[.pointer (some ⟨q, 0, none⟩)] w fun e w' => e = .returned (.int .i64 (rs : Nat)) ∧ w' = w := by
  have hc := h.cSure
  clear h
  go_enter Tryd.func13, Tryd.ntmps13
  go_wp2
  go_ret
  exact ⟨rfl, rfl⟩
theorem code_files (h : QAt w q g ev all rs) (hn : all.length ≤ 512) : Calls Tryd.prog 41 #[.pointer (some ⟨q, 0, none⟩)] w fun e w' => e = .returned (.int .i64 ((all.length + 7) / 8 : Nat)) ∧ w' = w := by
  obtain ⟨a, c, rfl, _⟩ := h.form
  have hc := h.cRow
  clear h
  obtain ⟨n, hnn⟩ : ∃ n, all.length = n := ⟨_, rfl⟩
  rw [hnn] at hc hn ⊢
  clear hnn
  have h1 : IntKind.i64.wrap ((n : Int) + 8) = (n : Int) + 8 := wrap_in _ (by omega) (by omega)
  have h2 : IntKind.i64.wrap ((n : Int) + 8 - 1) = (n : Int) + 8 - 1 := wrap_in _ (by omega) (by omega)
  go_enter Tryd.func41, Tryd.ntmps41
  go_wp2
  go_ret
  refine ⟨?_, rfl⟩
  have h3 : ((n : Int) + 8 - 1) / 8 = (((n + 7) / 8 : Nat) : Int) := by omega
  rw [← h3]
  rfl
end
theorem code_OpenNil (w : World) : Calls Tryd.prog 9 #[.pointer none] w fun e w' => e = .returned (.tuple #[.pointer none, .int .i64 1]) ∧ Below w.heap.size w w' := by
  go_enter Tryd.func9, Tryd.ntmps9
  go_wp2
  go_ret2
  exact ⟨rfl, Below.refl _ _⟩
theorem code_AppendNil (s : ByteArray) (w : World) : Calls Tryd.prog 11 #[.pointer none, .string s] w fun e w' => e = .returned (.int .i64 1) ∧ Below w.heap.size w w' := by
  go_enter Tryd.func11, Tryd.ntmps11
  go_wp2
  go_ret
  exact ⟨rfl, Below.refl _ _⟩
theorem code_SyncNil (w : World) : Calls Tryd.prog 15 #[.pointer none] w fun e w' => e = .returned (.int .i64 1) ∧ Below w.heap.size w w' := by
  go_enter Tryd.func15, Tryd.ntmps15
  go_wp2
  go_ret
  exact ⟨rfl, (Below.refl _ _).alloc (Nat.le_refl _) _⟩
theorem code_GetNil (i : Int) (w : World) : Calls Tryd.prog 14 #[.pointer none, .int .i64 i] w fun e w' => e = .returned (.tuple #[.string ⟨#[]⟩, .int .i64 1]) ∧ Below w.heap.size w w' := by
  go_enter Tryd.func14, Tryd.ntmps14
  go_wp2
  go_ret2
  exact ⟨rfl, Below.refl _ _⟩
theorem code_LenNil (w : World) : Calls Tryd.prog 12 #[.pointer none] w fun e w' => e = .returned (.int .i64 0) ∧ Below w.heap.size w w' := by
  go_enter Tryd.func12, Tryd.ntmps12
  go_wp2
  go_ret
  exact ⟨rfl, Below.refl _ _⟩
theorem code_SureNil (w : World) : Calls Tryd.prog 13 #[.pointer none] w fun e w' => e = .returned (.int .i64 0) ∧ Below w.heap.size w w' := by
  go_enter Tryd.func13, Tryd.ntmps13
  go_wp2
  go_ret
  exact ⟨rfl, Below.refl _ _⟩

/-- Steps in a slice, at a place. -/
theorem kf_cell {w : World} {v : Value} {L : List Clo} (h : KF.At w v L) {i : Nat} {c : Clo} (hi : L[i]? = some c) : ∃ g o cap, v = .slice (some ⟨g, o, none⟩) L.length cap ∧ L.length ≤ cap ∧ w.cell? ⟨g, o + i, none⟩ = some c.val := by
  have hlt := (List.getElem?_eq_some_iff.1 hi).1
  obtain ⟨g, o, cap, hv, hc, hr⟩ := h.some (by omega)
  refine ⟨g, o, cap, hv, hc, ?_⟩
  have := range_thing hr hi (j := 0) (u := c.val) rfl
  simpa [KF] using this
set_option maxHeartbeats 1600000 in
/-- Steps done in order: each leaves what the next one leans on, or an error. -/
theorem code_inOrder (v : Value) (L : List Clo) (w : World) (I : Nat → World → Prop) (D : Int → World → Prop) (h0 : I 0 w)
    (hat : ∀ i w1, I i w1 → KF.At w1 v L) (hlen : L.length ≤ 1000)
    (hrun : ∀ (i : Nat) (c : Clo) (args : Array Value) (w1 : World), L[i]? = some c → Sem.run Tryd.prog (callFunc c.fn args) w1 = .ok (.enter c.fn args) w1)
    (hstep : ∀ i c w1, L[i]? = some c → I i w1 → Calls Tryd.prog c.fn (c.caps.map fun a => Value.pointer (some a)).toArray w1 fun e w2 => ∃ er, e = .returned (.int .i64 er) ∧ (er = 0 → I (i + 1) w2) ∧ (er ≠ 0 → D er w2))
    (hend : ∀ w1, I L.length w1 → D 0 w1) :
    Calls Tryd.prog 43 #[v] w fun e w' => ∃ er, e = .returned (.int .i64 er) ∧ D er w' := by
  obtain ⟨va, vc, rfl, hvc⟩ := (hat 0 w h0).form
  have HAT := Lib.hid hat
  have HST := Lib.hid hstep
  have HRU := Lib.hid hrun
  have HEN := Lib.hid hend
  have H0 := Lib.hid h0
  clear hat hstep hend h0 hvc hrun
  obtain ⟨m, hm⟩ : ∃ m, L.length = m := ⟨_, rfl⟩
  rw [hm] at HAT HEN hlen ⊢
  have HM := Lib.hid hm
  clear hm
  go_enter Tryd.func43, Tryd.ntmps43
  go_wp2_with fail
  go_loopw [8] (fun iv wr => ∃ i : Nat, i ≤ m ∧ iv = .int .i64 i ∧ I i wr) (fun iv _ => m - (intOf iv).toNat)
  case atStart => exact ⟨0, Nat.zero_le _, rfl, H0.out⟩
  case round =>
    obtain ⟨i, hi, rfl, hI⟩ := hrel
    have HI := Lib.hid hI
    clear hI
    by_cases hlt : i < m
    · have hlt2 : (i : Int) < (m : Int) := by omega
      obtain ⟨c, hc⟩ : ∃ c, L[i]? = some c := ⟨_, List.getElem?_eq_getElem (by rw [HM.out]; exact hlt)⟩
      obtain ⟨g, o, cap', hav, _, hcell⟩ := kf_cell (HAT.out i _ HI.out) hc
      injection hav with hav1 hav2 hav3
      subst hav1 hav3
      have HS := Lib.hid (HST.out i c _ hc HI.out)
      have HR := Lib.hid (fun args => HRU.out i c args wr hc)
      unfold Clo.val at hcell
      clear hav2 hc
      go_wp2_with fail
      rw [HR.out]
      refine HS.out.mono ?_
      rintro e w2 ⟨er, rfl, h1, h2⟩
      by_cases he : er = 0
      · have HI2 := Lib.hid (h1 he)
        subst he
        clear h1 h2
        go_wp2_with fail
        go_roundw
        case rel => exact ⟨i + 1, by omega, by go_num, HI2.out⟩
        case measure => simp [intOf]; omega
      · have HD := Lib.hid (h2 he)
        have he3 : (er != 0) = true := by simpa using he
        clear h1 h2
        go_wp2_with fail
        go_ret
        exact ⟨er, rfl, HD.out⟩
    · obtain rfl : i = m := by omega
      go_wp2_with fail
      go_ret
      exact ⟨0, rfl, HEN.out _ HI.out⟩
end Go.Proofs.YtepcfmigkhacgaaDoor.Rl

namespace Go.Proofs.YtepcfmigkhacgaaDoor.Rl
open Go.RowKit Go.Proofs.YtepcfmigkhacgaaDoor.Gr Go.Proofs.YtepcfmigkhacgaaDoor.Frame Go.Proofs.YtepcfmigkhacgaaDoor.Dk

section
variable {w w' : World} {q g : Nat} {ev : Value} {all : List Tx} {rs : Nat}
/-- One more end is put behind the row. -/
theorem QAt.push (h : QAt w q g ev all rs) {o : Obj} {w3 : World} {ev3 : Value} {all3 : List Tx} (hg : (w.alloc o).grownBy w3 ev.ownBlock) (hown : KI.Own 0 ev3 (endsN all3) w3) (hk : ∀ k, ev3.ownBlock = some k → ev.ownBlock = some k ∨ k = (w.alloc o).heap.size) :
    w3.cell? ⟨q, 1, none⟩ = some ev ∧ (∀ i, w3.frozen? ⟨q, i, none⟩ = false) ∧ QAt (w3.setCell ⟨q, 1, none⟩ ev3) q g ev3 all3 rs ∧ Moved (qfoot q ev) w (qfoot q ev3) (w3.setCell ⟨q, 1, none⟩ ev3) := by
  have hba : Below w.heap.size w (w.alloc o) := (Below.refl _ _).alloc (Nat.le_refl _) _
  have hq := h.lt
  have hheap : w3.heap[q]? = some (.cells #[.pointer (some ⟨g, 0, none⟩), ev, .int .i64 rs] 69 (0, 0)) := by
    rw [hg.block q (Nat.lt_of_lt_of_le hq hba.size) (fun e => h.ne e.symm), hba.block q hq]
    exact h.heap
  have hk2 : ∀ k, ev3.ownBlock = some k → ev.ownBlock = some k ∨ w.heap.size ≤ k := fun k h1 => by
    rcases hk k h1 with h2 | h2
    · exact Or.inl h2
    · have := hba.size; exact Or.inr (by omega)
  have hne : ev3.ownBlock ≠ some q := fun e => by
    rcases hk2 q e with h2 | h2
    · exact h.ne h2
    · omega
  have hfr : Frm (qfoot q ev) w w3 := by
    have h1 : Frm (qfoot q ev) w (w.alloc o) := (Frm.of_below hba).mono (fun _ h => False.elim h)
    exact h1.grown hg (fun k e => Or.inl (Or.inr e))
  refine ⟨by rw [Lib.cell_of_heap hheap]; rfl, fun i => by simp [World.frozen?, hheap], ⟨?_, own_frm1 hown (F := fun k => k = q) ?_ (fun k hk1 e => hne (e ▸ hk1))⟩, ⟨?_, fun k hk1 => ?_⟩⟩
  · rw [setCell_eq_setRow w3 q 1 _ _ _ _ hheap, setRow_heap _ _ _ _ _ _ hheap]
    rfl
  · rw [setCell_eq_setRow w3 q 1 _ _ _ _ hheap]
    exact (Frm.refl (fun k => k = q) w3).setRow (Or.inl rfl) _
  · rw [setCell_eq_setRow w3 q 1 _ _ _ _ hheap]
    exact hfr.setRow (Or.inl (Or.inl rfl)) _
  · rcases hk1 with h1 | h1
    · exact Or.inl (Or.inl h1)
    · rcases hk2 k h1 with h2 | h2
      · exact Or.inl (Or.inr h2)
      · exact Or.inr h2

set_option maxRecDepth 100000 in
set_option maxHeartbeats 1600000 in
theorem code_findIn {B : Nat} {pre : List Tx} (w : World) (hh : Home B w) (h : QAt w q g ev pre 0) (hB : ∀ k, qfoot q ev k → B ≤ k) (t : ByteArray) (ht : t.size ≤ 1048576) {f : Nat} (hp : pre.length = 8 * f) (hf : f < 64) :
    Calls Tryd.prog 64 #[.pointer (some ⟨q, 0, none⟩), .string t] w fun e w' => e = .returned (.int .i64 ((scanL 8 t.data.toList).2 : Nat)) ∧ ∃ ev', QAt w' q g ev' (pre ++ (scanL 8 t.data.toList).1) 0 ∧ Moved (qfoot q ev) w (qfoot q ev') w' := by
  obtain ⟨l, hl⟩ : ∃ l, t.data.toList = l := ⟨_, rfl⟩
  have HLN := Lib.hid (show l.length = t.size by rw [← hl]; exact len_data t)
  have HTK := Lib.hid (fun (z : Nat) (W : World) (hW : Tab W) => code_Take (t.extract z t.size) W (by have := size_drop t z; unfold maxLen; omega) hW)
  simp only [drop_ext, hl] at HTK
  rw [hl]
  have HQ0 := Lib.hid h
  have HH0 := Lib.hid hh
  have HB0 := Lib.hid hB
  have HP := Lib.hid hp
  clear h hh hB hp hl
  go_enter Tryd.func64, Tryd.ntmps64
  go_wp2_with fail
  go_loopw [5, 9] (fun zv iv wr => ∃ (k : Nat) (X : List Tx) (ev1 : Value), Found l k X ∧ iv = .int .i64 k ∧ zv = .int .i64 (frs X).length ∧ QAt wr q g ev1 (pre ++ X) 0 ∧ Moved (qfoot q ev) w (qfoot q ev1) wr) (fun _ iv _ => 8 - (intOf iv).toNat)
  case atStart => exact ⟨0, [], ev, Found.start l, rfl, rfl, by rw [List.append_nil]; exact HQ0.out, Moved.refl⟩
  case round =>
    obtain ⟨k, X, ev1, hfd, rfl, rfl, hq1, hm1⟩ := hrel
    have hk8 := hfd.le
    have hzs0 := hfd.size
    have hXl := hfd.len
    have HFD := Lib.hid hfd
    have HQ := Lib.hid hq1
    have HM := Lib.hid hm1
    have HTAB := Lib.hid (HH0.out.frm hm1.frm HB0.out).tab
    rw [HLN.out] at hzs0
    obtain ⟨z, hz⟩ : ∃ z, (frs X).length = z := ⟨_, rfl⟩
    rw [hz] at hzs0
    have HZ := Lib.hid hz
    clear hfd hq1 hm1
    by_cases hlt : k < 8
    · have hlt2 : (k : Int) < 8 := by omega
      obtain ⟨x, sz, er, htk⟩ : ∃ x sz er, takeL (l.drop z) = (x, sz, er) := ⟨_, _, _, rfl⟩
      have HTZ := Lib.hid (show Calls Tryd.prog 40 #[.string (t.extract z t.size)] wr fun e w' => e = .returned (.tuple #[.string (bs x), .int .i64 (sz : Int), .int .i64 (er : Int)]) ∧ Below wr.heap.size wr w' by
        have h := HTK.out z _ HTAB.out
        rw [htk] at h
        exact h)
      have HTKE := Lib.hid htk
      have hzs : (z : Int) ≤ (t.size : Int) := by omega
      rw [hz]
      clear htk hz
      by_cases her : er = 0
      · subst her
        have hqs := (takeL_size (l.drop z)).1
        rw [HTKE.out, List.length_drop, HLN.out] at hqs
        have hqs : sz ≤ t.size - z := hqs
        have hnx := HFD.out.next hlt (by rw [HZ.out, HTKE.out])
        rw [HZ.out, HTKE.out] at hnx
        have HNX := Lib.hid hnx
        clear hnx
        have hz2 : (z : Int) + (sz : Int) ≤ (t.size : Int) := by omega
        go_upto_region 7 with (go_at_call 40; refine HTZ.out.mono ?_; rintro e w1 ⟨rfl, hb1⟩)
        have hq1 := HQ.out.below hb1
        have hm1 := HM.out.below hb1
        have hc1 := hq1.cRow
        obtain ⟨a, n, cap, rfl, hn⟩ : ∃ a n cap, ev1 = .slice a n cap ∧ n = (pre ++ X).length := by
          obtain ⟨a, cap, h, _⟩ := hq1.form
          exact ⟨a, _, cap, h, rfl⟩
        have hba : Below w1.heap.size w1 (w1.alloc (.cells #[.int .i64 ((z : Int) + (sz : Int))] 3)) := (Below.refl _ _).alloc (Nat.le_refl _) _
        have HO := Lib.hid (hq1.row.kept hba)
        have hc2 := (hq1.below hba).cRow
        have HQ1 := Lib.hid hq1
        have HM1 := Lib.hid hm1
        have HAB := Lib.hid (show KI.At (w1.alloc (.cells #[.int .i64 ((z : Int) + (sz : Int))] 3)) (.slice (some ⟨w1.heap.size, 0, none⟩) 1 1) [((z : Int) + (sz : Int))] from
          Or.inr ⟨w1.heap.size, 0, 1, rfl, by simp, Nat.le_refl _, fun j u hj => by
            rw [Nat.zero_add, Lib.cell_of_heap (heap_alloc_new w1 _)]
            simp only [Kind.flat, KI, List.flatMap_cons, List.flatMap_nil, List.append_nil] at hj
            rw [← hj]
            simp⟩)
        have hnl : n < 512 := by rw [hn, List.length_append, HP.out, hXl]; omega
        have HN1 := Lib.hid (show (endsN (pre ++ X)).length + [((z : Int) + (sz : Int))].length = n + 1 by rw [endsN_len, hn]; rfl)
        have HRM := Lib.hid (show ((endsN (pre ++ X)).length + [((z : Int) + (sz : Int))].length) * (KI.bytes + 1) ≤ 1099511627776 by rw [HN1.out]; show (n + 1) * 9 ≤ _; omega)
        have HEF := Lib.hid (show endsN (pre ++ (X ++ [x])) = endsN (pre ++ X) ++ [((z : Int) + (sz : Int))] by
          rw [endsN_file pre X x HP.out (by omega), HZ.out, ← HNX.out.2]
          simp)
        clear hba hq1 hm1 hb1 hn
        go_wp2_with (refine wpList_append_grow (K := KI) rfl (.tmp 28) (.tmp 30) 35 rfl Tryd.underlying35 0 rfl HO.out _ [((z : Int) + (sz : Int))] rfl HAB.out (by simp) (n + 1) HN1.out HRM.out (Nat.zero_le _) ?_; intro g3 cap3 w3 hown3 hgr3 hk3 hlt3; obtain ⟨hc3, hf3, hq3, hm3⟩ := HQ1.out.push (ev3 := .slice (some ⟨g3, 0, none⟩) (n + 1) cap3) (all3 := pre ++ (X ++ [x])) hgr3 (by rw [HEF.out]; exact hown3) (fun k hk => by cases hk; exact hk3); have HQ3 := Lib.hid hq3; have HM3 := Lib.hid (HM1.out.trans hm3); clear hq3 hm3 hown3 hgr3 hk3 hlt3)
        go_roundw
        case rel => exact ⟨k + 1, X ++ [x], _, HNX.out.1, by go_num, by rw [frs_app, frs_one, List.length_append, HZ.out, frameL_len, ← HNX.out.2]; go_num, HQ3.out, HM3.out⟩
        case measure => simp [intOf]; omega
      · have her' : ¬ (er : Int) = 0 := by omega
        have HSC := Lib.hid (HFD.out.bad (by rw [HZ.out, HTKE.out]; exact her))
        go_wp2_with (go_at_call 40; refine HTZ.out.mono ?_; rintro e w1 ⟨rfl, hb1⟩)
        go_ret
        rw [HSC.out]
        exact ⟨by show _ = Ending.returned (.int .i64 ((frs X).length : Nat)); rw [HZ.out]; rfl, ev1, HQ.out.below hb1, HM.out.below hb1⟩
    · obtain rfl : k = 8 := by omega
      have HSC := Lib.hid HFD.out.full
      rw [hz]
      clear hz
      go_wp2
      go_ret
      rw [HSC.out]
      exact ⟨by show _ = Ending.returned (.int .i64 ((frs X).length : Nat)); rw [HZ.out]; rfl, ev1, HQ.out, HM.out⟩
end
end Go.Proofs.YtepcfmigkhacgaaDoor.Rl

namespace Go.Proofs.YtepcfmigkhacgaaDoor.Rl
open Go.RowKit Go.Proofs.YtepcfmigkhacgaaDoor.Gr Go.Proofs.YtepcfmigkhacgaaDoor.Frame Go.Proofs.YtepcfmigkhacgaaDoor.Dk

theorem below_dn {B : Nat} {a w : World} (h : Below B a w) (n : Nat) : Below B a (w.drewN n) := ⟨h.os, h.tape, h.output, h.size, h.block⟩
theorem dat_dn {w : World} {g : Nat} {lv : Value} {S : St} (h : DAt w g lv S) (n : Nat) : DAt (w.drewN n) g lv S := ⟨h.heap, h.now, h.sure, h.own⟩
theorem same_w {f : FuncId} {args : Array Value} {v : Value} {w : World} (h : Calls Tryd.prog f args w fun e w' => e = .returned v ∧ w = w') : Calls Tryd.prog f args w fun e w' => e = .returned v ∧ w' = w := h.mono fun _ _ ⟨a, b⟩ => ⟨a, b.symm⟩
/-- Numbers as a row of cells. -/
def zI (L : List Int) : List Value := L.map fun n => Value.int .i64 n
theorem zI_get {L : List Int} {i : Nat} {n : Int} (h : L[i]? = some n) : (zI L)[i]? = some (.int .i64 n) := by unfold zI; rw [List.getElem?_map, h]; rfl
theorem zI_set (L : List Int) (i : Nat) (n : Int) : (zI L).toArray.setIfInBounds i (.int .i64 n) = (zI (L.set i n)).toArray := by
  unfold zI
  rw [List.setIfInBounds_toArray, List.map_set]
theorem zI_one (L : List Int) : (zI L).toArray.all (·.oneCell') = true := by
  rw [List.all_toArray, List.all_eq_true]
  intro u hu
  obtain ⟨n, _, rfl⟩ := List.mem_map.1 hu
  rfl
theorem zI_size (L : List Int) : (zI L).toArray.size = L.length := by simp [zI]
theorem info_64 : (Tryd.prog.info? 70).map (·.size) = some 64 := by kernel_rfl
theorem zero_64 : (Tryd.prog.info? 70).map (·.zero) = some (some (.agg (zI (List.replicate 64 0)).toArray)) := by kernel_rfl
theorem zero_of {P : Program} {t : TypeId} {z : Value} (h : (P.info? t).map (·.zero) = some (some z)) (w : World) : (zeroValue t).run P w = .ok z w := by
  cases hq : P.info? t with
  | none => simp [hq] at h
  | some i =>
    have hz : i.zero = some z := by simpa [hq] using h
    simp [zeroValue, typeInfo, hq, hz]
theorem results_cell_int {P : Program} {fn : Func} {p t : Tmp} {ty : TypeId} (h : fn.results = #[.cell p ty, .tmp t]) (tmps : Array Value) (w : World) (g : Nat) (e : TypeId) (cs : Array Value) (fr : Nat × Nat) (d : TypeDesc) (v : Value)
    (hp : tmps.getD p undef = .pointer (some ⟨g, 0, none⟩)) (hv : tmps.getD t undef = v) (hg : w.heap[g]? = some (.cells cs e fr))
    (hu : P.underlying ty = some d) (hd : (match d with | .struct _ | .array _ _ => true | _ => false) = true) (hi : (P.info? ty).map (·.size) = some cs.size) :
    (results fn tmps).run P w = .ok (.tuple #[.agg cs, v]) w := by
  have hp' : tmps[p]?.getD undef = .pointer (some ⟨g, 0, none⟩) := by simpa using hp
  have hv' : tmps[t]?.getD undef = v := by simpa using hv
  simp [results, h, hp', hv', asAddr, run_loadVar_row w g e ty cs fr d hg hu hd hi]
theorem read_whole {S : St} (hon : S.on = true) {f : Nat} (hf : f < 64) : sizeF S f = (S.now.getD f ⟨#[]⟩).size ∧ readV S f 0 ((S.now.getD f ⟨#[]⟩).size : Nat) = (S.now.getD f ⟨#[]⟩, 0) := by
  have h1 : ¬ ((f : Int) < 0 ∨ 64 ≤ (f : Int)) := by omega
  refine ⟨by unfold sizeF; rw [if_neg h1, Int.toNat_natCast], ?_⟩
  unfold readV errF
  rw [if_pos hon, if_neg h1, if_neg (by decide), Int.toNat_natCast, if_neg (by omega)]
  simp
theorem now_size {N : List ByteArray} (h : ∀ s ∈ N, s.size ≤ 1048576) (f : Nat) : (N.getD f ⟨#[]⟩).size ≤ 1048576 := by
  rw [List.getD_eq_getElem?_getD]
  cases e : N[f]? with
  | none => show (⟨#[]⟩ : ByteArray).size ≤ _; decide
  | some s => exact h s (List.mem_of_getElem? e)
/-- A block of numbers of the call's own stays where others' are touched. -/
theorem arr_kept {w w' : World} {F : Nat → Prop} {b : Nat} {C : Array Value} (hf : Frm F w w') (h : w.heap[b]? = some (.cells C 70 (0, 0))) (hF : ¬ F b) : w'.heap[b]? = some (.cells C 70 (0, 0)) :=
  (hf.block b (Array.getElem?_eq_some_iff.1 h).1 hF).trans h
theorem arr_apart {w : World} {q g b : Nat} {ev : Value} {all : List Tx} {rs : Nat} {C : Array Value} (hq : QAt w q g ev all rs) (h : w.heap[b]? = some (.cells C 70 (0, 0))) : ¬ qfoot q ev b := by
  rintro (rfl | hk)
  · have h1 := hq.heap
    rw [h] at h1
    simp at h1
  · obtain ⟨c, hc⟩ := own_type hq.row b hk
    rw [h] at hc
    simp at hc
    exact absurd hc.2 (by decide)

theorem arr_set {w : World} {b f : Nat} {L : List Int} (h : w.heap[b]? = some (.cells (zI L).toArray 70 (0, 0))) (n : Int) :
    (w.setCell ⟨b, f, none⟩ (.int .i64 n)).heap[b]? = some (.cells (zI (L.set f n)).toArray 70 (0, 0)) ∧ Frm (fun k => k = b) w (w.setCell ⟨b, f, none⟩ (.int .i64 n)) := by
  rw [setCell_eq_setRow w b f _ _ _ _ h, setRow_heap _ _ _ _ _ _ h, zI_set]
  exact ⟨rfl, (Frm.refl (fun k => k = b) w).setRow (Or.inl rfl) _⟩
theorem find_end {N : List ByteArray} {R : List Tx} {last size : Nat} (h : recs N = (R, last, size)) {w w' : World} {q g : Nat} {ev : Value} (hq : QAt w' q g ev R 0) (hm : Moved (qfoot q (.slice none 0 0)) w (qfoot q ev) w') {e : Ending}
    (he : e = .returned (.tuple #[.agg (zI (staysN N last size)).toArray, .int .i64 0])) :
    e = .returned (.tuple #[.agg (zI (staysN N (recs N).2.1 (recs N).2.2)).toArray, .int .i64 0]) ∧ ∃ ev', QAt w' q g ev' (recs N).1 0 ∧ Moved (qfoot q (.slice none 0 0)) w (qfoot q ev') w' := by
  rw [h]
  exact ⟨he, ev, hq, hm⟩

section
variable {q g : Nat} {lv : Value} {S : St}
set_option maxRecDepth 100000 in
set_option maxHeartbeats 3200000 in
theorem code_find {B : Nat} (w : World) (hh : Home B w) (h : QAt w q g (.slice none 0 0) [] 0) (hqB : B ≤ q) (hd : DAt w g lv S) (hon : S.on = true) (hs : ∀ s ∈ S.now, s.size ≤ 1048576) :
    Calls Tryd.prog 35 #[.pointer (some ⟨q, 0, none⟩)] w fun e w' => e = .returned (.tuple #[.agg (zI (staysN S.now (recs S.now).2.1 (recs S.now).2.2)).toArray, .int .i64 0]) ∧ ∃ ev', QAt w' q g ev' (recs S.now).1 0 ∧ Moved (qfoot q (.slice none 0 0)) w (qfoot q ev') w' := by
  have HQ0 := Lib.hid h
  have HH0 := Lib.hid hh
  have HD0 := Lib.hid (fun w1 (hf : Frm (qfoot q (.slice none 0 0)) w w1) => hd.kept hf (fun hk => apart h hd g hk (Or.inl rfl)) (fun k hk hk2 => apart h hd k hk2 (Or.inr hk)))
  have HON := Lib.hid hon
  have HSZ := Lib.hid (now_size hs)
  have HS := Lib.hid hs
  have HB0 := Lib.hid (show ∀ k, qfoot q (.slice none 0 0) k → B ≤ k from fun k hk => by
    rcases hk with rfl | hk
    · exact hqB
    · simp [Value.ownBlock] at hk)
  have hz := zero_of zero_64
  obtain ⟨Z, hZ⟩ : ∃ Z, (zI (List.replicate 64 0)).toArray = Z := ⟨_, rfl⟩
  rw [hZ] at hz
  have HZ := Lib.hid hZ
  have hba : Below w.heap.size w (w.alloc (.cells Z 70)) := (Below.refl _ _).alloc (Nat.le_refl _) _
  have hb1 : Below w.heap.size w ((w.alloc (.cells Z 70)).alloc (.cells Z 70)) := hba.alloc hba.size _
  have hn2 : ((w.alloc (.cells Z 70)).alloc (.cells Z 70)).heap[w.heap.size]? = some (.cells Z 70 (0, 0)) := by
    have hlt : w.heap.size < (w.alloc (.cells Z 70)).heap.size := by show w.heap.size < (w.heap.push _).size; rw [Array.size_push]; omega
    rw [(((Below.refl _ (w.alloc (.cells Z 70))).alloc (Nat.le_refl _) _).block _ hlt)]
    exact heap_alloc_new w _
  have hn4 : ((w.alloc (.cells Z 70)).alloc (.cells Z 70)).heap[w.heap.size + 1]? = some (.cells Z 70 (0, 0)) := heap_alloc2_new w _ _
  have HB1 := Lib.hid hb1
  have HN2 := Lib.hid hn2
  have HN4 := Lib.hid hn4
  clear h hh hd hon hs hqB hZ hba hb1 hn2 hn4
  go_enter Tryd.func35, Tryd.ntmps35
  go_wp2_with fail
  clear hz
  go_loopw [8] (fun iv wr => ∃ (f : Nat) (pre : List Tx) (ev1 : Value), iv = .int .i64 f ∧ Ahead S.now f pre ∧ QAt wr q g ev1 pre 0 ∧ Moved (qfoot q (.slice none 0 0)) w (qfoot q ev1) wr ∧ wr.heap[w.heap.size]? = some (.cells Z 70 (0, 0)) ∧ wr.heap[w.heap.size + 1]? = some (.cells (zI (staysN S.now f 0)).toArray 70 (0, 0))) (fun iv _ => 64 - (intOf iv).toNat)
  case atStart => exact ⟨0, [], _, rfl, Ahead.start _, HQ0.out.below HB1.out, Moved.refl.below HB1.out, HN2.out, by rw [staysN_start, HZ.out]; exact HN4.out⟩
  case round =>
    obtain ⟨f, pre, ev1, rfl, hah, hq1, hm1, hb2, hb4⟩ := hrel
    have hfl := hah.le
    have HAH := Lib.hid hah
    have HQ := Lib.hid hq1
    have HM := Lib.hid hm1
    have HN2 := Lib.hid hb2
    have HN4 := Lib.hid hb4
    have HH := Lib.hid (HH0.out.frm hm1.frm HB0.out)
    have HBQ := Lib.hid (show ∀ k, qfoot q ev1 k → B ≤ k from fun k hk => by
      rcases hm1.foot k hk with h1 | h1
      · exact HB0.out k h1
      · exact Nat.le_trans HH0.out.size h1)
    have hd1 := HD0.out wr hm1.frm
    clear hah hm1 hb2 hb4
    by_cases hlt : f < 64
    · have hlt2 : (f : Int) < 64 := by omega
      obtain ⟨t, ht⟩ : ∃ t, S.now.getD f ⟨#[]⟩ = t := ⟨_, rfl⟩
      obtain ⟨hr1, hr2⟩ := read_whole HON.out hlt
      have htz := HSZ.out f
      rw [ht] at hr1 hr2 htz
      have HSI := Lib.hid (fun n => same_w (code_Size g lv S (f : Int) (wr.drewN n) (dat_dn hd1 n)))
      have HRD := Lib.hid (fun n => same_w (code_Read g lv S (f : Int) 0 (t.size : Nat) (wr.drewN n) (dat_dn hd1 n) HS.out))
      rw [hr1] at HSI
      rw [hr2] at HRD
      have hc0 := hq1.cDisk
      obtain ⟨T, z, hTz⟩ : ∃ T z, scanL 8 t.data.toList = (T, z) := ⟨_, _, rfl⟩
      have hfn : fileN S.now f = t.data.toList := by unfold fileN; rw [ht]
      have hsc := scanL_size 8 t.data.toList
      rw [hTz, len_data] at hsc
      have hsc : z ≤ t.size := hsc
      have HLA := HAH.out.last hlt
      have HNX := HAH.out.next hlt
      rw [hfn, hTz, len_data] at HLA HNX
      have HLA := Lib.hid (show (pre ++ T).length < (f + 1) * 8 ∨ z < t.size → recs S.now = (pre ++ T, f, z) from HLA)
      have HNX := Lib.hid (show ¬ ((pre ++ T).length < (f + 1) * 8 ∨ z < t.size) → Ahead S.now (f + 1) (pre ++ T) ∧ z = t.size from HNX)
      have HFN := Lib.hid hfn
      have hT8 : T.length ≤ 8 := by
        have := (scan_took 8 t.data.toList).2.2.2.1
        rwa [hTz] at this
      have hpl := HAH.out.len
      have hpl2 : (pre ++ T).length ≤ 512 := by rw [List.length_append]; omega
      clear hd1 hr1 hr2 ht hq1 hfn hT8 hpl
      go_upto_region 5 with fail
      go_quiet (first
        | (go_at_call 38; refine Calls.quiet_of_same (HSI.out _))
        | (go_at_call 39; refine Calls.quiet_of_same (HRD.out _)))
      have hq2 := HQ.out.below (below_dn (Below.refl _ _) nq)
      have hm2 := HM.out.below (below_dn (Below.refl _ _) nq)
      have hh2 := HH.out.below (below_dn (Below.refl _ _) nq)
      have hn2 : (wr.drewN nq).heap[w.heap.size]? = _ := HN2.out
      have hn4 : (wr.drewN nq).heap[w.heap.size + 1]? = _ := HN4.out
      generalize wr.drewN nq = w2 at hq2 hm2 hh2 hn2 hn4 ⊢
      have hf := code_findIn w2 hh2 hq2 HBQ.out t htz HAH.out.len hlt
      rw [hTz] at hf
      have HF := Lib.hid hf
      have HM2 := Lib.hid hm2
      have HX2 := Lib.hid (fun w3 ev3 (hm : Moved (qfoot q ev1) w2 (qfoot q ev3) w3) => arr_kept hm.frm hn2 (arr_apart hq2 hn2))
      have HX4 := Lib.hid (fun w3 ev3 (hm : Moved (qfoot q ev1) w2 (qfoot q ev3) w3) => arr_kept hm.frm hn4 (arr_apart hq2 hn4))
      clear hq2 hm2 hh2 hn2 hn4 hf hc0 hTz
      go_upto_region 9 with (go_at_call 64; refine HF.out.mono ?_; rintro e w3 ⟨rfl, ev2, hq3, hm3⟩; have h4 := HX4.out w3 ev2 hm3; have HC4 := Lib.hid h4; have HC2 := Lib.hid (HX2.out w3 ev2 hm3); have HQ3 := Lib.hid (show QAt w3 q g ev2 (pre ++ T) 0 from hq3); have HM3 := Lib.hid (HM2.out.trans hm3); have hc4 : w3.cell? ⟨w.heap.size + 1, f, none⟩ = some (.int .i64 (stayN S.now f 0 f : Nat)) := (by rw [Lib.cell_of_heap h4, List.getElem?_toArray]; exact zI_get (staysN_get hlt)); have hf4 : ∀ i, w3.frozen? ⟨w.heap.size + 1, i, none⟩ = false := (by intro i; simp [World.frozen?, h4]); clear hq3 hm3 h4)
      obtain ⟨hs1, hs2⟩ := arr_set (f := f) HC4.out (z : Int)
      have hap4 := arr_apart HQ3.out HC4.out
      have hq5 := HQ3.out.kept hs2 (fun k hk e => hap4 (e ▸ hk))
      have hm5 : Moved (qfoot q (.slice none 0 0)) w (qfoot q ev2) (w3.setCell ⟨w.heap.size + 1, f, none⟩ (.int .i64 (z : Int))) :=
        ⟨HM3.out.frm.trans hs2 (fun i hi => Or.inr (by rw [hi]; omega)), HM3.out.foot⟩
      have hn2 := arr_kept hs2 HC2.out (by omega)
      rw [staysN_set S.now hlt] at hs1
      generalize w3.setCell ⟨w.heap.size + 1, f, none⟩ (.int .i64 (z : Int)) = w5 at hs1 hq5 hm5 hn2 ⊢
      obtain ⟨a, n, cap, rfl, hn⟩ : ∃ a n cap, ev2 = .slice a n cap ∧ (pre ++ T).length = n := by
        obtain ⟨a, cap, h, _⟩ := hq5.form
        exact ⟨a, _, cap, h, rfl⟩
      have hc1 := hq5.cRow
      have HLA := Lib.hid HLA.out
      have HNX := Lib.hid HNX.out
      rw [hn] at HLA HNX hpl2
      have hc5 : w5.cell? ⟨w.heap.size + 1, f, none⟩ = some (.int .i64 (z : Int)) := by
        rw [Lib.cell_of_heap hs1, List.getElem?_toArray]
        have := zI_get (staysN_get (N := S.now) (last := f) (size := z) hlt)
        rw [this]
        unfold stayN left
        simp
      have HA5 := Lib.hid hs1
      have HB5 := Lib.hid hn2
      have HQ5 := Lib.hid hq5
      have HM5 := Lib.hid hm5
      clear hs1 hs2 hap4 hq5 hm5 hn2 hc4 hf4 HX2 HX4 HC4 HC2
      have HST := Lib.hid (show (zI (staysN S.now f z)).toArray.size = 64 by rw [zI_size, staysN_len])
      have HZS := Lib.hid (show Z.size = 64 by rw [← HZ.out, zI_size, List.length_replicate])
      obtain ⟨C, hC⟩ : ∃ C, (zI (staysN S.now f z)).toArray = C := ⟨_, rfl⟩
      have HC1 := Lib.hid (zI_one (staysN S.now f z))
      rw [hC] at HA5 HST HC1
      have HCC := Lib.hid hC
      clear hC
      by_cases hb : n < (f + 1) * 8 ∨ z < t.size
      · have HREC := Lib.hid (HLA.out hb)
        by_cases h1 : n < (f + 1) * 8
        · have h1i : (n : Int) < ((f : Int) + 1) * 8 := by omega
          clear hb
          go_wp2_with (first
            | (refine wpList_load_row rfl 70 (.tmp 4) rfl (w.heap.size + 1) rfl 70 C (0, 0) _ HA5.out Tryd.underlying70 rfl (by rw [HST.out]; exact info_64) ?_)
            | (refine wpList_store_row rfl 70 (.tmp 2) (.tmp 53) rfl w.heap.size C rfl rfl 70 Z HB5.out (by rw [HST.out]; exact info_64) (by rw [HST.out, HZS.out]) HC1.out ?_))
          have hq6 := HQ5.out.kept ((Frm.refl (fun k => k = w.heap.size) w5).setRow (Or.inl rfl) C) (fun k hk e => arr_apart HQ5.out HB5.out (e ▸ hk))
          have hm6 : Moved (qfoot q (.slice none 0 0)) w (qfoot q _) (w5.setRow w.heap.size C) := ⟨HM5.out.frm.setRow (Or.inr (Nat.le_refl _)) C, HM5.out.foot⟩
          refine bodyPost_ret (results_cell_int (p := 2) (t := 3) (ty := 70) Tryd.results35 _ _ w.heap.size 70 C (0, 0) _ _ rfl rfl (setRow_heap _ _ _ _ _ _ HB5.out) Tryd.underlying70 rfl (by rw [HST.out]; exact info_64)) rfl (find_end HREC.out hq6 hm6 (by rw [HCC.out]; rfl))
        · have h1i : ¬ (n : Int) < ((f : Int) + 1) * 8 := by omega
          have h2i : (z : Int) < (t.size : Int) := by omega
          clear hb
          go_wp2_with (first
            | (refine wpList_load_row rfl 70 (.tmp 4) rfl (w.heap.size + 1) rfl 70 C (0, 0) _ HA5.out Tryd.underlying70 rfl (by rw [HST.out]; exact info_64) ?_)
            | (refine wpList_store_row rfl 70 (.tmp 2) (.tmp 53) rfl w.heap.size C rfl rfl 70 Z HB5.out (by rw [HST.out]; exact info_64) (by rw [HST.out, HZS.out]) HC1.out ?_))
          have hq6 := HQ5.out.kept ((Frm.refl (fun k => k = w.heap.size) w5).setRow (Or.inl rfl) C) (fun k hk e => arr_apart HQ5.out HB5.out (e ▸ hk))
          have hm6 : Moved (qfoot q (.slice none 0 0)) w (qfoot q _) (w5.setRow w.heap.size C) := ⟨HM5.out.frm.setRow (Or.inr (Nat.le_refl _)) C, HM5.out.foot⟩
          refine bodyPost_ret (results_cell_int (p := 2) (t := 3) (ty := 70) Tryd.results35 _ _ w.heap.size 70 C (0, 0) _ _ rfl rfl (setRow_heap _ _ _ _ _ _ HB5.out) Tryd.underlying70 rfl (by rw [HST.out]; exact info_64)) rfl (find_end HREC.out hq6 hm6 (by rw [HCC.out]; rfl))
      · have h1i : ¬ (n : Int) < ((f : Int) + 1) * 8 := by omega
        have h2i : ¬ (z : Int) < (t.size : Int) := by omega
        obtain ⟨ha6, he6⟩ := HNX.out hb
        have HAH6 := Lib.hid ha6
        have hst : staysN S.now f z = staysN S.now (f + 1) 0 := by
          rw [← staysN_next S.now hlt, HFN.out, len_data, he6]
        have HCN := Lib.hid (show C = (zI (staysN S.now (f + 1) 0)).toArray by rw [← HCC.out, hst])
        clear hb ha6 he6 hst
        go_wp2
        go_roundw
        case rel => exact ⟨f + 1, pre ++ T, _, by go_num, HAH6.out, HQ5.out, HM5.out, HB5.out, by rw [← HCN.out]; exact HA5.out⟩
        case measure => simp [intOf]; omega
    · obtain rfl : f = 64 := by omega
      have HREC := Lib.hid (HAH.out.whole rfl)
      have hst : staysN S.now 64 0 = staysN S.now 63 (fileN S.now 63).length := (staysN_next S.now (by omega)).symm
      rw [hst] at HN4
      have HST := Lib.hid (show (zI (staysN S.now 63 (fileN S.now 63).length)).toArray.size = 64 by rw [zI_size, staysN_len])
      have HZS := Lib.hid (show Z.size = 64 by rw [← HZ.out, zI_size, List.length_replicate])
      obtain ⟨C, hC⟩ : ∃ C, (zI (staysN S.now 63 (fileN S.now 63).length)).toArray = C := ⟨_, rfl⟩
      have HC1 := Lib.hid (zI_one (staysN S.now 63 (fileN S.now 63).length))
      have HA5 := HN4
      have HB5 := HN2
      have HQ5 := HQ
      have HM5 := HM
      rw [hC] at HA5 HST HC1
      have HCC := Lib.hid hC
      obtain ⟨w5, hw5⟩ : ∃ w5, w5 = wr := ⟨_, rfl⟩
      rw [← hw5] at HA5 HB5 HQ5 HM5 ⊢
      clear hC hst hd1 hq1 hw5
      go_wp2_with (first
        | (refine wpList_load_row rfl 70 (.tmp 4) rfl (w.heap.size + 1) rfl 70 C (0, 0) _ HA5.out Tryd.underlying70 rfl (by rw [HST.out]; exact info_64) ?_)
        | (refine wpList_store_row rfl 70 (.tmp 2) (.tmp 53) rfl w.heap.size C rfl rfl 70 Z HB5.out (by rw [HST.out]; exact info_64) (by rw [HST.out, HZS.out]) HC1.out ?_))
      have hq6 := HQ5.out.kept ((Frm.refl (fun k => k = w.heap.size) w5).setRow (Or.inl rfl) C) (fun k hk e => arr_apart HQ5.out HB5.out (e ▸ hk))
      have hm6 : Moved (qfoot q (.slice none 0 0)) w (qfoot q _) (w5.setRow w.heap.size C) := ⟨HM5.out.frm.setRow (Or.inr (Nat.le_refl _)) C, HM5.out.foot⟩
      refine bodyPost_ret (results_cell_int (p := 2) (t := 3) (ty := 70) Tryd.results35 _ _ w.heap.size 70 C (0, 0) _ _ rfl rfl (setRow_heap _ _ _ _ _ _ HB5.out) Tryd.underlying70 rfl (by rw [HST.out]; exact info_64)) rfl (find_end HREC.out hq6 hm6 (by rw [HCC.out]; rfl))
end
end Go.Proofs.YtepcfmigkhacgaaDoor.Rl

namespace Go.Proofs.YtepcfmigkhacgaaDoor.Rl
open Go.RowKit Go.Proofs.YtepcfmigkhacgaaDoor.Gr Go.Proofs.YtepcfmigkhacgaaDoor.Frame Go.Proofs.YtepcfmigkhacgaaDoor.Dk

/-- Steps in plain words, one after the other. -/
def runAll : List (St → Int × St) → St → Int × St
  | [], S => (0, S)
  | p :: L, S => if (p S).1 ≠ 0 then p S else runAll L (p S).2
theorem runAll_app (B : List (St → Int × St)) : ∀ (A : List (St → Int × St)) (S : St), runAll (A ++ B) S = if (runAll A S).1 ≠ 0 then runAll A S else runAll B (runAll A S).2
  | [], S => by rw [List.nil_append, runAll, if_neg (by simp)]
  | p :: A, S => by
    rw [List.cons_append, runAll, runAll]
    by_cases h : (p S).1 ≠ 0
    · rw [if_pos h, if_pos h, if_pos h]
    · rw [if_neg h, if_neg h]
      exact runAll_app B A _
def cutF (last size f : Nat) (S : St) : Int × St := cutterS S f (left last size f : Nat)
def syncF (f : Nat) (S : St) : Int × St := syncerS S f
theorem runAll_cut (last size : Nat) : ∀ (L : List Nat) (S : St), runAll (L.map (cutF last size)) S = cutAll last size L S
  | [], _ => rfl
  | f :: L, S => by
    rw [List.map_cons, runAll, cutAll, runAll_cut last size L]
    rfl
theorem runAll_sync : ∀ (L : List Nat) (S : St), runAll (L.map syncF) S = syncAll L S
  | [], _ => rfl
  | f :: L, S => by
    rw [List.map_cons, runAll, syncAll, runAll_sync L]
    rfl
theorem openN_steps (S : St) (last size : Nat) (L : List Nat) : openN S last size L = runAll (L.map (cutF last size) ++ L.map syncF) S := by
  rw [runAll_app, runAll_cut, runAll_sync]
  rfl
theorem fits_of {n : Nat} {S : St} (h : GoodN n S) (hn : n ≤ 1000000000) : Fits S := ⟨by have := h.ops; omega, by have := h.loose; omega, h.lasts, h.now⟩

section
variable {g : Nat} {lv : Value} {S : St}
set_option maxRecDepth 100000 in
set_option maxHeartbeats 800000 in
theorem code_cut1 (w : World) (h : DAt w g lv S) (hS : Fits S) (bd bf bs f : Nat) (s : Nat) (hbd : w.cell? ⟨bd, 0, none⟩ = some (.pointer (some ⟨g, 0, none⟩))) (hbf : w.cell? ⟨bf, 0, none⟩ = some (.int .i64 f)) (hf : f < 64) (hbs : w.cell? ⟨bs, f, none⟩ = some (.int .i64 s)) :
    Calls Tryd.prog 65 #[.pointer (some ⟨bd, 0, none⟩), .pointer (some ⟨bf, 0, none⟩), .pointer (some ⟨bs, 0, none⟩)] w fun e w' => e = .returned (.int .i64 (cutterS S f s).1) ∧ ∃ lv', Dk.Left w g lv (cutterS S f s).2 w' lv' := by
  have HH := Lib.hid h
  have HS := Lib.hid hS
  have hfi : (f : Int) < 64 := by omega
  clear h hS hf
  go_enter Tryd.func65, Tryd.ntmps65
  go_upto_region 1 with fail
  refine wp_region_still_tail 5 (by kernel_rfl) (by kernel_rfl) ?_
  simp only [List.take_succ_cons, List.take_zero, List.drop_succ_cons, List.drop_zero]
  show wpStill _ _ w.drew (fun a' => wpList _ _ _ _ a' w.drew) _ _
  have hbd2 : w.drew.cell? ⟨bd, 0, none⟩ = some (.pointer (some ⟨g, 0, none⟩)) := hbd
  have hbf2 : w.drew.cell? ⟨bf, 0, none⟩ = some (.int .i64 f) := hbf
  have hbs2 : w.drew.cell? ⟨bs, f, none⟩ = some (.int .i64 s) := hbs
  have hd2 : DAt w.drew g lv S := HH.out.kept (F := fun _ => False) (Frm.of_below (Below.refl _ _).drew) id (fun _ _ => id)
  have hfr : Frm (foot g lv) w w.drew := (Frm.refl _ _).drew
  have HFR := Lib.hid hfr
  have HSZ := Lib.hid (show w.drew.heap.size = w.heap.size from rfl)
  clear hbd hbf hbs hfr
  generalize w.drew = w2 at hbd2 hbf2 hbs2 hd2 HFR HSZ ⊢
  have HC := Lib.hid (code_Cut g lv S (f : Int) (s : Int) w2 hd2 HS.out)
  clear hd2
  repeat still_step
  refine wpStill_nil ?_
  go_wp2_with (go_at_call 66; refine HC.out.mono ?_; rintro e w3 ⟨rfl, lv3, hl3⟩)
  go_ret
  exact ⟨rfl, lv3, hl3.at_, HFR.out.trans hl3.frm (fun i hi => Or.inl hi), fun k hk => by have := hl3.foot k hk; rw [HSZ.out] at this; exact this⟩
set_option maxRecDepth 100000 in
set_option maxHeartbeats 800000 in
theorem code_sync2 (w : World) (h : DAt w g lv S) (hS : Fits S) (bd bf f : Nat) (hbd : w.cell? ⟨bd, 0, none⟩ = some (.pointer (some ⟨g, 0, none⟩))) (hbf : w.cell? ⟨bf, 0, none⟩ = some (.int .i64 f)) :
    Calls Tryd.prog 67 #[.pointer (some ⟨bd, 0, none⟩), .pointer (some ⟨bf, 0, none⟩)] w fun e w' => e = .returned (.int .i64 (syncerS S f).1) ∧ ∃ lv', Dk.Left w g lv (syncerS S f).2 w' lv' := by
  have HC := Lib.hid (code_Sync g lv S (f : Int) w h hS)
  clear h hS
  go_enter Tryd.func67, Tryd.ntmps67
  go_wp2_with (go_at_call 33; refine HC.out.mono ?_; rintro e w3 ⟨rfl, lv3, hl3⟩)
  go_ret
  exact ⟨rfl, lv3, hl3⟩
/-- What a step of Sync leaves. -/
def SyncTo (w : World) (q g : Nat) (lv ev : Value) (all : List Tx) (u rs : Nat) (R : Int × St) (e : Ending) (w' : World) : Prop :=
  e = .returned (.int .i64 R.1) ∧ ∃ lv', DAt w' g lv' R.2 ∧ QAt w' q g ev all (if R.1 = 0 then u else rs) ∧ Frm (fun k => foot g lv k ∨ k = q) w w' ∧ ∀ k, lv'.ownBlock = some k → lv.ownBlock = some k ∨ w.heap.size ≤ k
set_option maxRecDepth 100000 in
set_option maxHeartbeats 800000 in
theorem code_sync1 (w : World) (h : DAt w g lv S) (hS : Fits S) {q : Nat} {ev : Value} {all : List Tx} {rs : Nat} (hq : QAt w q g ev all rs) (br bf bu f u : Nat) (hbr : w.cell? ⟨br, 0, none⟩ = some (.pointer (some ⟨q, 0, none⟩))) (hbf : w.cell? ⟨bf, 0, none⟩ = some (.int .i64 f)) (hbu : w.cell? ⟨bu, 0, none⟩ = some (.int .i64 u))
    (h1 : br ≠ q ∧ ¬ foot g lv br) (h2 : bu ≠ q ∧ ¬ foot g lv bu) :
    Calls Tryd.prog 42 #[.pointer (some ⟨br, 0, none⟩), .pointer (some ⟨bf, 0, none⟩), .pointer (some ⟨bu, 0, none⟩)] w (SyncTo w q g lv ev all u rs (syncerS S f)) := by
  have HH := Lib.hid h
  have HS := Lib.hid hS
  have HQ := Lib.hid hq
  have HAP := Lib.hid (apart hq h)
  have HB1 := Lib.hid h1
  have HB2 := Lib.hid h2
  unfold SyncTo
  obtain ⟨er, S1, hX⟩ : ∃ er S1, syncerS S f = (er, S1) := ⟨_, _, rfl⟩
  rw [hX]
  have HX := Lib.hid hX
  clear h hS hX h1 h2
  go_enter Tryd.func42, Tryd.ntmps42
  go_upto_region 1 with fail
  refine wp_region_still_tail 5 (by kernel_rfl) (by kernel_rfl) ?_
  simp only [List.take_succ_cons, List.take_zero, List.drop_succ_cons, List.drop_zero]
  show wpStill _ _ w.drew (fun a' => wpList _ _ _ _ a' w.drew) _ _
  have hbr2 : w.drew.cell? ⟨br, 0, none⟩ = some (.pointer (some ⟨q, 0, none⟩)) := hbr
  have hbf2 : w.drew.cell? ⟨bf, 0, none⟩ = some (.int .i64 f) := hbf
  have hbu2 : w.drew.cell? ⟨bu, 0, none⟩ = some (.int .i64 u) := hbu
  have hd2 : DAt w.drew g lv S := HH.out.kept (F := fun _ => False) (Frm.of_below (Below.refl _ _).drew) id (fun _ _ => id)
  have hq2 : QAt w.drew q g ev all rs := hq.below (Below.refl _ _).drew
  have hfr : Frm (fun k => foot g lv k ∨ k = q) w w.drew := (Frm.refl _ _).drew
  have HFR := Lib.hid hfr
  have HSZ := Lib.hid (show w.drew.heap.size = w.heap.size from rfl)
  clear hbr hbf hbu hfr hq
  generalize w.drew = w2 at hbr2 hbf2 hbu2 hd2 hq2 HFR HSZ ⊢
  have hc0 := hq2.cDisk
  have HQ2 := Lib.hid hq2
  have HC := Lib.hid (code_Sync g lv S (f : Int) w2 hd2 HS.out)
  rw [HX.out] at HC
  have hlr := World.block_lt_of_cell? _ _ hbr2
  have hlu := World.block_lt_of_cell? _ _ hbu2
  have HR3 := Lib.hid (fun w3 (hf : Frm (foot g lv) w2 w3) => (World.cell?_of_block (a := ⟨br, 0, none⟩) (hf.block br hlr HB1.out.2)).trans hbr2)
  have HU3 := Lib.hid (fun w3 (hf : Frm (foot g lv) w2 w3) => (World.cell?_of_block (a := ⟨bu, 0, none⟩) (hf.block bu hlu HB2.out.2)).trans hbu2)
  clear hd2 hq2 hlr hlu
  repeat still_step
  refine wpStill_nil ?_
  clear hbr2 hbf2 hbu2 hc0
  go_upto_region 2 with (go_at_call 33; refine HC.out.mono ?_; rintro e w3 ⟨rfl, lv3, hl3⟩)
  have hr3 := HR3.out w3 hl3.frm
  have hu3 := HU3.out w3 hl3.frm
  have hq3 := HQ2.out.kept hl3.frm HAP.out
  have HL3 := Lib.hid hl3
  have HQ3 := Lib.hid hq3
  have HF3 := Lib.hid (show Frm (fun k => foot g lv k ∨ k = q) w w3 from HFR.out.trans hl3.frm (fun i hi => Or.inl (Or.inl hi)))
  have hc3 := hq3.cSure
  have hf3 := hq3.fz
  clear hl3 hq3
  by_cases he : er = 0
  · subst he
    have hq4 := HQ3.out.setSure u
    have hs4 := HQ3.out.setFrm 2 (.int .i64 u)
    have hd4 : DAt (w3.setCell ⟨q, 2, none⟩ (.int .i64 u)) g lv3 S1 := HL3.out.at_.kept hs4 (fun e => apart HQ3.out HL3.out.at_ q (Or.inl rfl) (Or.inl e.symm)) (fun k hk e => apart HQ3.out HL3.out.at_ k (Or.inl e) (Or.inr hk))
    have HQ4 := Lib.hid hq4
    have HD4 := Lib.hid hd4
    have HF4 := Lib.hid (HF3.out.trans hs4 (fun i hi => Or.inl (Or.inr hi)))
    clear hq4 hs4 hd4
    go_wp2
    go_ret
    exact ⟨rfl, lv3, HD4.out, HQ4.out, HF4.out, fun k hk => by have := HL3.out.foot k hk; rw [HSZ.out] at this; exact this⟩
  · go_wp2
    go_ret
    exact ⟨rfl, lv3, HL3.out.at_, HQ3.out, HF3.out, fun k hk => by have := HL3.out.foot k hk; rw [HSZ.out] at this; exact this⟩
end
end Go.Proofs.YtepcfmigkhacgaaDoor.Rl

namespace Go.Proofs.YtepcfmigkhacgaaDoor.Rl
open Go.RowKit Go.Proofs.YtepcfmigkhacgaaDoor.Gr Go.Proofs.YtepcfmigkhacgaaDoor.Frame Go.Proofs.YtepcfmigkhacgaaDoor.Dk

/-- Two rows of steps beside what these have caught. -/
structure TwoRows (B : Nat) (w : World) (cv sv : Value) (C Y : List Clo) (V : List (Nat × Nat)) : Prop where
  cuts : KF.Own B cv C w
  syncs : KF.Own B sv Y w
  apart : ∀ k, cv.ownBlock = some k → sv.ownBlock ≠ some k
  vars : ∀ p ∈ V, w.heap[p.2]? = some (.cells #[.int .i64 p.1] 3 (0, 0))
section
variable {B : Nat} {w w' w3 : World} {cv sv : Value} {C Y : List Clo} {V : List (Nat × Nat)} {o : Obj}
theorem row_lt {α : Type} {K : Kind Tryd.prog α} {D : Nat} {v : Value} {L : List α} (h : K.Own D v L w) (k : Nat) (hk : v.ownBlock = some k) : k < w.heap.size := by
  obtain ⟨c, hc⟩ := own_type h k hk
  exact (Array.getElem?_eq_some_iff.1 hc).1
theorem TwoRows.frm {F : Nat → Prop} (h : TwoRows B w cv sv C Y V) (hf : Frm F w w') (h1 : ∀ k, cv.ownBlock = some k → ¬ F k) (h2 : ∀ k, sv.ownBlock = some k → ¬ F k) (h3 : ∀ p ∈ V, ¬ F p.2) : TwoRows B w' cv sv C Y V :=
  ⟨own_frm1 h.cuts hf h1, own_frm1 h.syncs hf h2, h.apart, fun p hp => (hf.block _ (Array.getElem?_eq_some_iff.1 (h.vars p hp)).1 (h3 p hp)).trans (h.vars p hp)⟩
theorem TwoRows.below (h : TwoRows B w cv sv C Y V) (hb : Below w.heap.size w w') : TwoRows B w' cv sv C Y V := h.frm (F := fun _ => False) (Frm.of_below hb) (fun _ _ => id) (fun _ _ => id) (fun _ _ => id)
theorem frm_grown {row : Option Nat} (hg : w.grownBy w' row) : Frm (fun k => row = some k) w w' := ⟨hg.os, hg.tape, hg.output, hg.size, fun k hk hn => hg.block k hk (fun e => hn e.symm)⟩
/-- A variable's block is none of a row's. -/
theorem var_apart (h : KF.Own B cv C w) {p : Nat × Nat} (hp : w.heap[p.2]? = some (.cells #[.int .i64 p.1] 3 (0, 0))) : ¬ cv.ownBlock = some p.2 := fun e => by
  obtain ⟨c, hc⟩ := own_type h _ e
  rw [hp] at hc
  simp only [Option.some.injEq, Obj.cells.injEq] at hc
  exact absurd hc.2.1 (by decide)
theorem TwoRows.cut (h : TwoRows B w cv sv C Y V) {c : Clo} {cv3 : Value} (hg : (w.alloc o).grownBy w3 cv.ownBlock) (hown : KF.Own B cv3 (C ++ [c]) w3) (hk : ∀ k, cv3.ownBlock = some k → cv.ownBlock = some k ∨ k = (w.alloc o).heap.size) : TwoRows B w3 cv3 sv (C ++ [c]) Y V := by
  have hb : Below w.heap.size w (w.alloc o) := (Below.refl _ _).alloc (Nat.le_refl _) _
  have h1 := h.below hb
  refine ⟨hown, own_frm1 h1.syncs (frm_grown hg) (fun k hk1 e => h.apart k e hk1), fun k hk1 e => ?_, fun p hp => ?_⟩
  · rcases hk k hk1 with h2 | h2
    · exact h.apart k h2 e
    · have := row_lt h1.syncs k e
      omega
  · exact ((frm_grown hg).block _ (Array.getElem?_eq_some_iff.1 (h1.vars p hp)).1 (var_apart h1.cuts (h1.vars p hp))).trans (h1.vars p hp)
theorem TwoRows.sync (h : TwoRows B w cv sv C Y V) {c : Clo} {sv3 : Value} (hg : (w.alloc o).grownBy w3 sv.ownBlock) (hown : KF.Own B sv3 (Y ++ [c]) w3) (hk : ∀ k, sv3.ownBlock = some k → sv.ownBlock = some k ∨ k = (w.alloc o).heap.size) : TwoRows B w3 cv sv3 C (Y ++ [c]) V := by
  have hb : Below w.heap.size w (w.alloc o) := (Below.refl _ _).alloc (Nat.le_refl _) _
  have h1 := h.below hb
  refine ⟨own_frm1 h1.cuts (frm_grown hg) (fun k hk1 e => h.apart k hk1 e), hown, fun k hk1 e => ?_, fun p hp => ?_⟩
  · rcases hk k e with h2 | h2
    · exact h.apart k hk1 h2
    · have := row_lt h1.cuts k hk1
      omega
  · exact ((frm_grown hg).block _ (Array.getElem?_eq_some_iff.1 (h1.vars p hp)).1 (var_apart h1.syncs (h1.vars p hp))).trans (h1.vars p hp)
theorem TwoRows.var (h : TwoRows B w cv sv C Y V) {p : Nat × Nat} (hp : w.heap[p.2]? = some (.cells #[.int .i64 p.1] 3 (0, 0))) : TwoRows B w cv sv C Y (V ++ [p]) :=
  ⟨h.cuts, h.syncs, h.apart, fun x hx => by
    rcases List.mem_append.1 hx with h1 | h1
    · exact h.vars x h1
    · rw [List.mem_singleton.1 h1]; exact hp⟩
/-- One step in a new block. -/
theorem kf_one (w : World) (c : Clo) : KF.At (w.alloc (.cells #[c.val] 33)) (.slice (some ⟨w.heap.size, 0, none⟩) 1 1) [c] :=
  Or.inr ⟨w.heap.size, 0, 1, rfl, by simp, Nat.le_refl _, fun j u hj => by
    rw [Nat.zero_add, Lib.cell_of_heap (heap_alloc_new w _)]
    simp only [Kind.flat, KF, List.flatMap_cons, List.flatMap_nil, List.append_nil] at hj
    rw [← hj]
    simp⟩
end
def cutC (bd bs : Nat) (p : Nat × Nat) : Clo := ⟨65, [⟨bd, 0, none⟩, ⟨p.2, 0, none⟩, ⟨bs, 0, none⟩]⟩
def syncC (bd : Nat) (p : Nat × Nat) : Clo := ⟨67, [⟨bd, 0, none⟩, ⟨p.2, 0, none⟩]⟩
theorem run_cut1 (args : Array Value) (w : World) : Sem.run Tryd.prog (callFunc 65 args) w = .ok (.enter 65 args) w := rfl
theorem run_sync2 (args : Array Value) (w : World) : Sem.run Tryd.prog (callFunc 67 args) w = .ok (.enter 67 args) w := rfl

section
variable {g : Nat} {lv : Value} {S : St}
/-- All steps of a row, done in order. -/
theorem code_steps {n last size : Nat} (w9 : World) (h : DAt w9 g lv S) (hS : GoodN n S) (hn : n ≤ 1000000) {bd bs : Nat} {V : List (Nat × Nat)} {vv : Value} {Bv : Nat} (hrow : KF.Own Bv vv (V.map (cutC bd bs) ++ V.map (syncC bd)) w9)
    (hbd : w9.heap[bd]? = some (.cells #[.pointer (some ⟨g, 0, none⟩)] 22 (0, 0))) {Z : List Int} (hbs : w9.heap[bs]? = some (.cells (zI Z).toArray 70 (0, 0)))
    (hV : ∀ p ∈ V, p.1 < 64 ∧ w9.heap[p.2]? = some (.cells #[.int .i64 p.1] 3 (0, 0)) ∧ Z[p.1]? = some (left last size p.1 : Int)) (hVl : V.length ≤ 64) :
    Calls Tryd.prog 43 #[vv] w9 fun e w' => e = .returned (.int .i64 (openN S last size (V.map (·.1))).1) ∧ ∃ lv', Dk.Left w9 g lv (openN S last size (V.map (·.1))).2 w' lv' := by
  rw [openN_steps]
  have hne : ∀ (k : Nat) (cs : Array Value) (t : TypeId), w9.heap[k]? = some (.cells cs t (0, 0)) → t ≠ 67 → t ≠ 84 → ¬ foot g lv k := by
    intro k cs t hk h1 h2 hf
    rcases hf with rfl | hf
    · rw [h.heap] at hk
      simp only [Option.some.injEq, Obj.cells.injEq] at hk
      exact h1 hk.2.1.symm
    · obtain ⟨c, hc⟩ := own_type h.own k hf
      rw [hk] at hc
      simp only [Option.some.injEq, Obj.cells.injEq] at hc
      exact h2 hc.2.1
  have hrk : ∀ w1, Frm (foot g lv) w9 w1 → KF.At w1 vv (V.map (cutC bd bs) ++ V.map (syncC bd)) := fun w1 hf => (own_frm1 hrow hf (fun k hk => by
    obtain ⟨c, hc⟩ := own_type hrow k hk
    exact hne k c KF.T hc (by decide) (by decide))).reads
  have hkeep : ∀ w1, Frm (foot g lv) w9 w1 → ∀ (k : Nat) (cs : Array Value) (t : TypeId), w9.heap[k]? = some (.cells cs t (0, 0)) → t ≠ 67 → t ≠ 84 → w1.heap[k]? = some (.cells cs t (0, 0)) := fun w1 hf k cs t hk h1 h2 =>
    (hf.block k (Array.getElem?_eq_some_iff.1 hk).1 (hne k cs t hk h1 h2)).trans hk
  obtain ⟨steps, hst⟩ : ∃ steps, (V.map (·.1)).map (cutF last size) ++ (V.map (·.1)).map syncF = steps := ⟨_, rfl⟩
  have hlen : steps.length = (V.map (cutC bd bs) ++ V.map (syncC bd)).length := by rw [← hst]; simp
  rw [hst]
  refine (code_inOrder vv (V.map (cutC bd bs) ++ V.map (syncC bd)) w9 (fun i w1 => ∃ S1 lv1, Dk.Left w9 g lv S1 w1 lv1 ∧ GoodN (n + i) S1 ∧ runAll steps S = runAll (steps.drop i) S1)
    (fun er w1 => er = (runAll steps S).1 ∧ ∃ lv1, Dk.Left w9 g lv (runAll steps S).2 w1 lv1) ⟨S, lv, Dk.Left.refl h, hS, rfl⟩ (fun i w1 ⟨_, _, hl, _⟩ => hrk w1 hl.frm) (by simp; omega) ?_ ?_ ?_).mono ?_
  · intro i c args w1 hc
    have hm := List.mem_of_getElem? hc
    rcases List.mem_append.1 hm with h1 | h1
    · obtain ⟨p, _, rfl⟩ := List.mem_map.1 h1
      exact run_cut1 args w1
    · obtain ⟨p, _, rfl⟩ := List.mem_map.1 h1
      exact run_sync2 args w1
  · rintro i c w1 hc ⟨S1, lv1, hl, hg, hr⟩
    have hil := (List.getElem?_eq_some_iff.1 hc).1
    obtain ⟨hi, hce⟩ := List.getElem?_eq_some_iff.1 hc
    have hfit : Fits S1 := fits_of hg (by simp at hil; omega)
    have hnext : ∀ (p : St → Int × St), steps[i]? = some p → runAll steps S = if (p S1).1 ≠ 0 then p S1 else runAll (steps.drop (i + 1)) (p S1).2 := fun p hp => by
      obtain ⟨hi2, hpe⟩ := List.getElem?_eq_some_iff.1 hp
      rw [hr, List.drop_eq_getElem_cons hi2, runAll, hpe]
    have hbd1 := hkeep w1 hl.frm bd _ _ hbd (by decide) (by decide)
    have hbs1 := hkeep w1 hl.frm bs _ _ hbs (by decide) (by decide)
    by_cases him : i < V.length
    · have hp : V[i]? = some V[i] := List.getElem?_eq_getElem him
      obtain ⟨p, hpe⟩ : ∃ p, V[i] = p := ⟨_, rfl⟩
      rw [hpe] at hp
      obtain ⟨hp1, hp2, hp3⟩ := hV p (List.mem_of_getElem? hp)
      have e1 : c = cutC bd bs p := by
        have := hc
        rw [List.getElem?_append_left (by simpa using him), List.getElem?_map, hp] at this
        exact (Option.some.inj this).symm
      have e2 : steps[i]? = some (cutF last size p.1) := by rw [← hst, List.getElem?_append_left (by simpa using him), List.getElem?_map, List.getElem?_map, hp]; rfl
      subst e1
      refine (code_cut1 w1 hl.at_ hfit bd p.2 bs p.1 (left last size p.1) (by rw [Lib.cell_of_heap hbd1]; rfl) (by rw [Lib.cell_of_heap (hkeep w1 hl.frm p.2 _ _ hp2 (by decide) (by decide))]; rfl) hp1 (by rw [Lib.cell_of_heap hbs1, List.getElem?_toArray]; exact zI_get hp3)).mono ?_
      rintro e w2 ⟨rfl, lv2, hl2⟩
      have h3 := hnext _ e2
      refine ⟨_, rfl, fun h0 => ⟨_, lv2, hl.trans hl2, ?_, ?_⟩, fun h0 => ?_⟩
      · rw [show n + (i + 1) = n + i + 1 by omega]
        exact hg.cut _ _
      · rw [h3, if_neg (fun h => h h0)]
        rfl
      · rw [h3, if_pos (show (cutF last size p.1 S1).1 ≠ 0 from h0)]
        exact ⟨rfl, lv2, hl.trans hl2⟩
    · have hil2 : i - V.length < V.length := by simp at hil; omega
      have hp : V[i - V.length]? = some V[i - V.length] := List.getElem?_eq_getElem hil2
      obtain ⟨p, hpe⟩ : ∃ p, V[i - V.length] = p := ⟨_, rfl⟩
      rw [hpe] at hp
      obtain ⟨hp1, hp2, hp3⟩ := hV p (List.mem_of_getElem? hp)
      have e1 : c = syncC bd p := by
        have := hc
        rw [List.getElem?_append_right (by simp; omega), List.length_map, List.getElem?_map, hp] at this
        exact (Option.some.inj this).symm
      have e2 : steps[i]? = some (syncF p.1) := by rw [← hst, List.getElem?_append_right (by simp; omega), List.length_map, List.length_map, List.getElem?_map, List.getElem?_map, hp]; rfl
      subst e1
      refine (code_sync2 w1 hl.at_ hfit bd p.2 p.1 (by rw [Lib.cell_of_heap hbd1]; rfl) (by rw [Lib.cell_of_heap (hkeep w1 hl.frm p.2 _ _ hp2 (by decide) (by decide))]; rfl)).mono ?_
      rintro e w2 ⟨rfl, lv2, hl2⟩
      have h3 := hnext _ e2
      refine ⟨_, rfl, fun h0 => ⟨_, lv2, hl.trans hl2, ?_, ?_⟩, fun h0 => ?_⟩
      · rw [show n + (i + 1) = n + i + 1 by omega]
        exact hg.sync _
      · rw [h3, if_neg (fun h => h h0)]
        rfl
      · rw [h3, if_pos (show (syncF p.1 S1).1 ≠ 0 from h0)]
        exact ⟨rfl, lv2, hl.trans hl2⟩
  · rintro w1 ⟨S1, lv1, hl, hg, hr⟩
    rw [← hlen, List.drop_length] at hr
    rw [hr]
    exact ⟨rfl, lv1, hl⟩
  · rintro e w' ⟨er, rfl, rfl, hl⟩
    exact ⟨rfl, hl⟩
end
end Go.Proofs.YtepcfmigkhacgaaDoor.Rl

namespace Go.Proofs.YtepcfmigkhacgaaDoor.Rl
open Go.RowKit Go.Proofs.YtepcfmigkhacgaaDoor.Gr Go.Proofs.YtepcfmigkhacgaaDoor.Frame Go.Proofs.YtepcfmigkhacgaaDoor.Dk

section
variable {g : Nat} {lv : Value} {S : St}
theorem left_of_below {w w1 w2 : World} {lv2 : Value} {T : St} (hb : Below w.heap.size w w1) (h : Dk.Left w1 g lv T w2 lv2) : Dk.Left w g lv T w2 lv2 :=
  ⟨h.at_, ((Frm.of_below (F := foot g lv) hb).trans h.frm (fun i hi => Or.inl hi)), fun k hk => by
    rcases h.foot k hk with h1 | h1
    · exact Or.inl h1
    · exact Or.inr (Nat.le_trans hb.size h1)⟩
theorem grown_block {B : Nat} {w w3 : World} {o : Obj} {cv : Value} {C : List Clo} (h : KF.Own B cv C w) (hg : (w.alloc o).grownBy w3 cv.ownBlock) {k : Nat} {cs : Array Value} {t : TypeId} (hk : w.heap[k]? = some (.cells cs t (0, 0))) (ht : t ≠ 33) : w3.heap[k]? = some (.cells cs t (0, 0)) := by
  have hlt := (Array.getElem?_eq_some_iff.1 hk).1
  have hb : Below w.heap.size w (w.alloc o) := (Below.refl _ _).alloc (Nat.le_refl _) _
  rw [hg.block k (Nat.lt_of_lt_of_le hlt hb.size) (fun e => ?_), hb.block k hlt]
  · exact hk
  · obtain ⟨c, hc⟩ := own_type h k e.symm
    rw [hk] at hc
    simp only [Option.some.injEq, Obj.cells.injEq] at hc
    exact ht hc.2.1
theorem grown_below {B : Nat} {w0 w w3 : World} {o : Obj} {cv : Value} {C : List Clo} (h : KF.Own B cv C w) (hg : (w.alloc o).grownBy w3 cv.ownBlock) (hb : Below B w0 w) (hB : B ≤ w.heap.size) : Below B w0 w3 := by
  have h1 : Below w.heap.size w (w.alloc o) := (Below.refl _ _).alloc (Nat.le_refl _) _
  have h2 := hb.trans (h1.mono hB)
  exact h2.trans ((Below.refl _ _).grown hg (Nat.le_trans hB h1.size) h.base)
theorem grown_block0 {B : Nat} {w w3 : World} {cv : Value} {C : List Clo} (h : KF.Own B cv C w) (hg : w.grownBy w3 cv.ownBlock) {k : Nat} {cs : Array Value} {t : TypeId} (hk : w.heap[k]? = some (.cells cs t (0, 0))) (ht : t ≠ 33) : w3.heap[k]? = some (.cells cs t (0, 0)) := by
  rw [hg.block k (Array.getElem?_eq_some_iff.1 hk).1 (fun e => ?_)]
  · exact hk
  · obtain ⟨c, hc⟩ := own_type h k e.symm
    rw [hk] at hc
    simp only [Option.some.injEq, Obj.cells.injEq] at hc
    exact ht hc.2.1
/-- append of nothing. -/
theorem wpList_append_none {P : Program} {ops : Array Oper} {rest : List Oper} {o : Oper} {a : Act} {w : World} {Q : Exit → Act → World → Prop} {α : Type} (K : Kind P α) (hgd : o.guard = none) (s x : Operand) (t : TypeId)
    (ho : o.op = .call { callee := .builtin .append, args := #[s, x], argTypes := #[t, t] }) (ht : P.underlying t = some (.slice K.T))
    (b0 : Option Addr) (n0 c0 : Nat) (hs : a.eval s = .slice b0 n0 c0) (hnc : n0 ≤ c0) (b : Option Addr) (cap : Nat) (hx : a.eval x = .slice b 0 cap)
    (h : wpList P ops Q rest (a.put o.dst (.slice b0 n0 c0)) w) : wpList P ops Q (o :: rest) a w := by
  obtain ⟨ie, hie, hq⟩ := Option.map_eq_some_iff.1 K.info
  have hr := run_append_nothing w t t o.type K.T ie ht hie b0 n0 c0 hnc (.slice b 0 cap) (by
    cases b with
    | none => exact Src.ofNil w ht cap
    | some ad => exact Src.ofSlice w ht ad 0 cap [] (by simp) (fun j u hj => by simp at hj) (fun u hu => by simp at hu))
  refine wpList_plain hgd fun _ hK => ?_
  unfold Oper.wp execOp
  simp only [ho, resolve, invoke, builtin, Sem.run_bind, Sem.run_pure, Result.andThen_ok, List.map_toArray, List.map_cons, List.map_nil, hs, hx, hr]
  exact hK _ _ h
set_option maxRecDepth 100000 in
set_option maxHeartbeats 3200000 in
theorem code_cutAll {n last size : Nat} (w : World) (h : DAt w g lv S) (hS : GoodN n S) (hn : n ≤ 1000000) :
    Calls Tryd.prog 36 #[.pointer (some ⟨g, 0, none⟩), .agg (zI (staysN S.now last size)).toArray] w fun e w' => e = .returned (.int .i64 (openN S last size (needL S.now last size)).1) ∧ ∃ lv', Dk.Left w g lv (openN S last size (needL S.now last size)).2 w' lv' := by
  have HD := Lib.hid h
  have HS := Lib.hid hS
  have HNN := Lib.hid hn
  obtain ⟨Z, hZ⟩ : ∃ Z, (zI (staysN S.now last size)).toArray = Z := ⟨_, rfl⟩
  rw [hZ]
  have HZ := Lib.hid hZ
  have HZ1 := Lib.hid (show Z.all (·.oneCell') = true by rw [← hZ]; exact zI_one _)
  have HZS := Lib.hid (show Z.size = 64 by rw [← hZ, zI_size, staysN_len])
  have hba : Below w.heap.size w (w.alloc (.cells #[.pointer (some ⟨g, 0, none⟩)] 22)) := (Below.refl _ _).alloc (Nat.le_refl _) _
  have hb0 : Below w.heap.size w ((w.alloc (.cells #[.pointer (some ⟨g, 0, none⟩)] 22)).alloc (.cells Z 70)) := hba.alloc hba.size _
  have hbd0 : ((w.alloc (.cells #[.pointer (some ⟨g, 0, none⟩)] 22)).alloc (.cells Z 70)).heap[w.heap.size]? = some (.cells #[.pointer (some ⟨g, 0, none⟩)] 22 (0, 0)) := by
    have hlt : w.heap.size < (w.alloc (.cells #[.pointer (some ⟨g, 0, none⟩)] 22)).heap.size := by show w.heap.size < (w.heap.push _).size; rw [Array.size_push]; omega
    rw [(((Below.refl _ (w.alloc (.cells #[.pointer (some ⟨g, 0, none⟩)] 22))).alloc (Nat.le_refl _) _).block _ hlt)]
    exact heap_alloc_new w _
  have hbs0 : ((w.alloc (.cells #[.pointer (some ⟨g, 0, none⟩)] 22)).alloc (.cells Z 70)).heap[w.heap.size + 1]? = some (.cells Z 70 (0, 0)) := heap_alloc2_new w _ _
  have HB0 := Lib.hid hb0
  have HBD0 := Lib.hid hbd0
  have HBS0 := Lib.hid hbs0
  have hmf : ∀ (fn : Fn) (first cap : Array Value) (w : World), (Instr.makeFunc fn first cap).run Tryd.prog w = .ok (.func fn first cap) w := fun _ _ _ _ => rfl
  have HMF := Lib.hid hmf
  clear h hS hn hba hb0 hbd0 hbs0 hZ hmf
  go_enter Tryd.func36, Tryd.ntmps36
  go_wp2_with fail
  go_loopw [5, 6, 8] (fun cv sv iv wr => ∃ (f : Nat) (V : List (Nat × Nat)), iv = .int .i64 f ∧ f ≤ 64 ∧ V.length ≤ f ∧ TwoRows w.heap.size wr cv sv (V.map (cutC w.heap.size (w.heap.size + 1))) (V.map (syncC w.heap.size)) V ∧ Below w.heap.size w wr ∧ wr.heap[w.heap.size]? = some (.cells #[.pointer (some ⟨g, 0, none⟩)] 22 (0, 0)) ∧ wr.heap[w.heap.size + 1]? = some (.cells Z 70 (0, 0)) ∧ needL S.now last size = V.map (·.1) ++ needE S.now last size f ∧ ∀ p ∈ V, p.1 < 64 ∧ last ≤ p.1) (fun _ _ iv _ => 64 - (intOf iv).toNat)
  case atStart => exact ⟨0, [], rfl, by omega, by simp, ⟨Kind.Own.nil _ _, Kind.Own.nil _ _, fun k hk => by simp [Value.ownBlock] at hk, fun p hp => by simp at hp⟩, HB0.out, HBD0.out, HBS0.out, by rw [needE_all]; rfl, fun p hp => by simp at hp⟩
  case round =>
    obtain ⟨f, V, rfl, hf, hVl, htr, hbel, hbd, hbs, hnd, hV⟩ := hrel
    have HTR := Lib.hid htr
    have HBEL := Lib.hid hbel
    have HBD := Lib.hid hbd
    have HBS := Lib.hid hbs
    have HND := Lib.hid hnd
    have HV := Lib.hid hV
    obtain ⟨ca, cn, cc, rfl, hcn⟩ : ∃ a n c, u5 = .slice a n c ∧ V.length = n := by
      obtain ⟨a, c, h, _⟩ := htr.cuts.reads.form
      exact ⟨a, _, c, h, by simp⟩
    obtain ⟨sa, sn, sc, rfl, hsn⟩ : ∃ a n c, u6 = .slice a n c ∧ V.length = n := by
      obtain ⟨a, c, h, _⟩ := htr.syncs.reads.form
      exact ⟨a, _, c, h, by simp⟩
    by_cases hlt : f < 64
    · have hfi : (f : Int) < 64 := by omega
      have HFL := Lib.hid hlt
      have HVL := Lib.hid hVl
      have HCN := Lib.hid hcn
      have HSN := Lib.hid hsn
      obtain ⟨bf, hbf⟩ : ∃ bf, wr.heap.size = bf := ⟨_, rfl⟩
      have HBF := Lib.hid hbf
      have hst := staysN_get (N := S.now) (last := last) (size := size) hlt
      obtain ⟨sz, hsz⟩ : ∃ sz, stayN S.now last size f = sz := ⟨_, rfl⟩
      rw [hsz] at hst
      have HST := Lib.hid hst
      have hneed := stay_need (N := S.now) (last := last) (size := size) (f := f)
      obtain ⟨t, ht⟩ : ∃ t, S.now.getD f ⟨#[]⟩ = t := ⟨_, rfl⟩
      have hfl : (fileN S.now f).length = t.size := by rw [← fileN_size, ht]
      rw [hsz, hfl] at hneed
      have HNEED := Lib.hid hneed
      have HFLN := Lib.hid hfl
      have hsf : sizeF S (f : Int) = t.size := by unfold sizeF; rw [if_neg (by omega), Int.toNat_natCast, ht]
      have htz : t.size ≤ 1048576 := by rw [← ht]; exact now_size HS.out.now f
      have hba : Below wr.heap.size wr (wr.alloc (.cells #[.int .i64 (f : Int)] 3)) := (Below.refl _ _).alloc (Nat.le_refl _) _
      have hnew := heap_alloc_new wr (.cells #[.int .i64 (f : Int)] 3)
      have hlt1 := (Array.getElem?_eq_some_iff.1 hbd).1
      have hlt2 := (Array.getElem?_eq_some_iff.1 hbs).1
      have hbd1 := (hba.block _ hlt1).trans hbd
      have hbs1 := (hba.block _ hlt2).trans hbs
      have ht1 := htr.below hba
      have hb1 := hbel.trans (hba.mono hbel.size)
      have hd1 : DAt (wr.alloc (.cells #[.int .i64 (f : Int)] 3)) g lv S := HD.out.kept (F := fun _ => False) (Frm.of_below hb1) id (fun _ _ => id)
      clear htr hbel hbd hbs hnd hV hcn hsn hst hneed hfl hba hlt1 hlt2 ht hsz hVl hlt
      go_upto_region 5 with fail
      rw [hbf] at hnew
      clear hbf
      generalize wr.alloc (.cells #[.int .i64 (f : Int)] 3) = w1 at hnew hbd1 hbs1 ht1 hb1 hd1 ⊢
      have hc1 : w1.cell? ⟨w.heap.size, 0, none⟩ = some (.pointer (some ⟨g, 0, none⟩)) := by rw [Lib.cell_of_heap hbd1]; rfl
      have hc2 : w1.cell? ⟨bf, 0, none⟩ = some (.int .i64 (f : Int)) := by rw [Lib.cell_of_heap hnew]; rfl
      have hc3 : w1.cell? ⟨w.heap.size + 1, f, none⟩ = some (.int .i64 (sz : Int)) := by rw [Lib.cell_of_heap hbs1, ← HZ.out, List.getElem?_toArray]; exact zI_get HST.out
      have HSI := Lib.hid (fun n => same_w (code_Size g lv S (f : Int) (w1.drewN n) (dat_dn hd1 n)))
      rw [hsf] at HSI
      have HT1 := Lib.hid ht1
      have HN1 := Lib.hid hnew
      have HBD1 := Lib.hid hbd1
      have HBS1 := Lib.hid hbs1
      have HB1 := Lib.hid hb1
      clear ht1 hnew hbd1 hbs1 hb1 hd1 hsf
      go_quiet ((go_at_call 38; refine Calls.quiet_of_same (HSI.out _)))
      have hdn : Below w1.heap.size w1 (w1.drewN nq) := below_dn (Below.refl _ _) nq
      have ht2 := HT1.out.below hdn
      have hn2 : (w1.drewN nq).heap[bf]? = _ := HN1.out
      have hbd2 : (w1.drewN nq).heap[w.heap.size]? = _ := HBD1.out
      have hbs2 : (w1.drewN nq).heap[w.heap.size + 1]? = _ := HBS1.out
      have hb2 : Below w.heap.size w (w1.drewN nq) := below_dn HB1.out nq
      have HT2 := Lib.hid ht2
      have HN2 := Lib.hid hn2
      have HBD2 := Lib.hid hbd2
      have HBS2 := Lib.hid hbs2
      have HB2 := Lib.hid hb2
      clear ht2 hn2 hbd2 hbs2 hb2 hc1 hc2 hc3 HSI HT1 HN1 HBD1 HBS1 HB1 hdn
      generalize w1.drewN nq = w2 at HT2 HN2 HBD2 HBS2 HB2 ⊢
      by_cases hgt : sz < t.size
      · have hgti : (sz : Int) < (t.size : Int) := by omega
        obtain ⟨hlf, hlz⟩ := HNEED.out.1 hgt
        have HYES := Lib.hid (needE_yes (N := S.now) (last := last) (size := size) HFL.out hlf (by rw [HFLN.out]; exact hlz))
        have HLF := Lib.hid hlf
        have hmf := HMF.out
        obtain ⟨c1, hc1⟩ : ∃ c1, cutC w.heap.size (w.heap.size + 1) (f, bf) = c1 := ⟨_, rfl⟩
        obtain ⟨c2, hc2⟩ : ∃ c2, syncC w.heap.size (f, bf) = c2 := ⟨_, rfl⟩
        have hv1 : c1.val = .func (.func 65) #[] #[.pointer (some ⟨w.heap.size, 0, none⟩), .pointer (some ⟨bf, 0, none⟩), .pointer (some ⟨w.heap.size + 1, 0, none⟩)] := by rw [← hc1]; rfl
        have hv2 : c2.val = .func (.func 67) #[] #[.pointer (some ⟨w.heap.size, 0, none⟩), .pointer (some ⟨bf, 0, none⟩)] := by rw [← hc2]; rfl
        have HC1 := Lib.hid hc1
        have HC2 := Lib.hid hc2
        have ht2 := HT2.out.var (p := (f, bf)) HN2.out
        have hba2 : Below w2.heap.size w2 (w2.alloc (.cells #[c1.val] 33)) := (Below.refl _ _).alloc (Nat.le_refl _) _
        have HO1 := Lib.hid (ht2.below hba2).cuts
        have HK1 := Lib.hid (kf_one w2 c1)
        have HK2 := Lib.hid (fun w3 => kf_one w3 c2)
        have HA2 := Lib.hid hba2
        rw [hv1] at HO1 HK1 HA2
        simp only [hv2] at HK2
        have HV1 := Lib.hid hv1
        have HV2 := Lib.hid hv2
        have HTV := Lib.hid ht2
        have HL1 := Lib.hid (show (V.map (cutC w.heap.size (w.heap.size + 1))).length + [c1].length = cn + 1 by have := HCN.out; simp; omega)
        have HR1 := Lib.hid (show ((V.map (cutC w.heap.size (w.heap.size + 1))).length + [c1].length) * (KF.bytes + 1) ≤ 1099511627776 by have := HVL.out; have := HFL.out; show ((V.map _).length + 1) * 9 ≤ _; rw [List.length_map]; omega)
        have HL2 := Lib.hid (show (V.map (syncC w.heap.size)).length + [c2].length = sn + 1 by have := HSN.out; simp; omega)
        have HR2 := Lib.hid (show ((V.map (syncC w.heap.size)).length + [c2].length) * (KF.bytes + 1) ≤ 1099511627776 by have := HVL.out; have := HFL.out; show ((V.map _).length + 1) * 9 ≤ _; rw [List.length_map]; omega)
        have HS1 := Lib.hid (show w.heap.size ≤ (w2.alloc (.cells #[.func (.func 65) #[] #[.pointer (some ⟨w.heap.size, 0, none⟩), .pointer (some ⟨bf, 0, none⟩), .pointer (some ⟨w.heap.size + 1, 0, none⟩)]] 33)).heap.size from Nat.le_trans HB2.out.size HA2.out.size)
        clear hlf hlz hc1 hc2 hv1 hv2 ht2 hba2
        go_upto_region 7 with (refine wpList_append_grow (K := KF) rfl (.tmp 18) (.tmp 20) 79 rfl Tryd.underlying79 w.heap.size rfl HO1.out _ [c1] rfl HK1.out (by simp) (cn + 1) HL1.out HR1.out HS1.out ?_; intro g3 cap3 w3 hown3 hgr3 hk3 hlt3)
        have htv3 := HTV.out.cut hgr3 hown3 (fun k hk => by cases hk; exact hk3)
        have HBD3 := Lib.hid (grown_block HTV.out.cuts hgr3 HBD2.out (by decide))
        have HBS3 := Lib.hid (grown_block HTV.out.cuts hgr3 HBS2.out (by decide))
        have hb3 := grown_below HTV.out.cuts hgr3 HB2.out HB2.out.size
        have hba3 : Below w3.heap.size w3 (w3.alloc (.cells #[.func (.func 67) #[] #[.pointer (some ⟨w.heap.size, 0, none⟩), .pointer (some ⟨bf, 0, none⟩)]] 33)) := (Below.refl _ _).alloc (Nat.le_refl _) _
        have HO3 := Lib.hid (htv3.below hba3).syncs
        have HS3 := Lib.hid (Nat.le_trans hb3.size hba3.size)
        have HT3 := Lib.hid htv3
        have HB3 := Lib.hid hb3
        have HKK := Lib.hid (HK2.out w3)
        clear htv3 hb3 hba3 hown3 hgr3 hk3 hlt3
        go_wp2_with (refine wpList_append_grow (K := KF) rfl (.tmp 22) (.tmp 24) 79 rfl Tryd.underlying79 w.heap.size rfl HO3.out _ [c2] rfl HKK.out (by simp) (sn + 1) HL2.out HR2.out HS3.out ?_; intro g4 cap4 w4 hown4 hgr4 hk4 hlt4)
        have HT4 := Lib.hid (HT3.out.sync hgr4 hown4 (fun k hk => by cases hk; exact hk4))
        have HBD4 := Lib.hid (grown_block HT3.out.syncs hgr4 HBD3.out (by decide))
        have HBS4 := Lib.hid (grown_block HT3.out.syncs hgr4 HBS3.out (by decide))
        have HB4 := Lib.hid (grown_below HT3.out.syncs hgr4 HB3.out HB3.out.size)
        clear hown4 hgr4 hk4 hlt4
        go_roundw
        case rel => exact ⟨f + 1, V ++ [(f, bf)], by go_num, by have := HFL.out; omega, by have := HVL.out; rw [List.length_append, List.length_singleton]; omega, by rw [List.map_append, List.map_append, List.map_singleton, List.map_singleton, HC1.out, HC2.out]; exact HT4.out, HB4.out, HBD4.out, HBS4.out, by rw [HND.out, HYES.out, List.map_append, List.append_assoc]; rfl, fun p hp => by
          rcases List.mem_append.1 hp with h1 | h1
          · exact HV.out p h1
          · rw [List.mem_singleton.1 h1]; exact ⟨HFL.out, HLF.out⟩⟩
        case measure => simp [intOf]; have := HFL.out; omega
      · have hgti : ¬ (sz : Int) < (t.size : Int) := by omega
        have HNO := Lib.hid (needE_no (N := S.now) (last := last) (size := size) HFL.out (fun h => hgt (HNEED.out.2 (by rw [← HFLN.out]; exact h))))
        go_wp2
        go_roundw
        case rel => exact ⟨f + 1, V, by go_num, by omega, by have := HVL.out; omega, HT2.out, HB2.out, HBD2.out, HBS2.out, by rw [HND.out, HNO.out], HV.out⟩
        case measure => simp [intOf]; omega
    · obtain rfl : f = 64 := by omega
      have hneed : needL S.now last size = V.map (·.1) := by rw [HND.out, needE_end, List.append_nil]
      have HNE := Lib.hid hneed
      have HZV := Lib.hid (fun (p : Nat × Nat) (hp : p ∈ V) => show (staysN S.now last size)[p.1]? = some (left last size p.1 : Int) by
        rw [staysN_get (HV.out p hp).1]
        unfold stayN
        rw [if_neg (by have := (HV.out p hp).2; omega)])
      by_cases hV0 : V.length = 0
      · obtain rfl := List.eq_nil_of_length_eq_zero hV0
        simp only [List.length_nil] at hcn hsn
        subst hcn hsn
        have hcc : 0 ≤ cc := Nat.zero_le _
        have hd9 : DAt wr g lv S := HD.out.kept (F := fun _ => False) (Frm.of_below hbel) id (fun _ _ => id)
        have HST := Lib.hid (code_steps (last := last) (size := size) wr hd9 HS.out HNN.out (V := []) htr.cuts hbd (Z := staysN S.now last size) (by rw [HZ.out]; exact hbs) (fun p hp => by simp at hp) (by simp))
        clear htr hbd hbs hnd hV hneed hd9
        go_wp2_with (first
          | (refine wpList_append_none KF rfl (.tmp 27) (.tmp 28) 79 rfl Tryd.underlying79 _ _ _ rfl hcc _ _ rfl ?_)
          | (go_at_call 43; refine HST.out.mono ?_; rintro e w10 ⟨rfl, lv10, hl10⟩))
        go_ret
        rw [HNE.out]
        exact ⟨rfl, lv10, left_of_below HBEL.out hl10⟩
      · have HL1 := Lib.hid (show (V.map (cutC w.heap.size (w.heap.size + 1))).length + (V.map (syncC w.heap.size)).length = cn + sn by simp; omega)
        have HR1 := Lib.hid (show ((V.map (cutC w.heap.size (w.heap.size + 1))).length + (V.map (syncC w.heap.size)).length) * (KF.bytes + 1) ≤ 1099511627776 by show ((V.map _).length + (V.map _).length) * 9 ≤ _; rw [List.length_map, List.length_map]; omega)
        have HP1 := Lib.hid (show 0 < (V.map (syncC w.heap.size)).length by rw [List.length_map]; omega)
        have HAT := Lib.hid htr.syncs.reads
        have HD9 := Lib.hid (fun w9 (hb : Below w.heap.size w w9) => show DAt w9 g lv S from HD.out.kept (F := fun _ => False) (Frm.of_below hb) id (fun _ _ => id))
        have HVL := Lib.hid hVl
        clear htr hbel hbd hbs hnd hV hneed hcn hsn hVl
        go_wp2_with (refine wpList_append_grow (K := KF) rfl (.tmp 27) (.tmp 28) 79 rfl Tryd.underlying79 w.heap.size rfl HTR.out.cuts _ (V.map (syncC w.heap.size)) rfl HAT.out HP1.out (cn + sn) HL1.out HR1.out HBEL.out.size ?_; intro g3 cap3 w3 hown3 hgr3 hk3 hlt3)
        have hb3 : Below w.heap.size w w3 := HBEL.out.grown hgr3 HBEL.out.size HTR.out.cuts.base
        have HST := Lib.hid (code_steps (last := last) (size := size) w3 (HD9.out w3 hb3) HS.out HNN.out (V := V) hown3 (grown_block0 HTR.out.cuts hgr3 HBD.out (by decide)) (Z := staysN S.now last size) (by rw [HZ.out]; exact grown_block0 HTR.out.cuts hgr3 HBS.out (by decide))
          (fun p hp => ⟨(HV.out p hp).1, grown_block0 HTR.out.cuts hgr3 (HTR.out.vars p hp) (by decide), HZV.out p hp⟩) HVL.out)
        have HB3 := Lib.hid hb3
        clear hb3 hown3 hgr3 hk3 hlt3
        refine HST.out.mono ?_
        rintro e w10 ⟨rfl, lv10, hl10⟩
        go_wp2
        go_ret
        rw [HNE.out]
        exact ⟨rfl, lv10, left_of_below HB3.out hl10⟩
end
end Go.Proofs.YtepcfmigkhacgaaDoor.Rl
