/- reel: plain mathematics: what records files have; what a torn row of frames has. -/
import Derived.Test.YtepcfmigkhacgaaDoorFrMath
import Derived.Test.YtepcfmigkhacgaaDoorDkR
namespace Go.Proofs.YtepcfmigkhacgaaDoor.Rl
open Go.Proofs.YtepcfmigkhacgaaDoor.Frame

abbrev Tx := List UInt8
/-- Texts' frames, one behind the other. -/
def frs (T : List Tx) : List UInt8 := (T.map frameL).flatten
theorem frs_nil : frs [] = [] := rfl
theorem frs_cons (t : Tx) (T : List Tx) : frs (t :: T) = frameL t ++ frs T := rfl
theorem frs_app (A B : List Tx) : frs (A ++ B) = frs A ++ frs B := by simp [frs]
theorem frs_one (t : Tx) : frs [t] = frameL t := by simp [frs]
theorem frs_len0 {T : List Tx} (h : (frs T).length = 0) : T = [] := by
  cases T with
  | nil => rfl
  | cons t T =>
    rw [frs_cons, List.length_append, frameL_len] at h
    omega
theorem frs_ge (T : List Tx) : 9 * T.length ≤ (frs T).length := by
  induction T with
  | nil => simp [frs]
  | cons t T ih =>
    rw [frs_cons, List.length_append, frameL_len, List.length_cons]
    omega
theorem frs_le (T : List Tx) (n : Nat) (h : ∀ t ∈ T, t.length ≤ n) : (frs T).length ≤ (n + 9) * T.length := by
  induction T with
  | nil => simp [frs]
  | cons t T ih =>
    have h1 := ih (fun x hx => h x (by simp [hx]))
    have h2 := h t (by simp)
    rw [frs_cons, List.length_append, frameL_len, List.length_cons, Nat.mul_add, Nat.mul_one]
    omega
theorem take_nil : (takeL []).2.2 ≠ 0 := by decide
/-- What frames with something torn behind them have. -/
theorem scan_pref (X : List Tx) (rest : List UInt8) (h : ∀ x ∈ X, x.length ≤ 65536) : ∀ m, X.length ≤ m → (X.length = m ∨ (takeL rest).2.2 ≠ 0) → scanL m (frs X ++ rest) = (X, (frs X).length) := by
  induction X with
  | nil =>
    intro m hm hr
    rcases hr with hr | hr
    · simp at hr
      subst hr
      rfl
    · rw [frs_nil, List.nil_append, scanL_none m hr]
      rfl
  | cons x X ih =>
    intro m hm hr
    obtain ⟨m, rfl⟩ : ∃ k, m = k + 1 := ⟨m - 1, by simp at hm; omega⟩
    have hd : (frameL x ++ (frs X ++ rest)).drop (x.length + 9) = frs X ++ rest := by
      rw [← frameL_len, List.drop_append_of_le_length (Nat.le_refl _), List.drop_of_length_le (Nat.le_refl _), List.nil_append]
    rw [frs_cons, List.append_assoc, scanL, take_frame x _ (h x (by simp)), if_pos rfl]
    simp only []
    rw [hd, ih (fun y hy => h y (by simp [hy])) m (by simpa using hm) (by rcases hr with hr | hr; exact Or.inl (by simpa using hr); exact Or.inr hr)]
    simp only [List.length_append, frameL_len]

/-- The bytes of a file. -/
def fileN (N : List ByteArray) (f : Nat) : List UInt8 := (N.getD f ⟨#[]⟩).data.toList
/-- The records of files from one on; the last file, how many bytes of it they have. -/
def recN (N : List ByteArray) : Nat → Nat → List Tx × Nat × Nat
  | 0, f => ([], f, 0)
  | n + 1, f =>
    if (scanL 8 (fileN N f)).1.length < 8 ∨ (scanL 8 (fileN N f)).2 < (fileN N f).length ∨ f = 63 then ((scanL 8 (fileN N f)).1, f, (scanL 8 (fileN N f)).2)
    else ((scanL 8 (fileN N f)).1 ++ (recN N n (f + 1)).1, (recN N n (f + 1)).2)
def recs (N : List ByteArray) : List Tx × Nat × Nat := recN N 64 0
/-- The texts of a file. -/
def fileT (all : List Tx) (f : Nat) : List Tx := (all.drop (8 * f)).take 8
theorem fileT_len (all : List Tx) (f : Nat) : (fileT all f).length = min 8 (all.length - 8 * f) := by simp [fileT]
theorem fileT_mem {all : List Tx} {f : Nat} {t : Tx} (h : t ∈ fileT all f) : t ∈ all := List.mem_of_mem_drop (List.mem_of_mem_take h)
theorem take_file (all : List Tx) (f c : Nat) (hc : c ≤ 8) : all.take (8 * f) ++ (fileT all f).take c = all.take (8 * f + c) := by
  unfold fileT
  rw [List.take_take, Nat.min_eq_left hc, List.take_add]
theorem fileT_take (all : List Tx) (m f : Nat) : fileT (all.take m) f = (fileT all f).take (m - 8 * f) := by
  unfold fileT
  rw [List.drop_take, List.take_take, List.take_take, Nat.min_comm]

/-- Files of which those ahead of one have all their eight texts, and this one some of its own, with something torn behind: they tell a beginning. -/
structure Shape (N : List ByteArray) (all : List Tx) (last c : Nat) : Prop where
  lt : last < 64
  c8 : c ≤ (fileT all last).length
  small : ∀ t ∈ all, t.length ≤ 65536
  ahead : ∀ f, f < last → fileN N f = frs (fileT all f) ∧ (fileT all f).length = 8
  here : ∃ rest, fileN N last = frs ((fileT all last).take c) ++ rest ∧ (c = 8 ∨ (takeL rest).2.2 ≠ 0) ∧ (c = 8 → last = 63 ∨ rest ≠ [])
theorem Shape.recN {N : List ByteArray} {all : List Tx} {last c : Nat} (h : Shape N all last c) : ∀ n f, f + n = 64 → f ≤ last → recN N n f = (((all.take (8 * last + c)).drop (8 * f)), last, (frs ((fileT all last).take c)).length) := by
  intro n
  induction n with
  | zero => intro f hf hl; have := h.lt; omega
  | succ n ih =>
    intro f hf hl
    have hc8 : c ≤ 8 := by
      have h1 := h.c8
      rw [fileT_len] at h1
      omega
    rw [Rl.recN]
    by_cases e : f = last
    · subst e
      obtain ⟨rest, h1, h2, h3⟩ := h.here
      have hcl : ((fileT all f).take c).length = c := by rw [List.length_take]; have := h.c8; omega
      have hs : scanL 8 (fileN N f) = ((fileT all f).take c, (frs ((fileT all f).take c)).length) := by
        rw [h1]
        exact scan_pref _ _ (fun x hx => h.small x (fileT_mem (List.mem_of_mem_take hx))) 8 (by rw [hcl]; omega) (by rw [hcl]; exact h2)
      rw [hs, if_pos (by
        show ((fileT all f).take c).length < 8 ∨ _
        rw [hcl]
        by_cases hc : c = 8
        · rcases h3 hc with h4 | h4
          · exact Or.inr (Or.inr h4)
          · refine Or.inr (Or.inl ?_)
            rw [h1, List.length_append]
            have : 0 < rest.length := List.length_pos_iff.2 h4
            show (frs ((fileT all f).take c)).length < _
            omega
        · exact Or.inl (by omega))]
      rw [← take_file all f c hc8, List.drop_append_of_le_length (by
        rw [List.length_take]
        have h4 := h.c8
        rw [fileT_len] at h4
        by_cases hc : c = 0
        · subst hc
          have : 8 * f ≤ all.length ∨ all.length < 8 * f := by omega
          rcases this with h5 | h5
          · omega
          · exfalso
            by_cases hf0 : f = 0
            · omega
            · obtain ⟨_, h6⟩ := h.ahead (f - 1) (by omega)
              rw [fileT_len] at h6
              omega
        · omega), List.drop_of_length_le (by rw [List.length_take]; omega), List.nil_append]
    · have hlt : f < last := by omega
      obtain ⟨h1, h2⟩ := h.ahead f hlt
      have hs : scanL 8 (fileN N f) = (fileT all f, (frs (fileT all f)).length) := by
        rw [h1]
        have := scan_pref (fileT all f) [] (fun x hx => h.small x (fileT_mem hx)) 8 (by omega) (Or.inl h2)
        rwa [List.append_nil] at this
      have hl63 := h.lt
      rw [hs, if_neg (by
        rw [h1]
        show ¬ ((fileT all f).length < 8 ∨ (frs (fileT all f)).length < (frs (fileT all f)).length ∨ f = 63)
        omega), ih (f + 1) (by omega) (by omega)]
      simp only [Prod.mk.injEq, and_true]
      have h8 : 8 * (f + 1) ≤ all.length := by
        rw [fileT_len] at h2
        omega
      have h3 : (all.take (8 * last + c)).drop (8 * f) = fileT all f ++ (all.take (8 * last + c)).drop (8 * (f + 1)) := by
        have e1 : fileT all f = ((all.take (8 * last + c)).drop (8 * f)).take 8 := by
          unfold fileT
          rw [List.drop_take, List.take_take, Nat.min_eq_left (by omega)]
        rw [e1, show 8 * (f + 1) = 8 * f + 8 by omega, ← List.drop_drop, List.take_append_drop]
      rw [h3]
theorem Shape.recs {N : List ByteArray} {all : List Tx} {last c : Nat} (h : Shape N all last c) : recs N = (all.take (8 * last + c), last, (frs ((fileT all last).take c)).length) := by
  have := h.recN 64 0 rfl (Nat.zero_le _)
  simpa [Rl.recs] using this
/-- Files that have just their texts' frames. -/
theorem shape_whole {N : List ByteArray} {all : List Tx} (hs : ∀ t ∈ all, t.length ≤ 65536) (hl : all.length ≤ 512) (hN : ∀ f, f < 64 → fileN N f = frs (fileT all f)) : ∃ last c, Shape N all last c ∧ all.take (8 * last + c) = all ∧ c = (fileT all last).length := by
  by_cases h : all.length = 512
  · refine ⟨63, 8, ⟨by omega, by rw [fileT_len]; omega, hs, fun f hf => ⟨hN f (by omega), by rw [fileT_len]; omega⟩, [], ?_, Or.inr take_nil, fun _ => Or.inl rfl⟩, List.take_of_length_le (by omega), by rw [fileT_len]; omega⟩
    rw [hN 63 (by omega), List.take_of_length_le (by rw [fileT_len]; omega), List.append_nil]
  · refine ⟨all.length / 8, all.length % 8, ⟨by omega, by rw [fileT_len]; omega, hs, fun f hf => ⟨hN f (by omega), by rw [fileT_len]; omega⟩, [], ?_, Or.inr take_nil, fun h => by omega⟩, List.take_of_length_le (by omega), by rw [fileT_len]; omega⟩
    rw [hN (all.length / 8) (by omega), List.take_of_length_le (by rw [fileT_len]; omega), List.append_nil]
/-- What is taken is what a frame of it begins with. -/
theorem take_ok_frame {l : List UInt8} (h : (takeL l).2.2 = 0) : l.take (takeL l).2.1 = frameL (takeL l).1 ∧ (takeL l).1.length ≤ 65536 := by
  unfold takeL at h ⊢
  by_cases h1 : l.length < 9
  · rw [if_pos h1] at h; simp at h
  rw [if_neg h1] at h ⊢
  by_cases h2 : 65536 < valL (l.take 4)
  · rw [if_pos h2] at h; simp at h
  rw [if_neg h2] at h ⊢
  by_cases h3 : l.length < valL (l.take 4) + 9
  · rw [if_pos h3] at h; simp at h
  rw [if_neg h3] at h ⊢
  by_cases h4 : l.getD (valL (l.take 4) + 8) 0 ≠ 90
  · rw [if_pos h4] at h; simp at h
  rw [if_neg h4] at h ⊢
  by_cases h5 : checkN (l.take 4 ++ (l.drop 8).take (valL (l.take 4))) ≠ valL ((l.drop 4).take 4)
  · rw [if_pos h5] at h; simp at h
  rw [if_neg h5]
  have e4 : fourL (valL (l.take 4)) = l.take 4 := four_val _ (by rw [List.length_take]; omega)
  have e8 := four_val ((l.drop 4).take 4) (by rw [List.length_take, List.length_drop]; omega)
  rw [← Decidable.of_not_not h5] at e8
  obtain ⟨n, hn⟩ : ∃ n, valL (l.take 4) = n := ⟨_, rfl⟩
  rw [hn] at h2 h3 h4 e4 e8 ⊢
  have hl : ((l.drop 8).take n).length = n := by rw [List.length_take, List.length_drop]; omega
  refine ⟨?_, by show ((l.drop 8).take n).length ≤ 65536; omega⟩
  show l.take (n + 9) = frameL ((l.drop 8).take n)
  unfold frameL
  rw [hl]
  have e90 : [l.getD (n + 8) 0] = [(90 : UInt8)] := by rw [Decidable.of_not_not h4]
  rw [e4, e8, ← e90]
  have s1 : l.take (n + 9) = l.take 4 ++ (l.drop 4).take (n + 5) := by rw [show n + 9 = 4 + (n + 5) by omega, List.take_add]
  have s2 : (l.drop 4).take (n + 5) = (l.drop 4).take 4 ++ (l.drop 8).take (n + 1) := by rw [show n + 5 = 4 + (n + 1) by omega, List.take_add, List.drop_drop]
  have s3 : (l.drop 8).take (n + 1) = (l.drop 8).take n ++ [l.getD (n + 8) 0] := by
    have hlt : n < (l.drop 8).length := by rw [List.length_drop]; omega
    rw [List.take_succ_eq_append_getElem hlt, List.getElem_drop, List.getD, List.getElem?_eq_getElem (show n + 8 < l.length by omega)]
    simp [Nat.add_comm]
  rw [s1, s2, s3]
  simp [List.append_assoc]
/-- What was scanned are frames. -/
theorem scan_took : ∀ (m : Nat) (l : List UInt8), l = frs (scanL m l).1 ++ l.drop (scanL m l).2 ∧ (frs (scanL m l).1).length = (scanL m l).2 ∧ (∀ t ∈ (scanL m l).1, t.length ≤ 65536) ∧ (scanL m l).1.length ≤ m ∧ ((scanL m l).1.length < m → (takeL (l.drop (scanL m l).2)).2.2 ≠ 0)
  | 0, l => ⟨by simp [scanL, frs], by simp [scanL, frs], by simp [scanL], by simp [scanL], by simp [scanL]⟩
  | m + 1, l => by
    rw [scanL]
    by_cases h : (takeL l).2.2 = 0
    · rw [if_pos h]
      obtain ⟨h1, h2⟩ := take_ok_frame h
      obtain ⟨k1, k2, k3, k4, k5⟩ := scan_took m (l.drop (takeL l).2.1)
      have hsz := (takeL_size l).1
      have hfl : (frameL (takeL l).1).length = (takeL l).2.1 := by rw [← h1, List.length_take]; omega
      refine ⟨?_, ?_, ?_, ?_, ?_⟩
      · show l = frs ((takeL l).1 :: _) ++ _
        rw [frs_cons, List.append_assoc, ← List.drop_drop, ← k1, ← h1, List.take_append_drop]
      · show (frs ((takeL l).1 :: _)).length = _
        rw [frs_cons, List.length_append, hfl, k2]
      · intro t ht
        rcases List.mem_cons.1 ht with rfl | ht
        · exact h2
        · exact k3 t ht
      · show (_ :: _).length ≤ m + 1
        rw [List.length_cons]; omega
      · intro hlt
        have hlt' : (scanL m (l.drop (takeL l).2.1)).1.length < m := by
          have : ((takeL l).1 :: (scanL m (l.drop (takeL l).2.1)).1).length < m + 1 := hlt
          rw [List.length_cons] at this
          omega
        have := k5 hlt'
        rw [List.drop_drop] at this
        exact this
    · rw [if_neg h]
      refine ⟨by simp [frs], by simp [frs], by simp, by simp, fun _ => by simpa using h⟩
/-- Whatever the files are: they have the shape of what they tell. -/
theorem rec_shape (N : List ByteArray) : ∀ n f (pre : List Tx), f + n = 64 → 0 < n → pre.length = 8 * f → (∀ t ∈ pre, t.length ≤ 65536) → (∀ g, g < f → fileN N g = frs (fileT pre g) ∧ (fileT pre g).length = 8) →
    ∃ last c, Shape N (pre ++ (recN N n f).1) last c ∧ (pre ++ (recN N n f).1).length = 8 * last + c ∧ last < 64
  | 0, _, _, _, h0, _, _, _ => absurd h0 (by omega)
  | n + 1, f, pre, hf, _, hp, hs, ha => by
    obtain ⟨k1, k2, k3, k4, k5⟩ := scan_took 8 (fileN N f)
    rw [recN]
    obtain ⟨T, sz, hx⟩ : ∃ T sz, scanL 8 (fileN N f) = (T, sz) := ⟨_, _, rfl⟩
    rw [hx] at k1 k2 k3 k4 k5 ⊢
    simp only [] at k1 k2 k3 k4 k5 ⊢
    have hpre : ∀ g, g < f → ∀ M, fileT (pre ++ M) g = fileT pre g := fun g hg M => by
      unfold fileT
      rw [List.drop_append_of_le_length (by omega), List.take_append_of_le_length (by rw [List.length_drop]; omega)]
    have hhere : ∀ M, T.length = 8 ∨ M = [] → fileT (pre ++ (T ++ M)) f = T := fun M hM => by
      unfold fileT
      rw [List.drop_append_of_le_length (by omega), List.drop_of_length_le (by omega), List.nil_append]
      rcases hM with hM | rfl
      · rw [List.take_append_of_le_length (by omega), List.take_of_length_le (by omega)]
      · rw [List.append_nil, List.take_of_length_le (by omega)]
    by_cases hc : T.length < 8 ∨ sz < (fileN N f).length ∨ f = 63
    · rw [if_pos hc]
      have hT := hhere [] (Or.inr rfl)
      rw [List.append_nil] at hT
      refine ⟨f, T.length, ⟨by omega, by rw [hT]; exact Nat.le_refl _, fun t ht => ?_, fun g hg => ?_, (fileN N f).drop sz, ?_, ?_, fun h8 => ?_⟩, by show (pre ++ T).length = _; rw [List.length_append]; omega, by omega⟩
      · rcases List.mem_append.1 ht with ht | ht
        · exact hs t ht
        · exact k3 t ht
      · rw [hpre g hg]
        exact ha g hg
      · rw [hT, List.take_of_length_le (Nat.le_refl _)]
        exact k1
      · by_cases h8 : T.length < 8
        · exact Or.inr (k5 h8)
        · exact Or.inl (by omega)
      · rcases hc with hc | hc | hc
        · omega
        · right
          intro h
          have := congrArg List.length h
          rw [List.length_drop] at this
          simp at this
          omega
        · exact Or.inl hc
    · rw [if_neg hc]
      have h8 : T.length = 8 := by omega
      have hsz : (fileN N f).length ≤ sz := by omega
      have hfile : fileN N f = frs T := by
        have e := k1
        rw [List.drop_of_length_le hsz, List.append_nil] at e
        exact e
      obtain ⟨last, c, h1, h2, h3⟩ := rec_shape N n (f + 1) (pre ++ T) (by omega) (by omega) (by rw [List.length_append]; omega) (fun t ht => by
        rcases List.mem_append.1 ht with ht | ht
        · exact hs t ht
        · exact k3 t ht) (fun g hg => by
        by_cases e : g = f
        · subst e
          have := hhere [] (Or.inr rfl)
          rw [List.append_nil] at this
          rw [this]
          exact ⟨hfile, h8⟩
        · rw [hpre g (by omega)]
          exact ha g (by omega))
      rw [List.append_assoc] at h1 h2
      exact ⟨last, c, h1, h2, h3⟩
end Go.Proofs.YtepcfmigkhacgaaDoor.Rl

namespace Go.Proofs.YtepcfmigkhacgaaDoor.Rl
open Go.Proofs.YtepcfmigkhacgaaDoor.Frame Go.Proofs.YtepcfmigkhacgaaDoor.Dk

abbrev bt (l : List UInt8) : ByteArray := ⟨l.toArray⟩
theorem bt_size (l : List UInt8) : (bt l).size = l.length := by simp [ByteArray.size]
/-- Changes, each with how much of it is kept. -/
def runC (b : List UInt8) (L : List (Ch × Nat)) : List UInt8 := L.foldl (fun b p => doneB p.1 b p.2) b
def ofF (f : Nat) (L : List Ch) : List Ch := L.filter fun c => c.file == f
theorem crash_fold (sure : List ByteArray) (keep : List Int) (L : List Ch) (f : Nat) (hf : f < 64) : ∀ n, n ≤ L.length →
    ∃ ks : List Nat, ks.length = (ofF f (L.take n)).length ∧ getX sure (crashN sure keep L n) f = runC (sure.getD f ⟨#[]⟩).data.toList ((ofF f (L.take n)).zip ks)
  | 0, _ => ⟨[], rfl, by
    refine (getX_none ?_ rfl)
    unfold crashN
    rw [List.getD_eq_getElem?_getD, List.getElem?_replicate]
    split <;> rfl⟩
  | n + 1, hl => by
    obtain ⟨ks, h1, h2⟩ := crash_fold sure keep L f hf n (by omega)
    have hx := List.getElem?_eq_getElem (show n < L.length by omega)
    obtain ⟨c, hc⟩ : ∃ c, L[n] = c := ⟨_, rfl⟩
    rw [hc] at hx
    rw [crashN_step hx, getX_step (crashN_len _ _ _ _) _ _ _ hf, h2, List.take_add_one, hx]
    by_cases e : c.file = f
    · refine ⟨ks ++ [keptN keep n], by simp [ofF, e, h1], ?_⟩
      rw [if_pos e]
      have e1 : ofF f (L.take n ++ (some c).toList) = ofF f (L.take n) ++ [c] := by simp [ofF, e]
      rw [e1, List.zip_append h1.symm]
      simp [runC, List.foldl_append]
    · refine ⟨ks, by simp [ofF, e]; simpa [ofF] using h1, ?_⟩
      rw [if_neg e]
      have e1 : ofF f (L.take n ++ (some c).toList) = ofF f (L.take n) := by simp [ofF, e]
      rw [e1]
theorem crash_file (S : St) (keep : List Int) (h : S.sure.length = 64) {f : Nat} (hf : f < 64) :
    ∃ ks : List Nat, ks.length = (ofF f S.loose).length ∧ fileN (crashQ S keep) f = runC (fileN S.sure f) ((ofF f S.loose).zip ks) := by
  obtain ⟨ks, h1, h2⟩ := crash_fold S.sure keep S.loose f hf S.loose.length (Nat.le_refl _)
  rw [List.take_length] at h1 h2
  exact ⟨ks, h1, by unfold fileN; rw [crashQ_get S keep h hf]; exact h2⟩

/-- Texts' frames put from a place on. -/
def chsF (f : Nat) : Nat → List Tx → List Ch
  | _, [] => []
  | o, t :: T => ⟨f, o, false, bt (frameL t)⟩ :: chsF f (o + (frameL t).length) T
theorem chsF_len (f : Nat) (T : List Tx) : ∀ o, (chsF f o T).length = T.length := by
  induction T with
  | nil => intro o; rfl
  | cons t T ih => intro o; rw [chsF, List.length_cons, ih, List.length_cons]
theorem chsF_app (f : Nat) (A B : List Tx) : ∀ o, chsF f o (A ++ B) = chsF f o A ++ chsF f (o + (frs A).length) B := by
  induction A with
  | nil => intro o; rfl
  | cons t A ih =>
    intro o
    rw [List.cons_append, chsF, ih, chsF, frs_cons, List.length_append, List.cons_append, Nat.add_assoc]
/-- What one change comes to where the file ends ahead of it. -/
theorem done_end (f o k : Nat) (t b : List UInt8) (hb : b.length ≤ o) : doneB ⟨f, o, false, bt t⟩ b k = if min k t.length = 0 then b else b ++ List.replicate (o - b.length) 0 ++ t.take k := by
  unfold doneB
  by_cases hk : k = 0
  · subst hk
    rw [if_pos rfl, if_pos (by omega)]
  · rw [if_neg hk, if_neg (by simp)]
    show (if min k (bt t).size = 0 then b else _) = _
    rw [bt_size]
    by_cases hm : min k t.length = 0
    · rw [if_pos hm, if_pos hm]
    · rw [if_neg hm, if_neg hm]
      show doneT o (t.take k) b = _
      unfold doneT
      have hl : 0 < (t.take k).length := by rw [List.length_take]; omega
      generalize t.take k = u at *
      have e1 : List.replicate (o + u.length - b.length) (0 : UInt8) = List.replicate (o - b.length) 0 ++ List.replicate u.length 0 := by
        rw [List.replicate_append_replicate]
        congr 1
        omega
      rw [e1, ← List.append_assoc, List.take_append_of_le_length (by rw [List.length_append, List.length_replicate]; omega), List.take_of_length_le (by rw [List.length_append, List.length_replicate]; omega),
        List.drop_of_length_le (by simp only [List.length_append, List.length_replicate]; omega), List.append_nil]
theorem done_len (f o k : Nat) (t b : List UInt8) (hb : b.length ≤ o) : (doneB ⟨f, o, false, bt t⟩ b k).length ≤ o + t.length := by
  rw [done_end f o k t b hb]
  split
  · omega
  · rw [List.length_append, List.length_append, List.length_replicate, List.length_take]
    omega
/-- Behind something torn: bytes 0 up to where its frame would have ended. -/
structure Torn (b fr : List UInt8) (k : Nat) (x : List UInt8) : Prop where
  kl : k < fr.length
  more : ∃ rest, x = b ++ rest ∧ k ≤ rest.length ∧ ∀ i, i < fr.length → i < rest.length → rest.getD i 0 = if i < k then fr.getD i 0 else 0
theorem Torn.run {f : Nat} {b fr : List UInt8} {k : Nat} (T : List Tx) : ∀ (o : Nat) (x : List UInt8) (ks : List Nat), Torn b fr k x → x.length ≤ o → b.length + fr.length ≤ o → ks.length = T.length → Torn b fr k (runC x ((chsF f o T).zip ks)) := by
  induction T with
  | nil => intro o x ks h _ _ _; exact h
  | cons t T ih =>
    intro o x ks h hx ho hk
    obtain ⟨k2, ks, rfl⟩ : ∃ a l, ks = a :: l := by
      cases ks with
      | nil => simp at hk
      | cons a l => exact ⟨a, l, rfl⟩
    rw [chsF, List.zip_cons_cons]
    show Torn b fr k (runC (doneB ⟨f, o, false, bt (frameL t)⟩ x k2) _)
    refine ih _ _ ks ?_ (done_len f o k2 (frameL t) x hx) (by omega) (by simpa using hk)
    rw [done_end f o k2 (frameL t) x hx]
    split
    · exact h
    · obtain ⟨hkl, rest, rfl, h1, h2⟩ := h
      refine ⟨hkl, rest ++ List.replicate (o - (b ++ rest).length) 0 ++ (frameL t).take k2, by simp [List.append_assoc], by simp only [List.length_append]; omega, fun i hi hl => ?_⟩
      by_cases hr : i < rest.length
      · rw [List.getD, List.append_assoc, List.getElem?_append_left hr, ← List.getD]
        exact h2 i hi hr
      · rw [if_neg (by omega), List.getD, List.append_assoc, List.getElem?_append_right (by omega), List.getElem?_append_left (by rw [List.length_replicate, List.length_append]; omega), List.getElem?_replicate, if_pos (by rw [List.length_append]; omega)]
        rfl
/-- Frames that were put from a file's end on, of which a crash keeps what it will. -/
theorem torn_run (f : Nat) (T : List Tx) : ∀ (b : List UInt8) (ks : List Nat), ks.length = T.length → (∀ t ∈ T, t.length ≤ 65536) →
    ∃ j rest, j ≤ T.length ∧ runC b ((chsF f b.length T).zip ks) = b ++ frs (T.take j) ++ rest ∧ (takeL rest).2.2 ≠ 0 ∧ (j = T.length → rest = []) := by
  induction T with
  | nil => intro b ks _ _; exact ⟨0, [], Nat.le_refl _, by simp [chsF, runC, frs], take_nil, fun _ => rfl⟩
  | cons t T ih =>
    intro b ks hk hs
    obtain ⟨k, ks, rfl⟩ : ∃ a l, ks = a :: l := by
      cases ks with
      | nil => simp at hk
      | cons a l => exact ⟨a, l, rfl⟩
    have hlf := frameL_len t
    rw [chsF, List.zip_cons_cons]
    have e0 : ∀ M, runC b ((⟨f, b.length, false, bt (frameL t)⟩, k) :: M) = runC (doneB ⟨f, b.length, false, bt (frameL t)⟩ b k) M := fun _ => rfl
    rw [e0, done_end f b.length k (frameL t) b (Nat.le_refl _), Nat.sub_self, List.replicate_zero, List.append_nil]
    by_cases hkf : (frameL t).length ≤ k
    · rw [if_neg (by omega), List.take_of_length_le hkf]
      obtain ⟨j, rest, h1, h2, h3, h4⟩ := ih (b ++ frameL t) ks (by simpa using hk) (fun x hx => hs x (by simp [hx]))
      rw [List.length_append] at h2
      refine ⟨j + 1, rest, by simpa using h1, ?_, h3, fun h => h4 (by simpa using h)⟩
      rw [h2, List.take_succ_cons, frs_cons]
      simp [List.append_assoc]
    · have ht : Torn b (frameL t) k (if min k (frameL t).length = 0 then b else b ++ (frameL t).take k) := by
        refine ⟨by omega, (frameL t).take k, ?_, by rw [List.length_take]; omega, fun i hi hl => ?_⟩
        · split
          · have : k = 0 := by omega
            subst this
            simp
          · rfl
        · rw [List.length_take] at hl
          rw [if_pos (by omega), List.getD, List.getElem?_take, if_pos (by omega)]
          rfl
      have hr := Torn.run (f := f) T (b.length + (frameL t).length) _ ks ht (by
        split
        · omega
        · rw [List.length_append, List.length_take]; omega) (Nat.le_refl _) (by simpa using hk)
      obtain ⟨_, rest, h1, h2, h3⟩ := hr
      refine ⟨0, rest, Nat.zero_le _, by rw [h1]; simp [frs], ?_, fun h => by simp at h⟩
      exact take_torn t rest k (hs t (by simp)) (by omega) (fun i hi hl => h3 i (by omega) hl)
end Go.Proofs.YtepcfmigkhacgaaDoor.Rl

namespace Go.Proofs.YtepcfmigkhacgaaDoor.Rl
open Go.Proofs.YtepcfmigkhacgaaDoor.Frame Go.Proofs.YtepcfmigkhacgaaDoor.Dk

theorem fileN_set_self {N : List ByteArray} {f : Nat} (hf : f < N.length) (s : ByteArray) : fileN (N.set f s) f = s.data.toList := by unfold fileN; rw [getD_set_self hf]
theorem fileN_set_other {N : List ByteArray} {f g : Nat} (h : f ≠ g) (s : ByteArray) : fileN (N.set f s) g = fileN N g := by unfold fileN; rw [getD_set_other h]
theorem fileN_size (N : List ByteArray) (f : Nat) : (N.getD f ⟨#[]⟩).size = (fileN N f).length := by unfold fileN; rw [Array.length_toList]; rfl
theorem ofF_app (f : Nat) (A B : List Ch) : ofF f (A ++ B) = ofF f A ++ ofF f B := by simp [ofF]
theorem ofF_keep_self (f : Nat) (L : List Ch) : ofF f (keepF f L) = [] := by
  unfold ofF keepF
  rw [List.filter_filter, List.filter_eq_nil_iff]
  intro c _
  cases c.file == f <;> simp
theorem ofF_keep_other {f g : Nat} (h : f ≠ g) (L : List Ch) : ofF g (keepF f L) = ofF g L := by
  unfold ofF keepF
  rw [List.filter_filter]
  apply List.filter_congr
  intro c _
  by_cases e : c.file = g
  · have : ¬ c.file = f := by omega
    simp [e]
    omega
  · simp [e]
def updK (K : Nat → Nat) (f v : Nat) (g : Nat) : Nat := if g = f then v else K g

/-- A disk that has just these records; of each file so many are sure. -/
structure Rec (S : St) (all : List Tx) (K : Nat → Nat) : Prop where
  lenN : S.now.length = 64
  lenS : S.sure.length = 64
  len : all.length ≤ 512
  small : ∀ t ∈ all, t.length ≤ 65536
  now : ∀ f, f < 64 → fileN S.now f = frs (fileT all f)
  kle : ∀ f, K f ≤ (fileT all f).length
  sure : ∀ f, f < 64 → fileN S.sure f = frs ((fileT all f).take (K f))
  loose : ∀ f, f < 64 → ofF f S.loose = chsF f (frs ((fileT all f).take (K f))).length ((fileT all f).drop (K f))
theorem Rec.of_same {S T : St} {all : List Tx} {K : Nat → Nat} (h : Rec S all K) (h1 : T.now = S.now) (h2 : T.sure = S.sure) (h3 : T.loose = S.loose) : Rec T all K :=
  ⟨h1 ▸ h.lenN, h2 ▸ h.lenS, h.len, h.small, h1 ▸ h.now, h.kle, h2 ▸ h.sure, h3 ▸ h.loose⟩
theorem Rec.op {S : St} {all : List Tx} {K : Nat → Nat} (h : Rec S all K) : Rec (opS S).2 all K := h.of_same (opS_now S) (opS_sure S) (opS_loose S)
theorem Rec.power {S : St} {all : List Tx} {K : Nat → Nat} (h : Rec S all K) (n : Int) : Rec (powerS S n).2 all K := by
  unfold powerS
  split
  · split
    · exact h
    · exact h.of_same rfl rfl rfl
  · exact h
theorem fileT_snoc (all : List Tx) (s : Tx) (f : Nat) : fileT (all ++ [s]) f = if f = all.length / 8 then fileT all f ++ [s] else fileT all f := by
  unfold fileT
  by_cases h : f = all.length / 8
  · subst h
    rw [if_pos rfl, List.drop_append_of_le_length (by omega), List.take_of_length_le (by rw [List.length_append, List.length_drop, List.length_singleton]; omega), List.take_of_length_le (by rw [List.length_drop]; omega)]
  · rw [if_neg h]
    by_cases hlt : 8 * f < all.length
    · rw [List.drop_append_of_le_length (by omega), List.take_append_of_le_length (by rw [List.length_drop]; omega)]
    · rw [List.drop_of_length_le (by rw [List.length_append, List.length_singleton]; omega), List.drop_of_length_le (by omega)]
theorem Rec.append {S : St} {all : List Tx} {K : Nat → Nat} (h : Rec S all K) (s : Tx) (hs : s.length ≤ 65536) (hl : all.length < 512) :
    ((appendS S ((all.length / 8 : Nat) : Int) (bt (frameL s))).1 = 0 → Rec (appendS S ((all.length / 8 : Nat) : Int) (bt (frameL s))).2 (all ++ [s]) K) ∧
    ((appendS S ((all.length / 8 : Nat) : Int) (bt (frameL s))).1 ≠ 0 → Rec (appendS S ((all.length / 8 : Nat) : Int) (bt (frameL s))).2 all K) := by
  unfold appendS
  by_cases h1 : errF S.on ((all.length / 8 : Nat) : Int) ≠ 0
  · rw [if_pos h1]
    exact ⟨fun e => absurd e h1, fun _ => h⟩
  rw [if_neg h1]
  split
  · exact ⟨fun e => by simp at e, fun _ => h⟩
  by_cases h2 : (opS S).1 ≠ 0
  · rw [if_pos h2]
    exact ⟨fun e => absurd e h2, fun _ => h.op⟩
  rw [if_neg h2]
  refine ⟨fun _ => ?_, fun e => absurd rfl e⟩
  rw [Int.toNat_natCast]
  have h' := h.op
  generalize (opS S).2 = T at h'
  have hf : all.length / 8 < 64 := by omega
  obtain ⟨f, hfe⟩ : ∃ f, all.length / 8 = f := ⟨_, rfl⟩
  rw [hfe] at hf ⊢
  have hT := fun g => fileT_snoc all s g
  rw [hfe] at hT
  have hsz : (T.now.getD f ⟨#[]⟩).size = (frs (fileT all f)).length := by rw [fileN_size, h'.now f hf]
  refine ⟨by simp [putS, h'.lenN], h'.lenS, by rw [List.length_append, List.length_singleton]; omega, fun t ht => ?_, fun g hg => ?_, fun g => ?_, fun g hg => ?_, fun g hg => ?_⟩
  · rcases List.mem_append.1 ht with ht | ht
    · exact h'.small t ht
    · simp at ht
      subst ht
      exact hs
  · show fileN (T.now.set f (T.now.getD f ⟨#[]⟩ ++ bt (frameL s))) g = _
    rw [hT g]
    by_cases e : g = f
    · subst e
      rw [if_pos rfl, fileN_set_self (by rw [h'.lenN]; exact hg), ByteArray.data_append, Array.toList_append, frs_app, frs_one, ← h'.now g hg]
      rfl
    · rw [if_neg e, fileN_set_other (Ne.symm e)]
      exact h'.now g hg
  · rw [hT g]
    have := h'.kle g
    split
    · rw [List.length_append]; omega
    · exact this
  · show fileN T.sure g = _
    rw [h'.sure g hg, hT g]
    have := h'.kle g
    split
    · rw [List.take_append_of_le_length this]
    · rfl
  · show ofF g (T.loose ++ [⟨f, (T.now.getD f ⟨#[]⟩).size, false, bt (frameL s)⟩]) = _
    rw [ofF_app, h'.loose g hg, hT g]
    have hk := h'.kle g
    by_cases e : g = f
    · subst e
      rw [if_pos rfl, List.take_append_of_le_length hk, List.drop_append_of_le_length hk, chsF_app]
      have e2 : ofF g [(⟨g, (T.now.getD g ⟨#[]⟩).size, false, bt (frameL s)⟩ : Ch)] = [⟨g, (T.now.getD g ⟨#[]⟩).size, false, bt (frameL s)⟩] := by simp [ofF]
      rw [e2, hsz]
      congr 1
      show _ = [(⟨g, _, false, bt (frameL s)⟩ : Ch)]
      rw [← List.length_append, ← frs_app, List.take_append_drop]
    · rw [if_neg e]
      have e2 : ofF g [(⟨f, (T.now.getD f ⟨#[]⟩).size, false, bt (frameL s)⟩ : Ch)] = [] := by
        have : ¬ f = g := fun e3 => e e3.symm
        simp [ofF, this]
      rw [e2, List.append_nil]
theorem Rec.sync {S : St} {all : List Tx} {K : Nat → Nat} (h : Rec S all K) (f : Nat) (hf : f < 64) :
    ((syncerS S (f : Int)).1 = 0 → Rec (syncerS S (f : Int)).2 all (updK K f (fileT all f).length)) ∧ ((syncerS S (f : Int)).1 ≠ 0 → Rec (syncerS S (f : Int)).2 all K) := by
  unfold syncerS
  by_cases h1 : errF S.on (f : Int) ≠ 0
  · rw [if_pos h1]
    exact ⟨fun e => absurd e h1, fun _ => h⟩
  rw [if_neg h1]
  by_cases h2 : (opS S).1 ≠ 0
  · rw [if_pos h2]
    exact ⟨fun e => absurd e h2, fun _ => h.op⟩
  rw [if_neg h2]
  refine ⟨fun _ => ?_, fun e => absurd rfl e⟩
  rw [Int.toNat_natCast]
  have h' := h.op
  generalize (opS S).2 = T at h'
  refine ⟨h'.lenN, by simp [syncS, h'.lenS], h'.len, h'.small, h'.now, fun g => ?_, fun g hg => ?_, fun g hg => ?_⟩
  · unfold updK
    split
    · rename_i e; subst e; exact Nat.le_refl _
    · exact h'.kle g
  · show fileN (T.sure.set f (T.now.getD f ⟨#[]⟩)) g = _
    unfold updK
    by_cases e : g = f
    · subst e
      rw [if_pos rfl, fileN_set_self (by rw [h'.lenS]; exact hg), List.take_length, ← h'.now g hg]
      rfl
    · rw [if_neg e, fileN_set_other (Ne.symm e)]
      exact h'.sure g hg
  · show ofF g (keepF f T.loose) = _
    unfold updK
    by_cases e : g = f
    · subst e
      rw [if_pos rfl, ofF_keep_self, List.drop_of_length_le (Nat.le_refl _)]
      rfl
    · rw [if_neg e, ofF_keep_other (Ne.symm e)]
      exact h'.loose g hg

/-- So many of the first records are sure. -/
def Covers (K : Nat → Nat) (r : Nat) : Prop := ∀ i, i < r → i % 8 < K (i / 8)
/-- What a crash leaves tells a beginning, with all that is sure. -/
theorem Rec.crash {S : St} {all : List Tx} {K : Nat → Nat} (h : Rec S all K) (keep : List Int) :
    ∃ last c, Shape (crashQ S keep) all last c ∧ (c = 8 → last = 63) ∧ ∀ r, r ≤ all.length → Covers K r → r ≤ 8 * last + c := by
  have hfile : ∀ f, ∃ c, f < 64 → K f ≤ c ∧ c ≤ (fileT all f).length ∧ ∃ rest, fileN (crashQ S keep) f = frs ((fileT all f).take c) ++ rest ∧ (takeL rest).2.2 ≠ 0 ∧ (c = (fileT all f).length → rest = []) := by
    intro f
    by_cases hf : f < 64
    · obtain ⟨ks, h1, h2⟩ := crash_file S keep h.lenS hf
      rw [h.loose f hf] at h1 h2
      rw [h.sure f hf] at h2
      obtain ⟨j, rest, j1, j2, j3, j4⟩ := torn_run f ((fileT all f).drop (K f)) (frs ((fileT all f).take (K f))) ks (by rw [h1, chsF_len]) (fun t ht => h.small t (fileT_mem (List.mem_of_mem_drop ht)))
      have hk := h.kle f
      rw [List.length_drop] at j1 j4
      refine ⟨K f + j, fun _ => ⟨by omega, by omega, rest, ?_, j3, fun e => j4 (by omega)⟩⟩
      rw [h2, j2, ← frs_app, ← List.take_add]
    · exact ⟨0, fun hf' => absurd hf' hf⟩
  obtain ⟨C, hC⟩ := Classical.skolem.1 hfile
  have hlast : ∀ n, n ≤ 63 → ∃ last, last ≤ 63 ∧ 63 - n ≤ last ∧ (∀ f, 63 - n ≤ f → f < last → C f = 8) ∧ (C last = 8 → last = 63) := by
    intro n
    induction n with
    | zero => intro _; exact ⟨63, Nat.le_refl _, Nat.le_refl _, fun f h1 h2 => by omega, fun _ => rfl⟩
    | succ n ih =>
      intro hn
      by_cases e : C (63 - (n + 1)) = 8
      · obtain ⟨last, l1, l2, l3, l4⟩ := ih (by omega)
        refine ⟨last, l1, by omega, fun f h1 h2 => ?_, l4⟩
        by_cases e2 : f = 63 - (n + 1)
        · rw [e2]; exact e
        · exact l3 f (by omega) h2
      · exact ⟨63 - (n + 1), by omega, Nat.le_refl _, fun f h1 h2 => by omega, fun h => absurd h e⟩
  obtain ⟨last, l1, _, l3, l4⟩ := hlast 63 (Nat.le_refl _)
  have hl := hC last (by omega)
  refine ⟨last, C last, ⟨by omega, hl.2.1, h.small, fun f hf => ?_, ?_⟩, l4, fun r hr hcov => ?_⟩
  · have hc8 := l3 f (by omega) hf
    have hf' := hC f (by omega)
    have hlen : (fileT all f).length = 8 := by
      have := hf'.2.1
      rw [hc8, fileT_len] at this
      rw [fileT_len]; omega
    obtain ⟨rest, r1, _, r3⟩ := hf'.2.2
    rw [r3 (by omega), List.append_nil, List.take_of_length_le (by omega)] at r1
    exact ⟨r1, hlen⟩
  · obtain ⟨rest, r1, r2, r3⟩ := hl.2.2
    exact ⟨rest, r1, Or.inr r2, fun h => Or.inl (l4 h)⟩
  · by_cases hc : C last = 8
    · have := l4 hc
      have := h.len
      omega
    · by_cases hr2 : r ≤ 8 * last + C last
      · exact hr2
      · exfalso
        have hcl : C last < 8 := by
          have := hl.2.1
          rw [fileT_len] at this
          omega
        have h1 := hcov (8 * last + C last) (by omega)
        rw [show (8 * last + C last) % 8 = C last by omega, show (8 * last + C last) / 8 = last by omega] at h1
        omega
end Go.Proofs.YtepcfmigkhacgaaDoor.Rl

namespace Go.Proofs.YtepcfmigkhacgaaDoor.Rl
open Go.Proofs.YtepcfmigkhacgaaDoor.Frame Go.Proofs.YtepcfmigkhacgaaDoor.Dk

/-- How many bytes of a file opening leaves. -/
def left (last size f : Nat) : Nat := if f = last then size else 0
def needL (N : List ByteArray) (last size : Nat) : List Nat := (List.range 64).filter fun f => decide (last ≤ f ∧ left last size f < (fileN N f).length)
def cutAll (last size : Nat) : List Nat → St → Int × St
  | [], S => (0, S)
  | f :: L, S => if (cutterS S f (left last size f : Nat)).1 ≠ 0 then cutterS S f (left last size f : Nat) else cutAll last size L (cutterS S f (left last size f : Nat)).2
def syncAll : List Nat → St → Int × St
  | [], S => (0, S)
  | f :: L, S => if (syncerS S f).1 ≠ 0 then syncerS S f else syncAll L (syncerS S f).2
def openN (S : St) (last size : Nat) (L : List Nat) : Int × St := if (cutAll last size L S).1 ≠ 0 then cutAll last size L S else syncAll L (cutAll last size L S).2
def openS (S : St) : Int × St × List Tx :=
  if S.on = true then
    (if (openN S (recs S.now).2.1 (recs S.now).2.2 (needL S.now (recs S.now).2.1 (recs S.now).2.2)).1 = 0 then (0, (openN S (recs S.now).2.1 (recs S.now).2.2 (needL S.now (recs S.now).2.1 (recs S.now).2.2)).2, (recs S.now).1)
    else ((openN S (recs S.now).2.1 (recs S.now).2.2 (needL S.now (recs S.now).2.1 (recs S.now).2.2)).1, (openN S (recs S.now).2.1 (recs S.now).2.2 (needL S.now (recs S.now).2.1 (recs S.now).2.2)).2, []))
  else (100, S, [])

/-- Where an opening stands: some files cut, some of these sure. -/
structure Op (S : St) (N : List ByteArray) (last size : Nat) (D Y : Nat → Bool) : Prop where
  lenN : S.now.length = 64
  lenS : S.sure.length = 64
  yd : ∀ f, Y f = true → D f = true
  dl : ∀ f, D f = true → last ≤ f
  now : ∀ f, f < 64 → fileN S.now f = if D f then (fileN N f).take (left last size f) else fileN N f
  sure : ∀ f, f < 64 → fileN S.sure f = if Y f then (fileN N f).take (left last size f) else fileN N f
  loose : ∀ f, f < 64 → ofF f S.loose = if D f && !Y f then [⟨f, left last size f, true, ⟨#[]⟩⟩] else []
theorem Op.same {S T : St} {N : List ByteArray} {last size : Nat} {D Y : Nat → Bool} (h : Op S N last size D Y) (h1 : T.now = S.now) (h2 : T.sure = S.sure) (h3 : T.loose = S.loose) : Op T N last size D Y :=
  ⟨h1 ▸ h.lenN, h2 ▸ h.lenS, h.yd, h.dl, h1 ▸ h.now, h2 ▸ h.sure, h3 ▸ h.loose⟩
theorem Op.op {S : St} {N : List ByteArray} {last size : Nat} {D Y : Nat → Bool} (h : Op S N last size D Y) : Op (opS S).2 N last size D Y := h.same (opS_now S) (opS_sure S) (opS_loose S)
def updB (D : Nat → Bool) (f : Nat) (g : Nat) : Bool := if g = f then true else D g
theorem updB_self (D : Nat → Bool) (f : Nat) : updB D f f = true := by simp [updB]
theorem updB_other {D : Nat → Bool} {f g : Nat} (h : g ≠ f) : updB D f g = D g := by simp [updB, h]
theorem opS_on {S : St} (h : (opS S).1 = 0) : (opS S).2.on = S.on := by
  unfold opS at h ⊢
  split
  · rename_i e
    rw [if_pos e] at h
    simp at h
  · split <;> rfl
theorem opS_lasts {S : St} (h : S.lasts = -1) : (opS S).1 = 0 ∧ (opS S).2.lasts = -1 := by
  unfold opS
  rw [if_neg (by omega), if_neg (by omega)]
  exact ⟨rfl, h⟩
theorem Op.cut {S : St} {N : List ByteArray} {last size : Nat} {D Y : Nat → Bool} (h : Op S N last size D Y) (f : Nat) (hf : f < 64) (hD : D f = false) (hl : last ≤ f) (hlt : left last size f < (fileN N f).length) (hon : S.on = true) :
    ((cutterS S f (left last size f : Nat)).1 = 0 ∧ Op (cutterS S f (left last size f : Nat)).2 N last size (updB D f) Y ∧ (cutterS S f (left last size f : Nat)).2.on = true) ∨ ((cutterS S f (left last size f : Nat)).1 = 100 ∧ S.lasts ≠ -1 ∧ Op (cutterS S f (left last size f : Nat)).2 N last size D Y) := by
  have hnow := h.now f hf
  rw [hD] at hnow
  have e1 : ¬ errF S.on (f : Int) ≠ 0 := by rw [hon, errF_yes (by omega)]; simp
  unfold cutterS
  rw [if_neg e1, Int.toNat_natCast, if_neg (by rw [fileN_size, hnow]; simp only [Bool.false_eq_true, if_false]; omega), Int.toNat_natCast]
  by_cases h2 : (opS S).1 ≠ 0
  · rw [if_pos h2]
    rcases opS_two S with h3 | h3
    · exact absurd h3 h2
    · exact Or.inr ⟨h3, fun e => h2 (opS_lasts e).1, h.op⟩
  rw [if_neg h2]
  have hY : Y f = false := by
    cases e : Y f with
    | false => rfl
    | true => rw [h.yd f e] at hD; simp at hD
  have h' := h.op
  have ho := opS_on (Decidable.of_not_not h2)
  generalize (opS S).2 = T at h' ho
  refine Or.inl ⟨rfl, ⟨by simp [cutS, h'.lenN], h'.lenS, fun g hg => ?_, fun g hg => ?_, fun g hg => ?_, h'.sure, fun g hg => ?_⟩, ho.trans hon⟩
  · by_cases e : g = f
    · rw [e, updB_self]
    · rw [updB_other e]; exact h'.yd g hg
  · by_cases e : g = f
    · omega
    · rw [updB_other e] at hg; exact h'.dl g hg
  · show fileN (T.now.set f ((T.now.getD f ⟨#[]⟩).extract 0 (left last size f))) g = _
    by_cases e : g = f
    · subst e
      have hn := h'.now g hg
      rw [hD] at hn
      rw [updB_self, if_pos rfl, fileN_set_self (by rw [h'.lenN]; exact hg), ByteArray.data_extract, Array.toList_extract, List.extract_eq_take_drop]
      simp only [Bool.false_eq_true, if_false] at hn
      rw [← hn]
      rfl
    · rw [updB_other e, fileN_set_other (Ne.symm e)]
      exact h'.now g hg
  · show ofF g (T.loose ++ [⟨f, left last size f, true, ⟨#[]⟩⟩]) = _
    rw [ofF_app, h'.loose g hg]
    by_cases e : g = f
    · subst e
      rw [updB_self, hD, hY]
      simp [ofF]
    · rw [updB_other e]
      have : ¬ f = g := fun e3 => e e3.symm
      simp [ofF, this]
theorem Op.sync {S : St} {N : List ByteArray} {last size : Nat} {D Y : Nat → Bool} (h : Op S N last size D Y) (f : Nat) (hf : f < 64) (hD : D f = true) (hon : S.on = true) :
    ((syncerS S f).1 = 0 ∧ Op (syncerS S f).2 N last size D (updB Y f) ∧ (syncerS S f).2.on = true) ∨ ((syncerS S f).1 = 100 ∧ S.lasts ≠ -1 ∧ Op (syncerS S f).2 N last size D Y) := by
  have e1 : ¬ errF S.on (f : Int) ≠ 0 := by rw [hon, errF_yes (by omega)]; simp
  unfold syncerS
  rw [if_neg e1]
  by_cases h2 : (opS S).1 ≠ 0
  · rw [if_pos h2]
    rcases opS_two S with h3 | h3
    · exact absurd h3 h2
    · exact Or.inr ⟨h3, fun e => h2 (opS_lasts e).1, h.op⟩
  rw [if_neg h2, Int.toNat_natCast]
  have h' := h.op
  have ho := opS_on (Decidable.of_not_not h2)
  generalize (opS S).2 = T at h' ho
  refine Or.inl ⟨rfl, ⟨h'.lenN, by simp [syncS, h'.lenS], fun g hg => ?_, h'.dl, h'.now, fun g hg => ?_, fun g hg => ?_⟩, ho.trans hon⟩
  · by_cases e : g = f
    · rw [e]; exact hD
    · rw [updB_other e] at hg; exact h'.yd g hg
  · show fileN (T.sure.set f (T.now.getD f ⟨#[]⟩)) g = _
    by_cases e : g = f
    · subst e
      have hn := h'.now g hg
      rw [hD, if_pos rfl] at hn
      rw [updB_self, if_pos rfl, fileN_set_self (by rw [h'.lenS]; exact hg), ← hn]
      rfl
    · rw [updB_other e, fileN_set_other (Ne.symm e)]
      exact h'.sure g hg
  · show ofF g (keepF f T.loose) = _
    by_cases e : g = f
    · subst e
      rw [updB_self, ofF_keep_self]
      simp
    · rw [updB_other e, ofF_keep_other (Ne.symm e)]
      exact h'.loose g hg
theorem opS_last2 {S : St} (h : S.lasts = -1) : (opS S).2.lasts = -1 := (opS_lasts h).2
theorem cut_lasts {S : St} (h : S.lasts = -1) (f n : Int) : (cutterS S f n).2.lasts = -1 := by
  unfold cutterS
  split
  · exact h
  split
  · exact h
  split
  · exact opS_last2 h
  · exact opS_last2 h
theorem sync_lasts {S : St} (h : S.lasts = -1) (f : Int) : (syncerS S f).2.lasts = -1 := by
  unfold syncerS
  split
  · exact h
  split
  · exact opS_last2 h
  · exact opS_last2 h
/-- D with all of a list. -/
def updL (D : Nat → Bool) (L : List Nat) (g : Nat) : Bool := D g || L.contains g
theorem updL_cons (D : Nat → Bool) (f : Nat) (L : List Nat) : updL D (f :: L) = updL (updB D f) L := by
  funext g
  unfold updL updB
  by_cases e : g = f
  · subst e; simp
  · simp [e]
theorem Op.cuts {N : List ByteArray} {last size : Nat} {Y : Nat → Bool} : ∀ (L : List Nat) (S : St) (D : Nat → Bool), L.Nodup → (∀ f ∈ L, f < 64 ∧ last ≤ f ∧ left last size f < (fileN N f).length ∧ D f = false) → Op S N last size D Y → S.on = true →
    ((cutAll last size L S).1 = 0 ∧ Op (cutAll last size L S).2 N last size (updL D L) Y ∧ (cutAll last size L S).2.on = true ∧ (S.lasts = -1 → (cutAll last size L S).2.lasts = -1)) ∨ ((cutAll last size L S).1 = 100 ∧ S.lasts ≠ -1 ∧ ∃ D', Op (cutAll last size L S).2 N last size D' Y)
  | [], S, D, _, _, h, hon => Or.inl ⟨rfl, by
    have : updL D [] = D := by funext g; simp [updL]
    rw [this]; exact h, hon, fun e => e⟩
  | f :: L, S, D, hnd, hL, h, hon => by
    obtain ⟨f1, f2, f3, f4⟩ := hL f (by simp)
    have hnd' := List.nodup_cons.1 hnd
    unfold cutAll
    rcases h.cut f f1 f4 f2 f3 hon with ⟨a1, a2, a3⟩ | ⟨a1, a2, a3⟩
    · rw [if_neg (by rw [a1]; simp)]
      rcases Op.cuts L _ (updB D f) hnd'.2 (fun g hg => by
        obtain ⟨g1, g2, g3, g4⟩ := hL g (by simp [hg])
        exact ⟨g1, g2, g3, by rw [updB_other (fun e : g = f => hnd'.1 (by rw [← e]; exact hg))]; exact g4⟩) a2 a3 with ⟨b1, b2, b3, b4⟩ | ⟨b1, b2, b3⟩
      · exact Or.inl ⟨b1, by rw [updL_cons]; exact b2, b3, fun e => b4 (cut_lasts e _ _)⟩
      · exact Or.inr ⟨b1, fun e => b2 (cut_lasts e _ _), b3⟩
    · rw [if_pos (by rw [a1]; decide)]
      exact Or.inr ⟨a1, a2, D, a3⟩
theorem Op.syncs {N : List ByteArray} {last size : Nat} {D : Nat → Bool} : ∀ (L : List Nat) (S : St) (Y : Nat → Bool), (∀ f ∈ L, f < 64 ∧ D f = true) → Op S N last size D Y → S.on = true →
    ((syncAll L S).1 = 0 ∧ Op (syncAll L S).2 N last size D (updL Y L) ∧ (syncAll L S).2.on = true) ∨ ((syncAll L S).1 = 100 ∧ S.lasts ≠ -1 ∧ ∃ Y', Op (syncAll L S).2 N last size D Y')
  | [], S, Y, _, h, hon => Or.inl ⟨rfl, by
    have : updL Y [] = Y := by funext g; simp [updL]
    rw [this]; exact h, hon⟩
  | f :: L, S, Y, hL, h, hon => by
    obtain ⟨f1, f2⟩ := hL f (by simp)
    unfold syncAll
    rcases h.sync f f1 f2 hon with ⟨a1, a2, a3⟩ | ⟨a1, a2, a3⟩
    · rw [if_neg (by rw [a1]; simp)]
      rcases Op.syncs L _ (updB Y f) (fun g hg => hL g (by simp [hg])) a2 a3 with ⟨b1, b2, b3⟩ | ⟨b1, b2, b3⟩
      · exact Or.inl ⟨b1, by rw [updL_cons]; exact b2, b3⟩
      · exact Or.inr ⟨b1, fun e => b2 (sync_lasts e _), b3⟩
    · rw [if_pos (by rw [a1]; decide)]
      exact Or.inr ⟨a1, a2, Y, a3⟩
/-- A disk on which nothing is loose. -/
structure Fresh (S : St) : Prop where
  lenN : S.now.length = 64
  sure : S.sure = S.now
  loose : S.loose = []
  on : S.on = true
theorem Fresh.op {S : St} (h : Fresh S) (last size : Nat) : Op S S.now last size (fun _ => false) (fun _ => false) :=
  ⟨h.lenN, by rw [h.sure]; exact h.lenN, fun _ => id, fun f hf => by simp at hf, fun f _ => by simp, fun f _ => by rw [h.sure]; simp, fun f _ => by rw [h.loose]; simp [ofF]⟩
theorem needL_mem {N : List ByteArray} {last size f : Nat} : f ∈ needL N last size ↔ f < 64 ∧ last ≤ f ∧ left last size f < (fileN N f).length := by
  unfold needL
  rw [List.mem_filter, List.mem_range]
  simp
theorem needL_nodup (N : List ByteArray) (last size : Nat) : (needL N last size).Nodup := List.Pairwise.filter _ List.nodup_range
/-- What an opening comes to. -/
theorem Fresh.opened {S : St} (h : Fresh S) (last size : Nat) :
    ((openN S last size (needL S.now last size)).1 = 0 ∧ Op (openN S last size (needL S.now last size)).2 S.now last size (fun f => (needL S.now last size).contains f) (fun f => (needL S.now last size).contains f) ∧ (openN S last size (needL S.now last size)).2.on = true) ∨
    ((openN S last size (needL S.now last size)).1 = 100 ∧ S.lasts ≠ -1 ∧ ∃ D Y, Op (openN S last size (needL S.now last size)).2 S.now last size D Y) := by
  have hL : ∀ f ∈ needL S.now last size, f < 64 ∧ last ≤ f ∧ left last size f < (fileN S.now f).length ∧ (fun _ : Nat => false) f = false := fun f hf => by
    obtain ⟨h1, h2, h3⟩ := needL_mem.1 hf
    exact ⟨h1, h2, h3, rfl⟩
  have e0 : ∀ L, updL (fun _ => false) L = fun f => L.contains f := fun L => by funext g; simp [updL]
  unfold openN
  rcases Op.cuts (needL S.now last size) S (fun _ => false) (needL_nodup _ _ _) hL (h.op last size) h.on with ⟨a1, a2, a3, a4⟩ | ⟨a1, a2, D', a3⟩
  · rw [if_neg (by rw [a1]; simp)]
    rw [e0] at a2
    rcases Op.syncs (needL S.now last size) _ (fun _ => false) (fun f hf => ⟨(hL f hf).1, by simpa using hf⟩) a2 a3 with ⟨b1, b2, b3⟩ | ⟨b1, b2, Y', b3⟩
    · rw [e0] at b2
      exact Or.inl ⟨b1, b2, b3⟩
    · exact Or.inr ⟨b1, fun e => b2 (a4 e), _, Y', b3⟩
  · rw [if_pos (by rw [a1]; decide)]
    exact Or.inr ⟨a1, a2, D', _, a3⟩
theorem take_pre (A B : List UInt8) : (A ++ B).take A.length = A := by rw [List.take_append_of_le_length (Nat.le_refl _), List.take_of_length_le (Nat.le_refl _)]
/-- What was opened has just these records, all of them sure. -/
theorem Op.done {S : St} {N : List ByteArray} {all : List Tx} {last c : Nat} (hs : Shape N all last c) (hl : all.length ≤ 512)
    (h : Op S N last (frs ((fileT all last).take c)).length (fun f => (needL N last (frs ((fileT all last).take c)).length).contains f) (fun f => (needL N last (frs ((fileT all last).take c)).length).contains f)) :
    Rec S (all.take (8 * last + c)) (fun f => (fileT (all.take (8 * last + c)) f).length) := by
  obtain ⟨rest, r1, r2, r3⟩ := hs.here
  have hc8 : c ≤ 8 := by
    have h1 := hs.c8
    rw [fileT_len] at h1
    omega
  have hft : ∀ f, fileT (all.take (8 * last + c)) f = if f < last then fileT all f else if f = last then (fileT all last).take c else [] := by
    intro f
    rw [fileT_take]
    by_cases h1 : f < last
    · rw [if_pos h1, List.take_of_length_le (by rw [fileT_len]; omega)]
    · rw [if_neg h1]
      by_cases h2 : f = last
      · subst h2
        rw [if_pos rfl, show 8 * f + c - 8 * f = c by omega]
      · rw [if_neg h2, show 8 * last + c - 8 * f = 0 by omega, List.take_zero]
  have hfin : ∀ f, f < 64 → ∀ b : Bool, b = (needL N last (frs ((fileT all last).take c)).length).contains f → (if b then (fileN N f).take (left last (frs ((fileT all last).take c)).length f) else fileN N f) = frs (fileT (all.take (8 * last + c)) f) := by
    intro f hf b hb
    rw [hft f]
    by_cases h1 : f < last
    · have : b = false := by
        rw [hb, ← Bool.not_eq_true, List.contains_iff_mem, needL_mem]
        omega
      rw [this, if_pos h1]
      simp only [Bool.false_eq_true, if_false]
      exact (hs.ahead f h1).1
    · rw [if_neg h1]
      have e2 : (fileN N f).take (left last (frs ((fileT all last).take c)).length f) = frs (if f = last then (fileT all last).take c else []) := by
        unfold left
        by_cases h2 : f = last
        · subst h2
          rw [if_pos rfl, if_pos rfl, r1, take_pre]
        · rw [if_neg h2, if_neg h2, List.take_zero]
          rfl
      cases b with
      | true => exact e2
      | false =>
        have hn : ¬ f ∈ needL N last (frs ((fileT all last).take c)).length := by
          rw [← List.contains_iff_mem, ← hb]
          simp
        rw [needL_mem] at hn
        rw [← e2, List.take_of_length_le (by omega)]
        rfl
  have hlast := hs.lt
  refine ⟨h.lenN, h.lenS, by rw [List.length_take]; omega, fun t ht => hs.small t (List.mem_of_mem_take ht), fun f hf => ?_, fun f => Nat.le_refl _, fun f hf => ?_, fun f hf => ?_⟩
  · rw [h.now f hf]
    exact hfin f hf _ rfl
  · rw [h.sure f hf, List.take_of_length_le (Nat.le_refl _)]
    exact hfin f hf _ rfl
  · rw [h.loose f hf, List.drop_of_length_le (Nat.le_refl _)]
    cases (needL N last (frs ((fileT all last).take c)).length).contains f <;> rfl
/-- The power goes in an opening: what is there then tells the same. -/
theorem Op.crash {S : St} {N : List ByteArray} {all : List Tx} {last c : Nat} {D Y : Nat → Bool} (hs : Shape N all last c) (hc : c = 8 → last = 63)
    (h : Op S N last (frs ((fileT all last).take c)).length D Y) (keep : List Int) : Shape (crashQ S keep) all last c := by
  obtain ⟨rest, r1, r2, r3⟩ := hs.here
  have hq : ∀ f, f < 64 → fileN (crashQ S keep) f = fileN N f ∨ (last ≤ f ∧ fileN (crashQ S keep) f = (fileN N f).take (left last (frs ((fileT all last).take c)).length f)) := by
    intro f hf
    obtain ⟨ks, h1, h2⟩ := crash_file S keep h.lenS hf
    rw [h.loose f hf] at h1 h2
    rw [h.sure f hf] at h2
    cases hD : D f with
    | false =>
      have hY : Y f = false := by
        cases e : Y f with
        | false => rfl
        | true => rw [h.yd f e] at hD; simp at hD
      rw [hD, hY] at h2
      exact Or.inl (by simpa [runC] using h2)
    | true =>
      have hl := h.dl f hD
      cases hY : Y f with
      | true =>
        rw [hD, hY] at h2
        exact Or.inr ⟨hl, by simpa [runC] using h2⟩
      | false =>
        rw [hD, hY] at h1 h2
        simp only [Bool.true_and, Bool.not_false, if_true, Bool.false_eq_true, if_false] at h1 h2
        obtain ⟨k, rfl⟩ : ∃ k, ks = [k] := by
          cases ks with
          | nil => simp at h1
          | cons k l => cases l with
            | nil => exact ⟨k, rfl⟩
            | cons _ _ => simp at h1
        have h3 : fileN (crashQ S keep) f = doneB ⟨f, left last (frs ((fileT all last).take c)).length f, true, ⟨#[]⟩⟩ (fileN N f) k := h2
        unfold doneB at h3
        by_cases hk : k = 0
        · rw [if_pos hk] at h3
          exact Or.inl h3
        · rw [if_neg hk, if_pos rfl] at h3
          exact Or.inr ⟨hl, h3⟩
  refine ⟨hs.lt, hs.c8, hs.small, fun f hf => ⟨?_, (hs.ahead f hf).2⟩, ?_⟩
  · rcases hq f (by have := hs.lt; omega) with e | ⟨e, _⟩
    · rw [e]; exact (hs.ahead f hf).1
    · omega
  · rcases hq last hs.lt with e | ⟨_, e⟩
    · exact ⟨rest, by rw [e]; exact r1, r2, fun h => Or.inl (hc h)⟩
    · refine ⟨[], ?_, Or.inr take_nil, fun h => Or.inl (hc h)⟩
      rw [e, r1, List.append_nil]
      unfold left
      rw [if_pos rfl, take_pre]
end Go.Proofs.YtepcfmigkhacgaaDoor.Rl

namespace Go.Proofs.YtepcfmigkhacgaaDoor.Rl
open Go.Proofs.YtepcfmigkhacgaaDoor.Frame Go.Proofs.YtepcfmigkhacgaaDoor.Dk

def appendR (S : St) (L : List Tx) (s : Tx) : Int × St × List Tx :=
  if 65536 < s.length then (3, S, L)
  else if 512 ≤ L.length then (7, S, L)
  else if (appendS S ((L.length / 8 : Nat) : Int) (bt (frameL s))).1 = 0 then (0, (appendS S ((L.length / 8 : Nat) : Int) (bt (frameL s))).2, L ++ [s])
  else ((appendS S ((L.length / 8 : Nat) : Int) (bt (frameL s))).1, (appendS S ((L.length / 8 : Nat) : Int) (bt (frameL s))).2, L)
def syncR (n : Nat) : Nat → Nat → St → Nat → Int × St × Nat
  | 0, _, S, rs => (0, S, rs)
  | k + 1, f, S, rs =>
    if rs < min (8 * f + 8) n then
      (if (syncerS S f).1 = 0 then syncR n k (f + 1) (syncerS S f).2 (min (8 * f + 8) n) else ((syncerS S f).1, (syncerS S f).2, rs))
    else syncR n k (f + 1) S rs
/-- Where a reel stands: what was put, how many of it are sure. -/
structure Inv (S : St) (all : List Tx) (rs : Nat) : Prop where
  rec_ : ∃ K, Rec S all K ∧ Covers K rs
  le : rs ≤ all.length
theorem Inv.power {S : St} {all : List Tx} {rs : Nat} (h : Inv S all rs) (n : Int) : Inv (powerS S n).2 all rs := by
  obtain ⟨K, h1, h2⟩ := h.rec_
  exact ⟨⟨K, h1.power n, h2⟩, h.le⟩
theorem Inv.len {S : St} {all : List Tx} {rs : Nat} (h : Inv S all rs) : all.length ≤ 512 := by
  obtain ⟨K, h1, _⟩ := h.rec_
  exact h1.len
theorem Inv.append {S : St} {all : List Tx} {rs : Nat} (h : Inv S all rs) (s : Tx) : Inv (appendR S all s).2.1 (appendR S all s).2.2 rs ∧ (appendR S all s).2.2 = if (appendR S all s).1 = 0 then all ++ [s] else all := by
  obtain ⟨K, h1, h2⟩ := h.rec_
  unfold appendR
  by_cases e1 : 65536 < s.length
  · rw [if_pos e1]
    exact ⟨h, rfl⟩
  rw [if_neg e1]
  by_cases e2 : 512 ≤ all.length
  · rw [if_pos e2]
    exact ⟨h, rfl⟩
  rw [if_neg e2]
  obtain ⟨a1, a2⟩ := h1.append s (by omega) (by omega)
  by_cases e3 : (appendS S ((all.length / 8 : Nat) : Int) (bt (frameL s))).1 = 0
  · rw [if_pos e3]
    refine ⟨⟨⟨K, a1 e3, h2⟩, ?_⟩, rfl⟩
    have := h.le
    show rs ≤ (all ++ [s]).length
    rw [List.length_append]
    omega
  · rw [if_neg e3]
    refine ⟨⟨⟨K, a2 e3, h2⟩, h.le⟩, ?_⟩
    show all = if (appendS S ((all.length / 8 : Nat) : Int) (bt (frameL s))).1 = 0 then all ++ [s] else all
    rw [if_neg e3]
theorem Inv.sync {all : List Tx} : ∀ (k f : Nat) (S : St) (rs : Nat), f + k = 64 → min (8 * f) all.length ≤ rs → Inv S all rs →
    Inv (syncR all.length k f S rs).2.1 all (syncR all.length k f S rs).2.2 ∧ rs ≤ (syncR all.length k f S rs).2.2 ∧ ((syncR all.length k f S rs).1 = 0 → (syncR all.length k f S rs).2.2 = all.length)
  | 0, f, S, rs, hf, hr, h => ⟨h, Nat.le_refl _, fun _ => by
    have h1 := h.le
    have h2 := h.len
    show rs = all.length
    omega⟩
  | k + 1, f, S, rs, hf, hr, h => by
    rw [syncR]
    by_cases e1 : rs < min (8 * f + 8) all.length
    · rw [if_pos e1]
      obtain ⟨K, h1, h2⟩ := h.rec_
      obtain ⟨a1, a2⟩ := h1.sync f (by omega)
      by_cases e2 : (syncerS S f).1 = 0
      · rw [if_pos e2]
        have h4 : Inv (syncerS S f).2 all (min (8 * f + 8) all.length) := by
          refine ⟨⟨_, a1 e2, fun i hi => ?_⟩, Nat.min_le_right _ _⟩
          unfold updK
          by_cases e3 : i / 8 = f
          · rw [if_pos e3, fileT_len]
            omega
          · rw [if_neg e3]
            exact h2 i (by omega)
        obtain ⟨b1, b2, b3⟩ := Inv.sync k (f + 1) (syncerS S f).2 (min (8 * f + 8) all.length) (by omega) (by rw [show 8 * (f + 1) = 8 * f + 8 by omega]; exact Nat.le_refl _) h4
        exact ⟨b1, Nat.le_trans (Nat.le_of_lt e1) b2, b3⟩
      · rw [if_neg e2]
        exact ⟨⟨⟨K, a2 e2, h2⟩, h.le⟩, Nat.le_refl _, fun e => absurd e e2⟩
    · rw [if_neg e1]
      exact Inv.sync k (f + 1) S rs (by omega) (by omega) h
theorem Shape.bound {N : List ByteArray} {all : List Tx} {last c : Nat} (h : Shape N all last c) : 8 * last + c ≤ all.length := by
  have h1 := h.c8
  rw [fileT_len] at h1
  by_cases hl : last = 0
  · subst hl
    omega
  · obtain ⟨_, h2⟩ := h.ahead (last - 1) (by omega)
    rw [fileT_len] at h2
    omega
/-- Opening what has the shape of a beginning. -/
theorem open_shape {S : St} {all : List Tx} {last c : Nat} (hF : Fresh S) (hs : Shape S.now all last c) (hl : all.length ≤ 512) :
    ((openS S).1 = 0 ∧ (openS S).2.2 = all.take (8 * last + c) ∧ Rec (openS S).2.1 (all.take (8 * last + c)) (fun f => (fileT (all.take (8 * last + c)) f).length) ∧ (openS S).2.1.on = true) ∨
    ((openS S).1 = 100 ∧ S.lasts ≠ -1 ∧ ∃ D Y, Op (openS S).2.1 S.now last (frs ((fileT all last).take c)).length D Y) := by
  have hr := hs.recs
  unfold openS
  rw [if_pos hF.on, hr]
  simp only []
  rcases hF.opened last (frs ((fileT all last).take c)).length with ⟨a1, a2, a3⟩ | ⟨a1, a2, a3⟩
  · rw [if_pos a1]
    exact Or.inl ⟨rfl, rfl, a2.done hs hl, a3⟩
  · rw [if_neg (by rw [a1]; decide)]
    exact Or.inr ⟨a1, a2, a3⟩
theorem fresh_crash (S : St) (keep : List Int) (h : S.sure.length = 64) : Fresh (crashS S keep) := ⟨by show (crashQ S keep).length = 64; unfold crashQ; rw [mergeN_len]; exact h, rfl, rfl, rfl⟩
theorem fresh_power {S : St} (h : Fresh S) (n : Int) : Fresh (powerS S n).2 ∧ (powerS S n).2.now = S.now := by
  unfold powerS
  rw [if_pos h.on]
  split
  · exact ⟨h, rfl⟩
  · exact ⟨⟨h.lenN, h.sure, h.loose, h.on⟩, rfl⟩
/-- All that is there is sure. -/
theorem inv_full {S : St} {all : List Tx} (h : Rec S all (fun f => (fileT all f).length)) : Inv S all all.length :=
  ⟨⟨_, h, fun i hi => by
    show i % 8 < (fileT all (i / 8)).length
    rw [fileT_len]
    omega⟩, Nat.le_refl _⟩
/-- Whenever the power goes, in an opening too: a beginning, with all that was sure. -/
theorem Inv.crash {S : St} {all : List Tx} {rs : Nat} (h : Inv S all rs) (keep : List Int) (P : St → St) (hP : P = id ∨ ∃ n, P = fun S => (powerS S n).2) :
    ∃ m, rs ≤ m ∧ m ≤ all.length ∧
      (((openS (P (crashS S keep))).1 = 0 ∧ (openS (P (crashS S keep))).2.2 = all.take m ∧ Inv (openS (P (crashS S keep))).2.1 (all.take m) m ∧ (openS (P (crashS S keep))).2.1.on = true) ∨
      ((openS (P (crashS S keep))).1 = 100 ∧ (openS (crashS (openS (P (crashS S keep))).2.1 keep)).1 = 0 ∧ (openS (crashS (openS (P (crashS S keep))).2.1 keep)).2.2 = all.take m ∧ Inv (openS (crashS (openS (P (crashS S keep))).2.1 keep)).2.1 (all.take m) m ∧
        (openS (crashS (openS (P (crashS S keep))).2.1 keep)).2.1.on = true)) := by
  obtain ⟨K, h1, h2⟩ := h.rec_
  obtain ⟨last, c, hs, hc, hm⟩ := h1.crash keep
  have hb := hs.bound
  have hfull : ∀ T : St, Rec T (all.take (8 * last + c)) (fun f => (fileT (all.take (8 * last + c)) f).length) → Inv T (all.take (8 * last + c)) (8 * last + c) := fun T hT => by
    have := inv_full hT
    rwa [List.length_take, Nat.min_eq_left hb] at this
  have hF : Fresh (P (crashS S keep)) ∧ (P (crashS S keep)).now = crashQ S keep := by
    have f0 := fresh_crash S keep h1.lenS
    rcases hP with rfl | ⟨n, rfl⟩
    · exact ⟨f0, rfl⟩
    · obtain ⟨f1, f2⟩ := fresh_power f0 n
      exact ⟨f1, f2⟩
  obtain ⟨hF1, hF2⟩ := hF
  generalize P (crashS S keep) = T at hF1 hF2 ⊢
  rw [← hF2] at hs
  refine ⟨8 * last + c, hm rs h.le h2, hb, ?_⟩
  rcases open_shape hF1 hs h1.len with ⟨a1, a2, a3, a4⟩ | ⟨a1, _, D, Y, a3⟩
  · exact Or.inl ⟨a1, a2, hfull _ a3, a4⟩
  · refine Or.inr ⟨a1, ?_⟩
    have hs2 := a3.crash hs hc keep
    have hF3 := fresh_crash (openS T).2.1 keep a3.lenS
    rcases open_shape hF3 (show Shape (crashS (openS T).2.1 keep).now all last c from hs2) h1.len with ⟨b1, b2, b3, b4⟩ | ⟨_, b2, _⟩
    · exact ⟨b1, b2, hfull _ b3, b4⟩
    · exact absurd rfl b2
/-- Opening what has just its records does nothing. -/
theorem open_still {S : St} {all : List Tx} {K : Nat → Nat} (h : Rec S all K) (hon : S.on = true) : openS S = (0, S, all) := by
  obtain ⟨last, c, hs, h1, h2⟩ := shape_whole h.small h.len h.now
  have hr := hs.recs
  have hn : needL S.now last (frs ((fileT all last).take c)).length = [] := by
    rw [List.eq_nil_iff_forall_not_mem]
    intro f hf
    obtain ⟨f1, f2, f3⟩ := needL_mem.1 hf
    rw [h.now f f1] at f3
    unfold left at f3
    by_cases e : f = last
    · subst e
      rw [if_pos rfl, h2, List.take_length] at f3
      omega
    · have hb := hs.bound
      have hl : all.length ≤ 8 * last + c := by
        have := congrArg List.length h1
        rw [List.length_take] at this
        omega
      have : fileT all f = [] := by
        apply List.eq_nil_of_length_eq_zero
        rw [fileT_len]
        have h8 : c ≤ 8 := by rw [h2, fileT_len]; omega
        omega
      rw [this, if_neg e] at f3
      simp [frs] at f3
  unfold openS
  rw [if_pos hon, hr]
  simp only []
  rw [hn]
  simp only [openN, cutAll, syncAll]
  simp [h1]
/-- Whatever the files are, opened at once: just their records, and nothing is to do any more. -/
theorem open_any {S : St} (hF : Fresh S) (hl : S.lasts = -1) : (openS S).1 = 0 ∧ (openS S).2.2 = (recs S.now).1 ∧ (openS S).2.1.on = true ∧ Inv (openS S).2.1 (recs S.now).1 (recs S.now).1.length := by
  obtain ⟨last, c, hs, h1, h2⟩ := rec_shape S.now 64 0 [] rfl (by omega) rfl (by simp) (fun g hg => by omega)
  rw [List.nil_append] at hs h1
  have h512 : (recN S.now 64 0).1.length ≤ 512 := by
    have := hs.c8
    rw [fileT_len] at this
    omega
  have e : (recN S.now 64 0).1.take (8 * last + c) = (recN S.now 64 0).1 := List.take_of_length_le (by omega)
  rcases open_shape hF hs h512 with ⟨a1, a2, a3, a4⟩ | ⟨_, b2, _⟩
  · rw [e] at a2 a3
    exact ⟨a1, a2, a4, inv_full a3⟩
  · exact absurd hl b2
end Go.Proofs.YtepcfmigkhacgaaDoor.Rl
