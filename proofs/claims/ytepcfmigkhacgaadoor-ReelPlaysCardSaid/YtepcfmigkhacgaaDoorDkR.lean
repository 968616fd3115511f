/- disk: what was synced is there; where all is kept, all is as it was (plain mathematics). -/
import Derived.Test.YtepcfmigkhacgaaDoorDkN
namespace Go.Proofs.YtepcfmigkhacgaaDoor.Dk
open Go.RowKit Go.Proofs.YtepcfmigkhacgaaDoor.Gr

theorem getX_step {sure : List ByteArray} {X : List Fl} (hX : X.length = 64) (c : Ch) (k f : Nat) (hf : f < 64) : getX sure (stepX sure X c k) f = if c.file = f then doneB c (getX sure X f) k else getX sure X f := by
  unfold stepX
  by_cases e : c.file = f
  · rw [if_pos e]
    refine getX_some ?_
    rw [e, List.getD_eq_getElem?_getD, List.getElem?_set_self (by omega)]
    rfl
  · rw [if_neg e]
    unfold getX
    rw [List.getD_eq_getElem?_getD, List.getElem?_set_ne e, ← List.getD_eq_getElem?_getD]
theorem crashQ_get (S : St) (keep : List Int) (h : S.sure.length = 64) {f : Nat} (hf : f < 64) : ((crashQ S keep).getD f ⟨#[]⟩).data.toList = getX S.sure (crashN S.sure keep S.loose S.loose.length) f := by
  unfold crashQ
  rw [List.getD_eq_getElem?_getD, mergeN_get, if_pos hf]
  unfold getX
  cases hx : (crashN S.sure keep S.loose S.loose.length).getD f none with
  | some b =>
    rw [List.getElem?_eq_getElem (by omega)]
    rfl
  | none => rw [List.getD_eq_getElem?_getD]; rfl
/-- What a file's bytes come to where all is kept. -/
def repF (f : Nat) (b : List UInt8) (L : List Ch) : List UInt8 := L.foldl (fun b c => if c.file = f then doneB c b 1048576 else b) b
theorem repF_app (f : Nat) (b : List UInt8) (L M : List Ch) : repF f b (L ++ M) = repF f (repF f b L) M := by unfold repF; rw [List.foldl_append]
theorem repF_crash (sure : List ByteArray) (m : Nat) (L : List Ch) (f : Nat) (hf : f < 64) : ∀ n, n ≤ m → n ≤ L.length → getX sure (crashN sure (List.replicate m 1048576) L n) f = repF f (sure.getD f ⟨#[]⟩).data.toList (L.take n)
  | 0, _, _ => by
    rw [List.take_zero]
    refine getX_none ?_ rfl
    unfold crashN
    rw [List.getD_eq_getElem?_getD, List.getElem?_replicate]
    split <;> rfl
  | n + 1, hm, hl => by
    have hx := List.getElem?_eq_getElem (show n < L.length by omega)
    rw [crashN_step hx, getX_step (crashN_len _ _ _ _) _ _ _ hf, repF_crash sure m L f hf n (by omega) (by omega), List.take_add_one, hx, repF_app]
    have hk : keptN (List.replicate m 1048576) n = 1048576 := by
      unfold keptN
      rw [List.getD_eq_getElem?_getD, List.getElem?_replicate, if_pos (by omega)]
      rfl
    rw [hk]
    rfl
theorem repF_keep (f k : Nat) (h : f ≠ k) : ∀ (L : List Ch) (b : List UInt8), repF f b (keepF k L) = repF f b L
  | [], _ => rfl
  | c :: L, b => by
    by_cases e : c.file = k
    · have h1 : keepF k (c :: L) = keepF k L := by unfold keepF; rw [List.filter_cons_of_neg (by simp [e])]
      rw [h1, repF_keep f k h L b]
      show _ = repF f (if c.file = f then doneB c b 1048576 else b) L
      rw [if_neg (by rw [e]; exact Ne.symm h)]
    · have h1 : keepF k (c :: L) = c :: keepF k L := by unfold keepF; rw [List.filter_cons_of_pos (by simp [e])]
      rw [h1]
      show repF f (if c.file = f then doneB c b 1048576 else b) (keepF k L) = repF f (if c.file = f then doneB c b 1048576 else b) L
      exact repF_keep f k h L _
theorem repF_none (f : Nat) : ∀ (L : List Ch) (b : List UInt8), (∀ c ∈ L, c.file ≠ f) → repF f b L = b
  | [], _, _ => rfl
  | c :: L, b, h => by
    show repF f (if c.file = f then doneB c b 1048576 else b) L = b
    rw [if_neg (h c (by simp))]
    exact repF_none f L b (fun c hc => h c (by simp [hc]))
theorem repF_self (f : Nat) (L : List Ch) (b : List UInt8) : repF f b (keepF f L) = b :=
  repF_none f _ b fun c hc => by
    have := (List.mem_filter.1 hc).2
    simpa using this

/-- A disk whose power lasts, and whose loose changes make of what is sure what there is. -/
structure Whole (S : St) : Prop where
  on : S.on = true
  lasts : S.lasts = -1
  rep : ∀ f, f < 64 → repF f (S.sure.getD f ⟨#[]⟩).data.toList S.loose = (S.now.getD f ⟨#[]⟩).data.toList
theorem whole_new : Whole newS where
  on := rfl
  lasts := rfl
  rep f hf := by
    show (newS.sure.getD f ⟨#[]⟩).data.toList = (newS.now.getD f ⟨#[]⟩).data.toList
    rfl
theorem Whole.op {S : St} (h : Whole S) : opS S = (0, { S with ops := S.ops + 1 }) := by
  unfold opS
  rw [h.lasts, if_neg (by decide), if_neg (by decide)]
theorem getD_set_self {L : List ByteArray} {f : Nat} (hf : f < L.length) (s : ByteArray) : (L.set f s).getD f ⟨#[]⟩ = s := by
  rw [List.getD_eq_getElem?_getD, List.getElem?_set_self hf]
  rfl
theorem getD_set_other {L : List ByteArray} {f g : Nat} (h : f ≠ g) (s : ByteArray) : (L.set f s).getD g ⟨#[]⟩ = L.getD g ⟨#[]⟩ := by
  rw [List.getD_eq_getElem?_getD, List.getElem?_set_ne h, ← List.getD_eq_getElem?_getD]
theorem file_of {f : Int} (h : ¬ errF true f ≠ 0) : ∃ k : Nat, f = k ∧ k < 64 := by
  obtain ⟨_, hf⟩ := errF_zero (Classical.not_not.1 h)
  exact ⟨f.toNat, by omega, by omega⟩
/-- What a call leaves of the file f, and of the others. -/
theorem Whole.append {n : Nat} {S : St} (h : Whole S) (hg : GoodN n S) (f : Int) (s : ByteArray) : Whole (appendS S f s).2 := by
  unfold appendS
  rw [h.on]
  split
  · exact h
  · rename_i he
    obtain ⟨k, rfl, hk⟩ := file_of he
    rw [Int.toNat_natCast]
    split
    · exact h
    · rename_i hl
      rw [h.op, if_neg (by simp)]
      have hz := getD_size hg.now k
      refine ⟨h.on, h.lasts, fun g hgl => ?_⟩
      show repF g (S.sure.getD g ⟨#[]⟩).data.toList (S.loose ++ [⟨k, (S.now.getD k ⟨#[]⟩).size, false, s⟩]) = ((S.now.set k (S.now.getD k ⟨#[]⟩ ++ s)).getD g ⟨#[]⟩).data.toList
      rw [repF_app, h.rep g hgl]
      show (if k = g then doneB ⟨k, (S.now.getD k ⟨#[]⟩).size, false, s⟩ (S.now.getD g ⟨#[]⟩).data.toList 1048576 else (S.now.getD g ⟨#[]⟩).data.toList) = _
      by_cases e : k = g
      · subst e
        rw [if_pos rfl, app_done, getD_set_self (by rw [hg.lenN]; exact hk), ByteArray.data_append, Array.toList_append, List.take_of_length_le]
        rw [Array.length_toList]
        show s.size ≤ _
        omega
      · rw [if_neg e, getD_set_other e]
theorem Whole.cut {n : Nat} {S : St} (h : Whole S) (hg : GoodN n S) (f m : Int) : Whole (cutterS S f m).2 := by
  unfold cutterS
  rw [h.on]
  split
  · exact h
  · rename_i he
    obtain ⟨k, rfl, hk⟩ := file_of he
    rw [Int.toNat_natCast]
    split
    · exact h
    · rename_i hl
      rw [h.op, if_neg (by simp)]
      refine ⟨h.on, h.lasts, fun g hgl => ?_⟩
      show repF g (S.sure.getD g ⟨#[]⟩).data.toList (S.loose ++ [⟨k, m.toNat, true, ⟨#[]⟩⟩]) = ((S.now.set k ((S.now.getD k ⟨#[]⟩).extract 0 m.toNat)).getD g ⟨#[]⟩).data.toList
      rw [repF_app, h.rep g hgl]
      show (if k = g then doneB ⟨k, m.toNat, true, ⟨#[]⟩⟩ (S.now.getD g ⟨#[]⟩).data.toList 1048576 else (S.now.getD g ⟨#[]⟩).data.toList) = _
      by_cases e : k = g
      · subst e
        rw [if_pos rfl, getD_set_self (by rw [hg.lenN]; exact hk)]
        have := congrArg (fun b : ByteArray => b.data.toList) (cut_done k m.toNat 1048576 (S.now.getD k ⟨#[]⟩))
        rw [if_neg (by decide)] at this
        exact this
      · rw [if_neg e, getD_set_other e]
theorem Whole.sync {n : Nat} {S : St} (h : Whole S) (hg : GoodN n S) (f : Int) : Whole (syncerS S f).2 := by
  unfold syncerS
  rw [h.on]
  split
  · exact h
  · rename_i he
    obtain ⟨k, rfl, hk⟩ := file_of he
    rw [Int.toNat_natCast, h.op, if_neg (by simp)]
    refine ⟨h.on, h.lasts, fun g hgl => ?_⟩
    show repF g ((S.sure.set k (S.now.getD k ⟨#[]⟩)).getD g ⟨#[]⟩).data.toList (keepF k S.loose) = (S.now.getD g ⟨#[]⟩).data.toList
    by_cases e : k = g
    · subst e
      rw [getD_set_self (by rw [hg.lenS]; exact hk), repF_self]
    · rw [getD_set_other e, repF_keep g k (Ne.symm e), h.rep g hgl]
theorem list_ext {L M : List ByteArray} (h1 : L.length = 64) (h2 : M.length = 64) (h : ∀ f, f < 64 → (L.getD f ⟨#[]⟩).data.toList = (M.getD f ⟨#[]⟩).data.toList) : L = M := by
  apply List.ext_getElem (by omega)
  intro i hi hj
  have := h i (by omega)
  rw [List.getD_eq_getElem?_getD, List.getD_eq_getElem?_getD, List.getElem?_eq_getElem hi, List.getElem?_eq_getElem hj] at this
  apply ByteArray.ext
  exact Array.ext' this
theorem Whole.all {n : Nat} {S : St} (h : Whole S) (hg : GoodN n S) : crashQ S (List.replicate S.loose.length 1048576) = S.now :=
  list_ext (by unfold crashQ; rw [mergeN_len, hg.lenS]) hg.lenN fun f hf => by
    rw [crashQ_get S _ hg.lenS hf, repF_crash _ _ _ _ hf _ (Nat.le_refl _) (Nat.le_refl _), List.take_length, h.rep f hf]

/-- The file f is sure, as it is. -/
structure Sure (f : Nat) (u : ByteArray) (S : St) : Prop where
  now : S.now.getD f ⟨#[]⟩ = u
  sure : S.sure.getD f ⟨#[]⟩ = u
  none : ∀ c ∈ S.loose, c.file ≠ f
theorem Sure.crash {n f : Nat} {u : ByteArray} {S : St} (h : Sure f u S) (hg : GoodN n S) (hf : f < 64) (keep : List Int) : allS (crashS S keep) f = u := by
  have h1 : ∀ m, getX S.sure (crashN S.sure keep S.loose m) f = u.data.toList := by
    intro m
    induction m with
    | zero =>
      refine getX_none ?_ h.sure
      unfold crashN
      rw [List.getD_eq_getElem?_getD, List.getElem?_replicate]
      split <;> rfl
    | succ m ih =>
      by_cases hm : m < S.loose.length
      · have hx := List.getElem?_eq_getElem hm
        rw [crashN_step hx, getX_step (crashN_len _ _ _ _) _ _ _ hf, if_neg (h.none _ (List.getElem_mem hm)), ih]
      · unfold crashN
        rw [List.getElem?_eq_none (by omega)]
        exact ih
  have h2 : (crashQ S keep).getD f ⟨#[]⟩ = u := by
    apply ByteArray.ext
    apply Array.ext'
    rw [crashQ_get S keep hg.lenS hf]
    exact h1 _
  unfold allS
  rw [if_neg (by show ¬ errF true f ≠ 0; rw [errF_file hf]; simp), Int.toNat_natCast]
  exact h2
theorem Sure.of_sync {n f : Nat} {S : St} (h : Whole S) (hg : GoodN n S) (hf : f < 64) : (syncerS S f).1 = 0 ∧ Sure f (S.now.getD f ⟨#[]⟩) (syncerS S f).2 := by
  unfold syncerS
  rw [h.on, if_neg (by rw [errF_file hf]; simp), Int.toNat_natCast, h.op, if_neg (by simp)]
  refine ⟨rfl, rfl, getD_set_self (by rw [hg.lenS]; exact hf) _, fun c hc => ?_⟩
  have := (List.mem_filter.1 hc).2
  simpa using this
theorem Sure.append {f : Nat} {u : ByteArray} {S : St} (h : Sure f u S) (g : Int) (s : ByteArray) (hne : g ≠ f) : Sure f u (appendS S g s).2 := by
  unfold appendS
  split
  · exact h
  · rename_i he
    obtain ⟨_, hg⟩ := errF_zero (Classical.not_not.1 he)
    split
    · exact h
    · split
      · exact ⟨by rw [opS_now]; exact h.now, by rw [opS_sure]; exact h.sure, by rw [opS_loose]; exact h.none⟩
      · refine ⟨?_, by show (opS S).2.sure.getD f ⟨#[]⟩ = u; rw [opS_sure]; exact h.sure, ?_⟩
        · show ((opS S).2.now.set g.toNat _).getD f ⟨#[]⟩ = u
          rw [getD_set_other (by omega), opS_now]
          exact h.now
        · show ∀ c ∈ (opS S).2.loose ++ [_], c.file ≠ f
          rw [opS_loose]
          intro c hc
          rcases List.mem_append.1 hc with h1 | h1
          · exact h.none c h1
          · simp at h1
            subst h1
            show g.toNat ≠ f
            omega
theorem Sure.cut {f : Nat} {u : ByteArray} {S : St} (h : Sure f u S) (g m : Int) (hne : g ≠ f) : Sure f u (cutterS S g m).2 := by
  unfold cutterS
  split
  · exact h
  · rename_i he
    obtain ⟨_, hg⟩ := errF_zero (Classical.not_not.1 he)
    split
    · exact h
    · split
      · exact ⟨by rw [opS_now]; exact h.now, by rw [opS_sure]; exact h.sure, by rw [opS_loose]; exact h.none⟩
      · refine ⟨?_, by show (opS S).2.sure.getD f ⟨#[]⟩ = u; rw [opS_sure]; exact h.sure, ?_⟩
        · show ((opS S).2.now.set g.toNat _).getD f ⟨#[]⟩ = u
          rw [getD_set_other (by omega), opS_now]
          exact h.now
        · show ∀ c ∈ (opS S).2.loose ++ [_], c.file ≠ f
          rw [opS_loose]
          intro c hc
          rcases List.mem_append.1 hc with h1 | h1
          · exact h.none c h1
          · simp at h1
            subst h1
            show g.toNat ≠ f
            omega
theorem Sure.sync {f : Nat} {u : ByteArray} {S : St} (h : Sure f u S) (g : Int) (hne : g ≠ f) : Sure f u (syncerS S g).2 := by
  unfold syncerS
  split
  · exact h
  · rename_i he
    obtain ⟨_, hg⟩ := errF_zero (Classical.not_not.1 he)
    split
    · exact ⟨by rw [opS_now]; exact h.now, by rw [opS_sure]; exact h.sure, by rw [opS_loose]; exact h.none⟩
    · refine ⟨by show (opS S).2.now.getD f ⟨#[]⟩ = u; rw [opS_now]; exact h.now, ?_, fun c hc => h.none c ?_⟩
      · show ((opS S).2.sure.set g.toNat _).getD f ⟨#[]⟩ = u
        rw [getD_set_other (by omega), opS_sure]
        exact h.sure
      · have := (List.mem_filter.1 hc).1
        rwa [opS_loose] at this
end Go.Proofs.YtepcfmigkhacgaaDoor.Dk
