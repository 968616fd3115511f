/- reel: the document's Open. -/
import Derived.Test.YtepcfmigkhacgaaDoorReD
namespace Go.Proofs.YtepcfmigkhacgaaDoor.Rl
open Go.RowKit Go.Proofs.YtepcfmigkhacgaaDoor.Gr Go.Proofs.YtepcfmigkhacgaaDoor.Frame Go.Proofs.YtepcfmigkhacgaaDoor.Dk
/-- The files from one on that Open has to cut. -/
def needF (N : List ByteArray) (last size f : Nat) : List Nat := (List.range' f (64 - f)).filter fun g => decide (last ≤ g ∧ left last size g < (fileN N g).length)
theorem needF_end (N : List ByteArray) (last size : Nat) : needF N last size 64 = [] := rfl
theorem needF_yes {N : List ByteArray} {last size f : Nat} (hf : f < 64) (hl : last ≤ f) (h : left last size f < (fileN N f).length) : needF N last size f = f :: needF N last size (f + 1) := by
  unfold needF
  rw [show 64 - f = (64 - (f + 1)) + 1 by omega, List.range'_succ, List.filter_cons, if_pos (by simp [hl, h])]
theorem needF_no {N : List ByteArray} {last size f : Nat} (hf : f < 64) (h : ¬ left last size f < (fileN N f).length) : needF N last size f = needF N last size (f + 1) := by
  unfold needF
  rw [show 64 - f = (64 - (f + 1)) + 1 by omega, List.range'_succ, List.filter_cons, if_neg (by simp [h])]
theorem needL_all (N : List ByteArray) (last size : Nat) (hl : last ≤ 64) : needL N last size = needF N last size last := by
  unfold needL needF
  rw [List.range_eq_range', show (64 : Nat) = last + (64 - last) by omega, ← List.range'_append_1, List.filter_append, List.filter_eq_nil_iff.2 (fun g hg => ?_), List.nil_append]
  · simp
  · rw [List.mem_range'_1] at hg
    simp
    omega
theorem cut_other (S : St) (f : Nat) (m : Int) {g : Nat} (h : f ≠ g) : fileN (cutterS S f m).2.now g = fileN S.now g := by
  unfold cutterS
  split
  · rfl
  split
  · rfl
  split
  · rw [opS_now]
  · show fileN ((opS S).2.now.set (f : Int).toNat _) g = _
    rw [opS_now, Int.toNat_natCast, fileN_set_other h]
theorem cut_on (S : St) (f : Nat) (m : Int) (h : (cutterS S f m).1 = 0) (hon : S.on = true) : (cutterS S f m).2.on = true := by
  unfold cutterS at h ⊢
  split
  · exact hon
  rename_i h1
  rw [if_neg h1] at h
  split
  · exact hon
  rename_i h2
  rw [if_neg h2] at h
  split
  · rename_i h3
    rw [if_pos h3] at h
    exact absurd h h3
  · rename_i h3
    show (opS S).2.on = true
    rw [opS_on (Classical.not_not.1 h3), hon]
theorem open_cut {S : St} (hon : S.on = true) {R : List Tx} {last size : Nat} (hr : recs S.now = (R, last, size)) {S1 : St} {er : Int} (h : cutAll last size (needL S.now last size) S = (er, S1)) (h0 : er ≠ 0) : openS S = (er, S1, []) := by
  unfold openS openN
  rw [if_pos hon, hr]
  simp only []
  rw [h]
  simp only [ne_eq, h0, not_false_eq_true, if_true, if_false]
theorem open_sync {S : St} (hon : S.on = true) {R : List Tx} {last size : Nat} (hr : recs S.now = (R, last, size)) {S1 S2 : St} {er : Int} (h : cutAll last size (needL S.now last size) S = (0, S1)) (h2 : syncAll (needL S.now last size) S1 = (er, S2)) (h0 : er ≠ 0) : openS S = (er, S2, []) := by
  unfold openS openN
  rw [if_pos hon, hr]
  simp only []
  rw [h]
  simp only [ne_eq, not_true_eq_false, if_false]
  rw [h2]
  simp only [h0, if_false]
theorem open_ok {S : St} (hon : S.on = true) {R : List Tx} {last size : Nat} (hr : recs S.now = (R, last, size)) {S1 S2 : St} (h : cutAll last size (needL S.now last size) S = (0, S1)) (h2 : syncAll (needL S.now last size) S1 = (0, S2)) : openS S = (0, S2, R) := by
  unfold openS openN
  rw [if_pos hon, hr]
  simp only []
  rw [h]
  simp only [ne_eq, not_true_eq_false, if_false]
  rw [h2]
  simp
theorem recs_last (N : List ByteArray) : (recs N).2.1 < 64 ∧ (recs N).1.length ≤ 512 := by
  obtain ⟨last, c, hs, h1, _⟩ := rec_shape N 64 0 [] rfl (by omega) rfl (by simp) (fun g hg => by omega)
  rw [List.nil_append] at hs h1
  have h3 := hs.c8
  have h4 := hs.lt
  have h5 := hs.recs
  rw [fileT_len] at h3
  rw [h5]
  refine ⟨h4, ?_⟩
  show (List.take _ _).length ≤ 512
  rw [List.length_take]
  omega
theorem ki_one (w : World) (n : Int) : KI.At (w.alloc (.cells #[.int .i64 n] 3)) (.slice (some ⟨w.heap.size, 0, none⟩) 1 1) [n] :=
  Or.inr ⟨w.heap.size, 0, 1, rfl, by simp, Nat.le_refl _, fun j u hj => by
    rw [Nat.zero_add, Lib.cell_of_heap (heap_alloc_new w _)]
    simp only [Kind.flat, KI, List.flatMap_cons, List.flatMap_nil, List.append_nil] at hj
    rw [← hj]
    simp⟩
def ints (M : List Nat) : List Int := M.map fun (k : Nat) => (k : Int)
theorem ints_len (M : List Nat) : (ints M).length = M.length := by simp [ints]
theorem ki_cell {C : Nat} {v : Value} {M : List Nat} {w : World} (h : KI.Own C v (ints M) w) {i k : Nat} {R : List Nat} (hi : M.drop i = k :: R) : ∃ g c, v = .slice (some ⟨g, 0, none⟩) M.length c ∧ M.length ≤ c ∧ w.cell? ⟨g, i, none⟩ = some (.int .i64 (k : Int)) := by
  have hk : M[i]? = some k := by
    have := congrArg List.head? hi
    rwa [List.head?_drop] at this
  have hlt := (List.getElem?_eq_some_iff.1 hk).1
  have hat := h.reads
  rcases h.form with ⟨rfl, e⟩ | ⟨g, c, rfl, _, _, hc⟩
  · have := congrArg List.length e
    rw [ints_len] at this
    simp at this
    subst this
    simp at hlt
  · rw [ints_len] at hat hc ⊢
    refine ⟨g, c, rfl, hc, ?_⟩
    rcases hat with ⟨_, _, e, e2⟩ | ⟨g', o, c', e, _, _, hr⟩
    · have := congrArg List.length e2
      rw [ints_len] at this
      simp at this
      subst this
      simp at hlt
    · simp only [Value.slice.injEq, Option.some.injEq, Addr.mk.injEq] at e
      obtain ⟨⟨rfl, rfl, _⟩, _, rfl⟩ := e
      have := range_thing hr (i := i) (x := (k : Int)) (by unfold ints; rw [List.getElem?_map, hk]; rfl) (j := 0) (u := .int .i64 (k : Int)) rfl
      rw [Nat.zero_add] at this
      simpa [KI] using this
/-- A list of texts beside a disk, that the disk doesn't touch. -/
structure LAt (B : Nat) (w : World) (r na nc sa sc : Nat) (lv : Value) (goes : Int) (S : St) (tv : Value) (all : List Tx) : Prop where
  row : KT.Own 0 tv (tx all) w
  off : tv.ownBlock ≠ some na ∧ tv.ownBlock ≠ some sa
  disk : RAt B w r na nc sa sc lv goes S
section
variable {B r na nc sa sc na1 sa1 : Nat} {lv tv : Value} {goes : Int} {S : St} {all : List Tx} {w w1 : World}
theorem LAt.below (h : LAt B w r na nc sa sc lv goes S tv all) (hb : Below w.heap.size w w1) : LAt B w1 r na nc sa sc lv goes S tv all := ⟨h.row.kept hb, h.off, h.disk.below hb⟩
theorem LAt.kp {T : Nat → TypeId → Prop} (h : LAt B w r na nc sa sc lv goes S tv all) (hk : Kp B T w w1) (hT : ∀ k t, RefT na sa k t ∨ t = 9 → ¬ T k t) : LAt B w1 r na nc sa sc lv goes S tv all :=
  ⟨own_kp2 h.row hk fun k _ => hT k _ (Or.inr rfl), h.off, h.disk.kp hk fun k t ht => hT k t (Or.inl ht)⟩
theorem ints_off : ∀ (k : Nat) (t : TypeId), RefT na sa k t ∨ t = 9 → ¬ t = 3 := by
  rintro k t ((rfl | ⟨rfl, _⟩ | rfl) | rfl) <;> decide
theorem LAt.disked (h : LAt B w r na nc sa sc lv goes S tv all) (hk : Kp B (RefT na sa) w w1) {nc1 sc1 : Nat} {lv1 : Value} {goes1 : Int} {S1 : St} (hd : RAt B w1 r na1 nc1 sa1 sc1 lv1 goes1 S1) (hn : na1 = na ∨ w.heap.size ≤ na1) (hs : sa1 = sa ∨ w.heap.size ≤ sa1) :
    LAt B w1 r na1 nc1 sa1 sc1 lv1 goes1 S1 tv all := by
  have hrow : KT.Own 0 tv (tx all) w1 := own_kp2 h.row hk fun k hk1 => by
    rintro (h1 | ⟨_, h1 | h1⟩ | h1)
    · exact absurd h1 (by decide)
    · exact h.off.1 (by rw [hk1, h1])
    · exact h.off.2 (by rw [hk1, h1])
    · exact absurd h1 (by decide)
  have hlt : ∀ k, tv.ownBlock = some k → k < w.heap.size := fun k hk1 => by
    obtain ⟨c, hc⟩ := own_type h.row k hk1
    exact (Array.getElem?_eq_some_iff.1 hc).1
  refine ⟨hrow, ⟨fun e => ?_, fun e => ?_⟩, hd⟩
  · rcases hn with rfl | hn
    · exact h.off.1 e
    · have := hlt _ e; omega
  · rcases hs with rfl | hs
    · exact h.off.2 e
    · have := hlt _ e; omega
theorem ints_kp {C : Nat} {v : Value} {M : List Int} (h : KI.Own C v M w) (hk : Kp B (RefT na sa) w w1) : KI.Own C v M w1 := own_kp2 h hk fun k _ => by
  rintro (h1 | ⟨h1, _⟩ | h1) <;> exact absurd h1 (by decide)
/-- The reel is laid. -/
theorem LAt.reel (h : LAt B w r na nc sa sc lv goes S tv all) (hB : B ≤ w.heap.size) (n : Nat) : EAt B (w.alloc (.cells #[.pointer (some ⟨r, 0, none⟩), tv, .int .i64 n] 59)) w.heap.size r na nc sa sc lv goes S tv all n := by
  have hb : Below w.heap.size w (w.alloc (.cells #[.pointer (some ⟨r, 0, none⟩), tv, .int .i64 n] 59)) := (Below.refl _ _).alloc (Nat.le_refl _) _
  exact ⟨heap_alloc_new w _, h.row.kept hb, h.off, h.disk.below hb, hB⟩
end
/-- What Open leaves. -/
def OpenTo (B : Nat) (w : World) (r na sa : Nat) (R : Int × St × List Tx) (e : Ending) (w' : World) : Prop :=
  ∃ pv na' nc' sa' sc' lv' goes', e = .returned (.tuple #[pv, .int .i64 R.1]) ∧ GoesOk R.2.1 goes' ∧ Trail B w w' na sa na' sa' ∧
    ((R.1 = 0 ∧ ∃ q tv, pv = .pointer (some ⟨q, 0, none⟩) ∧ w.heap.size ≤ q ∧ (∀ k, tv.ownBlock = some k → w.heap.size ≤ k) ∧ EAt B w' q r na' nc' sa' sc' lv' goes' R.2.1 tv R.2.2 R.2.2.length) ∨
      (R.1 ≠ 0 ∧ pv = .pointer none ∧ RAt B w' r na' nc' sa' sc' lv' goes' R.2.1))
end Go.Proofs.YtepcfmigkhacgaaDoor.Rl
