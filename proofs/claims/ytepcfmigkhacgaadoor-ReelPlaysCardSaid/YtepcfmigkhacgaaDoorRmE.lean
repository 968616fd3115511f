/- reel: opening what was opened, whatever bytes were there. -/
import Derived.Test.YtepcfmigkhacgaaDoorRmD
import Derived.Test.YtepcfmigkhacgaaDoorG6
namespace Go.Proofs.YtepcfmigkhacgaaDoor.Rl
open Go.RowKit Go.Proofs.YtepcfmigkhacgaaDoor.Gr Go.Proofs.YtepcfmigkhacgaaDoor.Frame Go.Proofs.YtepcfmigkhacgaaDoor.Dk

/-- What the statement counts of its files. -/
def sumW (L : List ByteArray) : Nat := (L.map fun s => min s.size 16384 + 1).sum
theorem sumW_snoc (L : List ByteArray) (k : Nat) (s : ByteArray) (h : L[k]? = some s) : sumW (L.take (k + 1)) = sumW (L.take k) + (min s.size 16384 + 1) := by
  unfold sumW
  rw [List.take_add_one, h, List.map_append, List.sum_append]
  simp
theorem sumW_le (L : List ByteArray) : sumW L ≤ 16385 * L.length := by
  unfold sumW
  induction L with
  | nil => simp
  | cons s L ih => simp only [List.map_cons, List.sum_cons, List.length_cons]; omega
theorem sumW_mem {L : List ByteArray} (h : sumW L ≤ 16384) {s : ByteArray} (hs : s ∈ L) : s.size ≤ 16383 := by
  unfold sumW at h
  induction L with
  | nil => simp at hs
  | cons t L ih =>
    simp only [List.map_cons, List.sum_cons] at h
    rcases List.mem_cons.1 hs with rfl | hs
    · omega
    · exact ih (by omega) hs
theorem keepF_own {f : Nat} : ∀ {L : List Ch}, (∀ c ∈ L, c.file = f) → keepF f L = []
  | [], _ => rfl
  | c :: L, h => by
    unfold keepF
    rw [List.filter_cons, if_neg (by simp [h c (by simp)])]
    exact keepF_own (fun d hd => h d (by simp [hd]))
/-- A file is laid on a fresh disk. -/
theorem lay_file {S : St} (h : Fresh S) (hl : S.lasts = -1) {f : Nat} (hf : f < 64) (h0 : fileN S.now f = []) {s : ByteArray} (hs : s.size ≤ 16384) :
    ∃ S1 S2, appendS S f s = (0, S1) ∧ syncerS S1 f = (0, S2) ∧ Fresh S2 ∧ S2.lasts = -1 ∧ ∀ g, f ≠ g → fileN S2.now g = fileN S.now g := by
  obtain ⟨o1, o2⟩ := opS_lasts hl
  have hz : (S.now.getD f ⟨#[]⟩).size = 0 := by rw [fileN_size, h0]; rfl
  have e1 : appendS S f s = (0, putS (opS S).2 f s) := by
    unfold appendS
    rw [h.on, errF_yes (by omega), if_neg (by simp), Int.toNat_natCast, if_neg (by omega), if_neg (by rw [o1]; simp)]
  obtain ⟨T, hT⟩ : ∃ T, putS (opS S).2 f s = T := ⟨_, rfl⟩
  have hTl : T.lasts = -1 := by rw [← hT]; exact o2
  have hTon : T.on = true := by rw [← hT]; show (opS S).2.on = true; rw [opS_on o1, h.on]
  obtain ⟨p1, p2⟩ := opS_lasts hTl
  have e2 : syncerS T f = (0, syncS (opS T).2 f) := by
    unfold syncerS
    rw [hTon, errF_yes (by omega), if_neg (by simp), Int.toNat_natCast, if_neg (by rw [p1]; simp)]
  have hTn : T.now = S.now.set f (S.now.getD f ⟨#[]⟩ ++ s) := by rw [← hT]; show (opS S).2.now.set f ((opS S).2.now.getD f ⟨#[]⟩ ++ s) = _; rw [opS_now]
  have hTs : T.sure = S.sure := by rw [← hT]; exact opS_sure S
  have hTo : ∀ c ∈ T.loose, c.file = f := by
    rw [← hT]
    show ∀ c ∈ (opS S).2.loose ++ [_], _
    rw [opS_loose, h.loose]
    intro c hc
    simp at hc
    rw [hc]
  refine ⟨T, _, by rw [e1, hT], e2, ⟨?_, ?_, ?_, ?_⟩, p2, fun g hg => ?_⟩
  · show (opS T).2.now.length = 64
    rw [opS_now, hTn, List.length_set, h.lenN]
  · show (opS T).2.sure.set f ((opS T).2.now.getD f ⟨#[]⟩) = (opS T).2.now
    rw [opS_now, opS_sure, hTs, hTn, h.sure, getD_set_self (by rw [h.lenN]; exact hf)]
  · show keepF f (opS T).2.loose = []
    rw [opS_loose]
    exact keepF_own hTo
  · show (opS T).2.on = true
    rw [opS_on p1, hTon]
  · show fileN (opS T).2.now g = _
    rw [opS_now, hTn, fileN_set_other hg]
/-- Where all is sure nothing is loose. -/
theorem Inv.none {S : St} {all : List Tx} (h : Inv S all all.length) {n : Nat} (hg : GoodN n S) : S.loose = [] := by
  obtain ⟨K, h1, h2⟩ := h.rec_
  rw [List.eq_nil_iff_forall_not_mem]
  intro c hc
  have hf := (hg.chs c hc).1
  have hl := h1.loose c.file hf
  have hK : (fileT all c.file).length ≤ K c.file := by
    rw [fileT_len]
    by_cases h0 : min 8 (all.length - 8 * c.file) = 0
    · omega
    · have := h2 (8 * c.file + (min 8 (all.length - 8 * c.file) - 1)) (by omega)
      have e1 : (8 * c.file + (min 8 (all.length - 8 * c.file) - 1)) / 8 = c.file := by omega
      have e2 : (8 * c.file + (min 8 (all.length - 8 * c.file) - 1)) % 8 = min 8 (all.length - 8 * c.file) - 1 := by omega
      rw [e1, e2] at this
      omega
  rw [List.drop_of_length_le hK] at hl
  have : c ∈ ofF c.file S.loose := by
    unfold ofF
    rw [List.mem_filter]
    exact ⟨hc, by simp⟩
  rw [hl] at this
  simp [chsF] at this
theorem fresh_new : Fresh newS := ⟨rfl, rfl, rfl, rfl⟩
end Go.Proofs.YtepcfmigkhacgaaDoor.Rl
