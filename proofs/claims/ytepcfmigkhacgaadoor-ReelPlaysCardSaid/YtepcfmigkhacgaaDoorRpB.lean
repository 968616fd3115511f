/- reel: both disks side by side, without reels; both opened. -/
import Derived.Test.YtepcfmigkhacgaaDoorRpA
import Derived.Test.YtepcfmigkhacgaaDoorRdCb
import Derived.Test.YtepcfmigkhacgaaDoorG7
namespace Go.Proofs.YtepcfmigkhacgaaDoor.Rl
open Go.RowKit Go.Proofs.YtepcfmigkhacgaaDoor.Gr Go.Proofs.YtepcfmigkhacgaaDoor.Frame Go.Proofs.YtepcfmigkhacgaaDoor.Dk

/-- Both disks, at one plain state. -/
structure DPlay (B n : Nat) (w : World) (g : Nat) (lc : Value) (r na nc sa sc : Nat) (lv : Value) (goes : Int) (S : St) : Prop where
  mine : Mine B n w g lc S
  ra : RAt B w r na nc sa sc lv goes S
  goes : GoesOk S goes
  nF : ¬ foot g lc na ∧ ¬ foot g lc sa
  home : Home B w
/-- The code's disk ahead. -/
structure DHalf (B m : Nat) (w : World) (g : Nat) (lc : Value) (S1 : St) (r na nc sa sc : Nat) (lv : Value) (goes : Int) (S : St) : Prop where
  mine : Mine B m w g lc S1
  ra : RAt B w r na nc sa sc lv goes S
  goes : GoesOk S goes
  nF : ¬ foot g lc na ∧ ¬ foot g lc sa
  home : Home B w
section
variable {C : Reels} {B n m : Nat} {w w1 w2 : World} {F : Nat → Prop} {q g qe r na nc sa sc : Nat} {lc lc1 lv tv : Value} {goes : Int} {S S1 : St} {all : List Tx} {rs : Nat}
theorem Play.disk (h : Play C B n w F q g qe r na nc sa sc lv goes tv S all rs) : ∃ lc, DPlay B n w g lc r na nc sa sc lv goes S := by
  obtain ⟨lc, hd, hF⟩ := h.rm.disk
  exact ⟨lc, hd, h.ea.disk, h.goes, ⟨fun hk => h.nF.1 (hF _ hk), fun hk => h.nF.2 (hF _ hk)⟩, h.rm.home⟩
theorem DPlay.below (h : DPlay B n w g lc r na nc sa sc lv goes S) (hb : Below w.heap.size w w1) : DPlay B n w1 g lc r na nc sa sc lv goes S :=
  ⟨h.mine.below hb, h.ra.below hb, h.goes, h.nF, h.home.below hb⟩
theorem moved_apart {F G : Nat → Prop} (hm : Moved F w G w1) {k : Nat} (hk : k < w.heap.size) (hF : ¬ F k) : ¬ G k := fun hG => by
  rcases hm.foot _ hG with h1 | h1
  · exact hF h1
  · omega
theorem DPlay.half (h : DPlay B n w g lc r na nc sa sc lv goes S) (hm : Moved (foot g lc) w (foot g lc1) w1) (hd : Mine B m w1 g lc1 S1) : DHalf B m w1 g lc1 S1 r na nc sa sc lv goes S :=
  ⟨hd, RAt.frm h.ra hm.frm (mine_typed h.mine) h.nF.1 h.nF.2, h.goes, ⟨moved_apart hm h.ra.now.lt h.nF.1, moved_apart hm h.ra.sure.lt h.nF.2⟩, h.home.frm hm.frm h.mine.fb⟩
/-- The code's disk stays where the document's is called. -/
theorem mine_rel (h : Mine B n w g lc S) (hk : Kp B (RelT na sa) w w1) (h1 : ¬ foot g lc na) (h2 : ¬ foot g lc sa) : Mine B n w1 g lc S :=
  h.kept (Kp.frm hk (rel_apart (mine_typed h) h1 h2)) (fun _ hF hG => hG.1 hF)
theorem home_rel (h : Home B w) (hk : Kp B (RelT na sa) w w1) : Home B w1 := h.down (hk.below h.size)
theorem mine_lt (h : Mine B n w g lc S) (k : Nat) (hk : foot g lc k) : k < w.heap.size := by
  rcases hk with h1 | h1
  · rw [h1]; exact h.at_.lt
  · obtain ⟨cs, hc⟩ := own_type h.at_.own k h1
    exact (Array.getElem?_eq_some_iff.1 hc).1
theorem DHalf.whole (h : DHalf B m w g lc S1 r na nc sa sc lv goes S) {e : Ending} {v : Value} (he : RPost B w r na sa v S1 e w1) :
    e = .returned v ∧ ∃ na' nc' sa' sc' lv' goes', DPlay B m w1 g lc r na' nc' sa' sc' lv' goes' S1 ∧ Trail B w w1 na sa na' sa' := by
  obtain ⟨he1, hk, na', nc', sa', sc', lv', goes', hR, hG, hn, hs⟩ := he
  have hkr := Kp.rel hk
  refine ⟨he1, na', nc', sa', sc', lv', goes', ⟨mine_rel h.mine hkr h.nF.1 h.nF.2, hR, hG, ⟨fun hF => ?_, fun hF => ?_⟩, home_rel h.home hkr⟩, hkr, hn, hs⟩
  · rcases hn with e | e
    · exact h.nF.1 (e ▸ hF)
    · have := mine_lt h.mine _ hF; omega
  · rcases hs with e | e
    · exact h.nF.2 (e ▸ hF)
    · have := mine_lt h.mine _ hF; omega
/-- Both opened: the code's first. -/
def Opened (C : Reels) (B m : Nat) (w : World) (g : Nat) (er : Int) (T : St) (l : List Tx) (pv : Value) (r na nc sa sc : Nat) (lv : Value) (goes : Int) (S : St) : Prop :=
  RAt B w r na nc sa sc lv goes S ∧ GoesOk S goes ∧
    ((er = 0 ∧ ∃ q F, pv = .pointer (some ⟨q, 0, none⟩) ∧ RM C B m F w q g T l l.length ∧ ¬ F na ∧ ¬ F sa) ∨
      (er ≠ 0 ∧ pv = .pointer none ∧ ∃ lc, Mine B m w g lc T ∧ Home B w ∧ ¬ foot g lc na ∧ ¬ foot g lc sa))
theorem DPlay.opened (h : DPlay B n w g lc r na nc sa sc lv goes S) {er : Int} {T : St} {l : List Tx} {e : Ending} (ho : OpenW C B m w g lc er T l e w1) :
    ∃ pv, e = .returned (.tuple #[pv, .int .i64 er]) ∧ Opened C B m w1 g er T l pv r na nc sa sc lv goes S ∧ Below B w w1 := by
  obtain ⟨pv, he, hx⟩ := ho
  rcases hx with ⟨h1, q, F, hp, hm, hr⟩ | ⟨h1, hp, lc', hm, hd, hh⟩
  · exact ⟨pv, he, ⟨RAt.frm h.ra hm.frm (mine_typed h.mine) h.nF.1 h.nF.2, h.goes, Or.inl ⟨h1, q, F, hp, hr, moved_apart hm h.ra.now.lt h.nF.1, moved_apart hm h.ra.sure.lt h.nF.2⟩⟩, hm.down h.mine.fb h.home.size⟩
  · exact ⟨pv, he, ⟨RAt.frm h.ra hm.frm (mine_typed h.mine) h.nF.1 h.nF.2, h.goes, Or.inr ⟨h1, hp, lc', hd, hh, moved_apart hm h.ra.now.lt h.nF.1, moved_apart hm h.ra.sure.lt h.nF.2⟩⟩, hm.down h.mine.fb h.home.size⟩
/-- Where both stand behind both Opens: both reels, or none. -/
def Stood (C : Reels) (B m : Nat) (w : World) (g r : Nat) (er : Int) (T : St) (l : List Tx) (pv pe : Value) : Prop :=
  ∃ na nc sa sc lv goes, (er = 0 ∧ ∃ q F qe tv, pv = .pointer (some ⟨q, 0, none⟩) ∧ pe = .pointer (some ⟨qe, 0, none⟩) ∧ Play C B m w F q g qe r na nc sa sc lv goes tv T l l.length) ∨
    (er ≠ 0 ∧ pv = .pointer none ∧ pe = .pointer none ∧ ∃ lc, DPlay B m w g lc r na nc sa sc lv goes T)
theorem Opened.stood {er : Int} {T : St} {l : List Tx} {pv : Value} (h : Opened C B m w g er T l pv r na nc sa sc lv goes S) {e : Ending} (ho : OpenTo B w r na sa (er, T, l) e w1) (hB : B ≤ w.heap.size) :
    ∃ pe, e = .returned (.tuple #[pe, .int .i64 er]) ∧ Stood C B m w1 g r er T l pv pe ∧ Below B w w1 := by
  obtain ⟨pe, na', nc', sa', sc', lv', goes', he, hG, hT, hx⟩ := ho
  obtain ⟨_, _, hy⟩ := h
  refine ⟨pe, he, ⟨na', nc', sa', sc', lv', goes', ?_⟩, hT.kp.below hB⟩
  rcases hx with ⟨h1, qe, tv, hp, _, hbase, hE⟩ | ⟨h1, hp, hR⟩
  · have h1 : er = 0 := h1
    rcases hy with ⟨_, q, F, hpv, hr, n1, n2⟩ | ⟨h2, _⟩
    · refine Or.inl ⟨h1, q, F, qe, tv, hpv, hp, hr.rel hT.kp (C.typed hr.at_) n1 n2, hE, hG, ⟨fun hF => ?_, fun hF => ?_⟩, fun k hk hF => ?_⟩
      · rcases hT.now with e | e
        · exact n1 (e ▸ hF)
        · have := hr.lt _ hF; omega
      · rcases hT.sure with e | e
        · exact n2 (e ▸ hF)
        · have := hr.lt _ hF; omega
      · have := hbase k hk
        have := hr.lt _ hF
        omega
    · exact absurd h1 h2
  · have h1 : er ≠ 0 := h1
    rcases hy with ⟨h2, _⟩ | ⟨_, hpv, lc, hd, hh, n1, n2⟩
    · exact absurd h2 h1
    · refine Or.inr ⟨h1, hpv, hp, lc, mine_rel hd hT.kp n1 n2, hR, hG, ⟨fun hF => ?_, fun hF => ?_⟩, home_rel hh hT.kp⟩
      · rcases hT.now with e | e
        · exact n1 (e ▸ hF)
        · have := mine_lt hd _ hF; omega
      · rcases hT.sure with e | e
        · exact n2 (e ▸ hF)
        · have := mine_lt hd _ hF; omega
end
end Go.Proofs.YtepcfmigkhacgaaDoor.Rl
