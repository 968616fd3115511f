/- reel: both reels side by side: what one's calls leave of the other. -/
import Derived.Test.YtepcfmigkhacgaaDoorRmI
import Derived.Test.YtepcfmigkhacgaaDoorReF
namespace Go.Proofs.YtepcfmigkhacgaaDoor.Rl
open Go.RowKit Go.Proofs.YtepcfmigkhacgaaDoor.Gr Go.Proofs.YtepcfmigkhacgaaDoor.Frame Go.Proofs.YtepcfmigkhacgaaDoor.Dk

theorem Typed.not {F : Nat → Prop} {w : World} (h : Typed F w) {k : Nat} {cs : Array Value} {t : TypeId} {fz : Nat × Nat} (hk : w.heap[k]? = some (.cells cs t fz)) (ht : ¬ Plain t) : ¬ F k := fun hF => ht (h k hF _ _ _ hk)
section
variable {B n : Nat} {w w' : World} {r na nc sa sc qe : Nat} {lv tv : Value} {goes : Int} {S : St} {all : List Tx} {rs : Nat} {F F' : Nat → Prop}
/-- The document's disk stays where others' blocks are touched. -/
theorem RAt.frm (h : RAt B w r na nc sa sc lv goes S) (hf : Frm F w w') (ht : Typed F w) (h1 : ¬ F na) (h2 : ¬ F sa) : RAt B w' r na nc sa sc lv goes S := by
  have hr : ¬ F r := ht.not h.heap (fun hp => hp.1 rfl)
  refine { h with heap := ?_, now := ?_, sure := ?_, loose := ?_ }
  · rw [hf.block r (Array.getElem?_eq_some_iff.1 h.heap).1 hr]
    exact h.heap
  · obtain ⟨X, hX⟩ := h.now.heap
    exact ⟨⟨X, (hf.block na h.now.lt h1).trans hX⟩, h.now.len, h.now.cap⟩
  · obtain ⟨X, hX⟩ := h.sure.heap
    exact ⟨⟨X, (hf.block sa h.sure.lt h2).trans hX⟩, h.sure.len, h.sure.cap⟩
  · rcases h.loose.2 with ⟨rfl, e⟩ | ⟨b, cp, cur, rfl, hb, hc, rr⟩
    · exact ⟨h.loose.1, Or.inl ⟨rfl, e⟩⟩
    · have hbF : ¬ F b := ht.not hc (fun hp => hp.2.1 rfl)
      exact ⟨h.loose.1, Or.inr ⟨b, cp, cur, rfl, hb, (hf.block b (Array.getElem?_eq_some_iff.1 hc).1 hbF).trans hc, rr⟩⟩
theorem EAt.frm (h : EAt B w qe r na nc sa sc lv goes S tv all rs) (hf : Frm F w w') (ht : Typed F w) (h1 : ¬ F na) (h2 : ¬ F sa) (h3 : ∀ k, tv.ownBlock = some k → ¬ F k) : EAt B w' qe r na nc sa sc lv goes S tv all rs := by
  have hq : ¬ F qe := ht.not h.heap (fun hp => hp.2.2 rfl)
  refine ⟨?_, own_frm h.row hf h3, h.off, RAt.frm h.disk hf ht h1 h2, h.bQ⟩
  rw [hf.block qe (Array.getElem?_eq_some_iff.1 h.heap).1 hq]
  exact h.heap
/-- What others touch, as a frame about one's own blocks. -/
theorem Kp.frm {T : Nat → TypeId → Prop} (h : Kp B T w w') (hT : ∀ k, F k → ∀ cs t fz, w.heap[k]? = some (.cells cs t fz) → ¬ T k t) : Frm (fun k => ¬ F k ∧ B ≤ k) w w' := by
  refine ⟨h.os, h.tape, h.output, h.size, fun k hk hn => ?_⟩
  have hkk := Array.getElem?_eq_getElem hk
  by_cases hB : k < B
  · rw [hkk]
    exact h.block k _ hkk (Or.inl hB)
  · have hF : F k := Classical.byContradiction fun hF => hn ⟨hF, by omega⟩
    rw [hkk]
    exact h.block k _ hkk (Or.inr fun cs t fz e => hT k hF cs t fz (by rw [hkk, e]))
theorem rel_apart (ht : Typed F w) (h1 : ¬ F na) (h2 : ¬ F sa) : ∀ k, F k → ∀ cs t fz, w.heap[k]? = some (.cells cs t fz) → ¬ RelT na sa k t := by
  intro k hF cs t fz hk hT
  have hp := ht k hF cs t fz hk
  rcases hT with (e | ⟨_, e | e⟩ | e) | e
  · exact hp.1 e
  · exact h1 (e ▸ hF)
  · exact h2 (e ▸ hF)
  · exact hp.2.1 e
  · exact hp.2.2 e
/-- The code's reel stays where the document's is called. -/
theorem RM.rel {C : Reels} {q g : Nat} (h : RM C B n F w q g S all rs) (hk : Kp B (RelT na sa) w w') (ht : Typed F w) (h1 : ¬ F na) (h2 : ¬ F sa) : RM C B n F w' q g S all rs :=
  h.kept (Kp.frm hk (rel_apart ht h1 h2)) (fun _ hF hG => hG.1 hF) (fun _ hG => hG.2)
theorem Typed.kp (ht : Typed F w) (hk : Kp B (RelT na sa) w w') (h1 : ¬ F na) (h2 : ¬ F sa) (hlt : ∀ k, F k → k < w.heap.size) : Typed F w' := by
  intro k hF cs t fz hkk
  have hf := Kp.frm hk (rel_apart ht h1 h2)
  rw [hf.block k (hlt k hF) (fun hG => hG.1 hF)] at hkk
  exact ht k hF cs t fz hkk
end
/-- A disk of the code's touches none of the document's types. -/
theorem mine_typed {B n : Nat} {w : World} {g : Nat} {lv : Value} {S : St} (h : Mine B n w g lv S) : Typed (foot g lv) w := by
  intro k hk cs t fz hkk
  rcases hk with hk | hk
  · rw [hk, h.at_.heap] at hkk
    simp only [Option.some.injEq, Obj.cells.injEq] at hkk
    rw [← hkk.2.1]
    exact ⟨by decide, by decide, by decide⟩
  · obtain ⟨c, hc⟩ := own_type h.at_.own k hk
    rw [hc] at hkk
    simp only [Option.some.injEq, Obj.cells.injEq] at hkk
    rw [← hkk.2.1]
    exact ⟨by decide, by decide, by decide⟩
/-- Both reels, at one plain state. -/
structure Play (C : Reels) (B n : Nat) (w : World) (F : Nat → Prop) (q g qe r na nc sa sc : Nat) (lv : Value) (goes : Int) (tv : Value) (S : St) (all : List Tx) (rs : Nat) : Prop where
  rm : RM C B n F w q g S all rs
  ea : EAt B w qe r na nc sa sc lv goes S tv all rs
  goes : GoesOk S goes
  nF : ¬ F na ∧ ¬ F sa
  tF : ∀ k, tv.ownBlock = some k → ¬ F k
section
variable {C : Reels} {B n m : Nat} {w w1 w2 : World} {F F1 : Nat → Prop} {q g qe r na nc sa sc : Nat} {lv tv : Value} {goes : Int} {S S1 : St} {all all1 : List Tx} {rs rs1 : Nat}
theorem Play.below (h : Play C B n w F q g qe r na nc sa sc lv goes tv S all rs) (hb : Below w.heap.size w w1) : Play C B n w1 F q g qe r na nc sa sc lv goes tv S all rs :=
  ⟨h.rm.below hb, h.ea.below hb, h.goes, h.nF, h.tF⟩
theorem Play.lt (h : Play C B n w F q g qe r na nc sa sc lv goes tv S all rs) (k : Nat) (hk : tv.ownBlock = some k) : k < w.heap.size := by
  obtain ⟨c, hc⟩ := own_type h.ea.row k hk
  exact (Array.getElem?_eq_some_iff.1 hc).1
/-- Between the code's call and the document's: the code's reel ahead. -/
structure Half (C : Reels) (B m : Nat) (w1 : World) (F1 : Nat → Prop) (q g : Nat) (S1 : St) (all1 : List Tx) (rs1 : Nat) (qe r na nc sa sc : Nat) (lv : Value) (goes : Int) (tv : Value) (S : St) (all : List Tx) (rs : Nat) : Prop where
  rm : RM C B m F1 w1 q g S1 all1 rs1
  ea : EAt B w1 qe r na nc sa sc lv goes S tv all rs
  goes : GoesOk S goes
  nF : ¬ F1 na ∧ ¬ F1 sa
  tF : ∀ k, tv.ownBlock = some k → ¬ F1 k
theorem Play.half (h : Play C B n w F q g qe r na nc sa sc lv goes tv S all rs) (hm : Moved F w F1 w1) (hr : RM C B m F1 w1 q g S1 all1 rs1) : Half C B m w1 F1 q g S1 all1 rs1 qe r na nc sa sc lv goes tv S all rs :=
  ⟨hr, h.ea.frm hm.frm (C.typed h.rm.at_) h.nF.1 h.nF.2 h.tF, h.goes, ⟨fun hF => by
    rcases hm.foot _ hF with h1 | h1
    · exact h.nF.1 h1
    · have := h.ea.disk.now.lt; omega, fun hF => by
    rcases hm.foot _ hF with h1 | h1
    · exact h.nF.2 h1
    · have := h.ea.disk.sure.lt; omega⟩, fun k hk hF => by
    rcases hm.foot _ hF with h1 | h1
    · exact h.tF k hk h1
    · have := h.lt k hk; omega⟩
/-- Behind both calls. -/
theorem Half.whole (h : Half C B m w1 F1 q g S1 all1 rs1 qe r na nc sa sc lv goes tv S all rs) {e : Ending} {v : Value} (he : EPost B w1 qe r na sa tv v S1 all1 rs1 e w2) :
    e = .returned v ∧ ∃ na' nc' sa' sc' lv' goes' tv', Play C B m w2 F1 q g qe r na' nc' sa' sc' lv' goes' tv' S1 all1 rs1 ∧ Trail B w1 w2 na sa na' sa' := by
  obtain ⟨he1, na', nc', sa', sc', lv', goes', tv', hE, hG, hT, hrow⟩ := he
  refine ⟨he1, na', nc', sa', sc', lv', goes', tv', ⟨h.rm.rel hT.kp (C.typed h.rm.at_) h.nF.1 h.nF.2, hE, hG, ⟨fun hF => ?_, fun hF => ?_⟩, fun k hk hF => ?_⟩, hT⟩
  · rcases hT.now with e | e
    · exact h.nF.1 (e ▸ hF)
    · have := h.rm.lt _ hF; omega
  · rcases hT.sure with e | e
    · exact h.nF.2 (e ▸ hF)
    · have := h.rm.lt _ hF; omega
  · rcases hrow k hk with e | e
    · exact h.tF k e hF
    · have := h.rm.lt _ hF; omega
end
end Go.Proofs.YtepcfmigkhacgaaDoor.Rl
