/- reel: ReelPlays: where both stand; the head. -/
import Derived.Test.YtepcfmigkhacgaaDoorRpB
namespace Go.Proofs.YtepcfmigkhacgaaDoor.Rl
open Go.RowKit Go.Proofs.YtepcfmigkhacgaaDoor.Gr Go.Proofs.YtepcfmigkhacgaaDoor.Frame Go.Proofs.YtepcfmigkhacgaaDoor.Dk

theorem RAt.low {B C : Nat} {w : World} {r na nc sa sc : Nat} {lv : Value} {goes : Int} {S : St} (h : RAt C w r na nc sa sc lv goes S) (hB : B ≤ C) : RAt B w r na nc sa sc lv goes S :=
  ⟨h.heap, h.now, h.sure, own_low h.loose hB, h.ne, Nat.le_trans hB h.bR, Nat.le_trans hB h.bN, Nat.le_trans hB h.bS⟩
/-- Both stand: with reels, or without. -/
def Both (C : Reels) (B m : Nat) (w : World) (g r : Nat) (pv pe : Value) : Prop :=
  (∃ q F qe na nc sa sc lv goes tv S all rs, pv = .pointer (some ⟨q, 0, none⟩) ∧ pe = .pointer (some ⟨qe, 0, none⟩) ∧ Play C B m w F q g qe r na nc sa sc lv goes tv S all rs) ∨
    (pv = .pointer none ∧ pe = .pointer none ∧ ∃ lc na nc sa sc lv goes S, DPlay B m w g lc r na nc sa sc lv goes S)
section
variable {C : Reels} {B n m : Nat} {w w1 w2 : World} {F : Nat → Prop} {q g qe r na nc sa sc : Nat} {lc lc1 lv tv : Value} {goes : Int} {S S1 : St} {all : List Tx} {rs : Nat} {pv pe : Value}
theorem Stood.both {er : Int} {T : St} {l : List Tx} (h : Stood C B m w g r er T l pv pe) : Both C B m w g r pv pe := by
  obtain ⟨na, nc, sa, sc, lv, goes, hx⟩ := h
  rcases hx with ⟨_, q, F, qe, tv, h1, h2, h3⟩ | ⟨_, h1, h2, lc, h3⟩
  · exact Or.inl ⟨q, F, qe, na, nc, sa, sc, lv, goes, tv, T, l, _, h1, h2, h3⟩
  · exact Or.inr ⟨h1, h2, lc, na, nc, sa, sc, lv, goes, T, h3⟩
theorem Both.below (h : Both C B m w g r pv pe) (hb : Below w.heap.size w w1) : Both C B m w1 g r pv pe := by
  rcases h with ⟨q, F, qe, na, nc, sa, sc, lv, goes, tv, S, all, rs, h1, h2, h3⟩ | ⟨h1, h2, lc, na, nc, sa, sc, lv, goes, S, h3⟩
  · exact Or.inl ⟨q, F, qe, na, nc, sa, sc, lv, goes, tv, S, all, rs, h1, h2, h3.below hb⟩
  · exact Or.inr ⟨h1, h2, lc, na, nc, sa, sc, lv, goes, S, h3.below hb⟩
theorem DPlay.mono (h : DPlay B n w g lc r na nc sa sc lv goes S) (hm : n ≤ m) : DPlay B m w g lc r na nc sa sc lv goes S := ⟨⟨h.mine.at_, h.mine.good.mono hm, h.mine.gB, h.mine.own⟩, h.ra, h.goes, h.nF, h.home⟩
theorem Both.mono (h : Both C B n w g r pv pe) (hm : n ≤ m) : Both C B m w g r pv pe := by
  rcases h with ⟨q, F, qe, na, nc, sa, sc, lv, goes, tv, S, all, rs, h1, h2, h3⟩ | ⟨h1, h2, lc, na, nc, sa, sc, lv, goes, S, h3⟩
  · exact Or.inl ⟨q, F, qe, na, nc, sa, sc, lv, goes, tv, S, all, rs, h1, h2, ⟨h3.rm.mono hm, h3.ea, h3.goes, h3.nF, h3.tF⟩⟩
  · exact Or.inr ⟨h1, h2, lc, na, nc, sa, sc, lv, goes, S, h3.mono hm⟩
/-- The document's disk ahead. -/
structure DAhead (B n : Nat) (w : World) (g : Nat) (lc : Value) (S : St) (r na nc sa sc : Nat) (lv : Value) (goes : Int) (S1 : St) : Prop where
  mine : Mine B n w g lc S
  ra : RAt B w r na nc sa sc lv goes S1
  goes : GoesOk S1 goes
  nF : ¬ foot g lc na ∧ ¬ foot g lc sa
  home : Home B w
theorem DPlay.ahead (h : DPlay B n w g lc r na nc sa sc lv goes S) {e : Ending} {v : Value} (he : RPost B w r na sa v S1 e w1) :
    e = .returned v ∧ ∃ na' nc' sa' sc' lv' goes', DAhead B n w1 g lc S r na' nc' sa' sc' lv' goes' S1 ∧ Trail B w w1 na sa na' sa' := by
  obtain ⟨he1, hk, na', nc', sa', sc', lv', goes', hR, hG, hn, hs⟩ := he
  have hkr := Kp.rel hk
  refine ⟨he1, na', nc', sa', sc', lv', goes', ⟨mine_rel h.mine hkr h.nF.1 h.nF.2, hR, hG, ⟨fun hF => ?_, fun hF => ?_⟩, home_rel h.home hkr⟩, hkr, hn, hs⟩
  · rcases hn with e | e
    · exact h.nF.1 (e ▸ hF)
    · have := mine_lt h.mine _ hF; omega
  · rcases hs with e | e
    · exact h.nF.2 (e ▸ hF)
    · have := mine_lt h.mine _ hF; omega
theorem DAhead.whole (h : DAhead B n w g lc S r na nc sa sc lv goes S1) (hm : Moved (foot g lc) w (foot g lc1) w1) (hd : Mine B m w1 g lc1 S1) : DPlay B m w1 g lc1 r na nc sa sc lv goes S1 :=
  ⟨hd, RAt.frm h.ra hm.frm (mine_typed h.mine) h.nF.1 h.nF.2, h.goes, ⟨moved_apart hm h.ra.now.lt h.nF.1, moved_apart hm h.ra.sure.lt h.nF.2⟩, h.home.frm hm.frm h.mine.fb⟩
/-- Both are new. -/
theorem both_new {w0 : World} (hh : Home B w0) (hm : Mine B 0 w0 g lc newS) (hr : RAt w0.heap.size w r na nc sa sc lv goes newS) (hg : GoesOk newS goes) (hb : Below w0.heap.size w0 w) : DPlay B 0 w g lc r na nc sa sc lv goes newS :=
  ⟨hm.below hb, RAt.low hr hh.size, hg, ⟨fun hF => by have h1 := mine_lt hm _ hF; have h2 := hr.bN; omega, fun hF => by have h1 := mine_lt hm _ hF; have h2 := hr.bS; omega⟩, hh.below hb⟩
end
end Go.Proofs.YtepcfmigkhacgaaDoor.Rl
