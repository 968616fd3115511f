/- reel: the document's Sync. -/
import Derived.Test.YtepcfmigkhacgaaDoorReB
namespace Go.Proofs.YtepcfmigkhacgaaDoor.Rl
open Go.RowKit Go.Proofs.YtepcfmigkhacgaaDoor.Gr Go.Proofs.YtepcfmigkhacgaaDoor.Frame Go.Proofs.YtepcfmigkhacgaaDoor.Dk
section
variable {B q r na nc sa sc : Nat} {lv tv : Value} {goes : Int} {S : St} {all : List Tx} {rs : Nat}
set_option maxRecDepth 100000 in
set_option maxHeartbeats 1600000 in
theorem ref_SyncR (w : World) (h : EAt B w q r na nc sa sc lv goes S tv all rs) (hg : GoesOk S goes) {N : Nat} (hS : GoodN N S) (hN : N ≤ 1000000) (hB : B ≤ w.heap.size) :
    Calls Tryd.prog 23 #[.pointer (some ⟨q, 0, none⟩)] w (EPost B w q r na sa tv (.int .i64 (syncR all.length 64 0 S rs).1) (syncR all.length 64 0 S rs).2.1 all (syncR all.length 64 0 S rs).2.2) := by
  obtain ⟨ta, n, tc, rfl, hn⟩ : ∃ a n c, tv = .slice a n c ∧ all.length = n := by
    obtain ⟨a, c, e, _⟩ := h.row.reads.form
    exact ⟨a, _, c, e, (tx_len all).symm⟩
  rw [hn]
  have HB := Lib.hid hB
  have HH := Lib.hid (show EAt B w q r na nc sa sc lv goes S (.slice ta n tc) all rs from h)
  have HS := Lib.hid hS
  have HG0 := Lib.hid hg
  unfold EPost
  clear h hg hS hn hB
  go_enter Tryd.func23, Tryd.ntmps23
  go_wp2_with fail
  go_loopw [3] (fun fv wr => ∃ (f : Nat) (S1 : St) (rs1 na1 nc1 sa1 sc1 : Nat) (lv1 : Value) (goes1 : Int), f ≤ 64 ∧ fv = .int .i64 f ∧ EAt B wr q r na1 nc1 sa1 sc1 lv1 goes1 S1 (.slice ta n tc) all rs1 ∧ GoesOk S1 goes1 ∧ Trail B w wr na sa na1 sa1 ∧ GoodN (N + f) S1 ∧ syncR n 64 0 S rs = syncR n (64 - f) f S1 rs1) (fun fv _ => 64 - (intOf fv).toNat)
  case atStart => exact ⟨0, S, rs, na, nc, sa, sc, lv, goes, by omega, rfl, HH.out, HG0.out, Trail.refl, HS.out, rfl⟩
  case round =>
    obtain ⟨f, S1, rs1, na1, nc1, sa1, sc1, lv1, goes1, hf, rfl, hE, hg, htr, hgn, hsync⟩ := hrel
    have HE := Lib.hid hE
    have HG := Lib.hid hg
    have HTR := Lib.hid htr
    have HGN := Lib.hid hgn
    have hc0 := hE.cDisk
    have hc1 := hE.cRow
    have hc2 := hE.cSure
    have HSC := Lib.hid (ref_Sync wr hE.disk hg (by have := hgn.ops; omega) (by have := hgn.loose; omega) (Nat.le_trans HB.out htr.kp.size) (f : Int))
    unfold RPost at HSC
    clear hE hg htr hgn
    by_cases hlt : f < 64
    · have hfi : (f : Int) < 64 := by omega
      by_cases hm : n < 8 * f + 8
      · have hmi : (n : Int) < (f : Int) * 8 + 8 := by omega
        have hmin : min (8 * f + 8) n = n := by omega
        by_cases h1 : rs1 < n
        · have h1i : (rs1 : Int) < (n : Int) := by omega
          have e1 : syncR n (64 - f) f S1 rs1 = if (syncerS S1 f).1 = 0 then syncR n (63 - f) (f + 1) (syncerS S1 f).2 (n) else ((syncerS S1 f).1, (syncerS S1 f).2, rs1) := by
            rw [show 64 - f = (63 - f) + 1 by omega, syncR, hmin, if_pos h1]
          rw [e1] at hsync
          obtain ⟨er, her⟩ : ∃ er, (syncerS S1 f).1 = er := ⟨_, rfl⟩
          rw [her] at hsync
          have HSY2 := Lib.hid hsync
          clear e1 hsync hmin
          go_upto_region 7 with (go_at_call 54; refine HSC.out.mono ?_; rintro e w1 ⟨rfl, hk1, na2, nc2, sa2, sc2, lv2, goes2, hd2, hg2, hn2, hs2⟩)
          have HE2 := Lib.hid (HE.out.disked hk1 hd2 hn2 hs2)
          have HG2 := Lib.hid hg2
          have HT2 := Lib.hid (HTR.out.step (Kp.rel hk1) hn2 hs2)
          clear hk1 hd2 hg2 hn2 hs2 hc0 hc1 hc2
          by_cases h2 : er = 0
          · subst h2
            have hc2 := HE2.out.cSure
            have hf2 := HE2.out.fz
            have HE3 := Lib.hid (HE2.out.field (i := 2) (u := .int .i64 (n : Nat)) (tv1 := .slice ta n tc) (all1 := all) (rs1 := n) (by simp) HE2.out.row HE2.out.off)
            have HT3 := Lib.hid (HT2.out.step (HE2.out.kSet (na0 := na2) (sa0 := sa2) Kp.refl 2 (.int .i64 (n : Nat))) (Or.inl rfl) (Or.inl rfl))
            go_wp2
            skip
            go_roundw
            case rel => exact ⟨f + 1, _, _, _, _, _, _, _, _, by omega, by go_num, HE3.out, HG2.out, HT3.out, by rw [show N + (f + 1) = (N + f) + 1 by omega]; exact HGN.out.sync f, by rw [HSY2.out, if_pos rfl, show 64 - (f + 1) = 63 - f by omega]⟩
            case measure => simp [intOf]; omega
          · rw [if_neg h2] at HSY2
            go_wp2
            go_ret
            rw [HSY2.out]
            exact ⟨rfl, _, _, _, _, _, _, _, HE2.out, HG2.out, HT2.out, fun _ h => Or.inl h⟩
        · have h1i : ¬ (rs1 : Int) < (n : Int) := by omega
          have e1 : syncR n (64 - f) f S1 rs1 = syncR n (63 - f) (f + 1) S1 rs1 := by
            rw [show 64 - f = (63 - f) + 1 by omega, syncR, hmin, if_neg h1]
          rw [e1] at hsync
          have HSY2 := Lib.hid hsync
          clear e1 hsync hmin
          go_wp2
          go_roundw
          case rel => exact ⟨f + 1, _, _, _, _, _, _, _, _, by omega, by go_num, HE.out, HG.out, HTR.out, HGN.out.mono (by omega), by rw [HSY2.out, show 64 - (f + 1) = 63 - f by omega]⟩
          case measure => simp [intOf]; omega
      · have hmi : ¬ (n : Int) < (f : Int) * 8 + 8 := by omega
        have hmin : min (8 * f + 8) n = 8 * f + 8 := by omega
        by_cases h1 : rs1 < 8 * f + 8
        · have h1i : (rs1 : Int) < ((f : Int) * 8 + 8) := by omega
          have e1 : syncR n (64 - f) f S1 rs1 = if (syncerS S1 f).1 = 0 then syncR n (63 - f) (f + 1) (syncerS S1 f).2 (8 * f + 8) else ((syncerS S1 f).1, (syncerS S1 f).2, rs1) := by
            rw [show 64 - f = (63 - f) + 1 by omega, syncR, hmin, if_pos h1]
          rw [e1] at hsync
          obtain ⟨er, her⟩ : ∃ er, (syncerS S1 f).1 = er := ⟨_, rfl⟩
          rw [her] at hsync
          have HSY2 := Lib.hid hsync
          clear e1 hsync hmin
          go_upto_region 7 with (go_at_call 54; refine HSC.out.mono ?_; rintro e w1 ⟨rfl, hk1, na2, nc2, sa2, sc2, lv2, goes2, hd2, hg2, hn2, hs2⟩)
          have HE2 := Lib.hid (HE.out.disked hk1 hd2 hn2 hs2)
          have HG2 := Lib.hid hg2
          have HT2 := Lib.hid (HTR.out.step (Kp.rel hk1) hn2 hs2)
          clear hk1 hd2 hg2 hn2 hs2 hc0 hc1 hc2
          by_cases h2 : er = 0
          · subst h2
            have hc2 := HE2.out.cSure
            have hf2 := HE2.out.fz
            have HE3 := Lib.hid (HE2.out.field (i := 2) (u := .int .i64 (8 * f + 8 : Nat)) (tv1 := .slice ta n tc) (all1 := all) (rs1 := 8 * f + 8) (by simp) HE2.out.row HE2.out.off)
            have HT3 := Lib.hid (HT2.out.step (HE2.out.kSet (na0 := na2) (sa0 := sa2) Kp.refl 2 (.int .i64 (8 * f + 8 : Nat))) (Or.inl rfl) (Or.inl rfl))
            go_wp2
            rw [show (f : Int) * 8 + 8 = ((8 * f + 8 : Nat) : Int) by omega]
            go_roundw
            case rel => exact ⟨f + 1, _, _, _, _, _, _, _, _, by omega, by go_num, HE3.out, HG2.out, HT3.out, by rw [show N + (f + 1) = (N + f) + 1 by omega]; exact HGN.out.sync f, by rw [HSY2.out, if_pos rfl, show 64 - (f + 1) = 63 - f by omega]⟩
            case measure => simp [intOf]; omega
          · rw [if_neg h2] at HSY2
            go_wp2
            go_ret
            rw [HSY2.out]
            exact ⟨rfl, _, _, _, _, _, _, _, HE2.out, HG2.out, HT2.out, fun _ h => Or.inl h⟩
        · have h1i : ¬ (rs1 : Int) < ((f : Int) * 8 + 8) := by omega
          have e1 : syncR n (64 - f) f S1 rs1 = syncR n (63 - f) (f + 1) S1 rs1 := by
            rw [show 64 - f = (63 - f) + 1 by omega, syncR, hmin, if_neg h1]
          rw [e1] at hsync
          have HSY2 := Lib.hid hsync
          clear e1 hsync hmin
          go_wp2
          go_roundw
          case rel => exact ⟨f + 1, _, _, _, _, _, _, _, _, by omega, by go_num, HE.out, HG.out, HTR.out, HGN.out.mono (by omega), by rw [HSY2.out, show 64 - (f + 1) = 63 - f by omega]⟩
          case measure => simp [intOf]; omega
    · obtain rfl : f = 64 := by omega
      go_wp2
      go_ret
      rw [hsync]
      exact ⟨rfl, _, _, _, _, _, _, _, HE.out, HG.out, HTR.out, fun _ h => Or.inl h⟩
end
end Go.Proofs.YtepcfmigkhacgaaDoor.Rl
