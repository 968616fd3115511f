/- reel: ReelPlays over any reels. -/
import Derived.Test.YtepcfmigkhacgaaDoorRpD0
import Derived.Deep.QuietTactic
import Derived.Deep.CutBlock
import Derived.Deep.RegionHeld3
namespace Go.Proofs.YtepcfmigkhacgaaDoor.Rl
open Go.RowKit Go.Proofs.YtepcfmigkhacgaaDoor.Gr Go.Proofs.YtepcfmigkhacgaaDoor.Frame Go.Proofs.YtepcfmigkhacgaaDoor.Dk

theorem belowN {B : Nat} {a w : World} (h : Below B a w) (n : Nat) : Below B a (w.drewN n) := ⟨h.os, h.tape, h.output, h.size, h.block⟩
theorem same_of0 {f : FuncId} {args : Array Value} {w : World} {v : Value} (h : Calls Tryd.prog f args w fun e w' => e = .returned v ∧ w = w') : Calls Tryd.prog f args w fun e w' => e = .returned v ∧ w' = w := h.mono fun _ _ ⟨a, b⟩ => ⟨a, b.symm⟩
theorem both_p {C : Reels} {B m : Nat} {w w1 : World} {g r : Nat} {pv pe : Value} (h : Both C B m w g r pv pe) (hb : Below w.heap.size w w1) : ∀ q, pv = .pointer (some ⟨q, 0, none⟩) →
    ∃ F qe na nc sa sc lv goes tv S all rs, pe = .pointer (some ⟨qe, 0, none⟩) ∧ Play C B m w1 F q g qe r na nc sa sc lv goes tv S all rs ∧ ∀ k, F k → k < w.heap.size := fun q hq => by
  rcases h with ⟨q', F, qe, na, nc, sa, sc, lv, goes, tv, S, all, rs, h1, h2, h3⟩ | ⟨h1, _⟩
  · rw [hq] at h1
    injection h1 with h1
    simp only [Option.some.injEq, Addr.mk.injEq, and_true] at h1
    subst h1
    exact ⟨F, qe, na, nc, sa, sc, lv, goes, tv, S, all, rs, h2, h3.below hb, h3.rm.lt⟩
  · rw [hq] at h1
    simp at h1
theorem rpost_epost {B : Nat} {w w1 : World} {q r na nc sa sc : Nat} {lv tv v : Value} {goes : Int} {S S1 : St} {all : List Tx} {rs : Nat} {e : Ending} (h : EAt B w q r na nc sa sc lv goes S tv all rs) (he : RPost B w r na sa v S1 e w1) : EPost B w q r na sa tv v S1 all rs e w1 := by
  obtain ⟨he1, hk, na', nc', sa', sc', lv', goes', hR, hG, hn, hs⟩ := he
  exact ⟨he1, na', nc', sa', sc', lv', goes', tv, h.disked hk hR hn hs, hG, ⟨Kp.rel hk, hn, hs⟩, fun _ h => Or.inl h⟩
theorem op_apart {na sa k : Nat} : ¬ RelT na sa k 45 := by
  rintro ((h | ⟨h, _⟩ | h) | h) <;> exact absurd h (by decide)
attribute [local irreducible] Go.wpQuiet in
set_option maxRecDepth 100000 in
set_option maxHeartbeats 12800000 in
theorem plays_any (C : Reels) (v0 : Value) (L : List OpR) (w : World) (h0 : KE.At w v0 L) (hL : L.length ≤ 9223372036854775807) (hok : ∀ y ∈ L, OpROk w y) (ht : Tab w) :
    Calls Tryd.prog 4 #[v0] w (YesR w) := by
  have HT := Lib.hid ht
  have HW := Lib.hid (works_any C w ht)
  have HL := Lib.hid hL
  obtain ⟨va, vc, rfl, hvc⟩ := h0.form
  obtain ⟨m, hm⟩ : ∃ m, L.length = m := ⟨_, rfl⟩
  rw [hm] at h0 hvc
  have H0 := Lib.hid h0
  have HM := Lib.hid hm
  have HOK := Lib.hid hok
  rw [hm]
  clear h0 hL hm hok ht
  go_enter Tryd.func4, Tryd.ntmps4
  go_wp2_with fail
  refine HW.out.mono ?_
  rintro e ww ⟨rfl, hbw⟩
  have HBW := Lib.hid hbw
  clear hbw HW
  go_wp2_with fail
  refine (heavy_any _ L ww (H0.out.kept HBW.out) HL.out).mono ?_
  rintro e w1 ⟨⟨b1, rfl, hl1⟩, hb1⟩
  have HB1 := Lib.hid (HBW.out.trans (hb1.mono HBW.out.size))
  have HT1 := Lib.hid (HT.out.kept HB1.out)
  have HL1 := Lib.hid hl1
  clear hb1 hl1 HBW
  cases b1 with
  | true =>
    go_wp2_with fail
    go_ret
    exact ⟨rfl, HB1.out⟩
  | false =>
  have hlight : LightR L := by have h := HL1.out; simp at h; exact h
  have HLI := Lib.hid hlight.2
  have hm200 : m ≤ 200 := by rw [← HM.out]; exact hlight.1
  clear HL1 hlight
  go_wp2_with fail
  refine (code_New _).mono ?_
  rintro e w2 ⟨rfl, hd2, hb2⟩
  obtain ⟨B, hB⟩ : ∃ B, w1.heap.size = B := ⟨_, rfl⟩
  have hh2 := (Home.of HT1.out).below hb2
  have HB2 := Lib.hid (HB1.out.trans (hb2.mono HB1.out.size))
  have HWB := Lib.hid (show w.heap.size ≤ B by rw [← hB]; exact HB1.out.size)
  rw [hB] at hd2 hh2 ⊢
  have HM2 := Lib.hid (mine_new hd2 good_new (Nat.le_refl B))
  have HH2 := Lib.hid hh2
  clear hd2 hb2 hh2 hB
  go_wp2_with fail
  refine (ref_New w2 w2.heap.size (Nat.le_refl _)).mono ?_
  rintro e w3 ⟨r, rfl, ⟨na, nc, sa, sc, lv, goes, hra, hgo⟩, hb3⟩
  have HD3 := Lib.hid (both_new HH2.out HM2.out hra hgo hb3)
  have HB3 := Lib.hid (HB2.out.trans (hb3.mono HB2.out.size))
  clear hra hgo hb3 HB2
  go_wp2_with fail
  refine (mine_openW C HD3.out.mine HD3.out.home (by decide) open_new).mono ?_
  intro e w4 ho
  obtain ⟨pv, rfl, hop, hb4⟩ := HD3.out.opened ho
  have HOP := Lib.hid hop
  have HB4 := Lib.hid (HB3.out.trans (hb4.mono HWB.out))
  have HS4 := Lib.hid (Nat.le_trans HD3.out.home.size hb4.size)
  clear ho hop hb4
  go_wp2_with fail
  refine (ref_OpenR w4 HOP.out.1 HOP.out.2.1 good_new (by decide) HS4.out).mono ?_
  intro e w5 ho
  rw [open_new] at ho
  obtain ⟨pe, rfl, hst, hb5⟩ := HOP.out.stood ho HS4.out
  have HST := Lib.hid hst.both
  have HB5 := Lib.hid (HB4.out.trans (hb5.mono HWB.out))
  clear ho hst hb5 HOP
  go_upto_region 11 with fail
  go_loopw [5, 6, 7, 8, 41] (fun pv ev pe fv iv wr => ∃ (i : Nat) (er : Int), i ≤ m ∧ iv = .int .i64 i ∧ ev = .int .i64 er ∧ fv = .int .i64 er ∧ Both C B (128 + 400 * i) wr B r pv pe ∧ Below w.heap.size w wr) (fun _ _ _ _ iv _ => m - (intOf iv).toNat)
  case atStart => exact ⟨0, 0, Nat.zero_le _, rfl, rfl, rfl, HST.out, HB5.out⟩
  case round =>
    obtain ⟨i, er, hi, rfl, rfl, rfl, hbo, hbel⟩ := hrel
    have HBO := Lib.hid hbo
    have HBEL := Lib.hid hbel
    clear hbo
    by_cases hlt : i < m
    · have hlti : (i : Int) < (m : Int) := by omega
      obtain ⟨g, o, cap', hav, _, hr⟩ := (H0.out.kept hbel).some (by rw [HM.out]; omega)
      injection hav with hav1 hav2 hav3
      subst hav1
      clear hav2 hav3
      obtain ⟨x, hx⟩ : ∃ x, L[i]? = some x := ⟨L[i]'(by rw [HM.out]; exact hlt), List.getElem?_eq_getElem _⟩
      have HX := Lib.hid (at_opR hr hx)
      have HXS := Lib.hid (HLI.out i x hx)
      obtain ⟨_, keep, hkeep, hkw⟩ := HOK.out x (List.mem_of_getElem? hx)
      have HKW := Lib.hid hkw
      have HKEEP := Lib.hid hkeep
      have hba : Below wr.heap.size wr (wr.alloc (.cells #[.int .i64 x.kind, .int .i64 x.n, .string x.s, .slice x.kA x.kN x.kC] 45)) := (Below.refl _ _).alloc (Nat.le_refl _) _
      have hq := heap_alloc_new wr (.cells #[.int .i64 x.kind, .int .i64 x.n, .string x.s, .slice x.kA x.kN x.kC] 45)
      have hbo := HBO.out.below hba
      have hbp := both_p HBO.out hba
      have hb6 := hbel.trans (hba.mono hbel.size)
      clear hr hx hkeep hkw hbel hba
      go_upto_region 13 with (refine wpList_load_mid rfl 45 (.tmp 43) rfl g (o + i * 4) rfl [.int .i64 x.kind, .int .i64 x.n, .string x.s, .slice x.kA x.kN x.kC] _ HX.out Tryd.underlying45 rfl opR_info ?_)
      generalize wr.alloc (.cells #[.int .i64 x.kind, .int .i64 x.n, .string x.s, .slice x.kA x.kN x.kC] 45) = w6 at hq hbo hbp hb6 ⊢
      obtain ⟨p, hp⟩ : ∃ p, wr.heap.size = p := ⟨_, rfl⟩
      rw [hp] at hq hbp ⊢
      have HBP := Lib.hid hbp
      have HB6 := Lib.hid hb6
      have HBO6 := Lib.hid hbo
      have HQ := Lib.hid hq
      have c0 := Lib.cell_of_heap hq 0
      clear hp hb6 hbo hbp hq HX HBO HBEL
      obtain ⟨kd, hkd⟩ : ∃ kd, x.kind = kd := ⟨_, rfl⟩
      rw [hkd] at c0 HQ
      clear hkd
      have hskip : (∃ q, u5 = .pointer (some ⟨q, 0, none⟩)) ∨ u5 = .pointer none := by
        rcases HBO6.out with ⟨q, _, _, _, _, _, _, _, _, _, _, _, _, h1, _⟩ | ⟨h1, _⟩
        · exact Or.inl ⟨q, h1⟩
        · exact Or.inr h1
      by_cases hnil : u5 = .pointer none ∧ kd < 4
      · obtain ⟨rfl, h4⟩ := hnil
        go_wp2_with fail
        go_roundw
        case rel => exact ⟨i + 1, er, by omega, by go_num, rfl, rfl, HBO6.out.mono (by omega), HB6.out⟩
        case measure => simp [intOf]; omega
      rcases hskip with ⟨q0, rfl⟩ | rfl
      · go_upto_block 2 with fail
        go_cut [5, 6, 7, 8] from 42 (fun s5 s6 s7 s8 wx => ∃ er : Int, s6 = .int .i64 er ∧ s8 = .int .i64 er ∧ Both C B (528 + 400 * i) wx B r s5 s7 ∧ Below w.heap.size w wx)
        case first =>
          obtain ⟨F, qe, na, nc, sa, sc, lv, goes, tv, S, all, rs, rfl, hp, hFp⟩ := HBP.out q0 rfl
          have HFP := Lib.hid hFp
          clear hFp
          have HPL := Lib.hid hp
          have hi2 : 128 + 400 * i ≤ 100000 := by omega
          clear hp
          by_cases hk0 : kd = 0
          · as_aux_lemma =>
              subst hk0
              obtain ⟨er2, T, all2, hap⟩ : ∃ er T all', appendR S all x.s.data.toList = (er, T, all') := ⟨_, _, _, rfl⟩
              have HAPE := Lib.hid hap
              have hdr : Below w6.heap.size w6 w6.drew := (Below.refl _ _).drew
              have HPD := Lib.hid (HPL.out.below hdr)
              have HQD := Lib.hid (show w6.drew.heap[p]? = _ from HQ.out)
              have hxs := HXS.out.1
              have HCA := Lib.hid (HPD.out.rm.append (by omega) x.s (by unfold maxLen; omega) hap)
              have b2 := Lib.cell_of_heap HQ.out 2
              have a2 := Lib.cell_of_heap HQD.out 2
              have HP6 := Lib.hid (Array.getElem?_eq_some_iff.1 HQD.out).1
              clear hap hdr c0
              go_upto_region 16 with fail
              go_region_held3 (fun w' => w'.cell? ⟨p, 2, none⟩ = some (.string x.s)) (first | go_keep | assumption)
                (first
                  | (go_at_call 11; refine HCA.out.mono ?_; rintro e w7 ⟨rfl, F7, hm7, hr7⟩; have hq7 := (hm7.frm.block p HP6.out (fun hF => Nat.lt_irrefl _ (HFP.out p hF))).trans HQD.out; have a7 := Lib.cell_of_heap hq7 2; have hhf := HPD.out.half hm7 hr7)
                  | (go_at_call 22; refine (ref_AppendR w7 hhf.ea hhf.goes HPD.out.rm.good (by omega) hhf.rm.home.size x.s (by unfold maxLen; omega)).mono ?_; intro e w8 he; rw [HAPE.out] at he; obtain ⟨rfl, na8, nc8, sa8, sc8, lv8, goes8, tv8, hp8, htr8⟩ := hhf.whole he; have hq8 := htr8.kp.block p _ hq7 (Or.inr fun cs t fz e => by cases e; exact op_apart); have a8 := Lib.cell_of_heap hq8 2))
              have HP8 := Lib.hid hp8
              have HB8 := Lib.hid ((HB6.out.drew.trans ((hm7.down HPD.out.rm.fB HPD.out.rm.home.size).mono HWB.out)).trans ((htr8.kp.below hhf.rm.home.size).mono HWB.out))
              clear hp8 htr8 he hhf hm7 hr7 a2 b2 a7 a8 hq7 hq8
              go_wp2_with fail
              go_meet
              case rel => exact ⟨er2, rfl, rfl, (show Both C B (128 + 400 * i + 1) w8 B r _ _ from Or.inl ⟨_, _, _, _, _, _, _, _, _, _, _, _, _, rfl, rfl, HP8.out⟩).mono (by omega), HB8.out⟩
          by_cases hk1 : kd = 1
          · as_aux_lemma =>
              subst hk1
              obtain ⟨er2, T, rs2, hsy⟩ : ∃ er T rs', syncR all.length 64 0 S rs = (er, T, rs') := ⟨_, _, _, rfl⟩
              have HSY := Lib.hid hsy
              have HCS := Lib.hid (HPL.out.rm.sync (by omega) hsy)
              clear hsy
              go_wp2_with fail
              refine HCS.out.mono ?_
              rintro e w7 ⟨rfl, F7, hm7, hr7⟩
              have HHF := Lib.hid (HPL.out.half hm7 hr7)
              have HB7 := Lib.hid (HB6.out.trans ((hm7.down HPL.out.rm.fB HPL.out.rm.home.size).mono HWB.out))
              clear hm7 hr7
              go_wp2_with fail
              refine (ref_SyncR w7 HHF.out.ea HHF.out.goes HPL.out.rm.good (by omega) HHF.out.rm.home.size).mono ?_
              intro e w8 he
              rw [HSY.out] at he
              obtain ⟨rfl, na2, nc2, sa2, sc2, lv2, goes2, tv2, hp8, htr8⟩ := HHF.out.whole he
              have HP8 := Lib.hid hp8
              have HB8 := Lib.hid (HB7.out.trans ((htr8.kp.below HHF.out.rm.home.size).mono HWB.out))
              clear he hp8 htr8
              go_wp2_with fail
              go_meet
              case rel => exact ⟨er2, rfl, rfl, (show Both C B (128 + 400 * i + 64) w8 B r _ _ from Or.inl ⟨_, _, _, _, _, _, _, _, _, _, _, _, _, rfl, rfl, HP8.out⟩).mono (by omega), HB8.out⟩
          by_cases hk2 : kd = 2
          · as_aux_lemma =>
              subst hk2
              have c1 := Lib.cell_of_heap HQ.out 1
              have HG := Lib.hid (C.gets x.n HPL.out.rm.at_ HPL.out.rm.home.tab)
              have HGR := Lib.hid (fun W (hb : Below w6.heap.size w6 W) => ref_Get W (HPL.out.ea.below hb) x.n)
              generalize bs (getR S all x.n).1 = t at HG HGR
              generalize (getR S all x.n).2 = er2 at HG HGR
              go_wp2_with fail
              refine HG.out.mono ?_
              rintro e w7 ⟨rfl, hb7⟩
              have HB7 := Lib.hid hb7
              have c1b : w7.cell? ⟨p, 1, none⟩ = some (.int .i64 x.n) := by rw [hb7.cell (World.block_lt_of_cell? _ _ c1)]; exact c1
              clear hb7
              go_wp2_with fail
              refine (HGR.out w7 HB7.out).mono ?_
              rintro e w8 ⟨rfl, rfl⟩
              have HP8 := Lib.hid (HPL.out.below HB7.out)
              have HB8 := Lib.hid (HB6.out.trans (HB7.out.mono HB6.out.size))
              go_wp2_with fail
              go_meet
              case rel => exact ⟨er2, rfl, rfl, (show Both C B (128 + 400 * i) _ B r _ _ from Or.inl ⟨_, _, _, _, _, _, _, _, _, _, _, _, _, rfl, rfl, HP8.out⟩).mono (by omega), HB8.out⟩
          by_cases hk3 : kd = 3
          · as_aux_lemma =>
              subst hk3
              obtain ⟨er2, T, hpw⟩ : ∃ er T, powerS S x.n = (er, T) := ⟨_, _, rfl⟩
              have HPWE := Lib.hid hpw
              have hdr : Below w6.heap.size w6 w6.drew := (Below.refl _ _).drew
              have HPD := Lib.hid (HPL.out.below hdr)
              have HQD := Lib.hid (show w6.drew.heap[p]? = _ from HQ.out)
              have HCA := Lib.hid (HPD.out.rm.power x.n hpw)
              have b1 := Lib.cell_of_heap HQ.out 1
              have a1 := Lib.cell_of_heap HQD.out 1
              have HP6 := Lib.hid (Array.getElem?_eq_some_iff.1 HQD.out).1
              clear hpw hdr c0
              go_upto_region 26 with fail
              go_region_held3 (fun w' => w'.cell? ⟨p, 1, none⟩ = some (.int .i64 x.n)) (first | go_keep | assumption)
                (first
                  | (go_at_call 25; refine HCA.out.mono ?_; rintro e w7 ⟨rfl, F7, hm7, hr7⟩; have hq7 := (hm7.frm.block p HP6.out (fun hF => Nat.lt_irrefl _ (HFP.out p hF))).trans HQD.out; have a7 := Lib.cell_of_heap hq7 1; have hhf := HPD.out.half hm7 hr7)
                  | (go_at_call 26; refine (ref_Power w7 hhf.ea.disk hhf.goes (by have := HPD.out.rm.good.ops; omega) x.n).mono ?_; intro e w8 he0; have he := rpost_epost hhf.ea he0; rw [HPWE.out] at he; obtain ⟨rfl, na8, nc8, sa8, sc8, lv8, goes8, tv8, hp8, htr8⟩ := hhf.whole he; have hq8 := htr8.kp.block p _ hq7 (Or.inr fun cs t fz e => by cases e; exact op_apart); have a8 := Lib.cell_of_heap hq8 1))
              have HP8 := Lib.hid hp8
              have HB8 := Lib.hid ((HB6.out.drew.trans ((hm7.down HPD.out.rm.fB HPD.out.rm.home.size).mono HWB.out)).trans ((htr8.kp.below hhf.rm.home.size).mono HWB.out))
              clear hp8 htr8 he he0 hhf hm7 hr7 a1 b1 a7 a8 hq7 hq8
              go_wp2_with fail
              go_meet
              case rel => exact ⟨er2, rfl, rfl, (show Both C B (128 + 400 * i) w8 B r _ _ from Or.inl ⟨_, _, _, _, _, _, _, _, _, _, _, _, _, rfl, rfl, HP8.out⟩).mono (by omega), HB8.out⟩
          by_cases hk4 : kd = 4
          · as_aux_lemma =>
              subst hk4
              obtain ⟨lc, hd⟩ := HPL.out.disk
              have HD := Lib.hid hd
              clear hd
              go_upto_region 30 with fail
              go_quiet (fail)
              have hqb : (w6.drewN nq).heap[p]? = _ := HQ.out
              have HD7 := Lib.hid (HD.out.below (belowN (Below.refl w6.heap.size w6) nq))
              have HB7 := Lib.hid (belowN HB6.out nq)
              clear c0
              generalize w6.drewN nq = w7 at hqb HD7 HB7 ⊢
              have c0 := Lib.cell_of_heap hqb 0
              have c3 := Lib.cell_of_heap hqb 3
              have HKL := Lib.hid (show keep.length ≤ 1000000000 by
                obtain ⟨_, _, e, _⟩ := HKEEP.out.form
                injection e with _ e _
                have := HXS.out.2
                omega)
              clear hqb
              go_upto_region 35 with fail
              go_loopw [15, 16] (fun kv iv wr => kv = .slice x.kA x.kN x.kC ∧ iv = .int .i64 0 ∧ wr = w7) (fun _ _ _ => 0)
              case atStart => exact ⟨rfl, rfl, rfl⟩
              case round =>
                obtain ⟨rfl, rfl, rfl⟩ := hrel
                go_wp2_with fail
                refine (ref_Crash wr HD7.out.ra HD7.out.mine.good (by omega) HD7.out.home.size _ keep (fun w' hb => HKEEP.out.kept (HB7.out.trans ((hb.below HD7.out.home.size).mono HWB.out))) HKL.out HKW.out).mono ?_
                intro e w8 he
                obtain ⟨rfl, na8, nc8, sa8, sc8, lv8, goes8, hah, htr⟩ := HD7.out.ahead he
                have HAH := Lib.hid hah
                have HB8 := Lib.hid (HB7.out.trans ((htr.kp.below HD7.out.home.size).mono HWB.out))
                clear he hah htr c0 c3
                go_wp2_with fail
                refine (mine_crash HAH.out.mine HAH.out.home (by omega) (HKEEP.out.kept HB8.out) rfl).mono ?_
                rintro e w9 ⟨rfl, lc9, hm9, hd9, hh9⟩
                have HD9 := Lib.hid (HAH.out.whole hm9 hd9)
                have HB9 := Lib.hid (HB8.out.trans ((hm9.down HAH.out.mine.fb HAH.out.home.size).mono HWB.out))
                clear hm9 hd9 hh9
                obtain ⟨T0, hT0⟩ : ∃ T0, crashS S keep = T0 := ⟨_, rfl⟩
                rw [hT0] at HD9
                clear hT0
                obtain ⟨er2, T, l2, hO⟩ : ∃ er T l, openS T0 = (er, T, l) := ⟨_, _, _, rfl⟩
                have HO := Lib.hid hO
                have HOC := Lib.hid (mine_openW C HD9.out.mine HD9.out.home (by omega) hO)
                clear hO
                go_wp2_with fail
                refine HOC.out.mono ?_
                intro e w10 ho
                obtain ⟨pv, rfl, hop, hb10⟩ := HD9.out.opened ho
                have HOP := Lib.hid hop
                have HB10 := Lib.hid (HB9.out.trans (hb10.mono HWB.out))
                have HS10 := Lib.hid (Nat.le_trans HD9.out.home.size hb10.size)
                clear ho hop hb10
                go_wp2_with fail
                refine (ref_OpenR w10 HOP.out.1 HOP.out.2.1 HD9.out.mine.good (by omega) HS10.out).mono ?_
                intro e w11 ho
                rw [HO.out] at ho
                obtain ⟨pe, rfl, hst, hb11⟩ := HOP.out.stood ho HS10.out
                have HST := Lib.hid hst.both
                have HB11 := Lib.hid (HB10.out.trans (hb11.mono HWB.out))
                clear ho hst hb11
                go_wp2_with fail
                go_meet
                case rel => exact ⟨er2, rfl, rfl, HST.out.mono (by omega), HB11.out⟩
          by_cases hk5 : kd = 5
          · as_aux_lemma =>
              subst hk5
              obtain ⟨lc, hd⟩ := HPL.out.disk
              have HD := Lib.hid hd
              clear hd
              go_upto_region 30 with fail
              go_quiet (fail)
              have c0b : (w6.drewN nq).cell? ⟨p, 0, none⟩ = some (.int .i64 5) := c0
              have HD7 := Lib.hid (HD.out.below (belowN (Below.refl w6.heap.size w6) nq))
              have HB7 := Lib.hid (belowN HB6.out nq)
              clear c0
              generalize w6.drewN nq = w7 at c0b HD7 HB7 ⊢
              obtain ⟨er2, T, l2, hO⟩ : ∃ er T l, openS S = (er, T, l) := ⟨_, _, _, rfl⟩
              have HO := Lib.hid hO
              have HOC := Lib.hid (mine_openW C HD7.out.mine HD7.out.home (by omega) hO)
              clear hO
              go_wp2_with fail
              refine HOC.out.mono ?_
              intro e w8 ho
              obtain ⟨pv, rfl, hop, hb8⟩ := HD7.out.opened ho
              have HOP := Lib.hid hop
              have HB8 := Lib.hid (HB7.out.trans (hb8.mono HWB.out))
              have HS8 := Lib.hid (Nat.le_trans HD7.out.home.size hb8.size)
              clear ho hop hb8
              go_wp2_with fail
              refine (ref_OpenR w8 HOP.out.1 HOP.out.2.1 HD7.out.mine.good (by omega) HS8.out).mono ?_
              intro e w9 ho
              rw [HO.out] at ho
              obtain ⟨pe, rfl, hst, hb9⟩ := HOP.out.stood ho HS8.out
              have HST := Lib.hid hst.both
              have HB9 := Lib.hid (HB8.out.trans (hb9.mono HWB.out))
              clear ho hst hb9
              go_wp2_with fail
              go_meet
              case rel => exact ⟨er2, rfl, rfl, HST.out.mono (by omega), HB9.out⟩
          by_cases hk6 : kd = 6
          · obtain ⟨lc, hd⟩ := HPL.out.disk
            have HD := Lib.hid hd
            clear hd
            subst hk6
            obtain ⟨er2, T, hap⟩ : ∃ er T, appendS S x.n x.s = (er, T) := ⟨_, _, rfl⟩
            have HAPE := Lib.hid hap
            have hdr : Below w6.heap.size w6 w6.drew := (Below.refl _ _).drew
            have HPD := Lib.hid (HD.out.below hdr)
            have HQD := Lib.hid (show w6.drew.heap[p]? = _ from HQ.out)
            have HCA := Lib.hid (mine_append HPD.out.mine HPD.out.home (by omega) hap)
            have HNF := Lib.hid (op_nofoot HPD.out.mine.at_ HQD.out)
            have b1 := Lib.cell_of_heap HQ.out 1
            have b2 := Lib.cell_of_heap HQ.out 2
            have a0 := Lib.cell_of_heap HQD.out 0
            have a1 := Lib.cell_of_heap HQD.out 1
            have a2 := Lib.cell_of_heap HQD.out 2
            clear hap hdr
            go_upto_region 30 with fail
            go_region_held3 (fun w' => w'.cell? ⟨p, 0, none⟩ = some (.int .i64 6) ∧ w'.cell? ⟨p, 1, none⟩ = some (.int .i64 x.n) ∧ w'.cell? ⟨p, 2, none⟩ = some (.string x.s)) (first | go_keep | (refine ⟨?_, ?_, ?_⟩ <;> assumption))
              (first
                | (go_at_call 27; refine HCA.out.mono ?_; rintro e w7 ⟨rfl, lc7, hm7, hd7, hh7⟩; have hq7 := (hm7.frm.block p (Array.getElem?_eq_some_iff.1 HQD.out).1 HNF.out).trans HQD.out; have c07 := Lib.cell_of_heap hq7 0; have c17 := Lib.cell_of_heap hq7 1; have c27 := Lib.cell_of_heap hq7 2; have hhf := HPD.out.half hm7 hd7)
                | (go_at_call 28; refine (ref_Append w7 hhf.ra hhf.goes (by have := HPD.out.mine.good.ops; omega) (by have := HPD.out.mine.good.loose; omega) HPD.out.mine.good.now hhf.home.size x.n x.s (by have := HXS.out.1; omega)).mono ?_; intro e w8 he0; rw [HAPE.out] at he0; obtain ⟨rfl, na8, nc8, sa8, sc8, lv8, goes8, hp8, htr8⟩ := hhf.whole he0; have hq8 := htr8.kp.block p _ hq7 (Or.inr fun cs t fz e => by cases e; exact op_apart); have c08 := Lib.cell_of_heap hq8 0; have c18 := Lib.cell_of_heap hq8 1; have c28 := Lib.cell_of_heap hq8 2))
            have HP8 := Lib.hid hp8
            have HQ8 := Lib.hid hq8
            have HB8 := Lib.hid ((HB6.out.drew.trans ((hm7.down HPD.out.mine.fb HPD.out.home.size).mono HWB.out)).trans ((htr8.kp.below hhf.home.size).mono HWB.out))
            clear hp8 htr8 he0 hhf hm7 hd7 hh7 a0 a1 a2 b1 b2 c07 c17 c27 c18 c28 hq7 hq8 c0
            have c38 := Lib.cell_of_heap HQ8.out 3
            have HKL := Lib.hid (show keep.length = x.kN ∧ x.kN ≤ x.kC ∧ keep.length ≤ 1000000000 by
              obtain ⟨_, _, e, hle⟩ := HKEEP.out.form
              injection e with _ e1 e2
              have := HXS.out.2
              exact ⟨e1.symm, by omega, by omega⟩)
            have hlo := HP8.out.mine.good.loose
            obtain ⟨lo, hlo2⟩ : ∃ lo, T.loose.length = lo := ⟨_, rfl⟩
            have hlo3 : lo ≤ 200000 := by omega
            have HLO := Lib.hid hlo2
            clear hlo hlo2
            go_upto_region 35 with fail
            clear c38
            go_loopw [15, 16] (fun kv iv wr => ∃ (f : Nat) (K : List Int) (ka : Option Addr) (kn kc : Nat), kv = .slice ka kn kc ∧ iv = .int .i64 f ∧ (∀ w', Kp B (RelT na8 sa8) wr w' → KI.At w' (.slice ka kn kc) K) ∧ K.length = kn ∧ kn ≤ kc ∧ kn ≤ 1000000000 ∧ (∀ z ∈ K, (Lit.int .i64 z).wf = true) ∧ f ≤ lo ∧ Below w8.heap.size w8 wr) (fun _ iv _ => lo - (intOf iv).toNat)
            case atStart => exact ⟨0, keep, _, _, _, rfl, rfl, fun w' hk => HKEEP.out.kept (HB8.out.trans ((hk.below HP8.out.home.size).mono HWB.out)), HKL.out.1, HKL.out.2.1, by have := HKL.out; omega, HKW.out, Nat.zero_le _, Below.refl _ _⟩
            case round =>
              obtain ⟨f, K, ka, kn, kc, rfl, rfl, hst, hkn, hkc, hkm, hkw2, hfl, hbl⟩ := hrel
              have HST := Lib.hid hst
              have HKN := Lib.hid hkn
              have HKW2 := Lib.hid hkw2
              have HBL := Lib.hid hbl
              have HPL2 := Lib.hid (HP8.out.below hbl)
              have HLS := Lib.hid (show Calls Tryd.prog 29 #[.pointer (some ⟨B, 0, none⟩)] wr fun e w' => e = .returned (.int .i64 (lo : Nat)) ∧ wr = w' by
                rw [← HLO.out]
                exact (HP8.out.below hbl).mine.looseTo rfl)
              have hqr := (hbl.block p (Array.getElem?_eq_some_iff.1 HQ8.out).1).trans HQ8.out
              have c0r := Lib.cell_of_heap hqr 0
              clear hst hkn hkw2 hbl hqr c08
              by_cases hlt : f < lo
              · have hlti : (f : Int) < (lo : Int) := by omega
                have hba : Below wr.heap.size wr (wr.alloc (.cells #[.int .i64 1048576] 3)) := (Below.refl _ _).alloc (Nat.le_refl _) _
                have HAT := Lib.hid (HST.out _ (Kp.of_below hba))
                have HON := Lib.hid (ki_one wr 1048576)
                have HBA := Lib.hid hba
                clear hba
                by_cases hkf : kn < f
                · have hkfi : (kn : Int) < (f : Int) := by omega
                  have hsl := fun W => run_begin W ka kn kc kn (by omega)
                  have HKK := Lib.hid (show kn ≤ K.length by have := HKN.out; omega)
                  have HKF := Lib.hid (show kn ≤ f by omega)
                  have HKM := Lib.hid (show kn ≤ 1000000000 by omega)
                  go_wp2_with (first
                    | (go_at_call 29; refine HLS.out.mono ?_; rintro e w' ⟨rfl, rfl⟩)
                    | (refine wpList_append_full rfl (.tmp 148) (.tmp 150) rfl ka kn kc kn K HAT.out HKK.out rfl _ 1048576 rfl HON.out HKM.out ?_; intro a9 c9 w9 hown9 hb9)
                    | (refine wpList_append_full rfl (.tmp 148) (.tmp 149) rfl ka kn kc kn K HAT.out HKK.out rfl _ 1048576 rfl HON.out HKM.out ?_; intro a9 c9 w9 hown9 hb9))
                  have hl9 : (K.take kn ++ [(1048576 : Int)]).length = kn + 1 := by rw [List.length_append, List.length_take]; have := HKK.out; simp; omega
                  go_roundw
                  case rel => exact ⟨f + 1, K.take kn ++ [1048576], a9, kn + 1, c9, rfl, by go_num, fun w' hk => (own_kp2 hown9 hk (fun _ _ => by rintro ((h | ⟨h, _⟩ | h) | h) <;> exact absurd h (by decide))).reads, hl9, by
                      obtain ⟨_, _, e, hle⟩ := hown9.reads.form
                      injection e with _ e1 e2
                      omega, by have := HKF.out; omega, fun z hz => by
                      rcases List.mem_append.1 hz with h1 | h1
                      · exact HKW2.out z (List.mem_of_mem_take h1)
                      · rw [List.mem_singleton.1 h1]; rfl, by omega, HBL.out.trans ((HBA.out.trans (hb9.mono HBA.out.size)).mono HBL.out.size)⟩
                  case measure => simp [intOf]; omega
                · have hkfi : ¬ (kn : Int) < (f : Int) := by omega
                  have hsl := fun W => run_begin W ka kn kc f (by omega)
                  have HKK := Lib.hid (show f ≤ K.length by have := HKN.out; omega)
                  have HKF := Lib.hid (show f ≤ f by omega)
                  have HKM := Lib.hid (show f ≤ 1000000000 by omega)
                  go_wp2_with (first
                    | (go_at_call 29; refine HLS.out.mono ?_; rintro e w' ⟨rfl, rfl⟩)
                    | (refine wpList_append_full rfl (.tmp 148) (.tmp 150) rfl ka kn kc f K HAT.out HKK.out rfl _ 1048576 rfl HON.out HKM.out ?_; intro a9 c9 w9 hown9 hb9)
                    | (refine wpList_append_full rfl (.tmp 148) (.tmp 149) rfl ka kn kc f K HAT.out HKK.out rfl _ 1048576 rfl HON.out HKM.out ?_; intro a9 c9 w9 hown9 hb9))
                  have hl9 : (K.take f ++ [(1048576 : Int)]).length = f + 1 := by rw [List.length_append, List.length_take]; have := HKK.out; simp; omega
                  go_roundw
                  case rel => exact ⟨f + 1, K.take f ++ [1048576], a9, f + 1, c9, rfl, by go_num, fun w' hk => (own_kp2 hown9 hk (fun _ _ => by rintro ((h | ⟨h, _⟩ | h) | h) <;> exact absurd h (by decide))).reads, hl9, by
                      obtain ⟨_, _, e, hle⟩ := hown9.reads.form
                      injection e with _ e1 e2
                      omega, by have := HKF.out; omega, fun z hz => by
                      rcases List.mem_append.1 hz with h1 | h1
                      · exact HKW2.out z (List.mem_of_mem_take h1)
                      · rw [List.mem_singleton.1 h1]; rfl, by omega, HBL.out.trans ((HBA.out.trans (hb9.mono HBA.out.size)).mono HBL.out.size)⟩
                  case measure => simp [intOf]; omega
              · obtain rfl : f = lo := by omega
                have HB9 := Lib.hid (HB8.out.trans (HBL.out.mono HB8.out.size))
                have HKML := Lib.hid (show K.length ≤ 1000000000 by have := HKN.out; omega)
                go_wp2_with (go_at_call 29; refine HLS.out.mono ?_; rintro e w' ⟨rfl, rfl⟩)
                refine (ref_Crash wr HPL2.out.ra HPL2.out.mine.good (by omega) HPL2.out.home.size _ K (fun w' hb => HST.out w' (Kp.rel hb)) HKML.out HKW2.out).mono ?_
                intro e w10 he
                obtain ⟨rfl, na10, nc10, sa10, sc10, lv10, goes10, hah, htr⟩ := HPL2.out.ahead he
                have HAT10 := Lib.hid (HST.out w10 htr.kp)
                have HAH := Lib.hid hah
                have HB10 := Lib.hid (HB9.out.trans ((htr.kp.below HPL2.out.home.size).mono HWB.out))
                clear he hah htr c0r
                go_wp2_with fail
                refine (mine_crash HAH.out.mine HAH.out.home (by omega) HAT10.out rfl).mono ?_
                rintro e w11 ⟨rfl, lc11, hm11, hd11, hh11⟩
                have HD11 := Lib.hid (HAH.out.whole hm11 hd11)
                have HB11 := Lib.hid (HB10.out.trans ((hm11.down HAH.out.mine.fb HAH.out.home.size).mono HWB.out))
                clear hm11 hd11 hh11
                obtain ⟨T0, hT0⟩ : ∃ T0, crashS T K = T0 := ⟨_, rfl⟩
                rw [hT0] at HD11
                clear hT0
                obtain ⟨er3, T3, l3, hO⟩ : ∃ er T l, openS T0 = (er, T, l) := ⟨_, _, _, rfl⟩
                have HO := Lib.hid hO
                have HOC := Lib.hid (mine_openW C HD11.out.mine HD11.out.home (by omega) hO)
                clear hO
                go_wp2_with fail
                refine HOC.out.mono ?_
                intro e w12 ho
                obtain ⟨pv, rfl, hop, hb12⟩ := HD11.out.opened ho
                have HOP := Lib.hid hop
                have HB12 := Lib.hid (HB11.out.trans (hb12.mono HWB.out))
                have HS12 := Lib.hid (Nat.le_trans HD11.out.home.size hb12.size)
                clear ho hop hb12
                go_wp2_with fail
                refine (ref_OpenR w12 HOP.out.1 HOP.out.2.1 HD11.out.mine.good (by omega) HS12.out).mono ?_
                intro e w13 ho
                rw [HO.out] at ho
                obtain ⟨pe, rfl, hst3, hb13⟩ := HOP.out.stood ho HS12.out
                have HST3 := Lib.hid hst3.both
                have HB13 := Lib.hid (HB12.out.trans (hb13.mono HWB.out))
                clear ho hst3 hb13
                go_wp2_with fail
                go_meet
                case rel => exact ⟨er3, rfl, rfl, HST3.out.mono (by omega), HB13.out⟩
          · go_wp2_with fail
            go_meet
            case rel => exact ⟨er, rfl, rfl, HBO6.out.mono (by omega), HB6.out⟩
        case rest =>
          clear c0 HQ
          obtain ⟨er, rfl, rfl, hbo, hbl⟩ := hcut
          have HBL := Lib.hid hbl
          have hbo2 := hbo
          rcases hbo with ⟨q, F, qe, na, nc, sa, sc, lv, goes, tv, S, all, rs, rfl, rfl, hp⟩ | ⟨rfl, rfl, lc, na, nc, sa, sc, lv, goes, S, hp⟩
          · as_aux_lemma =>
              have hbd := fun k => belowN (Below.refl wc.heap.size wc) k
              obtain ⟨lc, hd⟩ := hp.disk
              have HOps := Lib.hid (fun k => same_of0 ((hd.mine.below (hbd k)).opsTo rfl))
              have HLoo := Lib.hid (fun k => same_of0 ((hd.mine.below (hbd k)).looseTo rfl))
              have HLen := Lib.hid (fun j k => C.lens (C.kept hp.rm.at_ (G := fun _ => False) (Frm.of_below (belowN (hbd j) k)) (fun _ _ h => h)))
              have HSur := Lib.hid (fun j k => C.sures (C.kept hp.rm.at_ (G := fun _ => False) (Frm.of_below (belowN (hbd j) k)) (fun _ _ h => h)))
              have HBO2 := Lib.hid (fun j k => hbo2.below (belowN (hbd j) k))
              obtain ⟨la, ln, lcap, rfl, hln⟩ : ∃ a n c, lv = .slice a n c ∧ n = S.loose.length := by
                obtain ⟨a, c, e, _⟩ := hp.ea.disk.loose.reads.form
                exact ⟨a, _, c, e, rfl⟩
              obtain ⟨ta, tn, tcap, rfl, htn⟩ : ∃ a n c, tv = .slice a n c ∧ n = all.length := by
                obtain ⟨a, c, e, _⟩ := hp.ea.row.reads.form
                exact ⟨a, _, c, e, tx_len all⟩
              rw [← hln] at HLoo
              rw [← htn] at HLen
              have d2 := hp.ea.disk.cLoose
              have d3 := hp.ea.disk.cOps
              have e1 := hp.ea.cRow
              have e2 := hp.ea.cSure
              clear hbd hd hp hln htn hbo2
              go_upto_region 42 with fail
              go_quiet (first
                | (go_at_call 17; refine Calls.quiet_of_same (HOps.out _))
                | (go_at_call 29; refine Calls.quiet_of_same (HLoo.out _)))
              have e1b : (wc.drewN nq).cell? ⟨qe, 1, none⟩ = _ := e1
              have e2b : (wc.drewN nq).cell? ⟨qe, 2, none⟩ = _ := e2
              clear e1 e2 d2 d3
              go_upto_region 44 with fail
              generalize hw9 : wc.drewN nq = w9 at e1b e2b ⊢
              have HLen9 := Lib.hid (fun k => HLen.out nq k)
              have HSur9 := Lib.hid (fun k => HSur.out nq k)
              rw [hw9] at HLen9 HSur9
              have HB9 := Lib.hid (belowN HBL.out nq)
              have HBO9 := Lib.hid (fun k => HBO2.out nq k)
              rw [hw9] at HB9 HBO9
              clear hw9
              go_quiet (first
                | (go_at_call 12; refine Calls.quiet_of_same (HLen9.out _))
                | (go_at_call 13; refine Calls.quiet_of_same (HSur9.out _)))
              go_wp2_with fail
              go_roundw
              case rel => exact ⟨i + 1, er, by omega, by go_num, rfl, rfl, (HBO9.out _).mono (by omega), belowN HB9.out _⟩
              case measure => simp [intOf]; omega
          · as_aux_lemma =>
              have hbd := fun k => belowN (Below.refl wc.heap.size wc) k
              have HOps := Lib.hid (fun k => same_of0 ((hp.mine.below (hbd k)).opsTo rfl))
              have HLoo := Lib.hid (fun k => same_of0 ((hp.mine.below (hbd k)).looseTo rfl))
              obtain ⟨la, ln, lcap, rfl, hln⟩ : ∃ a n c, lv = .slice a n c ∧ n = S.loose.length := by
                obtain ⟨a, c, e, _⟩ := hp.ra.loose.reads.form
                exact ⟨a, _, c, e, rfl⟩
              rw [← hln] at HLoo
              have d2 := hp.ra.cLoose
              have d3 := hp.ra.cOps
              have HBO2 := Lib.hid (fun j k => hbo2.below (belowN (hbd j) k))
              clear hbd hp hln hbo2
              go_upto_region 42 with fail
              go_quiet (first
                | (go_at_call 17; refine Calls.quiet_of_same (HOps.out _))
                | (go_at_call 29; refine Calls.quiet_of_same (HLoo.out _)))
              clear d2 d3
              go_upto_region 44 with fail
              generalize hw9 : wc.drewN nq = w9
              have HB9 := Lib.hid (belowN HBL.out nq)
              have HBO9 := Lib.hid (fun k => HBO2.out nq k)
              rw [hw9] at HB9 HBO9
              clear hw9
              go_quiet (fail)
              go_wp2_with fail
              go_roundw
              case rel => exact ⟨i + 1, er, by omega, by go_num, rfl, rfl, (HBO9.out _).mono (by omega), belowN HB9.out _⟩
              case measure => simp [intOf]; omega
      · have hk4n : ¬ kd < 4 := fun h => hnil ⟨rfl, h⟩
        go_upto_block 2 with fail
        go_cut [5, 6, 7, 8] from 42 (fun s5 s6 s7 s8 wx => ∃ er : Int, s6 = .int .i64 er ∧ s8 = .int .i64 er ∧ Both C B (528 + 400 * i) wx B r s5 s7 ∧ Below w.heap.size w wx)
        case first =>
          obtain ⟨rfl, lc, na, nc, sa, sc, lv, goes, S, hd⟩ : u7 = .pointer none ∧ ∃ lc na nc sa sc lv goes S, DPlay B (128 + 400 * i) w6 B lc r na nc sa sc lv goes S := by
            rcases HBO6.out with ⟨q, _, _, _, _, _, _, _, _, _, _, _, _, h1, _⟩ | ⟨_, h2, h3⟩
            · simp at h1
            · exact ⟨h2, h3⟩
          have HD := Lib.hid hd
          have hi2 : 128 + 400 * i ≤ 100000 := by omega
          have hn0 : ¬ kd = 0 := by omega
          have hn1 : ¬ kd = 1 := by omega
          have hn2 : ¬ kd = 2 := by omega
          have hn3 : ¬ kd = 3 := by omega
          clear hd
          by_cases hk4 : kd = 4
          · as_aux_lemma =>
              subst hk4
              go_upto_region 30 with fail
              go_quiet (fail)
              have hqb : (w6.drewN nq).heap[p]? = _ := HQ.out
              have HD7 := Lib.hid (HD.out.below (belowN (Below.refl w6.heap.size w6) nq))
              have HB7 := Lib.hid (belowN HB6.out nq)
              clear c0
              generalize w6.drewN nq = w7 at hqb HD7 HB7 ⊢
              have c0 := Lib.cell_of_heap hqb 0
              have c3 := Lib.cell_of_heap hqb 3
              have HKL := Lib.hid (show keep.length ≤ 1000000000 by
                obtain ⟨_, _, e, _⟩ := HKEEP.out.form
                injection e with _ e _
                have := HXS.out.2
                omega)
              clear hqb
              go_upto_region 35 with fail
              go_loopw [15, 16] (fun kv iv wr => kv = .slice x.kA x.kN x.kC ∧ iv = .int .i64 0 ∧ wr = w7) (fun _ _ _ => 0)
              case atStart => exact ⟨rfl, rfl, rfl⟩
              case round =>
                obtain ⟨rfl, rfl, rfl⟩ := hrel
                go_wp2_with fail
                refine (ref_Crash wr HD7.out.ra HD7.out.mine.good (by omega) HD7.out.home.size _ keep (fun w' hb => HKEEP.out.kept (HB7.out.trans ((hb.below HD7.out.home.size).mono HWB.out))) HKL.out HKW.out).mono ?_
                intro e w8 he
                obtain ⟨rfl, na8, nc8, sa8, sc8, lv8, goes8, hah, htr⟩ := HD7.out.ahead he
                have HAH := Lib.hid hah
                have HB8 := Lib.hid (HB7.out.trans ((htr.kp.below HD7.out.home.size).mono HWB.out))
                clear he hah htr c0 c3
                go_wp2_with fail
                refine (mine_crash HAH.out.mine HAH.out.home (by omega) (HKEEP.out.kept HB8.out) rfl).mono ?_
                rintro e w9 ⟨rfl, lc9, hm9, hd9, hh9⟩
                have HD9 := Lib.hid (HAH.out.whole hm9 hd9)
                have HB9 := Lib.hid (HB8.out.trans ((hm9.down HAH.out.mine.fb HAH.out.home.size).mono HWB.out))
                clear hm9 hd9 hh9
                obtain ⟨T0, hT0⟩ : ∃ T0, crashS S keep = T0 := ⟨_, rfl⟩
                rw [hT0] at HD9
                clear hT0
                obtain ⟨er2, T, l2, hO⟩ : ∃ er T l, openS T0 = (er, T, l) := ⟨_, _, _, rfl⟩
                have HO := Lib.hid hO
                have HOC := Lib.hid (mine_openW C HD9.out.mine HD9.out.home (by omega) hO)
                clear hO
                go_wp2_with fail
                refine HOC.out.mono ?_
                intro e w10 ho
                obtain ⟨pv, rfl, hop, hb10⟩ := HD9.out.opened ho
                have HOP := Lib.hid hop
                have HB10 := Lib.hid (HB9.out.trans (hb10.mono HWB.out))
                have HS10 := Lib.hid (Nat.le_trans HD9.out.home.size hb10.size)
                clear ho hop hb10
                go_wp2_with fail
                refine (ref_OpenR w10 HOP.out.1 HOP.out.2.1 HD9.out.mine.good (by omega) HS10.out).mono ?_
                intro e w11 ho
                rw [HO.out] at ho
                obtain ⟨pe, rfl, hst, hb11⟩ := HOP.out.stood ho HS10.out
                have HST := Lib.hid hst.both
                have HB11 := Lib.hid (HB10.out.trans (hb11.mono HWB.out))
                clear ho hst hb11
                go_wp2_with fail
                go_meet
                case rel => exact ⟨er2, rfl, rfl, HST.out.mono (by omega), HB11.out⟩
          by_cases hk5 : kd = 5
          · as_aux_lemma =>
              subst hk5
              go_upto_region 30 with fail
              go_quiet (fail)
              have c0b : (w6.drewN nq).cell? ⟨p, 0, none⟩ = some (.int .i64 5) := c0
              have HD7 := Lib.hid (HD.out.below (belowN (Below.refl w6.heap.size w6) nq))
              have HB7 := Lib.hid (belowN HB6.out nq)
              clear c0
              generalize w6.drewN nq = w7 at c0b HD7 HB7 ⊢
              obtain ⟨er2, T, l2, hO⟩ : ∃ er T l, openS S = (er, T, l) := ⟨_, _, _, rfl⟩
              have HO := Lib.hid hO
              have HOC := Lib.hid (mine_openW C HD7.out.mine HD7.out.home (by omega) hO)
              clear hO
              go_wp2_with fail
              refine HOC.out.mono ?_
              intro e w8 ho
              obtain ⟨pv, rfl, hop, hb8⟩ := HD7.out.opened ho
              have HOP := Lib.hid hop
              have HB8 := Lib.hid (HB7.out.trans (hb8.mono HWB.out))
              have HS8 := Lib.hid (Nat.le_trans HD7.out.home.size hb8.size)
              clear ho hop hb8
              go_wp2_with fail
              refine (ref_OpenR w8 HOP.out.1 HOP.out.2.1 HD7.out.mine.good (by omega) HS8.out).mono ?_
              intro e w9 ho
              rw [HO.out] at ho
              obtain ⟨pe, rfl, hst, hb9⟩ := HOP.out.stood ho HS8.out
              have HST := Lib.hid hst.both
              have HB9 := Lib.hid (HB8.out.trans (hb9.mono HWB.out))
              clear ho hst hb9
              go_wp2_with fail
              go_meet
              case rel => exact ⟨er2, rfl, rfl, HST.out.mono (by omega), HB9.out⟩
          by_cases hk6 : kd = 6
          · as_aux_lemma =>
              subst hk6
              obtain ⟨er2, T, hap⟩ : ∃ er T, appendS S x.n x.s = (er, T) := ⟨_, _, rfl⟩
              have HAPE := Lib.hid hap
              have hdr : Below w6.heap.size w6 w6.drew := (Below.refl _ _).drew
              have HPD := Lib.hid (HD.out.below hdr)
              have HQD := Lib.hid (show w6.drew.heap[p]? = _ from HQ.out)
              have HCA := Lib.hid (mine_append HPD.out.mine HPD.out.home (by omega) hap)
              have HNF := Lib.hid (op_nofoot HPD.out.mine.at_ HQD.out)
              have b1 := Lib.cell_of_heap HQ.out 1
              have b2 := Lib.cell_of_heap HQ.out 2
              have a0 := Lib.cell_of_heap HQD.out 0
              have a1 := Lib.cell_of_heap HQD.out 1
              have a2 := Lib.cell_of_heap HQD.out 2
              clear hap hdr
              go_upto_region 30 with fail
              go_region_held3 (fun w' => w'.cell? ⟨p, 0, none⟩ = some (.int .i64 6) ∧ w'.cell? ⟨p, 1, none⟩ = some (.int .i64 x.n) ∧ w'.cell? ⟨p, 2, none⟩ = some (.string x.s)) (first | go_keep | (refine ⟨?_, ?_, ?_⟩ <;> assumption))
                (first
                  | (go_at_call 27; refine HCA.out.mono ?_; rintro e w7 ⟨rfl, lc7, hm7, hd7, hh7⟩; have hq7 := (hm7.frm.block p (Array.getElem?_eq_some_iff.1 HQD.out).1 HNF.out).trans HQD.out; have c07 := Lib.cell_of_heap hq7 0; have c17 := Lib.cell_of_heap hq7 1; have c27 := Lib.cell_of_heap hq7 2; have hhf := HPD.out.half hm7 hd7)
                  | (go_at_call 28; refine (ref_Append w7 hhf.ra hhf.goes (by have := HPD.out.mine.good.ops; omega) (by have := HPD.out.mine.good.loose; omega) HPD.out.mine.good.now hhf.home.size x.n x.s (by have := HXS.out.1; omega)).mono ?_; intro e w8 he0; rw [HAPE.out] at he0; obtain ⟨rfl, na8, nc8, sa8, sc8, lv8, goes8, hp8, htr8⟩ := hhf.whole he0; have hq8 := htr8.kp.block p _ hq7 (Or.inr fun cs t fz e => by cases e; exact op_apart); have c08 := Lib.cell_of_heap hq8 0; have c18 := Lib.cell_of_heap hq8 1; have c28 := Lib.cell_of_heap hq8 2))
              have HP8 := Lib.hid hp8
              have HQ8 := Lib.hid hq8
              have HB8 := Lib.hid ((HB6.out.drew.trans ((hm7.down HPD.out.mine.fb HPD.out.home.size).mono HWB.out)).trans ((htr8.kp.below hhf.home.size).mono HWB.out))
              clear hp8 htr8 he0 hhf hm7 hd7 hh7 a0 a1 a2 b1 b2 c07 c17 c27 c18 c28 hq7 hq8 c0
              have c38 := Lib.cell_of_heap HQ8.out 3
              have HKL := Lib.hid (show keep.length = x.kN ∧ x.kN ≤ x.kC ∧ keep.length ≤ 1000000000 by
                obtain ⟨_, _, e, hle⟩ := HKEEP.out.form
                injection e with _ e1 e2
                have := HXS.out.2
                exact ⟨e1.symm, by omega, by omega⟩)
              have hlo := HP8.out.mine.good.loose
              obtain ⟨lo, hlo2⟩ : ∃ lo, T.loose.length = lo := ⟨_, rfl⟩
              have hlo3 : lo ≤ 200000 := by omega
              have HLO := Lib.hid hlo2
              clear hlo hlo2
              go_upto_region 35 with fail
              clear c38
              go_loopw [15, 16] (fun kv iv wr => ∃ (f : Nat) (K : List Int) (ka : Option Addr) (kn kc : Nat), kv = .slice ka kn kc ∧ iv = .int .i64 f ∧ (∀ w', Kp B (RelT na8 sa8) wr w' → KI.At w' (.slice ka kn kc) K) ∧ K.length = kn ∧ kn ≤ kc ∧ kn ≤ 1000000000 ∧ (∀ z ∈ K, (Lit.int .i64 z).wf = true) ∧ f ≤ lo ∧ Below w8.heap.size w8 wr) (fun _ iv _ => lo - (intOf iv).toNat)
              case atStart => exact ⟨0, keep, _, _, _, rfl, rfl, fun w' hk => HKEEP.out.kept (HB8.out.trans ((hk.below HP8.out.home.size).mono HWB.out)), HKL.out.1, HKL.out.2.1, by have := HKL.out; omega, HKW.out, Nat.zero_le _, Below.refl _ _⟩
              case round =>
                obtain ⟨f, K, ka, kn, kc, rfl, rfl, hst, hkn, hkc, hkm, hkw2, hfl, hbl⟩ := hrel
                have HST := Lib.hid hst
                have HKN := Lib.hid hkn
                have HKW2 := Lib.hid hkw2
                have HBL := Lib.hid hbl
                have HPL2 := Lib.hid (HP8.out.below hbl)
                have HLS := Lib.hid (show Calls Tryd.prog 29 #[.pointer (some ⟨B, 0, none⟩)] wr fun e w' => e = .returned (.int .i64 (lo : Nat)) ∧ wr = w' by
                  rw [← HLO.out]
                  exact (HP8.out.below hbl).mine.looseTo rfl)
                have hqr := (hbl.block p (Array.getElem?_eq_some_iff.1 HQ8.out).1).trans HQ8.out
                have c0r := Lib.cell_of_heap hqr 0
                clear hst hkn hkw2 hbl hqr c08
                by_cases hlt : f < lo
                · have hlti : (f : Int) < (lo : Int) := by omega
                  have hba : Below wr.heap.size wr (wr.alloc (.cells #[.int .i64 1048576] 3)) := (Below.refl _ _).alloc (Nat.le_refl _) _
                  have HAT := Lib.hid (HST.out _ (Kp.of_below hba))
                  have HON := Lib.hid (ki_one wr 1048576)
                  have HBA := Lib.hid hba
                  clear hba
                  by_cases hkf : kn < f
                  · have hkfi : (kn : Int) < (f : Int) := by omega
                    have hsl := fun W => run_begin W ka kn kc kn (by omega)
                    have HKK := Lib.hid (show kn ≤ K.length by have := HKN.out; omega)
                    have HKF := Lib.hid (show kn ≤ f by omega)
                    have HKM := Lib.hid (show kn ≤ 1000000000 by omega)
                    go_wp2_with (first
                      | (go_at_call 29; refine HLS.out.mono ?_; rintro e w' ⟨rfl, rfl⟩)
                      | (refine wpList_append_full rfl (.tmp 148) (.tmp 150) rfl ka kn kc kn K HAT.out HKK.out rfl _ 1048576 rfl HON.out HKM.out ?_; intro a9 c9 w9 hown9 hb9)
                      | (refine wpList_append_full rfl (.tmp 148) (.tmp 149) rfl ka kn kc kn K HAT.out HKK.out rfl _ 1048576 rfl HON.out HKM.out ?_; intro a9 c9 w9 hown9 hb9))
                    have hl9 : (K.take kn ++ [(1048576 : Int)]).length = kn + 1 := by rw [List.length_append, List.length_take]; have := HKK.out; simp; omega
                    go_roundw
                    case rel => exact ⟨f + 1, K.take kn ++ [1048576], a9, kn + 1, c9, rfl, by go_num, fun w' hk => (own_kp2 hown9 hk (fun _ _ => by rintro ((h | ⟨h, _⟩ | h) | h) <;> exact absurd h (by decide))).reads, hl9, by
                        obtain ⟨_, _, e, hle⟩ := hown9.reads.form
                        injection e with _ e1 e2
                        omega, by have := HKF.out; omega, fun z hz => by
                        rcases List.mem_append.1 hz with h1 | h1
                        · exact HKW2.out z (List.mem_of_mem_take h1)
                        · rw [List.mem_singleton.1 h1]; rfl, by omega, HBL.out.trans ((HBA.out.trans (hb9.mono HBA.out.size)).mono HBL.out.size)⟩
                    case measure => simp [intOf]; omega
                  · have hkfi : ¬ (kn : Int) < (f : Int) := by omega
                    have hsl := fun W => run_begin W ka kn kc f (by omega)
                    have HKK := Lib.hid (show f ≤ K.length by have := HKN.out; omega)
                    have HKF := Lib.hid (show f ≤ f by omega)
                    have HKM := Lib.hid (show f ≤ 1000000000 by omega)
                    go_wp2_with (first
                      | (go_at_call 29; refine HLS.out.mono ?_; rintro e w' ⟨rfl, rfl⟩)
                      | (refine wpList_append_full rfl (.tmp 148) (.tmp 150) rfl ka kn kc f K HAT.out HKK.out rfl _ 1048576 rfl HON.out HKM.out ?_; intro a9 c9 w9 hown9 hb9)
                      | (refine wpList_append_full rfl (.tmp 148) (.tmp 149) rfl ka kn kc f K HAT.out HKK.out rfl _ 1048576 rfl HON.out HKM.out ?_; intro a9 c9 w9 hown9 hb9))
                    have hl9 : (K.take f ++ [(1048576 : Int)]).length = f + 1 := by rw [List.length_append, List.length_take]; have := HKK.out; simp; omega
                    go_roundw
                    case rel => exact ⟨f + 1, K.take f ++ [1048576], a9, f + 1, c9, rfl, by go_num, fun w' hk => (own_kp2 hown9 hk (fun _ _ => by rintro ((h | ⟨h, _⟩ | h) | h) <;> exact absurd h (by decide))).reads, hl9, by
                        obtain ⟨_, _, e, hle⟩ := hown9.reads.form
                        injection e with _ e1 e2
                        omega, by have := HKF.out; omega, fun z hz => by
                        rcases List.mem_append.1 hz with h1 | h1
                        · exact HKW2.out z (List.mem_of_mem_take h1)
                        · rw [List.mem_singleton.1 h1]; rfl, by omega, HBL.out.trans ((HBA.out.trans (hb9.mono HBA.out.size)).mono HBL.out.size)⟩
                    case measure => simp [intOf]; omega
                · obtain rfl : f = lo := by omega
                  have HB9 := Lib.hid (HB8.out.trans (HBL.out.mono HB8.out.size))
                  have HKML := Lib.hid (show K.length ≤ 1000000000 by have := HKN.out; omega)
                  go_wp2_with (go_at_call 29; refine HLS.out.mono ?_; rintro e w' ⟨rfl, rfl⟩)
                  refine (ref_Crash wr HPL2.out.ra HPL2.out.mine.good (by omega) HPL2.out.home.size _ K (fun w' hb => HST.out w' (Kp.rel hb)) HKML.out HKW2.out).mono ?_
                  intro e w10 he
                  obtain ⟨rfl, na10, nc10, sa10, sc10, lv10, goes10, hah, htr⟩ := HPL2.out.ahead he
                  have HAT10 := Lib.hid (HST.out w10 htr.kp)
                  have HAH := Lib.hid hah
                  have HB10 := Lib.hid (HB9.out.trans ((htr.kp.below HPL2.out.home.size).mono HWB.out))
                  clear he hah htr c0r
                  go_wp2_with fail
                  refine (mine_crash HAH.out.mine HAH.out.home (by omega) HAT10.out rfl).mono ?_
                  rintro e w11 ⟨rfl, lc11, hm11, hd11, hh11⟩
                  have HD11 := Lib.hid (HAH.out.whole hm11 hd11)
                  have HB11 := Lib.hid (HB10.out.trans ((hm11.down HAH.out.mine.fb HAH.out.home.size).mono HWB.out))
                  clear hm11 hd11 hh11
                  obtain ⟨T0, hT0⟩ : ∃ T0, crashS T K = T0 := ⟨_, rfl⟩
                  rw [hT0] at HD11
                  clear hT0
                  obtain ⟨er3, T3, l3, hO⟩ : ∃ er T l, openS T0 = (er, T, l) := ⟨_, _, _, rfl⟩
                  have HO := Lib.hid hO
                  have HOC := Lib.hid (mine_openW C HD11.out.mine HD11.out.home (by omega) hO)
                  clear hO
                  go_wp2_with fail
                  refine HOC.out.mono ?_
                  intro e w12 ho
                  obtain ⟨pv, rfl, hop, hb12⟩ := HD11.out.opened ho
                  have HOP := Lib.hid hop
                  have HB12 := Lib.hid (HB11.out.trans (hb12.mono HWB.out))
                  have HS12 := Lib.hid (Nat.le_trans HD11.out.home.size hb12.size)
                  clear ho hop hb12
                  go_wp2_with fail
                  refine (ref_OpenR w12 HOP.out.1 HOP.out.2.1 HD11.out.mine.good (by omega) HS12.out).mono ?_
                  intro e w13 ho
                  rw [HO.out] at ho
                  obtain ⟨pe, rfl, hst3, hb13⟩ := HOP.out.stood ho HS12.out
                  have HST3 := Lib.hid hst3.both
                  have HB13 := Lib.hid (HB12.out.trans (hb13.mono HWB.out))
                  clear ho hst3 hb13
                  go_wp2_with fail
                  go_meet
                  case rel => exact ⟨er3, rfl, rfl, HST3.out.mono (by omega), HB13.out⟩
          · go_wp2_with fail
            go_meet
            case rel => exact ⟨er, rfl, rfl, HBO6.out.mono (by omega), HB6.out⟩
        case rest =>
          clear c0 HQ
          obtain ⟨er, rfl, rfl, hbo, hbl⟩ := hcut
          have HBL := Lib.hid hbl
          have hbo2 := hbo
          rcases hbo with ⟨q, F, qe, na, nc, sa, sc, lv, goes, tv, S, all, rs, rfl, rfl, hp⟩ | ⟨rfl, rfl, lc, na, nc, sa, sc, lv, goes, S, hp⟩
          · as_aux_lemma =>
              have hbd := fun k => belowN (Below.refl wc.heap.size wc) k
              obtain ⟨lc, hd⟩ := hp.disk
              have HOps := Lib.hid (fun k => same_of0 ((hd.mine.below (hbd k)).opsTo rfl))
              have HLoo := Lib.hid (fun k => same_of0 ((hd.mine.below (hbd k)).looseTo rfl))
              have HLen := Lib.hid (fun j k => C.lens (C.kept hp.rm.at_ (G := fun _ => False) (Frm.of_below (belowN (hbd j) k)) (fun _ _ h => h)))
              have HSur := Lib.hid (fun j k => C.sures (C.kept hp.rm.at_ (G := fun _ => False) (Frm.of_below (belowN (hbd j) k)) (fun _ _ h => h)))
              have HBO2 := Lib.hid (fun j k => hbo2.below (belowN (hbd j) k))
              obtain ⟨la, ln, lcap, rfl, hln⟩ : ∃ a n c, lv = .slice a n c ∧ n = S.loose.length := by
                obtain ⟨a, c, e, _⟩ := hp.ea.disk.loose.reads.form
                exact ⟨a, _, c, e, rfl⟩
              obtain ⟨ta, tn, tcap, rfl, htn⟩ : ∃ a n c, tv = .slice a n c ∧ n = all.length := by
                obtain ⟨a, c, e, _⟩ := hp.ea.row.reads.form
                exact ⟨a, _, c, e, tx_len all⟩
              rw [← hln] at HLoo
              rw [← htn] at HLen
              have d2 := hp.ea.disk.cLoose
              have d3 := hp.ea.disk.cOps
              have e1 := hp.ea.cRow
              have e2 := hp.ea.cSure
              clear hbd hd hp hln htn hbo2
              go_upto_region 42 with fail
              go_quiet (first
                | (go_at_call 17; refine Calls.quiet_of_same (HOps.out _))
                | (go_at_call 29; refine Calls.quiet_of_same (HLoo.out _)))
              have e1b : (wc.drewN nq).cell? ⟨qe, 1, none⟩ = _ := e1
              have e2b : (wc.drewN nq).cell? ⟨qe, 2, none⟩ = _ := e2
              clear e1 e2 d2 d3
              go_upto_region 44 with fail
              generalize hw9 : wc.drewN nq = w9 at e1b e2b ⊢
              have HLen9 := Lib.hid (fun k => HLen.out nq k)
              have HSur9 := Lib.hid (fun k => HSur.out nq k)
              rw [hw9] at HLen9 HSur9
              have HB9 := Lib.hid (belowN HBL.out nq)
              have HBO9 := Lib.hid (fun k => HBO2.out nq k)
              rw [hw9] at HB9 HBO9
              clear hw9
              go_quiet (first
                | (go_at_call 12; refine Calls.quiet_of_same (HLen9.out _))
                | (go_at_call 13; refine Calls.quiet_of_same (HSur9.out _)))
              go_wp2_with fail
              go_roundw
              case rel => exact ⟨i + 1, er, by omega, by go_num, rfl, rfl, (HBO9.out _).mono (by omega), belowN HB9.out _⟩
              case measure => simp [intOf]; omega
          · as_aux_lemma =>
              have hbd := fun k => belowN (Below.refl wc.heap.size wc) k
              have HOps := Lib.hid (fun k => same_of0 ((hp.mine.below (hbd k)).opsTo rfl))
              have HLoo := Lib.hid (fun k => same_of0 ((hp.mine.below (hbd k)).looseTo rfl))
              obtain ⟨la, ln, lcap, rfl, hln⟩ : ∃ a n c, lv = .slice a n c ∧ n = S.loose.length := by
                obtain ⟨a, c, e, _⟩ := hp.ra.loose.reads.form
                exact ⟨a, _, c, e, rfl⟩
              rw [← hln] at HLoo
              have d2 := hp.ra.cLoose
              have d3 := hp.ra.cOps
              have HBO2 := Lib.hid (fun j k => hbo2.below (belowN (hbd j) k))
              clear hbd hp hln hbo2
              go_upto_region 42 with fail
              go_quiet (first
                | (go_at_call 17; refine Calls.quiet_of_same (HOps.out _))
                | (go_at_call 29; refine Calls.quiet_of_same (HLoo.out _)))
              clear d2 d3
              go_upto_region 44 with fail
              generalize hw9 : wc.drewN nq = w9
              have HB9 := Lib.hid (belowN HBL.out nq)
              have HBO9 := Lib.hid (fun k => HBO2.out nq k)
              rw [hw9] at HB9 HBO9
              clear hw9
              go_quiet (fail)
              go_wp2_with fail
              go_roundw
              case rel => exact ⟨i + 1, er, by omega, by go_num, rfl, rfl, (HBO9.out _).mono (by omega), belowN HB9.out _⟩
              case measure => simp [intOf]; omega
    · obtain rfl : i = m := by omega
      clear hbel
      go_wp2_with fail
      go_ret
      exact ⟨rfl, HBEL.out⟩
end Go.Proofs.YtepcfmigkhacgaaDoor.Rl
