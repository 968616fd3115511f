/- reel: the document's Open, walked. -/
import Derived.Test.YtepcfmigkhacgaaDoorReE
namespace Go.Proofs.YtepcfmigkhacgaaDoor.Rl
open Go.RowKit Go.Proofs.YtepcfmigkhacgaaDoor.Gr Go.Proofs.YtepcfmigkhacgaaDoor.Frame Go.Proofs.YtepcfmigkhacgaaDoor.Dk
section
variable {B r na nc sa sc : Nat} {lv : Value} {goes : Int} {S : St}
set_option maxRecDepth 100000 in
set_option maxHeartbeats 3200000 in
theorem ref_OpenR (w : World) (h : RAt B w r na nc sa sc lv goes S) (hg : GoesOk S goes) {N : Nat} (hS : GoodN N S) (hN : N ≤ 1000000) (hB : B ≤ w.heap.size) :
    Calls Tryd.prog 21 #[.pointer (some ⟨r, 0, none⟩)] w (OpenTo B w r na sa (openS S)) := by
  have HH := Lib.hid h
  have HG0 := Lib.hid hg
  have hoff := h.cOff
  cases hon : S.on with
  | false =>
    rw [hon] at hoff
    unfold openS
    rw [if_neg (by rw [hon]; decide)]
    unfold OpenTo
    clear h hg hS hN hB hon
    go_enter Tryd.func21, Tryd.ntmps21
    go_wp2
    go_ret2
    exact ⟨_, _, _, _, _, _, _, rfl, HG0.out, Trail.refl, Or.inr ⟨by decide, rfl, HH.out⟩⟩
  | true =>
    rw [hon] at hoff
    have hcn := h.cNow
    have HS := Lib.hid hS
    have HB := Lib.hid hB
    have HNN := Lib.hid hN
    have HRC := Lib.hid (ref_Records w S.now na nc h.now hS.now)
    unfold RecTo at HRC
    obtain ⟨hl64, hl512⟩ := recs_last S.now
    obtain ⟨R, last, size, hrec⟩ : ∃ R last size, recs S.now = (R, last, size) := ⟨_, _, _, rfl⟩
    rw [hrec] at HRC hl64 hl512
    have hl64 : last < 64 := hl64
    have hl512 : R.length ≤ 512 := hl512
    have HREC := Lib.hid hrec
    obtain ⟨O, hO⟩ : ∃ O, openS S = O := ⟨_, rfl⟩
    rw [hO]
    have HCUT := Lib.hid (fun S1 er (e : cutAll last size (needL S.now last size) S = (er, S1)) (h0 : er ≠ 0) => hO.symm.trans (open_cut hon hrec e h0))
    have HSYN := Lib.hid (fun S1 S2 er (e : cutAll last size (needL S.now last size) S = (0, S1)) (e2 : syncAll (needL S.now last size) S1 = (er, S2)) (h0 : er ≠ 0) => hO.symm.trans (open_sync hon hrec e e2 h0))
    have HOK := Lib.hid (fun S1 S2 (e : cutAll last size (needL S.now last size) S = (0, S1)) (e2 : syncAll (needL S.now last size) S1 = (0, S2)) => hO.symm.trans (open_ok hon hrec e e2))
    have HON := Lib.hid hon
    have HND := Lib.hid (needL_all S.now last size (by omega))
    unfold OpenTo
    clear h hg hS hN hB hon hO hrec
    go_enter Tryd.func21, Tryd.ntmps21
    go_upto_region 4 with (go_at_call 52; refine HRC.out.mono ?_; rintro e w1 ⟨v1, rfl, hown1, hb1⟩)
    obtain ⟨ta, tn, tc, rfl, htn⟩ : ∃ a n c, v1 = .slice a n c ∧ n = R.length := by
      obtain ⟨a, c, h, _⟩ := hown1.reads.form
      exact ⟨a, _, c, h, tx_len R⟩
    have hd1 := HH.out.below hb1
    have hn1 := HH.out.now.lt
    have hs1 := HH.out.sure.lt
    have HL1 := Lib.hid (show LAt B w1 r na nc sa sc lv goes S (.slice ta tn tc) R from ⟨own_low hown1 (Nat.zero_le _), ⟨fun e => by have := hown1.base _ e; omega, fun e => by have := hown1.base _ e; omega⟩, hd1⟩)
    have HT1 := Lib.hid (show Trail B w w1 na sa na sa from Trail.refl.below hb1)
    have HTN := Lib.hid htn
    have HBASE := Lib.hid (show ∀ k, (Value.slice ta tn tc).ownBlock = some k → w.heap.size ≤ k from fun k hk => hown1.base k hk)
    clear hown1 hb1 hd1 hn1 hs1 htn hcn hoff
    go_upto_region 6 with fail
    go_loopw [7, 8] (fun cv fv wr => ∃ (f : Nat) (L : List Nat) (S1 : St) (na1 nc1 sa1 sc1 : Nat) (lv1 : Value) (goes1 : Int), last ≤ f ∧ f ≤ 64 ∧ fv = .int .i64 f ∧ KI.Own w.heap.size cv (ints L) wr ∧ L.length ≤ f ∧ LAt B wr r na1 nc1 sa1 sc1 lv1 goes1 S1 (.slice ta tn tc) R ∧ GoesOk S1 goes1 ∧ Trail B w wr na sa na1 sa1 ∧ GoodN (N + f) S1 ∧ S1.on = true ∧ (∀ g, f ≤ g → fileN S1.now g = fileN S.now g) ∧ needL S.now last size = L ++ needF S.now last size f ∧ cutAll last size (needL S.now last size) S = cutAll last size (needF S.now last size f) S1) (fun _ fv _ => 64 - (intOf fv).toNat)
    case atStart => exact ⟨last, [], S, na, nc, sa, sc, lv, goes, Nat.le_refl _, by omega, rfl, Kind.Own.nil _ _, Nat.zero_le _, HL1.out, HG0.out, HT1.out, HS.out.mono (by omega), HON.out, fun _ _ => rfl, by rw [HND.out]; rfl, by rw [HND.out]⟩
    case round =>
      obtain ⟨f, L, S1, na1, nc1, sa1, sc1, lv1, goes1, hlf, hf, rfl, hown, hLf, hL, hg, htr, hgn, hon1, hsame, hneed, hcut⟩ := hrel
      obtain ⟨ca, cn, cc, rfl, hcn⟩ : ∃ a n c, u7 = .slice a n c ∧ n = L.length := by
        obtain ⟨a, c, h, _⟩ := hown.reads.form
        exact ⟨a, _, c, h, ints_len L⟩
      have HOWN := Lib.hid hown
      have HLF := Lib.hid (show L.length ≤ 64 by omega)
      have HLF0 := Lib.hid hLf
      have HL := Lib.hid hL
      have HG := Lib.hid hg
      have HTR := Lib.hid htr
      have HGN := Lib.hid hgn
      have HON1 := Lib.hid hon1
      have HSAME := Lib.hid hsame
      have HNEED := Lib.hid hneed
      have HCA := Lib.hid hcut
      have HCN := Lib.hid hcn
      clear hown hLf hg htr hgn hon1 hneed hcut hcn
      by_cases hlt : f < 64
      · have hlti : (f : Int) < 64 := by omega
        have hcn0 := hL.disk.cNow
        have hcell := hL.disk.now.file hlt
        obtain ⟨t, ht⟩ : ∃ t, S1.now.getD f ⟨#[]⟩ = t := ⟨_, rfl⟩
        have htsz : t.size = (fileN S.now f).length := by rw [← hsame f (Nat.le_refl _), ← fileN_size, ht]
        rw [ht] at hcell
        clear hL hsame ht
        by_cases hfl : f = last
        · subst hfl
          have hleft : left f size f = size := by unfold left; rw [if_pos rfl]
          have HCT := Lib.hid (ref_Cut wr HL.out.disk HG.out (by have := HGN.out.ops; have := HNN.out; omega) (by have := HGN.out.loose; have := HNN.out; omega) HGN.out.now (Nat.le_trans HB.out HTR.out.kp.size) (f : Int) ((left f size f : Nat) : Int))
          unfold RPost at HCT
          obtain ⟨er, S2, hX⟩ : ∃ er S2, cutterS S1 f ((left f size f : Nat) : Int) = (er, S2) := ⟨_, _, rfl⟩
          have HGC := Lib.hid (show GoodN (N + f + 1) S2 by have := HGN.out.cut (f : Int) ((left f size f : Nat) : Int); rw [hX] at this; exact this)
          have HOC := Lib.hid (show er = 0 → S2.on = true from fun e => by have := cut_on S1 f ((left f size f : Nat) : Int) (by rw [hX]; exact e) HON1.out; rw [hX] at this; exact this)
          have HSC := Lib.hid (show ∀ g, f ≠ g → fileN S2.now g = fileN S1.now g from fun g hg => by have := cut_other S1 f ((left f size f : Nat) : Int) hg; rw [hX] at this; exact this)
          have hstep : left f size f < (fileN S.now f).length → cutAll f size (needF S.now f size f) S1 = if er ≠ 0 then (er, S2) else cutAll f size (needF S.now f size (f + 1)) S2 := fun h => by
            rw [needF_yes hlt hlf h, cutAll, hX]
          have HSTEP := Lib.hid hstep
          have HNY := Lib.hid (fun h => needF_yes (N := S.now) (last := f) (size := size) hlt hlf h)
          have HNO := Lib.hid (fun h => needF_no (N := S.now) (last := f) (size := size) hlt h)
          rw [hX, hleft] at HCT
          rw [hleft, ← htsz] at HSTEP HNY HNO
          clear hX hstep htsz hleft
          by_cases hnd : size < t.size
          · have hndi : (size : Int) < (t.size : Int) := by omega
            go_upto_region 13 with (go_at_call 53; refine HCT.out.mono ?_; rintro e w2 ⟨rfl, hk2, na2, nc2, sa2, sc2, lv2, goes2, hd2, hg2, hn2, hs2⟩)
            have HL2 := Lib.hid (HL.out.disked hk2 hd2 hn2 hs2)
            have HO2 := Lib.hid (ints_kp HOWN.out hk2)
            have HG2 := Lib.hid hg2
            have HT2 := Lib.hid (HTR.out.step (Kp.rel hk2) hn2 hs2)
            clear hk2 hd2 hg2 hn2 hs2 hcell hcn0
            by_cases her : er = 0
            · subst her
              have hba : Below w2.heap.size w2 (w2.alloc (.cells #[.int .i64 (f : Int)] 3)) := (Below.refl _ _).alloc (Nat.le_refl _) _
              have HBA := Lib.hid hba
              have HOA := Lib.hid (HO2.out.kept hba)
              have HKA := Lib.hid (ki_one w2 (f : Int))
              have HWA := Lib.hid (show w.heap.size ≤ (w2.alloc (.cells #[.int .i64 (f : Int)] 3)).heap.size from Nat.le_trans HT2.out.kp.size hba.size)
              have HCN1 := Lib.hid (show (ints L).length + [(f : Int)].length = cn + 1 by have := HCN.out; rw [ints_len]; simp only [List.length_cons, List.length_nil]; omega)
              have HMA := Lib.hid (show ((ints L).length + [(f : Int)].length) * (KI.bytes + 1) ≤ 1099511627776 by have := HLF.out; rw [ints_len]; show (L.length + 1) * 9 ≤ 1099511627776; omega)
              clear hba
              go_wp2_with (refine wpList_append_grow (K := KI) rfl (.tmp 52) (.tmp 54) 35 rfl Tryd.underlying35 w.heap.size rfl HOA.out _ [(f : Int)] rfl HKA.out (by simp) (cn + 1) HCN1.out HMA.out HWA.out ?_; intro g3 cap3 w3 hown3 hg3 hk3 hlt3)
              have hty := own_type HOA.out
              have hkp : Kp B (fun _ t => t = 3) (w2.alloc (.cells #[.int .i64 (f : Int)] 3)) w3 := Kp.grown Kp.refl hg3 (fun k hk => by obtain ⟨cs, hc⟩ := hty k hk; exact ⟨_, _, _, hc, Or.inr ⟨Nat.le_trans HB.out (HOA.out.base k hk), rfl⟩⟩)
              have HL3 := (HL2.out.below HBA.out).kp hkp ints_off
              have HT3 : Trail B w w3 na sa na2 sa2 := ⟨Kp.grown (HT2.out.below HBA.out).kp hg3 (fun k hk => by obtain ⟨cs, hc⟩ := hty k hk; exact ⟨_, _, _, hc, Or.inl (HOA.out.base k hk)⟩), HT2.out.now, HT2.out.sure⟩
              go_roundw
              case rel => exact ⟨f + 1, L ++ [f], S2, _, _, _, _, _, _, by omega, by omega, by go_num, by unfold ints; rw [List.map_append]; exact hown3, by have := HLF0.out; rw [List.length_append]; simp only [List.length_cons, List.length_nil]; omega, HL3, HG2.out, HT3, HGC.out, HOC.out rfl, fun g hg => by rw [HSC.out g (by omega)]; exact HSAME.out g (by omega), by rw [HNEED.out, HNY.out hnd, List.append_assoc]; rfl, by rw [HCA.out, HSTEP.out hnd, if_neg (by simp)]⟩
              case measure => simp [intOf]; omega
            · have hO := HCUT.out S2 er (by rw [HCA.out, HSTEP.out hnd, if_pos her]) her
              go_wp2
              go_ret2
              rw [hO]
              exact ⟨_, _, _, _, _, _, _, rfl, HG2.out, HT2.out, Or.inr ⟨her, rfl, HL2.out.disk⟩⟩
          · have hndi : ¬ (size : Int) < (t.size : Int) := by omega
            go_wp2
            go_roundw
            case rel => exact ⟨f + 1, L, S1, _, _, _, _, _, _, by omega, by omega, by go_num, HOWN.out, by have := HLF0.out; omega, HL.out, HG.out, HTR.out, HGN.out.mono (by omega), HON1.out, fun g hg => HSAME.out g (by omega), by rw [HNEED.out, HNO.out hnd], by rw [HCA.out, HNO.out hnd]⟩
            case measure => simp [intOf]; omega
        · have hleft : left last size f = 0 := by unfold left; rw [if_neg hfl]
          have hfli : ¬ (f : Int) = (last : Int) := by omega
          have HCT := Lib.hid (ref_Cut wr HL.out.disk HG.out (by have := HGN.out.ops; have := HNN.out; omega) (by have := HGN.out.loose; have := HNN.out; omega) HGN.out.now (Nat.le_trans HB.out HTR.out.kp.size) (f : Int) ((left last size f : Nat) : Int))
          unfold RPost at HCT
          obtain ⟨er, S2, hX⟩ : ∃ er S2, cutterS S1 f ((left last size f : Nat) : Int) = (er, S2) := ⟨_, _, rfl⟩
          have HGC := Lib.hid (show GoodN (N + f + 1) S2 by have := HGN.out.cut (f : Int) ((left last size f : Nat) : Int); rw [hX] at this; exact this)
          have HOC := Lib.hid (show er = 0 → S2.on = true from fun e => by have := cut_on S1 f ((left last size f : Nat) : Int) (by rw [hX]; exact e) HON1.out; rw [hX] at this; exact this)
          have HSC := Lib.hid (show ∀ g, f ≠ g → fileN S2.now g = fileN S1.now g from fun g hg => by have := cut_other S1 f ((left last size f : Nat) : Int) hg; rw [hX] at this; exact this)
          have hstep : left last size f < (fileN S.now f).length → cutAll last size (needF S.now last size f) S1 = if er ≠ 0 then (er, S2) else cutAll last size (needF S.now last size (f + 1)) S2 := fun h => by
            rw [needF_yes hlt hlf h, cutAll, hX]
          have HSTEP := Lib.hid hstep
          have HNY := Lib.hid (fun h => needF_yes (N := S.now) (last := last) (size := size) hlt hlf h)
          have HNO := Lib.hid (fun h => needF_no (N := S.now) (last := last) (size := size) hlt h)
          rw [hX, hleft] at HCT
          rw [hleft, ← htsz] at HSTEP HNY HNO
          clear hX hstep htsz hleft
          by_cases hnd : 0 < t.size
          · have hndi : (0 : Int) < (t.size : Int) := by omega
            go_upto_region 13 with (go_at_call 53; refine HCT.out.mono ?_; rintro e w2 ⟨rfl, hk2, na2, nc2, sa2, sc2, lv2, goes2, hd2, hg2, hn2, hs2⟩)
            have HL2 := Lib.hid (HL.out.disked hk2 hd2 hn2 hs2)
            have HO2 := Lib.hid (ints_kp HOWN.out hk2)
            have HG2 := Lib.hid hg2
            have HT2 := Lib.hid (HTR.out.step (Kp.rel hk2) hn2 hs2)
            clear hk2 hd2 hg2 hn2 hs2 hcell hcn0
            by_cases her : er = 0
            · subst her
              have hba : Below w2.heap.size w2 (w2.alloc (.cells #[.int .i64 (f : Int)] 3)) := (Below.refl _ _).alloc (Nat.le_refl _) _
              have HBA := Lib.hid hba
              have HOA := Lib.hid (HO2.out.kept hba)
              have HKA := Lib.hid (ki_one w2 (f : Int))
              have HWA := Lib.hid (show w.heap.size ≤ (w2.alloc (.cells #[.int .i64 (f : Int)] 3)).heap.size from Nat.le_trans HT2.out.kp.size hba.size)
              have HCN1 := Lib.hid (show (ints L).length + [(f : Int)].length = cn + 1 by have := HCN.out; rw [ints_len]; simp only [List.length_cons, List.length_nil]; omega)
              have HMA := Lib.hid (show ((ints L).length + [(f : Int)].length) * (KI.bytes + 1) ≤ 1099511627776 by have := HLF.out; rw [ints_len]; show (L.length + 1) * 9 ≤ 1099511627776; omega)
              clear hba
              go_wp2_with (refine wpList_append_grow (K := KI) rfl (.tmp 52) (.tmp 54) 35 rfl Tryd.underlying35 w.heap.size rfl HOA.out _ [(f : Int)] rfl HKA.out (by simp) (cn + 1) HCN1.out HMA.out HWA.out ?_; intro g3 cap3 w3 hown3 hg3 hk3 hlt3)
              have hty := own_type HOA.out
              have hkp : Kp B (fun _ t => t = 3) (w2.alloc (.cells #[.int .i64 (f : Int)] 3)) w3 := Kp.grown Kp.refl hg3 (fun k hk => by obtain ⟨cs, hc⟩ := hty k hk; exact ⟨_, _, _, hc, Or.inr ⟨Nat.le_trans HB.out (HOA.out.base k hk), rfl⟩⟩)
              have HL3 := (HL2.out.below HBA.out).kp hkp ints_off
              have HT3 : Trail B w w3 na sa na2 sa2 := ⟨Kp.grown (HT2.out.below HBA.out).kp hg3 (fun k hk => by obtain ⟨cs, hc⟩ := hty k hk; exact ⟨_, _, _, hc, Or.inl (HOA.out.base k hk)⟩), HT2.out.now, HT2.out.sure⟩
              go_roundw
              case rel => exact ⟨f + 1, L ++ [f], S2, _, _, _, _, _, _, by omega, by omega, by go_num, by unfold ints; rw [List.map_append]; exact hown3, by have := HLF0.out; rw [List.length_append]; simp only [List.length_cons, List.length_nil]; omega, HL3, HG2.out, HT3, HGC.out, HOC.out rfl, fun g hg => by rw [HSC.out g (by omega)]; exact HSAME.out g (by omega), by rw [HNEED.out, HNY.out hnd, List.append_assoc]; rfl, by rw [HCA.out, HSTEP.out hnd, if_neg (by simp)]⟩
              case measure => simp [intOf]; omega
            · have hO := HCUT.out S2 er (by rw [HCA.out, HSTEP.out hnd, if_pos her]) her
              go_wp2
              go_ret2
              rw [hO]
              exact ⟨_, _, _, _, _, _, _, rfl, HG2.out, HT2.out, Or.inr ⟨her, rfl, HL2.out.disk⟩⟩
          · have hndi : ¬ (0 : Int) < (t.size : Int) := by omega
            go_wp2
            go_roundw
            case rel => exact ⟨f + 1, L, S1, _, _, _, _, _, _, by omega, by omega, by go_num, HOWN.out, by have := HLF0.out; omega, HL.out, HG.out, HTR.out, HGN.out.mono (by omega), HON1.out, fun g hg => HSAME.out g (by omega), by rw [HNEED.out, HNO.out hnd], by rw [HCA.out, HNO.out hnd]⟩
            case measure => simp [intOf]; omega
      · have hf64 : f = 64 := by omega
        have hnlt : ¬ (f : Int) < 64 := by omega
        have HGN64 := Lib.hid (show GoodN (N + 64) S1 by rw [← hf64]; exact HGN.out)
        have hX : cutAll last size (needL S.now last size) S = (0, S1) := by rw [HCA.out, hf64, needF_end]; rfl
        have hNL : needL S.now last size = L := by rw [HNEED.out, hf64, needF_end, List.append_nil]
        have HX := Lib.hid hX
        have HNL := Lib.hid hNL
        clear hX hNL hL hsame hf64
        go_upto_region 17 with fail
        go_loopw [11] (fun iv w2 => ∃ (i : Nat) (S2 : St) (na2 nc2 sa2 sc2 : Nat) (lv2 : Value) (goes2 : Int), i ≤ L.length ∧ iv = .int .i64 i ∧ KI.Own w.heap.size (.slice ca cn cc) (ints L) w2 ∧ LAt B w2 r na2 nc2 sa2 sc2 lv2 goes2 S2 (.slice ta tn tc) R ∧ GoesOk S2 goes2 ∧ Trail B w w2 na sa na2 sa2 ∧ GoodN (N + 64 + i) S2 ∧ syncAll L S1 = syncAll (L.drop i) S2) (fun iv _ => cn - (intOf iv).toNat)
        case atStart => exact ⟨0, S1, na1, nc1, sa1, sc1, lv1, goes1, Nat.zero_le _, rfl, HOWN.out, HL.out, HG.out, HTR.out, HGN64.out, rfl⟩
        case round =>
          obtain ⟨i, S2, na2, nc2, sa2, sc2, lv2, goes2, hi, rfl, hown2, hL2, hg2, htr2, hgn2, hsy⟩ := hrel
          have HO2 := Lib.hid hown2
          have HL2 := Lib.hid hL2
          have HG2 := Lib.hid hg2
          have HT2 := Lib.hid htr2
          have HGN2 := Lib.hid hgn2
          have HSY := Lib.hid hsy
          clear hown2 hL2 hg2 htr2 hgn2 hsy
          by_cases hlt : i < L.length
          · obtain ⟨k, hk⟩ : ∃ k, L.drop i = k :: L.drop (i + 1) := ⟨L[i], List.drop_eq_getElem_cons hlt⟩
            obtain ⟨g, c2, ecc, hcl, hcell⟩ := ki_cell HO2.out hk
            cases ecc
            have hii : (i : Int) < (L.length : Int) := by omega
            have hi64 : (i : Int) < 64 := by have := HLF.out; omega
            have HSC := Lib.hid (ref_Sync wr HL2.out.disk HG2.out (by have := HGN2.out.ops; have := HNN.out; have := HLF.out; omega) (by have := HGN2.out.loose; have := HNN.out; have := HLF.out; omega) (Nat.le_trans HB.out HT2.out.kp.size) (k : Int))
            obtain ⟨er, S3, hX3⟩ : ∃ er S3, syncerS S2 k = (er, S3) := ⟨_, _, rfl⟩
            unfold RPost at HSC
            have HG3 := Lib.hid (show GoodN (N + 64 + i + 1) S3 by have := HGN2.out.sync (k : Int); rw [hX3] at this; exact this)
            have HST := Lib.hid (show syncAll L S1 = if er ≠ 0 then (er, S3) else syncAll (L.drop (i + 1)) S3 by rw [HSY.out, hk, syncAll, hX3])
            rw [hX3] at HSC
            clear hX3 hk
            go_upto_region 20 with (go_at_call 54; refine HSC.out.mono ?_; rintro e w3 ⟨rfl, hk3, na3, nc3, sa3, sc3, lv3, goes3, hd3, hg3, hn3, hs3⟩)
            have HL3 := Lib.hid (HL2.out.disked hk3 hd3 hn3 hs3)
            have HO3 := Lib.hid (ints_kp HO2.out hk3)
            have HGG3 := Lib.hid hg3
            have HT3 := Lib.hid (HT2.out.step (Kp.rel hk3) hn3 hs3)
            clear hk3 hd3 hg3 hn3 hs3 hcell
            by_cases her : er = 0
            · subst her
              go_wp2
              go_roundw
              case rel => exact ⟨i + 1, S3, _, _, _, _, _, _, by omega, by go_num, HO3.out, HL3.out, HGG3.out, HT3.out, HG3.out, by rw [HST.out, if_neg (by simp)]⟩
              case measure => simp [intOf]; omega
            · have hO := HSYN.out S1 S3 er HX.out (by rw [HNL.out, HST.out, if_pos her]) her
              go_wp2
              go_ret2
              rw [hO]
              exact ⟨_, _, _, _, _, _, _, rfl, HGG3.out, HT3.out, Or.inr ⟨her, rfl, HL3.out.disk⟩⟩
          · obtain rfl : i = L.length := by omega
            have hO := HOK.out S1 S2 HX.out (by rw [HNL.out, HSY.out, List.drop_length]; rfl)
            have hcn2 : (cn : Int) = (L.length : Int) := by have := HCN.out; omega
            have HRE := Lib.hid (HL2.out.reel (Nat.le_trans HB.out HT2.out.kp.size) tn)
            have HBE := Lib.hid (show Below wr.heap.size wr (wr.alloc (.cells #[.pointer (some ⟨r, 0, none⟩), .slice ta tn tc, .int .i64 tn] 59)) from (Below.refl _ _).alloc (Nat.le_refl _) _)
            go_wp2
            go_ret2
            rw [hO]
            exact ⟨_, _, _, _, _, _, _, rfl, HG2.out, HT2.out.below HBE.out, Or.inl ⟨rfl, _, _, rfl, HT2.out.kp.size, HBASE.out, by rw [← HTN.out]; exact HRE.out⟩⟩
end
end Go.Proofs.YtepcfmigkhacgaaDoor.Rl
