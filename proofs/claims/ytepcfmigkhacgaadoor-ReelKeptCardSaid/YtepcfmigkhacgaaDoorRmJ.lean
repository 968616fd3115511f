/- reel: ReelKept, walked. -/
import Derived.Test.YtepcfmigkhacgaaDoorRmI
namespace Go.Proofs.YtepcfmigkhacgaaDoor.Rl
open Go.RowKit Go.Proofs.YtepcfmigkhacgaaDoor.Gr Go.Proofs.YtepcfmigkhacgaaDoor.Frame Go.Proofs.YtepcfmigkhacgaaDoor.Dk

set_option maxRecDepth 100000 in
set_option maxHeartbeats 12800000 in
theorem kept_any (C : Reels) (v0 : Value) (L : List OpR) (w : World) (h0 : KE.At w v0 L) (hL : L.length ≤ 9223372036854775807) (hok : ∀ y ∈ L, OpROk w y) (ht : Tab w) :
    Calls Tryd.prog 6 #[v0] w (YesR w) := by
  have HT := Lib.hid ht
  have HW := Lib.hid (works_any C w ht)
  have HL := Lib.hid hL
  obtain ⟨va, vc, rfl, hvc⟩ := h0.form
  obtain ⟨m, hm⟩ : ∃ m, L.length = m := ⟨_, rfl⟩
  rw [hm] at h0 hvc
  have H0 := Lib.hid h0
  have HM := Lib.hid hm
  have HOK := Lib.hid hok
  rw [hm]
  clear h0 hL hm hok ht
  go_enter Tryd.func6, Tryd.ntmps6
  go_wp2_with fail
  refine HW.out.mono ?_
  rintro e ww ⟨rfl, hbw⟩
  have HBW := Lib.hid hbw
  clear hbw HW
  go_wp2_with fail
  refine (heavy_any _ L ww (H0.out.kept HBW.out) HL.out).mono ?_
  rintro e w1 ⟨⟨b1, rfl, hl1⟩, hb1⟩
  have HB1 := Lib.hid (HBW.out.trans (hb1.mono HBW.out.size))
  have HT1 := Lib.hid (HT.out.kept HB1.out)
  have HL1 := Lib.hid hl1
  clear hb1 hl1 HBW
  cases b1 with
  | true =>
    go_wp2_with fail
    go_ret
    exact ⟨rfl, HB1.out⟩
  | false =>
  have hlight : LightR L := by have h := HL1.out; simp at h; exact h
  have HLI := Lib.hid hlight.2
  have hm200 : m ≤ 200 := by rw [← HM.out]; exact hlight.1
  clear HL1 hlight
  go_wp2_with fail
  refine (code_New _).mono ?_
  rintro e w2 ⟨rfl, hd2, hb2⟩
  obtain ⟨B, hB⟩ : ∃ B, w1.heap.size = B := ⟨_, rfl⟩
  have hh2 := (Home.of HT1.out).below hb2
  have HB2 := Lib.hid (HB1.out.trans (hb2.mono HB1.out.size))
  have HWB := Lib.hid (show w.heap.size ≤ B by rw [← hB]; exact HB1.out.size)
  rw [hB] at hd2 hh2 ⊢
  have HM2 := Lib.hid (mine_new hd2 good_new (Nat.le_refl B))
  have HH2 := Lib.hid hh2
  clear hd2 hb2 hh2 hB
  go_wp2_with fail
  refine (mine_openTo C HM2.out HH2.out (by decide) open_new).mono ?_
  rintro e w3 ⟨q, F3, rfl, hm3, hr3⟩
  have HST := Lib.hid (show Stand C B 128 w w3 q F3 newS [] 0 (.slice none 0 0) 0 from ⟨hr3, inv_new, Beside.nil _ _ _, Nat.le_refl _, HB2.out.trans ((hm3.down HM2.out.fb HH2.out.size).mono HWB.out)⟩)
  clear hm3 hr3 HM2 HB2 HH2
  go_upto_region 12 with fail
  go_loopw [4, 6, 7, 31] (fun rv av sv iv wr => ∃ (i : Nat) (q : Nat) (F : Nat → Prop) (S : St) (all : List Tx) (rs su : Nat), i ≤ m ∧ iv = .int .i64 i ∧ rv = .pointer (some ⟨q, 0, none⟩) ∧ sv = .int .i64 su ∧ Stand C B (128 + 400 * i) w wr q F S all rs av su) (fun _ _ _ iv _ => m - (intOf iv).toNat)
  case atStart => exact ⟨0, q, F3, newS, [], 0, 0, Nat.zero_le _, rfl, rfl, rfl, HST.out⟩
  case round =>
    obtain ⟨i, q, F, S, all, rs, su, hi, rfl, rfl, rfl, hst⟩ := hrel
    obtain ⟨aa, an, ac, rfl, han⟩ : ∃ a n c, u6 = .slice a n c ∧ all.length = n := by
      obtain ⟨a, c, h, _⟩ := hst.row.own.reads.form
      exact ⟨a, _, c, h, (tx_len all).symm⟩
    have HAN := Lib.hid han
    clear han
    have HST := Lib.hid hst
    by_cases hlt : i < m
    · have hlti : (i : Int) < (m : Int) := by omega
      obtain ⟨g, o, cap', hav, _, hr⟩ := (H0.out.kept hst.below).some (by rw [HM.out]; omega)
      injection hav with hav1 hav2 hav3
      subst hav1
      clear hav2 hav3
      obtain ⟨x, hx⟩ : ∃ x, L[i]? = some x := ⟨L[i]'(by rw [HM.out]; exact hlt), List.getElem?_eq_getElem _⟩
      have HX := Lib.hid (at_opR hr hx)
      have hxs := (HLI.out i x hx).1
      have hxk := (HLI.out i x hx).2
      obtain ⟨_, keep, hkeep, _⟩ := HOK.out x (List.mem_of_getElem? hx)
      have HKEEP := Lib.hid hkeep
      have hq := heap_alloc_new wr (.cells #[.int .i64 x.kind, .int .i64 x.n, .string x.s, .slice x.kA x.kN x.kC] 45)
      have hst2 := hst.bel (w' := wr.alloc (.cells #[.int .i64 x.kind, .int .i64 x.n, .string x.s, .slice x.kA x.kN x.kC] 45)) ((Below.refl _ _).alloc (Nat.le_refl _) _)
      have hstlt := hst.rm.lt
      clear hr hx hkeep hst HST
      go_upto_region 14 with (refine wpList_load_mid rfl 45 (.tmp 33) rfl g (o + i * 4) rfl [.int .i64 x.kind, .int .i64 x.n, .string x.s, .slice x.kA x.kN x.kC] _ HX.out Tryd.underlying45 rfl opR_info ?_)
      generalize wr.alloc (.cells #[.int .i64 x.kind, .int .i64 x.n, .string x.s, .slice x.kA x.kN x.kC] 45) = w4 at hq hst2 ⊢
      obtain ⟨p, hp⟩ : ∃ p, wr.heap.size = p := ⟨_, rfl⟩
      rw [hp] at hq ⊢
      have HST := Lib.hid hst2
      have HFP := Lib.hid (show ∀ k, F k → k < p by rw [← hp]; exact hstlt)
      have HP4 := Lib.hid (Array.getElem?_eq_some_iff.1 hq).1
      have c0 := Lib.cell_of_heap hq 0
      have c1 := Lib.cell_of_heap hq 1
      have c2 := Lib.cell_of_heap hq 2
      have c3 := Lib.cell_of_heap hq 3
      clear hp hst2 HX hstlt
      have hi200 : 128 + 400 * i ≤ 100000 := by omega
      obtain ⟨kd, hkd⟩ : ∃ kd, x.kind = kd := ⟨_, rfl⟩
      rw [hkd] at hq c0
      clear hkd
      by_cases hk0 : kd = 0
      · subst hk0
        have hinv := HST.out.inv.append x.s.data.toList
        obtain ⟨er, T, all', hap⟩ : ∃ er T all', appendR S all x.s.data.toList = (er, T, all') := ⟨_, _, _, rfl⟩
        rw [hap] at hinv
        have HINV := Lib.hid hinv.1
        have hal : all' = if er = 0 then all ++ [x.s.data.toList] else all := hinv.2
        have HAP := Lib.hid (HST.out.rm.append (by omega) x.s (by unfold maxLen; omega) hap)
        clear hinv hap
        go_upto_region 16 with fail
        go_wp2_with fail
        refine HAP.out.mono ?_
        rintro e w5 ⟨rfl, F5, hm5, hr5⟩
        have hq5 := (hm5.frm.block p HP4.out (fun hF => Nat.lt_irrefl _ (HFP.out p hF))).trans hq
        have hrow5 := HST.out.row.moved hm5
        have hbel5 := HST.out.below.trans ((hm5.down HST.out.rm.fB HST.out.rm.home.size).mono HWB.out)
        clear c0 c1 c2 c3 hq hm5
        by_cases her : er = 0
        · subst her
          rw [if_pos rfl] at hal
          subst hal
          have c2 := Lib.cell_of_heap hq5 2
          have hba : Below w5.heap.size w5 (w5.alloc (.cells #[.string x.s] 9)) := (Below.refl _ _).alloc (Nat.le_refl _) _
          have HR5 := Lib.hid hr5
          have HROW5 := Lib.hid hrow5
          have HBEL5 := Lib.hid hbel5
          have HO5 := Lib.hid (hrow5.own.kept hba)
          have HA5 := Lib.hid (kt_one w5.heap.size 0 x.s (w5.alloc (.cells #[.string x.s] 9)) (by rw [World.cell?_alloc_mark]; rfl))
          have HN5 := Lib.hid (show (tx all).length + [x.s].length = an + 1 by rw [tx_len, HAN.out]; rfl)
          have HSZ5 := Lib.hid (show ((tx all).length + [x.s].length) * (KT.bytes + 1) ≤ 1099511627776 by
            have := HINV.out.len
            rw [List.length_append] at this
            rw [tx_len]
            show (all.length + 1) * 17 ≤ _
            simp at this
            omega)
          clear hr5 hrow5 hbel5 hba hq5
          go_wp2_with (refine wpList_append_grow (K := KT) rfl (.tmp 48) (.tmp 51) 54 rfl Tryd.underlying54 0 rfl HO5.out _ [x.s] rfl HA5.out (by simp) (an + 1) HN5.out HSZ5.out (Nat.zero_le _) ?_; intro g6 cap6 w6 hown6 hg6 hk6 hlt6)
          have hst6 := push_row HR5.out HROW5.out HINV.out HST.out.su HBEL5.out HWB.out hown6 hg6 (fun k hk => by simp [Value.ownBlock] at hk; subst hk; exact hk6)
          go_roundw
          case rel => exact ⟨i + 1, q, F5, T, _, rs, su, by omega, by go_num, rfl, rfl, hst6.mono (by omega)⟩
          case measure => simp [intOf]; omega
        · rw [if_neg her] at hal
          subst hal
          have hst6 : Stand C B (128 + 400 * i + 1) w w5 q F5 T _ rs (.slice aa an ac) su := ⟨hr5, HINV.out, hrow5, HST.out.su, hbel5⟩
          have HST6 := Lib.hid hst6
          clear hr5 hrow5 hbel5 hst6 hq5
          go_wp2_with fail
          go_roundw
          case rel => exact ⟨i + 1, q, F5, T, _, rs, su, by omega, by go_num, rfl, rfl, HST6.out.mono (by omega)⟩
          case measure => simp [intOf]; omega
      by_cases hk1 : kd = 1
      · subst hk1
        obtain ⟨er, T, rs', hsy⟩ : ∃ er T rs', syncR all.length 64 0 S rs = (er, T, rs') := ⟨_, _, _, rfl⟩
        have hinv := Inv.sync (all := all) 64 0 S rs rfl (by omega) HST.out.inv
        rw [hsy] at hinv
        have HI1 := Lib.hid hinv.1
        have HI2 := Lib.hid (show rs ≤ rs' from hinv.2.1)
        have HI3 := Lib.hid (show er = 0 → rs' = all.length from hinv.2.2)
        have HSY := Lib.hid (HST.out.rm.sync (by omega) hsy)
        clear hinv hsy
        go_wp2_with fail
        refine HSY.out.mono ?_
        rintro e w5 ⟨rfl, F5, hm5, hr5⟩
        have HR5 := Lib.hid hr5
        have HROW5 := Lib.hid (HST.out.row.moved hm5)
        have HBEL5 := Lib.hid (HST.out.below.trans ((hm5.down HST.out.rm.fB HST.out.rm.home.size).mono HWB.out))
        clear c0 c1 c2 c3 hq hm5 hr5
        by_cases her : er = 0
        · subst her
          have HST6 := Lib.hid (show Stand C B (128 + 400 * i + 64) w w5 q F5 T all rs' (.slice aa an ac) an from ⟨HR5.out, HI1.out, HROW5.out, by rw [HI3.out rfl, HAN.out]; exact Nat.le_refl _, HBEL5.out⟩)
          go_wp2_with fail
          go_roundw
          case rel => exact ⟨i + 1, q, F5, T, _, rs', an, by omega, by go_num, rfl, rfl, HST6.out.mono (by omega)⟩
          case measure => simp [intOf]; omega
        · have HST6 := Lib.hid (show Stand C B (128 + 400 * i + 64) w w5 q F5 T all rs' (.slice aa an ac) su from ⟨HR5.out, HI1.out, HROW5.out, Nat.le_trans HST.out.su HI2.out, HBEL5.out⟩)
          go_wp2_with fail
          go_roundw
          case rel => exact ⟨i + 1, q, F5, T, _, rs', su, by omega, by go_num, rfl, rfl, HST6.out.mono (by omega)⟩
          case measure => simp [intOf]; omega
      by_cases hk3 : kd = 3
      · subst hk3
        obtain ⟨er, T, hpw⟩ : ∃ er T, powerS S x.n = (er, T) := ⟨_, _, rfl⟩
        have hinv := HST.out.inv.power x.n
        rw [hpw] at hinv
        have HI1 := Lib.hid (show Inv T all rs from hinv)
        have HPW := Lib.hid (HST.out.rm.power x.n hpw)
        clear hinv hpw
        go_wp2_with fail
        refine HPW.out.mono ?_
        rintro e w5 ⟨rfl, F5, hm5, hr5⟩
        have HST6 := Lib.hid (show Stand C B (128 + 400 * i) w w5 q F5 T all rs (.slice aa an ac) su from ⟨hr5, HI1.out, HST.out.row.moved hm5, HST.out.su, HST.out.below.trans ((hm5.down HST.out.rm.fB HST.out.rm.home.size).mono HWB.out)⟩)
        clear c0 c1 c2 c3 hq hm5 hr5
        go_wp2_with fail
        go_roundw
        case rel => exact ⟨i + 1, q, F5, T, _, rs, su, by omega, by go_num, rfl, rfl, HST6.out.mono (by omega)⟩
        case measure => simp [intOf]; omega
      by_cases hk4 : kd = 4
      · subst hk4
        obtain ⟨lv4, hd4, hf4⟩ := HST.out.rm.disk
        have HCR0 := Lib.hid (HST.out.inv.crash keep)
        have HNF := Lib.hid (show ∀ k, foot B lv4 k → k < p from fun k hk => HFP.out k (hf4 k hk))
        have HD4 := Lib.hid hd4
        have HRW4 := Lib.hid (HST.out.row.less hf4)
        clear hd4 hf4 c1 c2
        go_wp2_with fail
        refine (mine_crash HD4.out HST.out.rm.home (by omega) (HKEEP.out.kept HST.out.below) rfl).mono ?_
        rintro e w5 ⟨rfl, lv5, hm5, hd5, hh5⟩
        have hq5 := (hm5.frm.block p HP4.out (fun hF => Nat.lt_irrefl _ (HNF.out p hF))).trans hq
        have HNP5 := Lib.hid (show ∀ k, foot B lv5 k → k ≠ p from fun k hk => by
          rcases hm5.foot k hk with h1 | h1
          · have := HNF.out k h1; omega
          · have := HP4.out; omega)
        have HD5 := Lib.hid hd5
        have HH5 := Lib.hid hh5
        have HRW5 := Lib.hid (HRW4.out.moved hm5)
        have HB5 := Lib.hid (HST.out.below.trans ((hm5.down HD4.out.fb HST.out.rm.home.size).mono HWB.out))
        have HP5 := Lib.hid (Array.getElem?_eq_some_iff.1 hq5).1
        have c3 := Lib.cell_of_heap hq5 3
        clear hm5 hd5 hh5 hq c0
        go_upto_if 80 with fail
        go_cut [] from 36 (fun wx => ∃ (lvx : Value) (T1 : St), Mine B (128 + 400 * i) wx B lvx T1 ∧ Home B wx ∧ Beside (foot B lvx) wx B (.slice aa an ac) all ∧ Below w.heap.size w wx ∧ (∀ k, foot B lvx k → k ≠ p) ∧ wx.heap[p]? = some (.cells #[.int .i64 4, .int .i64 x.n, .string x.s, .slice x.kA x.kN x.kC] 45 (0, 0)) ∧ ∃ P : St → St, (P = id ∨ ∃ n, P = fun S => (powerS S n).2) ∧ T1 = P (crashS S keep))
        case first =>
          by_cases hkn : 0 < x.kN
          · have hkni : (0 : Int) < (x.kN : Int) := by omega
            obtain ⟨k0, hk0⟩ : ∃ k0 : Int, ∃ g, ∃ o, x.kA = some ⟨g, o, none⟩ ∧ w5.cell? ⟨g, o, none⟩ = some (.int .i64 k0) := by
              have hk5 := HKEEP.out.kept HB5.out
              obtain ⟨a, c, hv, hl⟩ := hk5.form
              injection hv with e1 e2 e3
              obtain ⟨g, o, c', hv2, _, hr⟩ := hk5.some (by omega)
              injection hv2 with e4 e5 e6
              have hlk : 0 < keep.length := by omega
              have := range_thing hr (i := 0) (x := keep[0]) (List.getElem?_eq_getElem hlk) (j := 0) (u := .int .i64 keep[0]) rfl
              simp only [Nat.zero_mul, Nat.add_zero] at this
              exact ⟨_, g, o, e4, this⟩
            obtain ⟨gk, ok, hka, hkc⟩ := hk0
            rw [hka] at c3
            have HKA := Lib.hid hka
            obtain ⟨er1, T1, hpw⟩ : ∃ er T, powerS (crashS S keep) k0 = (er, T) := ⟨_, _, rfl⟩
            have HPW := Lib.hid (mine_power HD5.out HH5.out hpw)
            have HTE := Lib.hid (show T1 = (powerS (crashS S keep) k0).2 by rw [hpw])
            have HQ5 := Lib.hid hq5
            clear hpw hq5 hka
            go_wp2_with fail
            refine HPW.out.mono ?_
            rintro e w6 ⟨rfl, lvx, hm6, hd6, hh6⟩
            have HR6 := Lib.hid (show _ ∧ _ ∧ _ ∧ _ ∧ _ ∧ _ from ⟨hd6, hh6, HRW5.out.moved hm6, HB5.out.trans ((hm6.down HD5.out.fb HH5.out.size).mono HWB.out), (fun k hk => by
              rcases hm6.foot k hk with h1 | h1
              · exact HNP5.out k h1
              · have := HP5.out; omega : ∀ k, foot B lvx k → k ≠ p), (hm6.frm.block p HP5.out (fun hF => (HNP5.out p hF) rfl)).trans HQ5.out⟩)
            clear hm6 hd6 hh6 c3 hkc
            go_wp2_with fail
            go_meet
            case rel => exact ⟨lvx, T1, HR6.out.1, HR6.out.2.1, HR6.out.2.2.1, HR6.out.2.2.2.1, HR6.out.2.2.2.2.1, HR6.out.2.2.2.2.2, fun S => (powerS S k0).2, Or.inr ⟨k0, rfl⟩, HTE.out⟩
          · have hkni : ¬ (0 : Int) < (x.kN : Int) := by omega
            have HQ5 := Lib.hid hq5
            clear hq5 c3
            go_wp2_with fail
            go_meet
            case rel => exact ⟨lv5, _, HD5.out, HH5.out, HRW5.out, HB5.out, HNP5.out, HQ5.out, id, Or.inl rfl, rfl⟩
        case rest =>
          obtain ⟨lvx, T1, g1, g2, g3, g4, g5, hqx, P, hP, hT1⟩ := hcut
          have HMX := Lib.hid g1
          have HHX := Lib.hid g2
          have HRW := Lib.hid g3
          have HBX := Lib.hid g4
          have HNP := Lib.hid g5
          have HCR := Lib.hid (HST.out.inv.crash keep P hP)
          rw [← hT1] at HCR
          clear g1 g2 g3 g4 g5 hq5 c3 hP hT1
          obtain ⟨er, T2, l2, hO⟩ : ∃ er T2 l2, openS T1 = (er, T2, l2) := ⟨_, _, _, rfl⟩
          obtain ⟨m', hm1, hm2, hway⟩ := HCR.out
          rw [hO] at hway
          have HWAY := Lib.hid (show (er = 0 ∧ l2 = all.take m' ∧ Inv T2 (all.take m') m' ∧ T2.on = true) ∨ (er = 100 ∧ (openS (crashS T2 keep)).1 = 0 ∧ (openS (crashS T2 keep)).2.2 = all.take m' ∧ Inv (openS (crashS T2 keep)).2.1 (all.take m') m' ∧ (openS (crashS T2 keep)).2.1.on = true) from hway)
          have HOP := Lib.hid (mine_openW C HMX.out HHX.out (by omega) hO)
          have HMM := Lib.hid hm2
          have HRS := Lib.hid hm1
          unfold OpenW at HOP
          clear hway hO
          go_upto_if 93 with (go_at_call 9; refine HOP.out.mono ?_; rintro e w7 ⟨pv, rfl, hx⟩)
          go_cut [4, 5] from 36 (fun s4 s5 wx => ∃ (q7 : Nat) (F7 : Nat → Prop) (T7 : St), s4 = .pointer (some ⟨q7, 0, none⟩) ∧ s5 = .int .i64 0 ∧ RM C B (384 + 400 * i) F7 wx q7 B T7 (all.take m') m' ∧ Inv T7 (all.take m') m' ∧ T7.on = true ∧ Beside F7 wx B (.slice aa an ac) all ∧ Below w.heap.size w wx)
          case first =>
            have hlen : (all.take m').length = m' := by rw [List.length_take]; omega
            rcases HWAY.out with ⟨h1, h2, h3, h4⟩ | ⟨h1, h2⟩
            · subst h1
              subst h2
              rcases hx with ⟨_, q7, F7, rfl, hm7, hr7⟩ | ⟨hx1, _⟩
              · rw [hlen] at hr7
                have HR7 := Lib.hid (show _ ∧ _ ∧ _ from ⟨hr7, HRW.out.moved hm7, HBX.out.trans ((hm7.down HMX.out.fb HHX.out.size).mono HWB.out)⟩)
                have HI7 := Lib.hid h3
                have HON7 := Lib.hid h4
                clear hm7 hr7 hqx h3 h4 HOP HWAY
                go_wp2_with fail
                go_meet
                case rel => exact ⟨q7, F7, T2, rfl, rfl, HR7.out.1.mono (by omega), HI7.out, HON7.out, HR7.out.2.1, HR7.out.2.2⟩
              · exact absurd rfl hx1
            · subst h1
              rcases hx with ⟨hx1, _⟩ | ⟨_, rfl, lv15, hm15, hd15, hh15⟩
              · exact absurd hx1 (by decide)
              obtain ⟨er2, T4, l4, hO4⟩ : ∃ er T l, openS (crashS T2 keep) = (er, T, l) := ⟨_, _, _, rfl⟩
              rw [hO4] at h2
              obtain ⟨k1, k2, k3, k4⟩ := h2
              have k1 : er2 = 0 := k1
              have k2 : l4 = all.take m' := k2
              subst k1
              subst k2
              have HI7 := Lib.hid (show Inv T4 (all.take m') m' from k3)
              have HON7 := Lib.hid (show T4.on = true from k4)
              have HO4 := Lib.hid hO4
              have hq15 := (hm15.frm.block p (Array.getElem?_eq_some_iff.1 hqx).1 (fun hF => (HNP.out p hF) rfl)).trans hqx
              have c3 := Lib.cell_of_heap hq15 3
              have HD15 := Lib.hid hd15
              have HH15 := Lib.hid hh15
              have HRW15 := Lib.hid (HRW.out.moved hm15)
              have HB15 := Lib.hid (HBX.out.trans ((hm15.down HMX.out.fb HHX.out.size).mono HWB.out))
              clear hm15 hd15 hh15 hqx hq15 k3 k4 hO4 HOP HWAY
              go_wp2_with fail
              refine (mine_crash HD15.out HH15.out (by omega) (HKEEP.out.kept HB15.out) rfl).mono ?_
              rintro e w16 ⟨rfl, lv16, hm16, hd16, hh16⟩
              have HD16 := Lib.hid hd16
              have HH16 := Lib.hid hh16
              have HRW16 := Lib.hid (HRW15.out.moved hm16)
              have HB16 := Lib.hid (HB15.out.trans ((hm16.down HD15.out.fb HH15.out.size).mono HWB.out))
              clear hm16 hd16 hh16 c3
              go_wp2_with fail
              refine (mine_openTo C HD16.out HH16.out (by omega) HO4.out).mono ?_
              rintro e w17 ⟨q7, F7, rfl, hm7, hr7⟩
              rw [hlen] at hr7
              have HR7 := Lib.hid (show _ ∧ _ ∧ _ from ⟨hr7, HRW16.out.moved hm7, HB16.out.trans ((hm7.down HD16.out.fb HH16.out.size).mono HWB.out)⟩)
              clear hm7 hr7
              go_wp2_with fail
              go_meet
              case rel => exact ⟨q7, F7, T4, rfl, rfl, HR7.out.1.mono (by omega), HI7.out, HON7.out, HR7.out.2.1, HR7.out.2.2⟩
          case rest =>
            obtain ⟨q7, F7, T7, rfl, rfl, y1, y2, y3, y4, y5⟩ := hcut
            have HR7 := Lib.hid y1
            have HI7 := Lib.hid y2
            have HON7 := Lib.hid y3
            have HROW7 := Lib.hid y4
            have HBEL7 := Lib.hid y5
            clear hx hqx y1 y2 y3 y4 y5 HOP HWAY HMX HHX HRW HBX HNP HCR
            have hlm : (all.take m').length = m' := by rw [List.length_take]; omega
            have HLM := Lib.hid hlm
            have hA1 : ¬ ((an : Int) < (m' : Int)) := by have := HAN.out; omega
            have hA2 : ¬ ((m' : Int) < (su : Int)) := by have := HST.out.su; omega
            have hm5 : m' ≤ 512 := by have := HI7.out.len; rw [hlm] at this; exact this
            clear hlm
            go_wp2_with fail
            refine (list_any C _ HR7.out HON7.out HI7.out.len).mono ?_
            rintro e w8 ⟨v1, rfl, ho1, hb8⟩
            have HR8 := Lib.hid (HR7.out.below hb8)
            have HROW8 := Lib.hid (HROW7.out.below hb8)
            have HBEL8 := Lib.hid (HBEL7.out.trans (hb8.mono HBEL7.out.size))
            have HV8 := Lib.hid (beside_new HR7.out ho1)
            obtain ⟨a1, n1, z1, rfl, hn1, hx1⟩ := texts_at ho1.reads
            obtain rfl : n1 = m' := by rw [← hn1, tx_len, HLM.out]
            obtain ⟨a2, n2, z2, hv2, hn2, hx2⟩ := texts_at HROW8.out.own.reads
            injection hv2 with e1 e2 e3
            subst e1
            subst e2
            subst e3
            have HX1 := Lib.hid hx1
            have HX2 := Lib.hid hx2
            have HN1 := Lib.hid hn1
            have HN2 := Lib.hid hn2
            clear ho1 hb8 hx1 hx2 hn1 hn2
            go_wp2_with fail
            refine (HR8.out.sure).mono ?_
            rintro e w9 ⟨rfl, hb9⟩
            have HR9 := Lib.hid (HR8.out.below hb9)
            have HV9 := Lib.hid (HV8.out.below hb9)
            have HB89 := Lib.hid hb9
            have HBEL9 := Lib.hid (HBEL8.out.trans (hb9.mono HBEL8.out.size))
            clear hb9
            go_upto_region 39 with fail
            go_loopw [139] (fun iv wr => ∃ j : Nat, j ≤ n1 ∧ iv = .int .i64 j ∧ wr = w9) (fun iv _ => n1 - (intOf iv).toNat)
            case atStart => exact ⟨0, Nat.zero_le _, rfl, rfl⟩
            case round =>
              obtain ⟨j, hj, rfl, rfl⟩ := hrel
              by_cases hlt : j < n1
              · obtain ⟨s, hsj⟩ : ∃ s, (tx (all.take n1))[j]? = some s := ⟨(tx (all.take n1))[j]'(by rw [HN1.out]; exact hlt), List.getElem?_eq_getElem _⟩
                have hsj2 : (tx all)[j]? = some s := by
                  rw [tx, List.getElem?_map, List.getElem?_take, if_pos hlt] at hsj
                  rw [tx, List.getElem?_map]
                  exact hsj
                obtain ⟨g1, o1, rfl, hc1⟩ := HX1.out j s hsj
                obtain ⟨g2, o2, rfl, hc2⟩ := HX2.out j s hsj2
                have hd1 : wr.cell? ⟨g1, o1 + j, none⟩ = some (.string s) := by rw [HB89.out.cell (World.block_lt_of_cell? _ _ hc1)]; exact hc1
                have hd2 : wr.cell? ⟨g2, o2 + j, none⟩ = some (.string s) := by rw [HB89.out.cell (World.block_lt_of_cell? _ _ hc2)]; exact hc2
                have hlti : (j : Int) < (n1 : Int) := by omega
                have hja : (j : Int) < (an : Int) := by omega
                clear hc1 hc2
                go_wp2_with fail
                go_roundw
                case rel => exact ⟨j + 1, by omega, by go_num, trivial⟩
                case measure => simp [intOf]; omega
              · have hnlt : ¬ (j : Int) < (n1 : Int) := by omega
                obtain ⟨lv9, hd9, hf9⟩ := HR9.out.disk
                have HD9 := Lib.hid hd9
                clear hd9 hf9
                go_wp2_with fail
                refine (HD9.out.opsTo rfl).mono ?_
                rintro e w' ⟨rfl, rfl⟩
                go_wp2_with fail
                refine (code_Copy B lv9 _ _ HD9.out.at_ (by have := HR9.out.good.loose; omega)).mono ?_
                rintro e w10 ⟨rfl, hb10, lu, hdu, hou⟩
                have hs10 := HR9.out.home.size
                have HMU := Lib.hid (show Mine B _ w10 _ lu _ from ⟨hdu, HR9.out.good, hs10, fun k hk => by have := hou k hk; omega⟩)
                have HOU := Lib.hid (show ∀ k, foot _ lu k → wr.heap.size ≤ k from fun k hk => by
                  rcases hk with hk | hk
                  · rw [hk]; exact Nat.le_refl _
                  · have := hou k hk; omega)
                have HR10 := Lib.hid (HR9.out.below hb10)
                have HV10 := Lib.hid (HV9.out.below hb10)
                have HBEL10 := Lib.hid (HBEL9.out.trans (hb10.mono HBEL9.out.size))
                clear hb10 hdu hou hs10
                go_wp2_with fail
                refine (mine_openTo C HMU.out HR10.out.home (by omega) (HI7.out.still HON7.out)).mono ?_
                rintro e w11 ⟨q11, F11, rfl, hm11, hr11⟩
                have HR11 := Lib.hid hr11
                have HRX := Lib.hid (HR10.out.kept hm11.frm (fun k hF hk => by have h1 := HR9.out.lt k hF; have h2 := HOU.out k hk; omega) (fun k hk => Nat.le_trans HR9.out.home.size (HOU.out k hk)))
                have HVX := Lib.hid (HV10.out.frm hm11.frm (fun k hv hk => by have h1 := HV9.out.lt k hv; have h2 := HOU.out k hk; omega))
                have HBELX := Lib.hid (HBEL10.out.trans ((hm11.down (fun k hk => Nat.le_trans HR9.out.home.size (HOU.out k hk)) HR10.out.home.size).mono HWB.out))
                clear hm11 hr11
                go_wp2_with fail
                refine (HR11.out.len HLM.out).mono ?_
                rintro e w12 ⟨rfl, hb12⟩
                have HRY := Lib.hid (HRX.out.below hb12)
                have HVY := Lib.hid (HVX.out.below hb12)
                have HBELY := Lib.hid (HBELX.out.trans (hb12.mono HBELX.out.size))
                clear hb12
                obtain ⟨lv12, hd12, _⟩ := HRY.out.disk
                have HD12 := Lib.hid hd12
                clear hd12
                go_wp2_with fail
                refine (HD12.out.opsTo rfl).mono ?_
                rintro e w' ⟨rfl, rfl⟩
                go_wp2_with fail
                go_roundw
                case rel => exact ⟨i + 1, q7, F7, _, _, n1, n1, by omega, by go_num, rfl, rfl, ⟨HRY.out.mono (by omega), HI7.out, HVY.out, Nat.le_refl _, HBELY.out⟩⟩
                case measure => simp [intOf]; omega
      · clear c1 c2 c3 hq
        go_wp2_with fail
        go_roundw
        case rel => exact ⟨i + 1, q, F, S, _, rs, su, by omega, by go_num, rfl, rfl, HST.out.mono (by omega)⟩
        case measure => simp [intOf]; omega
    · obtain rfl : i = m := by omega
      have HBE := Lib.hid HST.out.below
      go_wp2_with fail
      go_ret
      exact ⟨rfl, HBE.out⟩
end Go.Proofs.YtepcfmigkhacgaaDoor.Rl
