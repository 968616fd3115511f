/- origin: the document's Bytes, Same. -/
import Derived.Test.YtdgaoebjbhomdaaDoorOgK
namespace Go.Proofs.YtdgaoebjbhomdaaDoor.Og
open Go.RowKit Go.Proofs.YtdgaoebjbhomdaaDoor.Sha Go.Proofs.YtdgaoebjbhomdaaDoor.Gr Go.Proofs.YtdgaoebjbhomdaaDoor.Digit Go.Proofs.YtdgaoebjbhomdaaDoor.Deed Go.Proofs.YtdgaoebjbhomdaaDoor.Tree

theorem refPutB (n : UInt64) (w : World) : Calls Tryd.prog 64 #[nV n] w fun e w' => e = .returned (.string (bs (nL n))) ∧ Below w.heap.size w w' := refPut n.toNat w (by have := n.toNat_lt; omega)
theorem refPutN (n : Nat) (hn : n ≤ 1000000) (w : World) : Calls Tryd.prog 64 #[.int .u64 n] w fun e w' => e = .returned (.string (bs (putL n))) ∧ Below w.heap.size w w' := refPut n w (by omega)
theorem take5 (l : List UInt64) (h : l.length = 15) : [l.getD 0 0, l.getD 1 0, l.getD 2 0, l.getD 3 0, l.getD 4 0] = l.take 5 := by
  rcases l with _ | ⟨a0, l⟩
  · simp at h
  rcases l with _ | ⟨a1, l⟩
  · simp at h
  rcases l with _ | ⟨a2, l⟩
  · simp at h
  rcases l with _ | ⟨a3, l⟩
  · simp at h
  rcases l with _ | ⟨a4, l⟩
  · simp at h
  rcases l with _ | ⟨a5, l⟩
  · simp at h
  rcases l with _ | ⟨a6, l⟩
  · simp at h
  rcases l with _ | ⟨a7, l⟩
  · simp at h
  rcases l with _ | ⟨a8, l⟩
  · simp at h
  rcases l with _ | ⟨a9, l⟩
  · simp at h
  rcases l with _ | ⟨a10, l⟩
  · simp at h
  rcases l with _ | ⟨a11, l⟩
  · simp at h
  rcases l with _ | ⟨a12, l⟩
  · simp at h
  rcases l with _ | ⟨a13, l⟩
  · simp at h
  rcases l with _ | ⟨a14, l⟩
  · simp at h
  rcases l with _ | ⟨a15, l⟩
  · rfl
  · simp at h
theorem take15 (l : List UInt64) (h : l.length = 15) : l.take 13 ++ [l.getD 13 0, l.getD 14 0] = l := by
  rcases l with _ | ⟨a0, l⟩
  · simp at h
  rcases l with _ | ⟨a1, l⟩
  · simp at h
  rcases l with _ | ⟨a2, l⟩
  · simp at h
  rcases l with _ | ⟨a3, l⟩
  · simp at h
  rcases l with _ | ⟨a4, l⟩
  · simp at h
  rcases l with _ | ⟨a5, l⟩
  · simp at h
  rcases l with _ | ⟨a6, l⟩
  · simp at h
  rcases l with _ | ⟨a7, l⟩
  · simp at h
  rcases l with _ | ⟨a8, l⟩
  · simp at h
  rcases l with _ | ⟨a9, l⟩
  · simp at h
  rcases l with _ | ⟨a10, l⟩
  · simp at h
  rcases l with _ | ⟨a11, l⟩
  · simp at h
  rcases l with _ | ⟨a12, l⟩
  · simp at h
  rcases l with _ | ⟨a13, l⟩
  · simp at h
  rcases l with _ | ⟨a14, l⟩
  · simp at h
  rcases l with _ | ⟨a15, l⟩
  · rfl
  · simp at h
theorem take_getD (l : List UInt64) (k : Nat) (h : k < l.length) : l.take (k + 1) = l.take k ++ [l.getD k 0] := by
  rw [List.take_add_one, List.getElem?_eq_getElem h, List.getD_eq_getElem?_getD, List.getElem?_eq_getElem h]
  rfl
theorem take_flatD (l : List UInt64) (k : Nat) (h : k < l.length) : (l.take (k + 1)).flatMap nL = (l.take k).flatMap nL ++ nL (l.getD k 0) := by
  rw [take_getD l k h, List.flatMap_append, List.flatMap_singleton]


set_option maxRecDepth 100000 in
set_option maxHeartbeats 6400000 in
theorem ref_Bytes {w : World} {o : OriginD} {c s t : Value} (h : OAt w o c s t) (hl : o.coins.length ≤ 200 ∧ o.seats.length ≤ 200 ∧ o.trusts.length ≤ 200) : Calls Tryd.prog 28 #[oV o c s t] w fun e w' => e = .returned (.string (bs (origL o))) ∧ Below w.heap.size w w' := by
  obtain ⟨a1, k1, rfl, _⟩ := h.coins.form
  obtain ⟨a2, k2, rfl, _⟩ := h.seats.form
  obtain ⟨a3, k3, rfl, _⟩ := h.trusts.form
  have hn := h.n
  obtain ⟨h1, h2, h3, h4⟩ := box_o h
  have HP := Lib.hid h1
  have HO := Lib.hid h2
  have HBW := Lib.hid h3
  have HLT := Lib.hid h4
  clear h1 h2 h3 h4
  have HT5 := Lib.hid (take5 o.n hn)
  have HT15 := Lib.hid (take15 o.n hn)
  have HTG := Lib.hid (fun k h => take_getD o.n k h)
  have HTF := Lib.hid (fun k h => take_flatD o.n k h)
  have HNL := Lib.hid (nums_len o.n)
  have HNT := Lib.hid (fun k => flat_take_le nL o.n k)
  have HN := Lib.hid hn
  have HIN := Lib.hid (infoKH o.no)
  have HLL := Lib.hid hl
  have HE := Lib.hid (show bs (origL o) = bs (o.n.flatMap nL ++ o.no.1 ++ putL o.coins.length ++ o.coins.flatMap outL ++ putL o.seats.length ++ o.seats.flatMap seatL ++ putL o.trusts.length ++ o.trusts.flatMap trustL) by
    unfold origL listL
    simp only [List.append_assoc])
  rw [HE.out]
  have hl1 := hl.1
  have hl2 := hl.2.1
  have hl3 := hl.2.2
  clear hl HE hn
  unfold oV
  obtain ⟨C, hC⟩ : ∃ C, (cellsO o (.slice a1 o.coins.length k1) (.slice a2 o.seats.length k2) (.slice a3 o.trusts.length k3)).toArray = C := ⟨_, rfl⟩
  rw [hC] at HP HO HBW HLT
  rw [hC]
  clear hC
  go_enter Tryd.func28, Tryd.ntmps28
  go_upto_region 1 with (fail)
  generalize w.alloc (.cells C 34) = W at HP HO HBW HLT ⊢
  obtain ⟨g, hg⟩ : ∃ g, w.heap.size = g := ⟨_, rfl⟩
  have HG := Lib.hid hg
  rw [hg] at HP HBW HLT
  rw [hg]
  clear hg
  have q0 := HP.out.num 0 (by decide)
  have q1 := HP.out.num 1 (by decide)
  have q2 := HP.out.num 2 (by decide)
  have q3 := HP.out.num 3 (by decide)
  have q4 := HP.out.num 4 (by decide)
  obtain ⟨x0, hx0⟩ : ∃ x, o.n.getD 0 0 = x := ⟨_, rfl⟩
  have HX0 := Lib.hid hx0
  obtain ⟨x1, hx1⟩ : ∃ x, o.n.getD 1 0 = x := ⟨_, rfl⟩
  have HX1 := Lib.hid hx1
  obtain ⟨x2, hx2⟩ : ∃ x, o.n.getD 2 0 = x := ⟨_, rfl⟩
  have HX2 := Lib.hid hx2
  obtain ⟨x3, hx3⟩ : ∃ x, o.n.getD 3 0 = x := ⟨_, rfl⟩
  have HX3 := Lib.hid hx3
  obtain ⟨x4, hx4⟩ : ∃ x, o.n.getD 4 0 = x := ⟨_, rfl⟩
  have HX4 := Lib.hid hx4
  obtain ⟨x13, hx13⟩ : ∃ x, o.n.getD 13 0 = x := ⟨_, rfl⟩
  have HX13 := Lib.hid hx13
  obtain ⟨x14, hx14⟩ : ∃ x, o.n.getD 14 0 = x := ⟨_, rfl⟩
  have HX14 := Lib.hid hx14
  rw [hx0] at q0
  rw [hx1] at q1
  rw [hx2] at q2
  rw [hx3] at q3
  rw [hx4] at q4
  rw [hx0, hx1, hx2, hx3, hx4] at HT5
  rw [hx13, hx14] at HT15
  clear hx0 hx1 hx2 hx3 hx4 hx13 hx14
  go_upto_region 2 with (refine wpList_build_vals (K := KU) rfl nV (fun _ => rfl) 76 5 _ rfl Tryd.underlying76 [x0, x1, x2, x3, x4] rfl (by decide) (by decide) (by simp [Act.eval]) ?_; intro wv hat hhv hbv hsv; go_frame)
  have how := (show KU.Own W.heap.size (.slice (some ⟨W.heap.size, 0, none⟩) 5 5) [x0, x1, x2, x3, x4] wv from own_block (B := W.heap.size) [x0, x1, x2, x3, x4] (by simp) (Nat.le_refl _) hhv)
  have HBV := Lib.hid hbv
  clear hat hhv hbv hsv q0 q1 q2 q3 q4
  rw [HT5.out] at how
  have HOW := Lib.hid how
  clear how
  obtain ⟨gw, hgw⟩ : ∃ n, W.heap.size = n := ⟨_, rfl⟩
  have HGW := Lib.hid hgw
  rw [hgw] at HOW HBV
  rw [hgw]
  clear hgw
  have HNN := Lib.hid (show ∀ k, k ≤ 13 → ((o.n.take k).length + ([0] : List UInt64).length) * (KU.bytes + 1) ≤ 1099511627776 from fun k hk => by simp [KU]; omega)
  go_upto_region 3 with (fail)
  go_loopw [3, 4] (fun av iv wr => ∃ i : Nat, i ≤ 8 ∧ iv = .int .i64 i ∧ KU.Own gw av (o.n.take (5 + i)) wr ∧ Below gw W wr) (fun _ iv _ => 8 - (intOf iv).toNat)
  case atStart => exact ⟨0, Nat.zero_le _, rfl, HOW.out, HBV.out⟩
  case round =>
    obtain ⟨i, hi, rfl, hown, hb⟩ := hrel
    have HOWN := Lib.hid hown
    have HB := Lib.hid hb
    clear hown hb
    by_cases hlt : i < 8
    · have hki : (i : Int) < 8 := by omega
      have cn := (HB.out.cell (show g < gw by have := HLT.out; have := HGW.out; omega)).trans (HP.out.num (5 + i) (by omega))
      have HNI := Lib.hid (HNN.out (5 + i) (by omega))
      have HTI := Lib.hid (HTG.out (5 + i) (by rw [HN.out]; omega))
      obtain ⟨x, hx⟩ : ∃ x, o.n.getD (5 + i) 0 = x := ⟨_, rfl⟩
      rw [hx] at cn HTI
      clear hx
      go_wp2_with (first
        | (refine wpList_build_vals (K := KU) rfl nV (fun _ => rfl) 76 1 _ rfl Tryd.underlying76 [x] rfl (by decide) (by decide) (by simp [Act.eval]) ?_; intro w2 hat2 hh2 hb2 hs2; have HAT2 := Lib.hid hat2; have HB2 := Lib.hid hb2; have HO2 := Lib.hid (HOWN.out.kept HB2.out); go_frame)
        | (refine wpList_append_at (K := KU) rfl (.tmp 27) (.tmp 32) 76 rfl Tryd.underlying76 gw rfl HO2.out _ _ rfl HAT2.out HNI.out (by have := HB.out.size; have := HB2.out.size; have := HGW.out; omega) ?_; intro v8 w8 hown8 hb8; have HO8 := Lib.hid hown8; have HB8 := Lib.hid hb8; clear hown8 hb8; go_frame))
      go_roundw
      case rel => exact ⟨i + 1, by omega, by go_num, by rw [show 5 + (i + 1) = 5 + i + 1 by omega, HTI.out]; exact HO8.out, (HB.out.trans (HB2.out.mono (by have := HB.out.size; have := HGW.out; omega))).trans HB8.out⟩
      case measure => simp [intOf]; omega
    · have hi8 : i = 8 := by omega
      have HOWN := Lib.hid (show KU.Own gw u3 (o.n.take (5 + 8)) wr by have h := HOWN.out; rw [hi8] at h; exact h)
      clear hi8
      have cn13 := (HB.out.cell (show g < gw by have := HLT.out; have := HGW.out; omega)).trans (HP.out.num 13 (by decide))
      have cn14 := (HB.out.cell (show g < gw by have := HLT.out; have := HGW.out; omega)).trans (HP.out.num 14 (by decide))
      rw [HX13.out] at cn13
      rw [HX14.out] at cn14
      have HNI2 := Lib.hid (show ((o.n.take (5 + 8)).length + ([x13, x14] : List UInt64).length) * (KU.bytes + 1) ≤ 1099511627776 by rw [List.length_take]; simp only [KU, List.length_cons, List.length_nil]; omega)
      go_upto_region 8 with (first
        | (refine wpList_build_vals (K := KU) rfl nV (fun _ => rfl) 76 2 _ rfl Tryd.underlying76 [x13, x14] rfl (by decide) (by decide) (by simp [Act.eval]) ?_; intro w2 hat2 hh2 hb2 hs2; have HAT2 := Lib.hid hat2; have HB2 := Lib.hid hb2; have HO2 := Lib.hid (HOWN.out.kept HB2.out); go_frame)
        | (refine wpList_append_at (K := KU) rfl (.tmp 34) (.tmp 39) 76 rfl Tryd.underlying76 gw rfl HO2.out _ _ rfl HAT2.out HNI2.out (by have := HB.out.size; have := HB2.out.size; have := HGW.out; omega) ?_; intro v8 w8 hown8 hb8; have HO8 := Lib.hid hown8; have HB8 := Lib.hid hb8; clear hown8 hb8; go_frame))
      have ho8 := HO8.out
      rw [HT15.out] at ho8
      have HU := Lib.hid ho8.reads
      clear ho8 HO8
      obtain ⟨ax, capx, rfl, hcapx⟩ := HU.out.form
      have HBX := Lib.hid ((HB.out.trans (HB2.out.mono (by have := HB.out.size; have := HGW.out; omega))).trans HB8.out)
      have HOX := Lib.hid (HO.out.kept (HGW.out.symm ▸ HBX.out))
      have hgl : g < w8.heap.size := by have := HLT.out; have := HBX.out.size; omega
      have HPX := Lib.hid (HP.out.kept HLT.out (HGW.out.symm ▸ HBX.out))
      clear cn13 cn14 HB2 HB8 HB HAT2 HOWN HOW HBV HNN HTG HT5 HT15
      generalize w8 = Y at HU HBX HOX hgl HPX ⊢
      rw [HN.out]
      go_upto_region 9 with (fail)
      go_loopw [5, 6] (fun sv iv wr => ∃ k : Nat, k ≤ 15 ∧ iv = .int .i64 k ∧ sv = .string (bs ((o.n.take k).flatMap nL)) ∧ Below Y.heap.size Y wr) (fun _ iv _ => 15 - (intOf iv).toNat)
      case atStart => exact ⟨0, Nat.zero_le _, rfl, rfl, Below.refl _ _⟩
      case round =>
        obtain ⟨k, hk, rfl, rfl, hb⟩ := hrel
        have HB := Lib.hid hb
        clear hb
        by_cases hlt : k < 15
        · obtain ⟨ge, oe, cap', ha, _, hr⟩ := (HU.out.kept HB.out).some (by rw [HN.out]; decide)
          have hx := List.getElem?_eq_getElem (show k < o.n.length by rw [HN.out]; exact hlt)
          obtain ⟨x, hxx⟩ : ∃ x, o.n[k]'(by rw [HN.out]; exact hlt) = x := ⟨_, rfl⟩
          rw [hxx] at hx
          have hc := range_thing hr hx (j := 0) (u := nV x) rfl
          rw [show KU.size = 1 from rfl, Nat.mul_one, Nat.add_zero] at hc
          have HTK := Lib.hid (take_flat nL o.n k x hx)
          have hsz : ((o.n.take k).flatMap nL).length ≤ 1000000 := by have h1 := HNL.out; have h2 := HNT.out k; rw [HN.out] at h1; omega
          injection ha with ha1 ha3 ha2
          clear ha3
          subst ha1 ha2
          have HPT := Lib.hid (fun w => refPutB x w)
          have hki : (k : Int) < 15 := by omega
          obtain ⟨S0, hS0⟩ : ∃ S, bs ((o.n.take k).flatMap nL) = S := ⟨_, rfl⟩
          have zS0 : S0.size ≤ 1000000 := by rw [← hS0, bs_size]; exact hsz
          rw [hS0]
          obtain ⟨P0, hP0⟩ : ∃ S, bs (nL x) = S := ⟨_, rfl⟩
          have zP0 : P0.size ≤ 1000 := by rw [← hP0, bs_size]; exact Nat.le_trans (nL_len x) (by decide)
          have HP0 := Lib.hid hP0
          obtain ⟨V0, hV0⟩ : ∃ S, S0 ++ P0 = S := ⟨_, rfl⟩
          have zV0 : V0.size = S0.size + P0.size := by rw [← hV0, ByteArray.size_append]
          have qv0 := eq_false (show ¬ (9223372036854775807 < S0.size + P0.size) by omega)
          have HCH := Lib.hid (show bs ((o.n.take k).flatMap nL ++ nL x) = V0 by
            rw [← hV0, ← hS0, ← hP0]
            simp only [bs_app])
          clear hP0 hS0 zP0 zS0 zV0
          simp only [HP0.out] at HPT
          go_wp2_with (go_at_call 64; refine (HPT.out _).mono ?_; rintro e w2 ⟨rfl, hb2⟩)
          go_roundw
          case rel => exact ⟨k + 1, by omega, by go_num, by rw [HTK.out, HCH.out], HB.out.trans (hb2.mono HB.out.size)⟩
          case measure => simp [intOf]; omega
        · have hk15 : k = 15 := by omega
          have he15 : (o.n.take k).flatMap nL = o.n.flatMap nL := by rw [hk15, ← HN.out, List.take_length]
          have hsz : (o.n.flatMap nL).length ≤ 1000000 := by have h1 := HNL.out; rw [HN.out] at h1; omega
          rw [he15]
          clear he15 hk15
          go_upto_region 12 with (fail)
          obtain ⟨S0, hS0⟩ : ∃ S, bs (o.n.flatMap nL) = S := ⟨_, rfl⟩
          have zS0 : S0.size ≤ 1000000 := by rw [← hS0, bs_size]; exact hsz
          rw [hS0]
          obtain ⟨P0, hP0⟩ : ∃ S, bs (o.no.1) = S := ⟨_, rfl⟩
          have zP0 : P0.size ≤ 1000 := by rw [← hP0, bs_size]; exact Nat.le_trans (Nat.le_of_eq o.no.2) (by decide)
          have HP0 := Lib.hid hP0
          obtain ⟨P1, hP1⟩ : ∃ S, bs (putL o.coins.length) = S := ⟨_, rfl⟩
          have zP1 : P1.size ≤ 1000 := by rw [← hP1, bs_size]; exact Nat.le_trans (putL_len _) (by decide)
          have HP1 := Lib.hid hP1
          obtain ⟨V0, hV0⟩ : ∃ S, S0 ++ P0 = S := ⟨_, rfl⟩
          have zV0 : V0.size = S0.size + P0.size := by rw [← hV0, ByteArray.size_append]
          have qv0 := eq_false (show ¬ (9223372036854775807 < S0.size + P0.size) by omega)
          obtain ⟨V1, hV1⟩ : ∃ S, V0 ++ P1 = S := ⟨_, rfl⟩
          have zV1 : V1.size = V0.size + P1.size := by rw [← hV1, ByteArray.size_append]
          have qv1 := eq_false (show ¬ (9223372036854775807 < V0.size + P1.size) by omega)
          have HCH := Lib.hid (show bs (o.n.flatMap nL ++ o.no.1 ++ putL o.coins.length) = V1 by
            rw [← hV1, ← hV0, ← hS0, ← hP0, ← hP1]
            simp only [bs_app])
          clear hP0 hP1 hS0 zP0 zP1 zS0 zV0 zV1
          have hlW : g < wr.heap.size := Nat.lt_of_lt_of_le hgl HB.out.size
          have HPW := Lib.hid (HPX.out.kept hgl HB.out)
          have HOW := Lib.hid (HOX.out.kept HB.out)
          have hcv : IntKind.u64.wrap (o.coins.length : Int) = (o.coins.length : Int) := IntWalk.u64_in _ ⟨by omega, by omega⟩
          have HPN := Lib.hid (fun w => refPutN o.coins.length (by omega) w)
          refine QT.wp_region_facts_tail 11 (by kernel_rfl) (fun w' => Below wr.heap.size wr w') (fun n v w' => (([.val (.string S0), .val (.pointer (some ⟨g, 15, none⟩)), .val (.agg (valsB o.no.1).toArray), .val (.string P0), .val (.string V0), .val (.pointer (some ⟨g, 47, none⟩)), .val (.slice a1 o.coins.length k1), .val (.int .i64 (o.coins.length : Int)), .val (.int .u64 (o.coins.length : Int)), .val (.string P1), .val (.string V1)] : List FactO).getD n (.val undef) : FactO).holds v w') (by kernel_rfl) (by kernel_rfl) (Below.refl _ _).drew (fun w1 w2 h1 hb => h1.trans (hb.mono h1.size)) (fun n v w1 w2 h hb => FactO.kept _ v w1 w2 h hb) (fun n o hn ho a wz hI hag hdep => ?_) (fun a wz hI hag hf => ?_)
          · have t1 : a.eval (.tmp 1) = .pointer (some ⟨g, 0, none⟩) := hag.old 1 _ (by kernel_rfl) rfl
            have t5 : a.eval (.tmp 5) = .string S0 := hag.old 5 _ (by kernel_rfl) rfl
            match n, ho with
            | 0, ho =>
              obtain rfl := (Option.some.inj ho).symm
              exact ⟨rfl, QT.wp_value (BigFrame.run_move (.tmp 5) rfl wz) ⟨_, rfl, t5, Below.refl _ _⟩⟩
            | 1, ho =>
              obtain rfl := (Option.some.inj ho).symm
              exact ⟨rfl, QT.wp_value (v := .pointer (some ⟨g, 15, none⟩)) (by simp [go_sem, QT.nf t1]) ⟨_, rfl, rfl, Below.refl _ _⟩⟩
            | 2, ho =>
              obtain rfl := (Option.some.inj ho).symm
              have d55 : a.eval (.tmp 55) = .pointer (some ⟨g, 15, none⟩) := hdep _ (Array.mem_of_getElem? (i := 0) rfl) rfl _ _ rfl rfl
              exact ⟨rfl, wp_load_mid 29 (.tmp 55) rfl g 15 d55 (valsB o.no.1) _ (range_kept hI HPW.out.no) Tryd.underlying29 rfl HIN.out ⟨_, rfl, rfl, Below.refl _ _⟩⟩
            | 3, ho =>
              obtain rfl := (Option.some.inj ho).symm
              have d56 : a.eval (.tmp 56) = .agg (valsB o.no.1).toArray := hdep _ (Array.mem_of_getElem? (i := 0) rfl) rfl _ _ rfl rfl
              exact ⟨rfl, QT.wp_enter (v := .string P0) (f := 33) (args := #[hV o.no]) (R := fun w' => Below wz.heap.size wz w') (by simp [go_sem, QT.nf d56]) ((told (ref_bytesH o.no wz) HP0.out).mono fun _ _ ⟨h1, h2⟩ => ⟨h1, h2⟩) fun w' h => ⟨_, rfl, rfl, h⟩⟩
            | 4, ho =>
              obtain rfl := (Option.some.inj ho).symm
              have d54 : a.eval (.tmp 54) = .string S0 := hdep _ (Array.mem_of_getElem? (i := 0) rfl) rfl _ _ rfl rfl
              have d57 : a.eval (.tmp 57) = .string P0 := hdep _ (Array.mem_of_getElem? (i := 1) rfl) rfl _ _ rfl rfl
              exact ⟨rfl, QT.wp_value (v := .string V0) (by simp [go_sem, QT.nf d54, QT.nf d57, qv0, hV0]) ⟨_, rfl, rfl, Below.refl _ _⟩⟩
            | 5, ho =>
              obtain rfl := (Option.some.inj ho).symm
              exact ⟨rfl, QT.wp_value (v := .pointer (some ⟨g, 47, none⟩)) (by simp [go_sem, QT.nf t1]) ⟨_, rfl, rfl, Below.refl _ _⟩⟩
            | 6, ho =>
              obtain rfl := (Option.some.inj ho).symm
              have d59 : a.eval (.tmp 59) = .pointer (some ⟨g, 47, none⟩) := hdep _ (Array.mem_of_getElem? (i := 0) rfl) rfl _ _ rfl rfl
              exact ⟨rfl, QT.wp_value (v := .slice a1 o.coins.length k1) (by simp [go_sem, QT.nf d59, (hI.cell hlW).trans HPW.out.c]) ⟨_, rfl, rfl, Below.refl _ _⟩⟩
            | 7, ho =>
              obtain rfl := (Option.some.inj ho).symm
              have d60 : a.eval (.tmp 60) = .slice a1 o.coins.length k1 := hdep _ (Array.mem_of_getElem? (i := 0) rfl) rfl _ _ rfl rfl
              exact ⟨rfl, QT.wp_value (v := .int .i64 (o.coins.length : Int)) (by simp [go_sem, QT.nf d60]) ⟨_, rfl, rfl, Below.refl _ _⟩⟩
            | 8, ho =>
              obtain rfl := (Option.some.inj ho).symm
              have d61 : a.eval (.tmp 61) = .int .i64 (o.coins.length : Int) := hdep _ (Array.mem_of_getElem? (i := 0) rfl) rfl _ _ rfl rfl
              exact ⟨rfl, QT.wp_value (v := .int .u64 (o.coins.length : Int)) (by simp [go_sem, QT.nf d61, hcv]) ⟨_, rfl, rfl, Below.refl _ _⟩⟩
            | 9, ho =>
              obtain rfl := (Option.some.inj ho).symm
              have d62 : a.eval (.tmp 62) = .int .u64 (o.coins.length : Int) := hdep _ (Array.mem_of_getElem? (i := 0) rfl) rfl _ _ rfl rfl
              exact ⟨rfl, QT.wp_enter (v := .string P1) (f := 64) (args := #[.int .u64 (o.coins.length : Int)]) (R := fun w' => Below wz.heap.size wz w') (by simp [go_sem, QT.nf d62]) ((told (HPN.out wz) HP1.out).mono fun _ _ ⟨h1, h2⟩ => ⟨h1, h2⟩) fun w' h => ⟨_, rfl, rfl, h⟩⟩
            | 10, ho =>
              obtain rfl := (Option.some.inj ho).symm
              have d58 : a.eval (.tmp 58) = .string V0 := hdep _ (Array.mem_of_getElem? (i := 0) rfl) rfl _ _ rfl rfl
              have d63 : a.eval (.tmp 63) = .string P1 := hdep _ (Array.mem_of_getElem? (i := 1) rfl) rfl _ _ rfl rfl
              exact ⟨rfl, QT.wp_value (v := .string V1) (by simp [go_sem, QT.nf d58, QT.nf d63, qv1, hV1]) ⟨_, rfl, rfl, Below.refl _ _⟩⟩
            | n + 11, ho => omega
          · have f0 : a.eval (.tmp 54) = .string S0 := hf 0 _ _ (by omega) rfl rfl
            have f1 : a.eval (.tmp 55) = .pointer (some ⟨g, 15, none⟩) := hf 1 _ _ (by omega) rfl rfl
            have f2 : a.eval (.tmp 56) = .agg (valsB o.no.1).toArray := hf 2 _ _ (by omega) rfl rfl
            have f3 : a.eval (.tmp 57) = .string P0 := hf 3 _ _ (by omega) rfl rfl
            have f4 : a.eval (.tmp 58) = .string V0 := hf 4 _ _ (by omega) rfl rfl
            have f5 : a.eval (.tmp 59) = .pointer (some ⟨g, 47, none⟩) := hf 5 _ _ (by omega) rfl rfl
            have f6 : a.eval (.tmp 60) = .slice a1 o.coins.length k1 := hf 6 _ _ (by omega) rfl rfl
            have f7 : a.eval (.tmp 61) = .int .i64 (o.coins.length : Int) := hf 7 _ _ (by omega) rfl rfl
            have f8 : a.eval (.tmp 62) = .int .u64 (o.coins.length : Int) := hf 8 _ _ (by omega) rfl rfl
            have f9 : a.eval (.tmp 63) = .string P1 := hf 9 _ _ (by omega) rfl rfl
            have f10 : a.eval (.tmp 64) = .string V1 := hf 10 _ _ (by omega) rfl rfl
            have ha := hag.puts [(54, .string S0), (55, .pointer (some ⟨g, 15, none⟩)), (56, .agg (valsB o.no.1).toArray), (57, .string P0), (58, .string V0), (59, .pointer (some ⟨g, 47, none⟩)), (60, .slice a1 o.coins.length k1), (61, .int .i64 (o.coins.length : Int)), (62, .int .u64 (o.coins.length : Int)), (63, .string P1), (64, .string V1)] rfl (by simp) (by simp only [List.forall_mem_cons, List.not_mem_nil, false_implies, implies_true, and_true]; exact ⟨f0, f1, f2, f3, f4, f5, f6, f7, f8, f9, f10⟩)
            subst ha
            clear hag hf f0 f1 f2 f3 f4 f5 f6 f7 f8 f9 f10
            simp only [List.foldl_cons, List.foldl_nil, Act.put, List.drop_succ_cons, List.drop_zero, List.setIfInBounds_toArray, List.set_cons_succ, List.set_cons_zero]
            have HBI := Lib.hid (HB.out.trans (hI.mono HB.out.size))
            clear hI
            obtain ⟨PA, hPA⟩ : ∃ l, o.n.flatMap nL ++ o.no.1 ++ putL o.coins.length = l := ⟨_, rfl⟩
            have HPA0 := Lib.hid hPA
            have HSPA := Lib.hid (show PA.length ≤ 1000 by
              have h2 := putL_len o.coins.length
              have h3 := o.no.2
              have h4 := HNL.out
              rw [HN.out] at h4
              rw [← hPA]
              simp only [List.length_append]
              omega)
            rw [hPA] at HCH
            rw [← HCH.out]
            clear HCH hPA HB HPW HOW hcv HPN hlW
            go_upto_region 14 with (fail)
            go_loopw [5, 7] (fun sv iv wr => ∃ k : Nat, k ≤ o.coins.length ∧ iv = .int .i64 k ∧ sv = .string (bs (PA ++ (o.coins.take k).flatMap outL)) ∧ Below Y.heap.size Y wr) (fun _ iv _ => o.coins.length - (intOf iv).toNat)
            case atStart => exact ⟨0, Nat.zero_le _, rfl, by rw [List.take_zero, List.flatMap_nil, List.append_nil], HBI.out⟩
            case round =>
              obtain ⟨k, hk, rfl, rfl, hb⟩ := hrel
              have HB := Lib.hid hb
              clear hb HBI
              have cs := (HB.out.cell hgl).trans HPX.out.c
              have hsz : (PA ++ (o.coins.take k).flatMap outL).length ≤ 1000000 := by
                have h1 := HSPA.out
                have h2 := flat_le outL 200 outL_le (o.coins.take k)
                rw [List.length_take] at h2
                rw [List.length_append]
                omega
              by_cases hlt : k < o.coins.length
              · obtain ⟨ge, oe, cap', ha, _, hr⟩ := ((HOX.out.kept HB.out).coins).some (by omega)
                have hx := List.getElem?_eq_getElem hlt
                obtain ⟨x, hxx⟩ : ∃ x, o.coins[k] = x := ⟨_, rfl⟩
                rw [hxx] at hx
                have HRX := Lib.hid (range_at hr hx)
                have HTK := Lib.hid (take_flat outL o.coins k x hx)
                have HIX := Lib.hid (KOut.infoL x)
                injection ha with ha1 ha3 ha2
                clear ha3
                subst ha1 ha2
                have hki : (k : Int) < (o.coins.length : Int) := by omega
                clear hxx hx hr
                obtain ⟨CX, hCX⟩ : ∃ C, (KOut.enc x).toArray = C := ⟨_, rfl⟩
                have HCX := Lib.hid hCX
                have HPA := Lib.hid (fun (w : World) (g : Nat) (h : w.heap[g]? = some (.cells CX KOut.T (0, 0))) => Out_parts (range_heap (cs := KOut.enc x) (by rw [hCX]; exact h)))
                clear hCX
                go_upto_region 17 with (first
                  | (refine wpList_load_mid rfl 52 (.tmp 75) rfl ge (oe + k * 65) rfl (KOut.enc x) _ HRX.out Tryd.underlying52 rfl HIX.out ?_; rw [HCX.out]; go_frame)
                  | (refine wpList_new_thing KOut (z32 ++ (z32 ++ [Value.int .u64 0])).toArray rfl x HCX.out (.tmp 8) (.tmp 76) rfl rfl rfl rfl (fun _ => rfl) (fun _ => rfl) ?_; intro wv hhv hsv hbv; go_frame))
                have HPT := Lib.hid (HPA.out wv _ hhv)
                have HBV := Lib.hid (HB.out.trans (hbv.mono HB.out.size))
                have HGV := Lib.hid (show wr.heap.size < wv.heap.size by omega)
                obtain ⟨gx, hgx⟩ : ∃ n, wr.heap.size = n := ⟨_, rfl⟩
                rw [hgx] at HPT HGV ⊢
                clear hhv hsv hbv hgx
                obtain ⟨S0, hS0⟩ : ∃ S, bs (PA ++ (o.coins.take k).flatMap outL) = S := ⟨_, rfl⟩
                have zS0 : S0.size ≤ 1000000 := by rw [← hS0, bs_size]; exact hsz
                rw [hS0]
                obtain ⟨P0, hP0⟩ : ∃ S, bs (x.to_.1) = S := ⟨_, rfl⟩
                have zP0 : P0.size ≤ 1000 := by rw [← hP0, bs_size]; exact Nat.le_trans (Nat.le_of_eq x.to_.2) (by decide)
                have HP0 := Lib.hid hP0
                obtain ⟨P1, hP1⟩ : ∃ S, bs (x.st.1) = S := ⟨_, rfl⟩
                have zP1 : P1.size ≤ 1000 := by rw [← hP1, bs_size]; exact Nat.le_trans (Nat.le_of_eq x.st.2) (by decide)
                have HP1 := Lib.hid hP1
                obtain ⟨P2, hP2⟩ : ∃ S, bs (nL x.am) = S := ⟨_, rfl⟩
                have zP2 : P2.size ≤ 1000 := by rw [← hP2, bs_size]; exact Nat.le_trans (nL_len _) (by decide)
                have HP2 := Lib.hid hP2
                obtain ⟨V0, hV0⟩ : ∃ S, S0 ++ P0 = S := ⟨_, rfl⟩
                have zV0 : V0.size = S0.size + P0.size := by rw [← hV0, ByteArray.size_append]
                have qv0 := eq_false (show ¬ (9223372036854775807 < S0.size + P0.size) by omega)
                obtain ⟨V1, hV1⟩ : ∃ S, V0 ++ P1 = S := ⟨_, rfl⟩
                have zV1 : V1.size = V0.size + P1.size := by rw [← hV1, ByteArray.size_append]
                have qv1 := eq_false (show ¬ (9223372036854775807 < V0.size + P1.size) by omega)
                obtain ⟨V2, hV2⟩ : ∃ S, V1 ++ P2 = S := ⟨_, rfl⟩
                have zV2 : V2.size = V1.size + P2.size := by rw [← hV2, ByteArray.size_append]
                have qv2 := eq_false (show ¬ (9223372036854775807 < V1.size + P2.size) by omega)
                have HCH := Lib.hid (show bs (PA ++ (o.coins.take k).flatMap outL ++ x.to_.1 ++ x.st.1 ++ nL x.am) = V2 by
                  rw [← hV2, ← hV1, ← hV0, ← hS0, ← hP0, ← hP1, ← hP2]
                  simp only [bs_app])
                clear hP0 hP1 hP2 hS0 zP0 zP1 zP2 zS0 zV0 zV1 zV2
                have hgv := HGV.out
                have HI0 := Lib.hid (infoKH x.to_)
                have HI1 := Lib.hid (infoKH x.st)
                have HPS := Lib.hid (show wv.rangeAt gx 32 (valsB x.st.1) by have h := HPT.out.2.1; rwa [Nat.zero_add] at h)
                have hca : wv.cell? ⟨gx, 64, none⟩ = some (nV x.am) := by have h := HPT.out.2.2; rwa [Nat.zero_add] at h
                refine QT.wp_region_facts_tail 13 (by kernel_rfl) (fun w' => Below wv.heap.size wv w') (fun n v w' => (([.val (.string S0), .val (.pointer (some ⟨gx, 0, none⟩)), .val (.agg (valsB x.to_.1).toArray), .val (.string P0), .val (.string V0), .val (.pointer (some ⟨gx, 32, none⟩)), .val (.agg (valsB x.st.1).toArray), .val (.string P1), .val (.string V1), .val (.pointer (some ⟨gx, 64, none⟩)), .val (nV x.am), .val (.string P2), .val (.string V2)] : List FactO).getD n (.val undef) : FactO).holds v w') (by kernel_rfl) (by kernel_rfl) (Below.refl _ _).drew (fun w1 w2 h1 hb => h1.trans (hb.mono h1.size)) (fun n v w1 w2 h hb => FactO.kept _ v w1 w2 h hb) (fun n o hn ho a wz hI hag hdep => ?_) (fun a wz hI hag hf => ?_)
                · have t5 : a.eval (.tmp 5) = .string S0 := hag.old 5 _ (by kernel_rfl) rfl
                  have t8 : a.eval (.tmp 8) = .pointer (some ⟨gx, 0, none⟩) := hag.old 8 _ (by kernel_rfl) rfl
                  match n, ho with
                  | 0, ho =>
                    obtain rfl := (Option.some.inj ho).symm
                    exact ⟨rfl, QT.wp_value (BigFrame.run_move (.tmp 5) rfl wz) ⟨_, rfl, t5, Below.refl _ _⟩⟩
                  | 1, ho =>
                    obtain rfl := (Option.some.inj ho).symm
                    exact ⟨rfl, QT.wp_value (v := .pointer (some ⟨gx, 0, none⟩)) (by simp [go_sem, QT.nf t8]) ⟨_, rfl, rfl, Below.refl _ _⟩⟩
                  | 2, ho =>
                    obtain rfl := (Option.some.inj ho).symm
                    have d78 : a.eval (.tmp 78) = .pointer (some ⟨gx, 0, none⟩) := hdep _ (Array.mem_of_getElem? (i := 0) rfl) rfl _ _ rfl rfl
                    exact ⟨rfl, wp_load_mid 29 (.tmp 78) rfl gx 0 d78 (valsB x.to_.1) _ (range_kept hI HPT.out.1) Tryd.underlying29 rfl HI0.out ⟨_, rfl, rfl, Below.refl _ _⟩⟩
                  | 3, ho =>
                    obtain rfl := (Option.some.inj ho).symm
                    have d79 : a.eval (.tmp 79) = .agg (valsB x.to_.1).toArray := hdep _ (Array.mem_of_getElem? (i := 0) rfl) rfl _ _ rfl rfl
                    exact ⟨rfl, QT.wp_enter (v := .string P0) (f := 33) (args := #[hV x.to_]) (R := fun w' => Below wz.heap.size wz w') (by simp [go_sem, QT.nf d79]) ((told (ref_bytesH x.to_ wz) HP0.out).mono fun _ _ ⟨h1, h2⟩ => ⟨h1, h2⟩) fun w' h => ⟨_, rfl, rfl, h⟩⟩
                  | 4, ho =>
                    obtain rfl := (Option.some.inj ho).symm
                    have d77 : a.eval (.tmp 77) = .string S0 := hdep _ (Array.mem_of_getElem? (i := 0) rfl) rfl _ _ rfl rfl
                    have d80 : a.eval (.tmp 80) = .string P0 := hdep _ (Array.mem_of_getElem? (i := 1) rfl) rfl _ _ rfl rfl
                    exact ⟨rfl, QT.wp_value (v := .string V0) (by simp [go_sem, QT.nf d77, QT.nf d80, qv0, hV0]) ⟨_, rfl, rfl, Below.refl _ _⟩⟩
                  | 5, ho =>
                    obtain rfl := (Option.some.inj ho).symm
                    exact ⟨rfl, QT.wp_value (v := .pointer (some ⟨gx, 32, none⟩)) (by simp [go_sem, QT.nf t8]) ⟨_, rfl, rfl, Below.refl _ _⟩⟩
                  | 6, ho =>
                    obtain rfl := (Option.some.inj ho).symm
                    have d82 : a.eval (.tmp 82) = .pointer (some ⟨gx, 32, none⟩) := hdep _ (Array.mem_of_getElem? (i := 0) rfl) rfl _ _ rfl rfl
                    exact ⟨rfl, wp_load_mid 29 (.tmp 82) rfl gx 32 d82 (valsB x.st.1) _ (range_kept hI HPS.out) Tryd.underlying29 rfl HI1.out ⟨_, rfl, rfl, Below.refl _ _⟩⟩
                  | 7, ho =>
                    obtain rfl := (Option.some.inj ho).symm
                    have d83 : a.eval (.tmp 83) = .agg (valsB x.st.1).toArray := hdep _ (Array.mem_of_getElem? (i := 0) rfl) rfl _ _ rfl rfl
                    exact ⟨rfl, QT.wp_enter (v := .string P1) (f := 33) (args := #[hV x.st]) (R := fun w' => Below wz.heap.size wz w') (by simp [go_sem, QT.nf d83]) ((told (ref_bytesH x.st wz) HP1.out).mono fun _ _ ⟨h1, h2⟩ => ⟨h1, h2⟩) fun w' h => ⟨_, rfl, rfl, h⟩⟩
                  | 8, ho =>
                    obtain rfl := (Option.some.inj ho).symm
                    have d81 : a.eval (.tmp 81) = .string V0 := hdep _ (Array.mem_of_getElem? (i := 0) rfl) rfl _ _ rfl rfl
                    have d84 : a.eval (.tmp 84) = .string P1 := hdep _ (Array.mem_of_getElem? (i := 1) rfl) rfl _ _ rfl rfl
                    exact ⟨rfl, QT.wp_value (v := .string V1) (by simp [go_sem, QT.nf d81, QT.nf d84, qv1, hV1]) ⟨_, rfl, rfl, Below.refl _ _⟩⟩
                  | 9, ho =>
                    obtain rfl := (Option.some.inj ho).symm
                    exact ⟨rfl, QT.wp_value (v := .pointer (some ⟨gx, 64, none⟩)) (by simp [go_sem, QT.nf t8]) ⟨_, rfl, rfl, Below.refl _ _⟩⟩
                  | 10, ho =>
                    obtain rfl := (Option.some.inj ho).symm
                    have d86 : a.eval (.tmp 86) = .pointer (some ⟨gx, 64, none⟩) := hdep _ (Array.mem_of_getElem? (i := 0) rfl) rfl _ _ rfl rfl
                    exact ⟨rfl, QT.wp_value (v := nV x.am) (by simp [go_sem, QT.nf d86, (hI.cell hgv).trans hca]) ⟨_, rfl, rfl, Below.refl _ _⟩⟩
                  | 11, ho =>
                    obtain rfl := (Option.some.inj ho).symm
                    have d87 : a.eval (.tmp 87) = nV x.am := hdep _ (Array.mem_of_getElem? (i := 0) rfl) rfl _ _ rfl rfl
                    exact ⟨rfl, QT.wp_enter (v := .string P2) (f := 64) (args := #[nV x.am]) (R := fun w' => Below wz.heap.size wz w') (by simp [go_sem, QT.nf d87]) ((told (refPutB x.am wz) HP2.out).mono fun _ _ ⟨h1, h2⟩ => ⟨h1, h2⟩) fun w' h => ⟨_, rfl, rfl, h⟩⟩
                  | 12, ho =>
                    obtain rfl := (Option.some.inj ho).symm
                    have d85 : a.eval (.tmp 85) = .string V1 := hdep _ (Array.mem_of_getElem? (i := 0) rfl) rfl _ _ rfl rfl
                    have d88 : a.eval (.tmp 88) = .string P2 := hdep _ (Array.mem_of_getElem? (i := 1) rfl) rfl _ _ rfl rfl
                    exact ⟨rfl, QT.wp_value (v := .string V2) (by simp [go_sem, QT.nf d85, QT.nf d88, qv2, hV2]) ⟨_, rfl, rfl, Below.refl _ _⟩⟩
                  | n + 13, ho => omega
                · have f0 : a.eval (.tmp 77) = .string S0 := hf 0 _ _ (by omega) rfl rfl
                  have f1 : a.eval (.tmp 78) = .pointer (some ⟨gx, 0, none⟩) := hf 1 _ _ (by omega) rfl rfl
                  have f2 : a.eval (.tmp 79) = .agg (valsB x.to_.1).toArray := hf 2 _ _ (by omega) rfl rfl
                  have f3 : a.eval (.tmp 80) = .string P0 := hf 3 _ _ (by omega) rfl rfl
                  have f4 : a.eval (.tmp 81) = .string V0 := hf 4 _ _ (by omega) rfl rfl
                  have f5 : a.eval (.tmp 82) = .pointer (some ⟨gx, 32, none⟩) := hf 5 _ _ (by omega) rfl rfl
                  have f6 : a.eval (.tmp 83) = .agg (valsB x.st.1).toArray := hf 6 _ _ (by omega) rfl rfl
                  have f7 : a.eval (.tmp 84) = .string P1 := hf 7 _ _ (by omega) rfl rfl
                  have f8 : a.eval (.tmp 85) = .string V1 := hf 8 _ _ (by omega) rfl rfl
                  have f9 : a.eval (.tmp 86) = .pointer (some ⟨gx, 64, none⟩) := hf 9 _ _ (by omega) rfl rfl
                  have f10 : a.eval (.tmp 87) = nV x.am := hf 10 _ _ (by omega) rfl rfl
                  have f11 : a.eval (.tmp 88) = .string P2 := hf 11 _ _ (by omega) rfl rfl
                  have f12 : a.eval (.tmp 89) = .string V2 := hf 12 _ _ (by omega) rfl rfl
                  have ha := hag.puts [(77, .string S0), (78, .pointer (some ⟨gx, 0, none⟩)), (79, .agg (valsB x.to_.1).toArray), (80, .string P0), (81, .string V0), (82, .pointer (some ⟨gx, 32, none⟩)), (83, .agg (valsB x.st.1).toArray), (84, .string P1), (85, .string V1), (86, .pointer (some ⟨gx, 64, none⟩)), (87, nV x.am), (88, .string P2), (89, .string V2)] rfl (by simp) (by simp only [List.forall_mem_cons, List.not_mem_nil, false_implies, implies_true, and_true]; exact ⟨f0, f1, f2, f3, f4, f5, f6, f7, f8, f9, f10, f11, f12⟩)
                  subst ha
                  clear hag hf f0 f1 f2 f3 f4 f5 f6 f7 f8 f9 f10 f11 f12
                  simp only [List.foldl_cons, List.foldl_nil, Act.put, List.drop_succ_cons, List.drop_zero, List.setIfInBounds_toArray, List.set_cons_succ, List.set_cons_zero]
                  have HBJ := Lib.hid (HBV.out.trans (hI.mono HBV.out.size))
                  clear hI
                  go_wp2_with fail
                  go_roundw
                  case rel => exact ⟨k + 1, by omega, by go_num, by rw [HTK.out, ← HCH.out]; simp only [outL, List.append_assoc], HBJ.out⟩
                  case measure => simp [intOf]; omega
              · obtain rfl : k = o.coins.length := by omega
                rw [List.take_length] at hsz ⊢
                obtain ⟨S0, hS0⟩ : ∃ S, bs (PA ++ o.coins.flatMap outL) = S := ⟨_, rfl⟩
                have zS0 : S0.size ≤ 1000000 := by rw [← hS0, bs_size]; exact hsz
                rw [hS0]
                obtain ⟨P0, hP0⟩ : ∃ S, bs (putL o.seats.length) = S := ⟨_, rfl⟩
                have zP0 : P0.size ≤ 1000 := by rw [← hP0, bs_size]; exact Nat.le_trans (putL_len _) (by decide)
                have HP0 := Lib.hid hP0
                obtain ⟨V0, hV0⟩ : ∃ S, S0 ++ P0 = S := ⟨_, rfl⟩
                have zV0 : V0.size = S0.size + P0.size := by rw [← hV0, ByteArray.size_append]
                have qv0 := eq_false (show ¬ (9223372036854775807 < S0.size + P0.size) by omega)
                have HCH := Lib.hid (show bs (PA ++ o.coins.flatMap outL ++ putL o.seats.length) = V0 by
                  rw [← hV0, ← hS0, ← hP0]
                  simp only [bs_app])
                clear hP0 hS0 zP0 zS0 zV0
                have cs2 := (HB.out.cell hgl).trans HPX.out.s
                have hcv : IntKind.u64.wrap (o.seats.length : Int) = (o.seats.length : Int) := IntWalk.u64_in _ ⟨by omega, by omega⟩
                have HPN := Lib.hid (fun w => told (refPutN o.seats.length (by omega) w) HP0.out)
                go_upto_region 19 with (go_at_call 64; refine (HPN.out _).mono ?_; rintro e w2 ⟨rfl, hb2⟩)
                have HBI := Lib.hid (HB.out.trans (hb2.mono HB.out.size))
                clear hb2 cs cs2 HB hcv HPN
                obtain ⟨PB, hPB⟩ : ∃ l, PA ++ o.coins.flatMap outL ++ putL o.seats.length = l := ⟨_, rfl⟩
                have HPB := Lib.hid hPB
                have HSPB := Lib.hid (show PB.length ≤ 100000 by
                  have h2 := putL_len o.seats.length
                  have h3 := HSPA.out
                  have h4 := flat_le outL 200 outL_le o.coins
                  rw [← hPB]
                  simp only [List.length_append]
                  omega)
                rw [hPB] at HCH
                rw [← HCH.out]
                clear HCH hPB
                go_upto_region 20 with (fail)
                go_loopw [5, 9] (fun sv iv wr => ∃ k : Nat, k ≤ o.seats.length ∧ iv = .int .i64 k ∧ sv = .string (bs (PB ++ (o.seats.take k).flatMap seatL)) ∧ Below Y.heap.size Y wr) (fun _ iv _ => o.seats.length - (intOf iv).toNat)
                case atStart => exact ⟨0, Nat.zero_le _, rfl, by rw [List.take_zero, List.flatMap_nil, List.append_nil], HBI.out⟩
                case round =>
                  obtain ⟨k, hk, rfl, rfl, hb⟩ := hrel
                  have HB := Lib.hid hb
                  clear hb HBI
                  have cs := (HB.out.cell hgl).trans HPX.out.s
                  have hsz : (PB ++ (o.seats.take k).flatMap seatL).length ≤ 1000000 := by
                    have h1 := HSPB.out
                    have h2 := flat_le seatL 200 seatL_le (o.seats.take k)
                    rw [List.length_take] at h2
                    rw [List.length_append]
                    omega
                  by_cases hlt : k < o.seats.length
                  · obtain ⟨ge, oe, cap', ha, _, hr⟩ := ((HOX.out.kept HB.out).seats).some (by omega)
                    have hx := List.getElem?_eq_getElem hlt
                    obtain ⟨x, hxx⟩ : ∃ x, o.seats[k] = x := ⟨_, rfl⟩
                    rw [hxx] at hx
                    have HRX := Lib.hid (range_at hr hx)
                    have HTK := Lib.hid (take_flat seatL o.seats k x hx)
                    have HIX := Lib.hid (KSeat.infoL x)
                    injection ha with ha1 ha3 ha2
                    clear ha3
                    subst ha1 ha2
                    have hki : (k : Int) < (o.seats.length : Int) := by omega
                    clear hxx hx hr
                    obtain ⟨CX, hCX⟩ : ∃ C, (KSeat.enc x).toArray = C := ⟨_, rfl⟩
                    have HCX := Lib.hid hCX
                    have HPA := Lib.hid (fun (w : World) (g : Nat) (h : w.heap[g]? = some (.cells CX KSeat.T (0, 0))) => Seat_parts (range_heap (cs := KSeat.enc x) (by rw [hCX]; exact h)))
                    clear hCX
                    go_upto_region 23 with (first
                      | (refine wpList_load_mid rfl 67 (.tmp 107) rfl ge (oe + k * 67) rfl (KSeat.enc x) _ HRX.out Tryd.underlying67 rfl HIX.out ?_; rw [HCX.out]; go_frame)
                      | (refine wpList_new_thing KSeat zSeat.toArray rfl x HCX.out (.tmp 10) (.tmp 108) rfl rfl rfl rfl (fun _ => rfl) (fun _ => rfl) ?_; intro wv hhv hsv hbv; go_frame))
                    have HPT := Lib.hid (HPA.out wv _ hhv)
                    have HBV := Lib.hid (HB.out.trans (hbv.mono HB.out.size))
                    have HGV := Lib.hid (show wr.heap.size < wv.heap.size by omega)
                    obtain ⟨gx, hgx⟩ : ∃ n, wr.heap.size = n := ⟨_, rfl⟩
                    rw [hgx] at HPT HGV ⊢
                    clear hhv hsv hbv hgx
                    obtain ⟨S0, hS0⟩ : ∃ S, bs (PB ++ (o.seats.take k).flatMap seatL) = S := ⟨_, rfl⟩
                    have zS0 : S0.size ≤ 1000000 := by rw [← hS0, bs_size]; exact hsz
                    rw [hS0]
                    obtain ⟨P0, hP0⟩ : ∃ S, bs (x.pool.1) = S := ⟨_, rfl⟩
                    have zP0 : P0.size ≤ 1000 := by rw [← hP0, bs_size]; exact Nat.le_trans (Nat.le_of_eq x.pool.2) (by decide)
                    have HP0 := Lib.hid hP0
                    obtain ⟨P1, hP1⟩ : ∃ S, bs (x.key.1) = S := ⟨_, rfl⟩
                    have zP1 : P1.size ≤ 1000 := by rw [← hP1, bs_size]; exact Nat.le_trans (Nat.le_of_eq x.key.2) (by decide)
                    have HP1 := Lib.hid hP1
                    obtain ⟨P2, hP2⟩ : ∃ S, bs (nL x.pledge) = S := ⟨_, rfl⟩
                    have zP2 : P2.size ≤ 1000 := by rw [← hP2, bs_size]; exact Nat.le_trans (nL_len _) (by decide)
                    have HP2 := Lib.hid hP2
                    obtain ⟨P3, hP3⟩ : ∃ S, bs (nL x.cost) = S := ⟨_, rfl⟩
                    have zP3 : P3.size ≤ 1000 := by rw [← hP3, bs_size]; exact Nat.le_trans (nL_len _) (by decide)
                    have HP3 := Lib.hid hP3
                    obtain ⟨P4, hP4⟩ : ∃ S, bs (nL x.margin) = S := ⟨_, rfl⟩
                    have zP4 : P4.size ≤ 1000 := by rw [← hP4, bs_size]; exact Nat.le_trans (nL_len _) (by decide)
                    have HP4 := Lib.hid hP4
                    obtain ⟨V0, hV0⟩ : ∃ S, S0 ++ P0 = S := ⟨_, rfl⟩
                    have zV0 : V0.size = S0.size + P0.size := by rw [← hV0, ByteArray.size_append]
                    have qv0 := eq_false (show ¬ (9223372036854775807 < S0.size + P0.size) by omega)
                    obtain ⟨V1, hV1⟩ : ∃ S, V0 ++ P1 = S := ⟨_, rfl⟩
                    have zV1 : V1.size = V0.size + P1.size := by rw [← hV1, ByteArray.size_append]
                    have qv1 := eq_false (show ¬ (9223372036854775807 < V0.size + P1.size) by omega)
                    obtain ⟨V2, hV2⟩ : ∃ S, V1 ++ P2 = S := ⟨_, rfl⟩
                    have zV2 : V2.size = V1.size + P2.size := by rw [← hV2, ByteArray.size_append]
                    have qv2 := eq_false (show ¬ (9223372036854775807 < V1.size + P2.size) by omega)
                    obtain ⟨V3, hV3⟩ : ∃ S, V2 ++ P3 = S := ⟨_, rfl⟩
                    have zV3 : V3.size = V2.size + P3.size := by rw [← hV3, ByteArray.size_append]
                    have qv3 := eq_false (show ¬ (9223372036854775807 < V2.size + P3.size) by omega)
                    obtain ⟨V4, hV4⟩ : ∃ S, V3 ++ P4 = S := ⟨_, rfl⟩
                    have zV4 : V4.size = V3.size + P4.size := by rw [← hV4, ByteArray.size_append]
                    have qv4 := eq_false (show ¬ (9223372036854775807 < V3.size + P4.size) by omega)
                    have HCH := Lib.hid (show bs (PB ++ (o.seats.take k).flatMap seatL ++ x.pool.1 ++ x.key.1 ++ nL x.pledge ++ nL x.cost ++ nL x.margin) = V4 by
                      rw [← hV4, ← hV3, ← hV2, ← hV1, ← hV0, ← hS0, ← hP0, ← hP1, ← hP2, ← hP3, ← hP4]
                      simp only [bs_app])
                    clear hP0 hP1 hP2 hP3 hP4 hS0 zP0 zP1 zP2 zP3 zP4 zS0 zV0 zV1 zV2 zV3 zV4
                    have hgv := HGV.out
                    have HI0 := Lib.hid (infoKH x.pool)
                    have HI1 := Lib.hid (infoKH x.key)
                    have HPS := Lib.hid (show wv.rangeAt gx 32 (valsB x.key.1) by have h := HPT.out.key; rwa [Nat.zero_add] at h)
                    have hc0 : wv.cell? ⟨gx, 64, none⟩ = some (nV x.pledge) := by have h := HPT.out.pledge; rwa [Nat.zero_add] at h
                    have hc1 : wv.cell? ⟨gx, 65, none⟩ = some (nV x.cost) := by have h := HPT.out.cost; rwa [Nat.zero_add] at h
                    have hc2 : wv.cell? ⟨gx, 66, none⟩ = some (nV x.margin) := by have h := HPT.out.margin; rwa [Nat.zero_add] at h
                    refine QT.wp_region_facts_tail 21 (by kernel_rfl) (fun w' => Below wv.heap.size wv w') (fun n v w' => (([.val (.string S0), .val (.pointer (some ⟨gx, 0, none⟩)), .val (.agg (valsB x.pool.1).toArray), .val (.string P0), .val (.string V0), .val (.pointer (some ⟨gx, 32, none⟩)), .val (.agg (valsB x.key.1).toArray), .val (.string P1), .val (.string V1), .val (.pointer (some ⟨gx, 64, none⟩)), .val (nV x.pledge), .val (.string P2), .val (.string V2), .val (.pointer (some ⟨gx, 65, none⟩)), .val (nV x.cost), .val (.string P3), .val (.string V3), .val (.pointer (some ⟨gx, 66, none⟩)), .val (nV x.margin), .val (.string P4), .val (.string V4)] : List FactO).getD n (.val undef) : FactO).holds v w') (by kernel_rfl) (by kernel_rfl) (Below.refl _ _).drew (fun w1 w2 h1 hb => h1.trans (hb.mono h1.size)) (fun n v w1 w2 h hb => FactO.kept _ v w1 w2 h hb) (fun n o hn ho a wz hI hag hdep => ?_) (fun a wz hI hag hf => ?_)
                    · have t5 : a.eval (.tmp 5) = .string S0 := hag.old 5 _ (by kernel_rfl) rfl
                      have t10 : a.eval (.tmp 10) = .pointer (some ⟨gx, 0, none⟩) := hag.old 10 _ (by kernel_rfl) rfl
                      match n, ho with
                      | 0, ho =>
                        obtain rfl := (Option.some.inj ho).symm
                        exact ⟨rfl, QT.wp_value (BigFrame.run_move (.tmp 5) rfl wz) ⟨_, rfl, t5, Below.refl _ _⟩⟩
                      | 1, ho =>
                        obtain rfl := (Option.some.inj ho).symm
                        exact ⟨rfl, QT.wp_value (v := .pointer (some ⟨gx, 0, none⟩)) (by simp [go_sem, QT.nf t10]) ⟨_, rfl, rfl, Below.refl _ _⟩⟩
                      | 2, ho =>
                        obtain rfl := (Option.some.inj ho).symm
                        have d110 : a.eval (.tmp 110) = .pointer (some ⟨gx, 0, none⟩) := hdep _ (Array.mem_of_getElem? (i := 0) rfl) rfl _ _ rfl rfl
                        exact ⟨rfl, wp_load_mid 29 (.tmp 110) rfl gx 0 d110 (valsB x.pool.1) _ (range_kept hI HPT.out.pool) Tryd.underlying29 rfl HI0.out ⟨_, rfl, rfl, Below.refl _ _⟩⟩
                      | 3, ho =>
                        obtain rfl := (Option.some.inj ho).symm
                        have d111 : a.eval (.tmp 111) = .agg (valsB x.pool.1).toArray := hdep _ (Array.mem_of_getElem? (i := 0) rfl) rfl _ _ rfl rfl
                        exact ⟨rfl, QT.wp_enter (v := .string P0) (f := 33) (args := #[hV x.pool]) (R := fun w' => Below wz.heap.size wz w') (by simp [go_sem, QT.nf d111]) ((told (ref_bytesH x.pool wz) HP0.out).mono fun _ _ ⟨h1, h2⟩ => ⟨h1, h2⟩) fun w' h => ⟨_, rfl, rfl, h⟩⟩
                      | 4, ho =>
                        obtain rfl := (Option.some.inj ho).symm
                        have d109 : a.eval (.tmp 109) = .string S0 := hdep _ (Array.mem_of_getElem? (i := 0) rfl) rfl _ _ rfl rfl
                        have d112 : a.eval (.tmp 112) = .string P0 := hdep _ (Array.mem_of_getElem? (i := 1) rfl) rfl _ _ rfl rfl
                        exact ⟨rfl, QT.wp_value (v := .string V0) (by simp [go_sem, QT.nf d109, QT.nf d112, qv0, hV0]) ⟨_, rfl, rfl, Below.refl _ _⟩⟩
                      | 5, ho =>
                        obtain rfl := (Option.some.inj ho).symm
                        exact ⟨rfl, QT.wp_value (v := .pointer (some ⟨gx, 32, none⟩)) (by simp [go_sem, QT.nf t10]) ⟨_, rfl, rfl, Below.refl _ _⟩⟩
                      | 6, ho =>
                        obtain rfl := (Option.some.inj ho).symm
                        have d114 : a.eval (.tmp 114) = .pointer (some ⟨gx, 32, none⟩) := hdep _ (Array.mem_of_getElem? (i := 0) rfl) rfl _ _ rfl rfl
                        exact ⟨rfl, wp_load_mid 29 (.tmp 114) rfl gx 32 d114 (valsB x.key.1) _ (range_kept hI HPS.out) Tryd.underlying29 rfl HI1.out ⟨_, rfl, rfl, Below.refl _ _⟩⟩
                      | 7, ho =>
                        obtain rfl := (Option.some.inj ho).symm
                        have d115 : a.eval (.tmp 115) = .agg (valsB x.key.1).toArray := hdep _ (Array.mem_of_getElem? (i := 0) rfl) rfl _ _ rfl rfl
                        exact ⟨rfl, QT.wp_enter (v := .string P1) (f := 33) (args := #[hV x.key]) (R := fun w' => Below wz.heap.size wz w') (by simp [go_sem, QT.nf d115]) ((told (ref_bytesH x.key wz) HP1.out).mono fun _ _ ⟨h1, h2⟩ => ⟨h1, h2⟩) fun w' h => ⟨_, rfl, rfl, h⟩⟩
                      | 8, ho =>
                        obtain rfl := (Option.some.inj ho).symm
                        have d113 : a.eval (.tmp 113) = .string V0 := hdep _ (Array.mem_of_getElem? (i := 0) rfl) rfl _ _ rfl rfl
                        have d116 : a.eval (.tmp 116) = .string P1 := hdep _ (Array.mem_of_getElem? (i := 1) rfl) rfl _ _ rfl rfl
                        exact ⟨rfl, QT.wp_value (v := .string V1) (by simp [go_sem, QT.nf d113, QT.nf d116, qv1, hV1]) ⟨_, rfl, rfl, Below.refl _ _⟩⟩
                      | 9, ho =>
                        obtain rfl := (Option.some.inj ho).symm
                        exact ⟨rfl, QT.wp_value (v := .pointer (some ⟨gx, 64, none⟩)) (by simp [go_sem, QT.nf t10]) ⟨_, rfl, rfl, Below.refl _ _⟩⟩
                      | 10, ho =>
                        obtain rfl := (Option.some.inj ho).symm
                        have d118 : a.eval (.tmp 118) = .pointer (some ⟨gx, 64, none⟩) := hdep _ (Array.mem_of_getElem? (i := 0) rfl) rfl _ _ rfl rfl
                        exact ⟨rfl, QT.wp_value (v := nV x.pledge) (by simp [go_sem, QT.nf d118, (hI.cell hgv).trans hc0]) ⟨_, rfl, rfl, Below.refl _ _⟩⟩
                      | 11, ho =>
                        obtain rfl := (Option.some.inj ho).symm
                        have d119 : a.eval (.tmp 119) = nV x.pledge := hdep _ (Array.mem_of_getElem? (i := 0) rfl) rfl _ _ rfl rfl
                        exact ⟨rfl, QT.wp_enter (v := .string P2) (f := 64) (args := #[nV x.pledge]) (R := fun w' => Below wz.heap.size wz w') (by simp [go_sem, QT.nf d119]) ((told (refPutB x.pledge wz) HP2.out).mono fun _ _ ⟨h1, h2⟩ => ⟨h1, h2⟩) fun w' h => ⟨_, rfl, rfl, h⟩⟩
                      | 12, ho =>
                        obtain rfl := (Option.some.inj ho).symm
                        have d117 : a.eval (.tmp 117) = .string V1 := hdep _ (Array.mem_of_getElem? (i := 0) rfl) rfl _ _ rfl rfl
                        have d120 : a.eval (.tmp 120) = .string P2 := hdep _ (Array.mem_of_getElem? (i := 1) rfl) rfl _ _ rfl rfl
                        exact ⟨rfl, QT.wp_value (v := .string V2) (by simp [go_sem, QT.nf d117, QT.nf d120, qv2, hV2]) ⟨_, rfl, rfl, Below.refl _ _⟩⟩
                      | 13, ho =>
                        obtain rfl := (Option.some.inj ho).symm
                        exact ⟨rfl, QT.wp_value (v := .pointer (some ⟨gx, 65, none⟩)) (by simp [go_sem, QT.nf t10]) ⟨_, rfl, rfl, Below.refl _ _⟩⟩
                      | 14, ho =>
                        obtain rfl := (Option.some.inj ho).symm
                        have d122 : a.eval (.tmp 122) = .pointer (some ⟨gx, 65, none⟩) := hdep _ (Array.mem_of_getElem? (i := 0) rfl) rfl _ _ rfl rfl
                        exact ⟨rfl, QT.wp_value (v := nV x.cost) (by simp [go_sem, QT.nf d122, (hI.cell hgv).trans hc1]) ⟨_, rfl, rfl, Below.refl _ _⟩⟩
                      | 15, ho =>
                        obtain rfl := (Option.some.inj ho).symm
                        have d123 : a.eval (.tmp 123) = nV x.cost := hdep _ (Array.mem_of_getElem? (i := 0) rfl) rfl _ _ rfl rfl
                        exact ⟨rfl, QT.wp_enter (v := .string P3) (f := 64) (args := #[nV x.cost]) (R := fun w' => Below wz.heap.size wz w') (by simp [go_sem, QT.nf d123]) ((told (refPutB x.cost wz) HP3.out).mono fun _ _ ⟨h1, h2⟩ => ⟨h1, h2⟩) fun w' h => ⟨_, rfl, rfl, h⟩⟩
                      | 16, ho =>
                        obtain rfl := (Option.some.inj ho).symm
                        have d121 : a.eval (.tmp 121) = .string V2 := hdep _ (Array.mem_of_getElem? (i := 0) rfl) rfl _ _ rfl rfl
                        have d124 : a.eval (.tmp 124) = .string P3 := hdep _ (Array.mem_of_getElem? (i := 1) rfl) rfl _ _ rfl rfl
                        exact ⟨rfl, QT.wp_value (v := .string V3) (by simp [go_sem, QT.nf d121, QT.nf d124, qv3, hV3]) ⟨_, rfl, rfl, Below.refl _ _⟩⟩
                      | 17, ho =>
                        obtain rfl := (Option.some.inj ho).symm
                        exact ⟨rfl, QT.wp_value (v := .pointer (some ⟨gx, 66, none⟩)) (by simp [go_sem, QT.nf t10]) ⟨_, rfl, rfl, Below.refl _ _⟩⟩
                      | 18, ho =>
                        obtain rfl := (Option.some.inj ho).symm
                        have d126 : a.eval (.tmp 126) = .pointer (some ⟨gx, 66, none⟩) := hdep _ (Array.mem_of_getElem? (i := 0) rfl) rfl _ _ rfl rfl
                        exact ⟨rfl, QT.wp_value (v := nV x.margin) (by simp [go_sem, QT.nf d126, (hI.cell hgv).trans hc2]) ⟨_, rfl, rfl, Below.refl _ _⟩⟩
                      | 19, ho =>
                        obtain rfl := (Option.some.inj ho).symm
                        have d127 : a.eval (.tmp 127) = nV x.margin := hdep _ (Array.mem_of_getElem? (i := 0) rfl) rfl _ _ rfl rfl
                        exact ⟨rfl, QT.wp_enter (v := .string P4) (f := 64) (args := #[nV x.margin]) (R := fun w' => Below wz.heap.size wz w') (by simp [go_sem, QT.nf d127]) ((told (refPutB x.margin wz) HP4.out).mono fun _ _ ⟨h1, h2⟩ => ⟨h1, h2⟩) fun w' h => ⟨_, rfl, rfl, h⟩⟩
                      | 20, ho =>
                        obtain rfl := (Option.some.inj ho).symm
                        have d125 : a.eval (.tmp 125) = .string V3 := hdep _ (Array.mem_of_getElem? (i := 0) rfl) rfl _ _ rfl rfl
                        have d128 : a.eval (.tmp 128) = .string P4 := hdep _ (Array.mem_of_getElem? (i := 1) rfl) rfl _ _ rfl rfl
                        exact ⟨rfl, QT.wp_value (v := .string V4) (by simp [go_sem, QT.nf d125, QT.nf d128, qv4, hV4]) ⟨_, rfl, rfl, Below.refl _ _⟩⟩
                      | n + 21, ho => omega
                    · have f0 : a.eval (.tmp 109) = .string S0 := hf 0 _ _ (by omega) rfl rfl
                      have f1 : a.eval (.tmp 110) = .pointer (some ⟨gx, 0, none⟩) := hf 1 _ _ (by omega) rfl rfl
                      have f2 : a.eval (.tmp 111) = .agg (valsB x.pool.1).toArray := hf 2 _ _ (by omega) rfl rfl
                      have f3 : a.eval (.tmp 112) = .string P0 := hf 3 _ _ (by omega) rfl rfl
                      have f4 : a.eval (.tmp 113) = .string V0 := hf 4 _ _ (by omega) rfl rfl
                      have f5 : a.eval (.tmp 114) = .pointer (some ⟨gx, 32, none⟩) := hf 5 _ _ (by omega) rfl rfl
                      have f6 : a.eval (.tmp 115) = .agg (valsB x.key.1).toArray := hf 6 _ _ (by omega) rfl rfl
                      have f7 : a.eval (.tmp 116) = .string P1 := hf 7 _ _ (by omega) rfl rfl
                      have f8 : a.eval (.tmp 117) = .string V1 := hf 8 _ _ (by omega) rfl rfl
                      have f9 : a.eval (.tmp 118) = .pointer (some ⟨gx, 64, none⟩) := hf 9 _ _ (by omega) rfl rfl
                      have f10 : a.eval (.tmp 119) = nV x.pledge := hf 10 _ _ (by omega) rfl rfl
                      have f11 : a.eval (.tmp 120) = .string P2 := hf 11 _ _ (by omega) rfl rfl
                      have f12 : a.eval (.tmp 121) = .string V2 := hf 12 _ _ (by omega) rfl rfl
                      have f13 : a.eval (.tmp 122) = .pointer (some ⟨gx, 65, none⟩) := hf 13 _ _ (by omega) rfl rfl
                      have f14 : a.eval (.tmp 123) = nV x.cost := hf 14 _ _ (by omega) rfl rfl
                      have f15 : a.eval (.tmp 124) = .string P3 := hf 15 _ _ (by omega) rfl rfl
                      have f16 : a.eval (.tmp 125) = .string V3 := hf 16 _ _ (by omega) rfl rfl
                      have f17 : a.eval (.tmp 126) = .pointer (some ⟨gx, 66, none⟩) := hf 17 _ _ (by omega) rfl rfl
                      have f18 : a.eval (.tmp 127) = nV x.margin := hf 18 _ _ (by omega) rfl rfl
                      have f19 : a.eval (.tmp 128) = .string P4 := hf 19 _ _ (by omega) rfl rfl
                      have f20 : a.eval (.tmp 129) = .string V4 := hf 20 _ _ (by omega) rfl rfl
                      have ha := hag.puts [(109, .string S0), (110, .pointer (some ⟨gx, 0, none⟩)), (111, .agg (valsB x.pool.1).toArray), (112, .string P0), (113, .string V0), (114, .pointer (some ⟨gx, 32, none⟩)), (115, .agg (valsB x.key.1).toArray), (116, .string P1), (117, .string V1), (118, .pointer (some ⟨gx, 64, none⟩)), (119, nV x.pledge), (120, .string P2), (121, .string V2), (122, .pointer (some ⟨gx, 65, none⟩)), (123, nV x.cost), (124, .string P3), (125, .string V3), (126, .pointer (some ⟨gx, 66, none⟩)), (127, nV x.margin), (128, .string P4), (129, .string V4)] rfl (by simp) (by simp only [List.forall_mem_cons, List.not_mem_nil, false_implies, implies_true, and_true]; exact ⟨f0, f1, f2, f3, f4, f5, f6, f7, f8, f9, f10, f11, f12, f13, f14, f15, f16, f17, f18, f19, f20⟩)
                      subst ha
                      clear hag hf f0 f1 f2 f3 f4 f5 f6 f7 f8 f9 f10 f11 f12 f13 f14 f15 f16 f17 f18 f19 f20
                      simp only [List.foldl_cons, List.foldl_nil, Act.put, List.drop_succ_cons, List.drop_zero, List.setIfInBounds_toArray, List.set_cons_succ, List.set_cons_zero]
                      have HBJ := Lib.hid (HBV.out.trans (hI.mono HBV.out.size))
                      clear hI
                      go_wp2_with fail
                      go_roundw
                      case rel => exact ⟨k + 1, by omega, by go_num, by rw [HTK.out, ← HCH.out]; simp only [seatL, List.append_assoc], HBJ.out⟩
                      case measure => simp [intOf]; omega
                  · obtain rfl : k = o.seats.length := by omega
                    rw [List.take_length] at hsz ⊢
                    obtain ⟨S0, hS0⟩ : ∃ S, bs (PB ++ o.seats.flatMap seatL) = S := ⟨_, rfl⟩
                    have zS0 : S0.size ≤ 1000000 := by rw [← hS0, bs_size]; exact hsz
                    rw [hS0]
                    obtain ⟨P0, hP0⟩ : ∃ S, bs (putL o.trusts.length) = S := ⟨_, rfl⟩
                    have zP0 : P0.size ≤ 1000 := by rw [← hP0, bs_size]; exact Nat.le_trans (putL_len _) (by decide)
                    have HP0 := Lib.hid hP0
                    obtain ⟨V0, hV0⟩ : ∃ S, S0 ++ P0 = S := ⟨_, rfl⟩
                    have zV0 : V0.size = S0.size + P0.size := by rw [← hV0, ByteArray.size_append]
                    have qv0 := eq_false (show ¬ (9223372036854775807 < S0.size + P0.size) by omega)
                    have HCH := Lib.hid (show bs (PB ++ o.seats.flatMap seatL ++ putL o.trusts.length) = V0 by
                      rw [← hV0, ← hS0, ← hP0]
                      simp only [bs_app])
                    clear hP0 hS0 zP0 zS0 zV0
                    have cs2 := (HB.out.cell hgl).trans HPX.out.t
                    have hcv : IntKind.u64.wrap (o.trusts.length : Int) = (o.trusts.length : Int) := IntWalk.u64_in _ ⟨by omega, by omega⟩
                    have HPN := Lib.hid (fun w => told (refPutN o.trusts.length (by omega) w) HP0.out)
                    go_upto_region 25 with (go_at_call 64; refine (HPN.out _).mono ?_; rintro e w2 ⟨rfl, hb2⟩)
                    have HBI := Lib.hid (HB.out.trans (hb2.mono HB.out.size))
                    clear hb2 cs cs2 HB hcv HPN
                    obtain ⟨PC, hPC⟩ : ∃ l, PB ++ o.seats.flatMap seatL ++ putL o.trusts.length = l := ⟨_, rfl⟩
                    have HPC := Lib.hid hPC
                    have HSPC := Lib.hid (show PC.length ≤ 200000 by
                      have h2 := putL_len o.trusts.length
                      have h3 := HSPB.out
                      have h4 := flat_le seatL 200 seatL_le o.seats
                      rw [← hPC]
                      simp only [List.length_append]
                      omega)
                    rw [hPC] at HCH
                    rw [← HCH.out]
                    clear HCH hPC
                    go_upto_region 26 with (fail)
                    go_loopw [5, 11] (fun sv iv wr => ∃ k : Nat, k ≤ o.trusts.length ∧ iv = .int .i64 k ∧ sv = .string (bs (PC ++ (o.trusts.take k).flatMap trustL)) ∧ Below Y.heap.size Y wr) (fun _ iv _ => o.trusts.length - (intOf iv).toNat)
                    case atStart => exact ⟨0, Nat.zero_le _, rfl, by rw [List.take_zero, List.flatMap_nil, List.append_nil], HBI.out⟩
                    case round =>
                      obtain ⟨k, hk, rfl, rfl, hb⟩ := hrel
                      have HB := Lib.hid hb
                      clear hb HBI
                      have cs := (HB.out.cell hgl).trans HPX.out.t
                      have hsz : (PC ++ (o.trusts.take k).flatMap trustL).length ≤ 1000000 := by
                        have h1 := HSPC.out
                        have h2 := flat_le trustL 200 trustL_le (o.trusts.take k)
                        rw [List.length_take] at h2
                        rw [List.length_append]
                        omega
                      by_cases hlt : k < o.trusts.length
                      · obtain ⟨ge, oe, cap', ha, _, hr⟩ := ((HOX.out.kept HB.out).trusts).some (by omega)
                        have hx := List.getElem?_eq_getElem hlt
                        obtain ⟨x, hxx⟩ : ∃ x, o.trusts[k] = x := ⟨_, rfl⟩
                        rw [hxx] at hx
                        have HRX := Lib.hid (range_at hr hx)
                        have HTK := Lib.hid (take_flat trustL o.trusts k x hx)
                        have HIX := Lib.hid (KTrust.infoL x)
                        injection ha with ha1 ha3 ha2
                        clear ha3
                        subst ha1 ha2
                        have hki : (k : Int) < (o.trusts.length : Int) := by omega
                        clear hxx hx hr
                        obtain ⟨S0, hS0⟩ : ∃ S, bs (PC ++ (o.trusts.take k).flatMap trustL) = S := ⟨_, rfl⟩
                        have zS0 : S0.size ≤ 1000000 := by rw [← hS0, bs_size]; exact hsz
                        rw [hS0]
                        obtain ⟨P0, hP0⟩ : ∃ S, bs (x.key.1) = S := ⟨_, rfl⟩
                        have zP0 : P0.size ≤ 1000 := by rw [← hP0, bs_size]; exact Nat.le_trans (Nat.le_of_eq x.key.2) (by decide)
                        have HP0 := Lib.hid hP0
                        obtain ⟨P1, hP1⟩ : ∃ S, bs (x.pool.1) = S := ⟨_, rfl⟩
                        have zP1 : P1.size ≤ 1000 := by rw [← hP1, bs_size]; exact Nat.le_trans (Nat.le_of_eq x.pool.2) (by decide)
                        have HP1 := Lib.hid hP1
                        obtain ⟨V0, hV0⟩ : ∃ S, S0 ++ P0 = S := ⟨_, rfl⟩
                        have zV0 : V0.size = S0.size + P0.size := by rw [← hV0, ByteArray.size_append]
                        have qv0 := eq_false (show ¬ (9223372036854775807 < S0.size + P0.size) by omega)
                        obtain ⟨V1, hV1⟩ : ∃ S, V0 ++ P1 = S := ⟨_, rfl⟩
                        have zV1 : V1.size = V0.size + P1.size := by rw [← hV1, ByteArray.size_append]
                        have qv1 := eq_false (show ¬ (9223372036854775807 < V0.size + P1.size) by omega)
                        have HCH := Lib.hid (show bs (PC ++ (o.trusts.take k).flatMap trustL ++ x.key.1 ++ x.pool.1) = V1 by
                          rw [← hV1, ← hV0, ← hS0, ← hP0, ← hP1]
                          simp only [bs_app])
                        clear hP0 hP1 hS0 zP0 zP1 zS0 zV0 zV1
                        have hlW : g < wr.heap.size := Nat.lt_of_lt_of_le hgl HB.out.size
                        have HI0 := Lib.hid (infoKH x.key)
                        have HI1 := Lib.hid (infoKH x.pool)
                        have HPT := Lib.hid (Trust_parts HRX.out)
                        rw [show KTrust.size = 64 from rfl] at HPT
                        go_upto_region 28 with (fail)
                        refine QT.wp_region_facts_tail 17 (by kernel_rfl) (fun w' => Below wr.heap.size wr w') (fun n v w' => (([.val (.string S0), .val (.pointer (some ⟨g, 49, none⟩)), .val (.slice (some ⟨ge, oe, none⟩) o.trusts.length k3), .val (.int .i64 (k : Int)), .val (.pointer (some ⟨ge, oe + k * 64, none⟩)), .val (.pointer (some ⟨ge, oe + k * 64, none⟩)), .val (.agg (valsB x.key.1).toArray), .val (.string P0), .val (.string V0), .val (.pointer (some ⟨g, 49, none⟩)), .val (.slice (some ⟨ge, oe, none⟩) o.trusts.length k3), .val (.int .i64 (k : Int)), .val (.pointer (some ⟨ge, oe + k * 64, none⟩)), .val (.pointer (some ⟨ge, oe + k * 64 + 32, none⟩)), .val (.agg (valsB x.pool.1).toArray), .val (.string P1), .val (.string V1)] : List FactO).getD n (.val undef) : FactO).holds v w') (by kernel_rfl) (by kernel_rfl) (Below.refl _ _).drew (fun w1 w2 h1 hb => h1.trans (hb.mono h1.size)) (fun n v w1 w2 h hb => FactO.kept _ v w1 w2 h hb) (fun n o hn ho a wz hI hag hdep => ?_) (fun a wz hI hag hf => ?_)
                        · have t1 : a.eval (.tmp 1) = .pointer (some ⟨g, 0, none⟩) := hag.old 1 _ (by kernel_rfl) rfl
                          have t5 : a.eval (.tmp 5) = .string S0 := hag.old 5 _ (by kernel_rfl) rfl
                          have t11 : a.eval (.tmp 11) = .int .i64 (k : Int) := hag.old 11 _ (by kernel_rfl) rfl
                          match n, ho with
                          | 0, ho =>
                            obtain rfl := (Option.some.inj ho).symm
                            exact ⟨rfl, QT.wp_value (BigFrame.run_move (.tmp 5) rfl wz) ⟨_, rfl, t5, Below.refl _ _⟩⟩
                          | 1, ho =>
                            obtain rfl := (Option.some.inj ho).symm
                            exact ⟨rfl, QT.wp_value (v := .pointer (some ⟨g, 49, none⟩)) (by simp [go_sem, QT.nf t1]) ⟨_, rfl, rfl, Below.refl _ _⟩⟩
                          | 2, ho =>
                            obtain rfl := (Option.some.inj ho).symm
                            have d145 : a.eval (.tmp 145) = .pointer (some ⟨g, 49, none⟩) := hdep _ (Array.mem_of_getElem? (i := 0) rfl) rfl _ _ rfl rfl
                            exact ⟨rfl, QT.wp_value (v := .slice (some ⟨ge, oe, none⟩) o.trusts.length k3) (by simp [go_sem, QT.nf d145, (hI.cell hlW).trans cs]) ⟨_, rfl, rfl, Below.refl _ _⟩⟩
                          | 3, ho =>
                            obtain rfl := (Option.some.inj ho).symm
                            exact ⟨rfl, QT.wp_value (BigFrame.run_move (.tmp 11) rfl wz) ⟨_, rfl, t11, Below.refl _ _⟩⟩
                          | 4, ho =>
                            obtain rfl := (Option.some.inj ho).symm
                            have d146 : a.eval (.tmp 146) = .slice (some ⟨ge, oe, none⟩) o.trusts.length k3 := hdep _ (Array.mem_of_getElem? (i := 0) rfl) rfl _ _ rfl rfl
                            have d147 : a.eval (.tmp 147) = .int .i64 (k : Int) := hdep _ (Array.mem_of_getElem? (i := 1) rfl) rfl _ _ rfl rfl
                            exact ⟨rfl, QT.wp_value (v := .pointer (some ⟨ge, oe + k * 64, none⟩)) (by simp [go_sem, QT.nf d146, QT.nf d147, hki]) ⟨_, rfl, rfl, Below.refl _ _⟩⟩
                          | 5, ho =>
                            obtain rfl := (Option.some.inj ho).symm
                            have d148 : a.eval (.tmp 148) = .pointer (some ⟨ge, oe + k * 64, none⟩) := hdep _ (Array.mem_of_getElem? (i := 0) rfl) rfl _ _ rfl rfl
                            exact ⟨rfl, QT.wp_value (v := .pointer (some ⟨ge, oe + k * 64, none⟩)) (by simp [go_sem, QT.nf d148]) ⟨_, rfl, rfl, Below.refl _ _⟩⟩
                          | 6, ho =>
                            obtain rfl := (Option.some.inj ho).symm
                            have d149 : a.eval (.tmp 149) = .pointer (some ⟨ge, oe + k * 64, none⟩) := hdep _ (Array.mem_of_getElem? (i := 0) rfl) rfl _ _ rfl rfl
                            exact ⟨rfl, wp_load_mid 29 (.tmp 149) rfl ge (oe + k * 64) d149 (valsB x.key.1) _ (range_kept hI HPT.out.1) Tryd.underlying29 rfl HI0.out ⟨_, rfl, rfl, Below.refl _ _⟩⟩
                          | 7, ho =>
                            obtain rfl := (Option.some.inj ho).symm
                            have d150 : a.eval (.tmp 150) = .agg (valsB x.key.1).toArray := hdep _ (Array.mem_of_getElem? (i := 0) rfl) rfl _ _ rfl rfl
                            exact ⟨rfl, QT.wp_enter (v := .string P0) (f := 33) (args := #[hV x.key]) (R := fun w' => Below wz.heap.size wz w') (by simp [go_sem, QT.nf d150]) ((told (ref_bytesH x.key wz) HP0.out).mono fun _ _ ⟨h1, h2⟩ => ⟨h1, h2⟩) fun w' h => ⟨_, rfl, rfl, h⟩⟩
                          | 8, ho =>
                            obtain rfl := (Option.some.inj ho).symm
                            have d144 : a.eval (.tmp 144) = .string S0 := hdep _ (Array.mem_of_getElem? (i := 0) rfl) rfl _ _ rfl rfl
                            have d151 : a.eval (.tmp 151) = .string P0 := hdep _ (Array.mem_of_getElem? (i := 1) rfl) rfl _ _ rfl rfl
                            exact ⟨rfl, QT.wp_value (v := .string V0) (by simp [go_sem, QT.nf d144, QT.nf d151, qv0, hV0]) ⟨_, rfl, rfl, Below.refl _ _⟩⟩
                          | 9, ho =>
                            obtain rfl := (Option.some.inj ho).symm
                            exact ⟨rfl, QT.wp_value (v := .pointer (some ⟨g, 49, none⟩)) (by simp [go_sem, QT.nf t1]) ⟨_, rfl, rfl, Below.refl _ _⟩⟩
                          | 10, ho =>
                            obtain rfl := (Option.some.inj ho).symm
                            have d153 : a.eval (.tmp 153) = .pointer (some ⟨g, 49, none⟩) := hdep _ (Array.mem_of_getElem? (i := 0) rfl) rfl _ _ rfl rfl
                            exact ⟨rfl, QT.wp_value (v := .slice (some ⟨ge, oe, none⟩) o.trusts.length k3) (by simp [go_sem, QT.nf d153, (hI.cell hlW).trans cs]) ⟨_, rfl, rfl, Below.refl _ _⟩⟩
                          | 11, ho =>
                            obtain rfl := (Option.some.inj ho).symm
                            exact ⟨rfl, QT.wp_value (BigFrame.run_move (.tmp 11) rfl wz) ⟨_, rfl, t11, Below.refl _ _⟩⟩
                          | 12, ho =>
                            obtain rfl := (Option.some.inj ho).symm
                            have d154 : a.eval (.tmp 154) = .slice (some ⟨ge, oe, none⟩) o.trusts.length k3 := hdep _ (Array.mem_of_getElem? (i := 0) rfl) rfl _ _ rfl rfl
                            have d155 : a.eval (.tmp 155) = .int .i64 (k : Int) := hdep _ (Array.mem_of_getElem? (i := 1) rfl) rfl _ _ rfl rfl
                            exact ⟨rfl, QT.wp_value (v := .pointer (some ⟨ge, oe + k * 64, none⟩)) (by simp [go_sem, QT.nf d154, QT.nf d155, hki]) ⟨_, rfl, rfl, Below.refl _ _⟩⟩
                          | 13, ho =>
                            obtain rfl := (Option.some.inj ho).symm
                            have d156 : a.eval (.tmp 156) = .pointer (some ⟨ge, oe + k * 64, none⟩) := hdep _ (Array.mem_of_getElem? (i := 0) rfl) rfl _ _ rfl rfl
                            exact ⟨rfl, QT.wp_value (v := .pointer (some ⟨ge, oe + k * 64 + 32, none⟩)) (by simp [go_sem, QT.nf d156]) ⟨_, rfl, rfl, Below.refl _ _⟩⟩
                          | 14, ho =>
                            obtain rfl := (Option.some.inj ho).symm
                            have d157 : a.eval (.tmp 157) = .pointer (some ⟨ge, oe + k * 64 + 32, none⟩) := hdep _ (Array.mem_of_getElem? (i := 0) rfl) rfl _ _ rfl rfl
                            exact ⟨rfl, wp_load_mid 29 (.tmp 157) rfl ge (oe + k * 64 + 32) d157 (valsB x.pool.1) _ (range_kept hI HPT.out.2) Tryd.underlying29 rfl HI1.out ⟨_, rfl, rfl, Below.refl _ _⟩⟩
                          | 15, ho =>
                            obtain rfl := (Option.some.inj ho).symm
                            have d158 : a.eval (.tmp 158) = .agg (valsB x.pool.1).toArray := hdep _ (Array.mem_of_getElem? (i := 0) rfl) rfl _ _ rfl rfl
                            exact ⟨rfl, QT.wp_enter (v := .string P1) (f := 33) (args := #[hV x.pool]) (R := fun w' => Below wz.heap.size wz w') (by simp [go_sem, QT.nf d158]) ((told (ref_bytesH x.pool wz) HP1.out).mono fun _ _ ⟨h1, h2⟩ => ⟨h1, h2⟩) fun w' h => ⟨_, rfl, rfl, h⟩⟩
                          | 16, ho =>
                            obtain rfl := (Option.some.inj ho).symm
                            have d152 : a.eval (.tmp 152) = .string V0 := hdep _ (Array.mem_of_getElem? (i := 0) rfl) rfl _ _ rfl rfl
                            have d159 : a.eval (.tmp 159) = .string P1 := hdep _ (Array.mem_of_getElem? (i := 1) rfl) rfl _ _ rfl rfl
                            exact ⟨rfl, QT.wp_value (v := .string V1) (by simp [go_sem, QT.nf d152, QT.nf d159, qv1, hV1]) ⟨_, rfl, rfl, Below.refl _ _⟩⟩
                          | n + 17, ho => omega
                        · have f0 : a.eval (.tmp 144) = .string S0 := hf 0 _ _ (by omega) rfl rfl
                          have f1 : a.eval (.tmp 145) = .pointer (some ⟨g, 49, none⟩) := hf 1 _ _ (by omega) rfl rfl
                          have f2 : a.eval (.tmp 146) = .slice (some ⟨ge, oe, none⟩) o.trusts.length k3 := hf 2 _ _ (by omega) rfl rfl
                          have f3 : a.eval (.tmp 147) = .int .i64 (k : Int) := hf 3 _ _ (by omega) rfl rfl
                          have f4 : a.eval (.tmp 148) = .pointer (some ⟨ge, oe + k * 64, none⟩) := hf 4 _ _ (by omega) rfl rfl
                          have f5 : a.eval (.tmp 149) = .pointer (some ⟨ge, oe + k * 64, none⟩) := hf 5 _ _ (by omega) rfl rfl
                          have f6 : a.eval (.tmp 150) = .agg (valsB x.key.1).toArray := hf 6 _ _ (by omega) rfl rfl
                          have f7 : a.eval (.tmp 151) = .string P0 := hf 7 _ _ (by omega) rfl rfl
                          have f8 : a.eval (.tmp 152) = .string V0 := hf 8 _ _ (by omega) rfl rfl
                          have f9 : a.eval (.tmp 153) = .pointer (some ⟨g, 49, none⟩) := hf 9 _ _ (by omega) rfl rfl
                          have f10 : a.eval (.tmp 154) = .slice (some ⟨ge, oe, none⟩) o.trusts.length k3 := hf 10 _ _ (by omega) rfl rfl
                          have f11 : a.eval (.tmp 155) = .int .i64 (k : Int) := hf 11 _ _ (by omega) rfl rfl
                          have f12 : a.eval (.tmp 156) = .pointer (some ⟨ge, oe + k * 64, none⟩) := hf 12 _ _ (by omega) rfl rfl
                          have f13 : a.eval (.tmp 157) = .pointer (some ⟨ge, oe + k * 64 + 32, none⟩) := hf 13 _ _ (by omega) rfl rfl
                          have f14 : a.eval (.tmp 158) = .agg (valsB x.pool.1).toArray := hf 14 _ _ (by omega) rfl rfl
                          have f15 : a.eval (.tmp 159) = .string P1 := hf 15 _ _ (by omega) rfl rfl
                          have f16 : a.eval (.tmp 160) = .string V1 := hf 16 _ _ (by omega) rfl rfl
                          have ha := hag.puts [(144, .string S0), (145, .pointer (some ⟨g, 49, none⟩)), (146, .slice (some ⟨ge, oe, none⟩) o.trusts.length k3), (147, .int .i64 (k : Int)), (148, .pointer (some ⟨ge, oe + k * 64, none⟩)), (149, .pointer (some ⟨ge, oe + k * 64, none⟩)), (150, .agg (valsB x.key.1).toArray), (151, .string P0), (152, .string V0), (153, .pointer (some ⟨g, 49, none⟩)), (154, .slice (some ⟨ge, oe, none⟩) o.trusts.length k3), (155, .int .i64 (k : Int)), (156, .pointer (some ⟨ge, oe + k * 64, none⟩)), (157, .pointer (some ⟨ge, oe + k * 64 + 32, none⟩)), (158, .agg (valsB x.pool.1).toArray), (159, .string P1), (160, .string V1)] rfl (by simp) (by simp only [List.forall_mem_cons, List.not_mem_nil, false_implies, implies_true, and_true]; exact ⟨f0, f1, f2, f3, f4, f5, f6, f7, f8, f9, f10, f11, f12, f13, f14, f15, f16⟩)
                          subst ha
                          clear hag hf f0 f1 f2 f3 f4 f5 f6 f7 f8 f9 f10 f11 f12 f13 f14 f15 f16
                          simp only [List.foldl_cons, List.foldl_nil, Act.put, List.drop_succ_cons, List.drop_zero, List.setIfInBounds_toArray, List.set_cons_succ, List.set_cons_zero]
                          have HBJ := Lib.hid (HB.out.trans (hI.mono HB.out.size))
                          clear hI
                          go_wp2_with fail
                          go_roundw
                          case rel => exact ⟨k + 1, by omega, by go_num, by rw [HTK.out, ← HCH.out]; simp only [trustL, List.append_assoc], HBJ.out⟩
                          case measure => simp [intOf]; omega
                      · obtain rfl : k = o.trusts.length := by omega
                        rw [List.take_length] at hsz ⊢
                        have hfin : bs (PC ++ o.trusts.flatMap trustL) = bs (o.n.flatMap nL ++ o.no.1 ++ putL o.coins.length ++ o.coins.flatMap outL ++ putL o.seats.length ++ o.seats.flatMap seatL ++ putL o.trusts.length ++ o.trusts.flatMap trustL) := by rw [← HPC.out, ← HPB.out, ← HPA0.out]
                        have HFIN := Lib.hid hfin
                        clear hfin
                        go_wp2_with fail
                        go_ret
                        exact ⟨by rw [← HFIN.out]; rfl, by rw [HG.out]; exact HBW.out.trans ((HBX.out.trans (HB.out.mono (by have := HBX.out.size; have := HGW.out; omega))).mono (by have := HBW.out.size; have := HG.out; have := HGW.out; omega))⟩

end Go.Proofs.YtdgaoebjbhomdaaDoor.Og
