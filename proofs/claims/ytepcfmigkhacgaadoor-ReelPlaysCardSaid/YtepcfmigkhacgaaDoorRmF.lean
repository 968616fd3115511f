/- reel: ReelStill over any reels. -/
import Derived.Test.YtepcfmigkhacgaaDoorRmE
namespace Go.Proofs.YtepcfmigkhacgaaDoor.Rl
open Go.RowKit Go.Proofs.YtepcfmigkhacgaaDoor.Gr Go.Proofs.YtepcfmigkhacgaaDoor.Frame Go.Proofs.YtepcfmigkhacgaaDoor.Dk

theorem Home.down {B : Nat} {w w' : World} (h : Home B w) (hb : Below B w w') : Home B w' := by
  have hf : Frm (fun k => B ≤ k) w w' := ⟨hb.os, hb.tape, hb.output, hb.size, fun k _ hn => hb.block k (by omega)⟩
  exact h.frm hf (fun _ h => h)
theorem texts_at {w : World} {v : Value} {L : List ByteArray} (h : KT.At w v L) : ∃ a n cap, v = .slice a n cap ∧ L.length = n ∧ ∀ (i : Nat) (s : ByteArray), L[i]? = some s → ∃ g o, a = some ⟨g, o, none⟩ ∧ w.cell? ⟨g, o + i, none⟩ = some (.string s) := by
  rcases h with ⟨a, cap, rfl, rfl⟩ | ⟨g, o, cap, rfl, _, _, hc⟩
  · exact ⟨a, 0, cap, rfl, rfl, fun i s h => by simp at h⟩
  · exact ⟨_, _, cap, rfl, rfl, fun i s h => ⟨g, o, rfl, text_cell hc h⟩⟩
theorem own_low0 {α : Type} {K : Kind Tryd.prog α} {L : List α} {C : Nat} {v : Value} {w : World} (h : K.Own C v L w) : K.Own 0 v L w := by
  rcases h.2 with ⟨rfl, e⟩ | ⟨b, cp, cur, rfl, hb, hc, r⟩
  · exact ⟨h.1, Or.inl ⟨rfl, e⟩⟩
  · exact ⟨h.1, Or.inr ⟨b, cp, cur, rfl, Nat.zero_le _, hc, r⟩⟩
theorem own_moved {C : Nat} {v : Value} {L : List ByteArray} {w w' : World} {F : Nat → Prop} (h : KT.Own C v L w) (hf : Frm F w w') (hF : ∀ k, F k → k < C) : KT.Own 0 v L w' :=
  own_frm (own_low0 h) hf fun k hk hFk => by
    have h1 := h.base k hk
    have h2 := hF k hFk
    omega
set_option maxRecDepth 100000 in
set_option maxHeartbeats 6400000 in
theorem still_any (C : Reels) (v0 : Value) (L : List ByteArray) (w : World) (hT : KT.At w v0 L) (hl : L.length ≤ 8796093022208) (hm : ∀ y ∈ L, y.size ≤ 9223372036854775807) (ht : Tab w) :
    Calls Tryd.prog 7 #[v0] w fun e w' => e = .returned (.bool true) ∧ Below w.heap.size w w' := by
  have HT := Lib.hid ht
  have HW := Lib.hid (works_any C w ht)
  obtain ⟨a, n, cap, rfl, hn, hcells⟩ := texts_at hT
  have HC := Lib.hid hcells
  have HN := Lib.hid hn
  have HM := Lib.hid hm
  rw [hn] at hl
  clear hT hcells hn hm ht
  go_enter Tryd.func7, Tryd.ntmps7
  go_wp2_with fail
  refine HW.out.mono ?_
  rintro e w1 ⟨rfl, hb1⟩
  have HB1 := Lib.hid hb1
  have HT1 := Lib.hid (HT.out.kept hb1)
  clear hb1
  go_upto_region 5 with fail
  go_loopw [3, 21] (fun nv iv wr => ∃ k x : Nat, k ≤ n ∧ nv = .int .i64 x ∧ iv = .int .i64 k ∧ x = sumW (L.take k) ∧ wr = w1) (fun _ iv _ => n - (intOf iv).toNat)
  case atStart => exact ⟨0, 0, Nat.zero_le _, rfl, rfl, rfl, rfl⟩
  case round =>
    obtain ⟨k, x, hk, rfl, rfl, hx, rfl⟩ := hrel
    have HX := Lib.hid hx
    have hxb : x ≤ 16385 * k := by
      have := sumW_le (L.take k)
      rw [List.length_take] at this
      have h2 : 16385 * min k L.length ≤ 16385 * k := Nat.mul_le_mul_left _ (Nat.min_le_left _ _)
      omega
    clear hx
    by_cases hlt : k < n
    · obtain ⟨s, hsk⟩ : ∃ s, L[k]? = some s := ⟨L[k]'(by rw [HN.out]; exact hlt), List.getElem?_eq_getElem _⟩
      obtain ⟨g, o, rfl, hcell⟩ := HC.out k s hsk
      have hd : wr.cell? ⟨g, o + k, none⟩ = some (.string s) := by rw [HB1.out.cell (World.block_lt_of_cell? _ _ hcell)]; exact hcell
      have hlti : (k : Int) < (n : Int) := by omega
      have HSN := Lib.hid (sumW_snoc L k s hsk)
      clear hcell hsk
      by_cases h5 : (16384 : Int) < (s.size : Int)
      · have h6 : min s.size 16384 = 16384 := by omega
        rw [h6, ← HX.out] at HSN
        go_wp2_with fail
        go_roundw
        case rel => exact ⟨k + 1, x + (16384 + 1), by omega, by go_num, by go_num, by rw [HSN.out], trivial⟩
        case measure => simp [intOf]; omega
      · have h6 : min s.size 16384 = s.size := by omega
        rw [h6, ← HX.out] at HSN
        go_wp2_with fail
        go_roundw
        case rel => exact ⟨k + 1, x + (s.size + 1), by omega, by go_num, by go_num, by rw [HSN.out], trivial⟩
        case measure => simp [intOf]; omega
    · obtain rfl : k = n := by omega
      by_cases h1 : 16384 < x
      · have h1i : (16384 : Int) < (x : Int) := by omega
        go_wp2_with fail
        go_ret
        exact ⟨rfl, HB1.out⟩
      have h1i : ¬ (16384 : Int) < (x : Int) := by omega
      by_cases h2 : 64 < k
      · have h2i : (64 : Int) < (k : Int) := by omega
        go_wp2_with fail
        go_ret
        exact ⟨rfl, HB1.out⟩
      have h2i : ¬ (64 : Int) < (k : Int) := by omega
      have HSM := Lib.hid (show ∀ s ∈ L, s.size ≤ 16384 from fun s hs => by
        have h3 : sumW L ≤ 16384 := by
          have := HX.out
          rw [← HN.out, List.take_length] at this
          omega
        have := sumW_mem h3 hs
        omega)
      go_upto_region 11 with fail
      clear HX h1i h2i hxb hk
      go_wp2_with fail
      refine (code_New _).mono ?_
      rintro e w2 ⟨rfl, hd2, hb2⟩
      obtain ⟨B, hB⟩ : ∃ B, wr.heap.size = B := ⟨_, rfl⟩
      have hh2 := (Home.of HT1.out).below hb2
      have HB2 := Lib.hid (HB1.out.trans (hb2.mono HB1.out.size))
      have HWB := Lib.hid (show w.heap.size ≤ B by rw [← hB]; exact HB1.out.size)
      rw [hB] at hd2 hh2 ⊢
      have HM2 := Lib.hid (mine_new hd2 good_new (Nat.le_refl B))
      have HH2 := Lib.hid hh2
      have HK := Lib.hid (show k ≤ 64 by omega)
      clear hd2 hb2 hh2 hB
      go_upto_region 13 with fail
      go_loopw [42] (fun iv wr => ∃ (j : Nat) (S : St) (lv : Value), j ≤ k ∧ iv = .int .i64 j ∧ Mine B (2 * j) wr B lv S ∧ Home B wr ∧ Fresh S ∧ S.lasts = -1 ∧ (∀ f, j ≤ f → fileN S.now f = []) ∧ Below w.heap.size w wr) (fun iv _ => k - (intOf iv).toNat)
      case atStart => exact ⟨0, newS, _, Nat.zero_le _, rfl, HM2.out, HH2.out, fresh_new, rfl, fun f _ => fileN_new f, HB2.out⟩
      case round =>
        obtain ⟨j, S, lv, hj, rfl, hmi, hho, hfr, hla, hem, hbel⟩ := hrel
        have HMI := Lib.hid hmi
        have HHO := Lib.hid hho
        have HFR := Lib.hid hfr
        have HLA := Lib.hid hla
        have HEM := Lib.hid hem
        have HBEL := Lib.hid hbel
        clear hmi hho hfr hla hem hbel
        by_cases hlt : j < k
        · obtain ⟨s, hsj⟩ : ∃ s, L[j]? = some s := ⟨L[j]'(by rw [HN.out]; exact hlt), List.getElem?_eq_getElem _⟩
          obtain ⟨g, o, rfl, hcell⟩ := HC.out j s hsj
          have hd : wr.cell? ⟨g, o + j, none⟩ = some (.string s) := by rw [HBEL.out.cell (World.block_lt_of_cell? _ _ hcell)]; exact hcell
          have hlti : (j : Int) < (k : Int) := by omega
          obtain ⟨S1, S2, e1, e2, e3, e4, e5⟩ := lay_file HFR.out HLA.out (show j < 64 by have := HK.out; omega) (HEM.out j (Nat.le_refl _)) (HSM.out s (List.mem_of_getElem? hsj))
          have HAP := Lib.hid (HMI.out.appendTo (by have := HK.out; omega) HHO.out.size e1)
          have HE2 := Lib.hid e2
          have HE3 := Lib.hid e3
          have HE4 := Lib.hid e4
          have HE5 := Lib.hid e5
          clear hcell hsj e1 e2 e3 e4 e5
          go_wp2_with fail
          refine HAP.out.mono ?_
          rintro e w3 ⟨rfl, hb3, lv3, hm3⟩
          have HM3 := Lib.hid hm3
          have HH3 := Lib.hid (HHO.out.down hb3)
          have HB3 := Lib.hid (HBEL.out.trans (hb3.mono HWB.out))
          clear hm3 hb3 hd
          go_wp2_with fail
          refine (HM3.out.syncTo (by have := HK.out; omega) HH3.out.size HE2.out).mono ?_
          rintro e w4 ⟨rfl, hb4, lv4, hm4⟩
          have HM4 := Lib.hid hm4
          have HH4 := Lib.hid (HH3.out.down hb4)
          have HB4 := Lib.hid (HB3.out.trans (hb4.mono HWB.out))
          clear hm4 hb4
          go_wp2_with fail
          go_roundw
          case rel => exact ⟨j + 1, S2, lv4, by omega, by go_num, HM4.out, HH4.out, HE3.out, HE4.out, fun f hf => by rw [HE5.out f (by omega)]; exact HEM.out f (by omega), HB4.out⟩
          case measure => simp [intOf]; omega
        · obtain rfl : j = k := by omega
          obtain ⟨o1, o2, o3, o4⟩ := open_any HFR.out HLA.out
          obtain ⟨r, T, all, hR⟩ : ∃ r T all, openS S = (r, T, all) := ⟨_, _, _, rfl⟩
          rw [hR] at o1 o2 o3 o4
          rw [← o2] at o4
          have o1 : r = 0 := o1
          subst o1
          have HI := Lib.hid (show Inv T all all.length from o4)
          have HON := Lib.hid (show T.on = true from o3)
          have HOP := Lib.hid (mine_openTo C HMI.out HHO.out (by have := HK.out; omega) hR)
          clear o2 o3 o4 hR
          go_wp2_with fail
          refine HOP.out.mono ?_
          rintro e w5 ⟨q5, F5, rfl, hm5, hr5⟩
          have HR5 := Lib.hid hr5
          have HB5 := Lib.hid (HBEL.out.trans ((hm5.down HMI.out.fb HHO.out.size).mono HWB.out))
          clear hm5 hr5
          go_wp2_with fail
          refine (list_any C w5 HR5.out HON.out HI.out.len).mono ?_
          rintro e w6 ⟨v1, rfl, ho1, hb6⟩
          have HR6 := Lib.hid (HR5.out.below hb6)
          have HB6 := Lib.hid (HB5.out.trans (hb6.mono HB5.out.size))
          have HO1 := Lib.hid ho1
          clear ho1 hb6
          obtain ⟨lv6, hd6, hf6⟩ := HR6.out.disk
          have HD6 := Lib.hid hd6
          have HF6 := Lib.hid hf6
          clear hd6 hf6
          go_wp2_with fail
          refine (HD6.out.opsTo rfl).mono ?_
          rintro e w' ⟨rfl, rfl⟩
          go_wp2_with fail
          refine (mine_openTo C HD6.out HR6.out.home (by have := HK.out; omega) (HI.out.still HON.out)).mono ?_
          rintro e w7 ⟨q7, F7, rfl, hm7, hr7⟩
          have HR7 := Lib.hid hr7
          have HB7 := Lib.hid (HB6.out.trans ((hm7.down HD6.out.fb HR6.out.home.size).mono HWB.out))
          have HO1b := Lib.hid (own_moved HO1.out hm7.frm (fun i hi => HR5.out.lt i (HF6.out i hi)))
          clear hm7 hr7
          obtain ⟨lv7, hd7, hf7⟩ := HR7.out.disk
          have HD7 := Lib.hid hd7
          clear hd7 hf7
          go_wp2_with fail
          refine (HD7.out.opsTo rfl).mono ?_
          rintro e w' ⟨rfl, rfl⟩
          go_wp2_with fail
          refine (HD7.out.looseTo (m := 0) (by rw [HI.out.none HR7.out.good]; rfl)).mono ?_
          rintro e w' ⟨rfl, rfl⟩
          go_wp2_with fail
          refine (list_any C _ HR7.out HON.out HI.out.len).mono ?_
          rintro e w8 ⟨v2, rfl, ho2, hb8⟩
          have HB8 := Lib.hid (HB7.out.trans (hb8.mono HB7.out.size))
          obtain ⟨a1, n1, c1, rfl, hn1, hx1⟩ := texts_at (HO1b.out.kept hb8).reads
          obtain ⟨a2, n2, c2, rfl, hn2, hx2⟩ := texts_at ho2.reads
          obtain rfl : n1 = n2 := by rw [← hn1, ← hn2]
          have HX1 := Lib.hid hx1
          have HX2 := Lib.hid hx2
          have HN1 := Lib.hid hn1
          have HN5 := Lib.hid (show n1 ≤ 512 by rw [← hn1, tx_len]; exact HI.out.len)
          clear ho2 hb8 hx1 hx2 hn1 hn2
          go_upto_region 30 with fail
          go_loopw [111] (fun iv wr => ∃ j : Nat, j ≤ n1 ∧ iv = .int .i64 j ∧ wr = w8) (fun iv _ => n1 - (intOf iv).toNat)
          case atStart => exact ⟨0, Nat.zero_le _, rfl, rfl⟩
          case round =>
            obtain ⟨j, hj, rfl, rfl⟩ := hrel
            by_cases hlt : j < n1
            · obtain ⟨s, hsj⟩ : ∃ s, (tx all)[j]? = some s := ⟨(tx all)[j]'(by rw [HN1.out]; exact hlt), List.getElem?_eq_getElem _⟩
              obtain ⟨g1, o1, rfl, hc1⟩ := HX1.out j s hsj
              obtain ⟨g2, o2, rfl, hc2⟩ := HX2.out j s hsj
              have hlti : (j : Int) < (n1 : Int) := by omega
              have hn5 := HN5.out
              go_wp2_with fail
              go_roundw
              case rel => exact ⟨j + 1, by omega, by go_num, trivial⟩
              case measure => simp [intOf]; omega
            · obtain rfl : j = n1 := by omega
              go_wp2_with fail
              go_ret
              exact ⟨rfl, HB8.out⟩
end Go.Proofs.YtepcfmigkhacgaaDoor.Rl
