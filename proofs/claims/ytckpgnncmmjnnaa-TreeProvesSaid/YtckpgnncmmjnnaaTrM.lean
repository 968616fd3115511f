/- slices.Equal over hashes; the document's own Prove; TreeProves. -/
import Derived.Test.YtckpgnncmmjnnaaTrW
namespace Go.Proofs.Ytckpgnncmmjnnaa.Tree
open Go.RowKit Go.Proofs.Ytckpgnncmmjnnaa.Sha

theorem slice_of' {w : World} {v : Value} {L : List (List UInt8)} (h : Hashes w v L) : ∃ a cap, v = .slice a L.length cap ∧ ∀ (i : Nat) (s : List UInt8), L[i]? = some s → ∃ g o, a = some ⟨g, o, none⟩ ∧ w.rangeAt g (o + i * 32) (valsB s) := by
  rcases h with ⟨a, cap, rfl, rfl⟩ | ⟨g, o, cap, rfl, _, hc⟩
  · exact ⟨a, cap, rfl, fun i s h => by simp at h⟩
  · exact ⟨_, cap, rfl, fun i s h => ⟨g, o, rfl, hc i s h⟩⟩

set_option maxRecDepth 100000 in
set_option maxHeartbeats 1600000 in
theorem equal_true (v1 v2 : Value) (L : List (List UInt8)) (w : World) (h1 : Hashes w v1 L) (h2 : Hashes w v2 L) (h32 : H32 L) (hn : L.length ≤ 1099511627776) :
    Calls Try.prog 23 #[v1, v2] w fun e w' => e = .returned (.bool true) ∧ Below w.heap.size w w' := by
  obtain ⟨a1, c1, rfl, hc1⟩ := slice_of' h1
  obtain ⟨a2, c2, rfl, hc2⟩ := slice_of' h2
  obtain ⟨n, hL⟩ : ∃ n, L.length = n := ⟨_, rfl⟩
  have HL := Lib.hid hL
  have HC1 := Lib.hid hc1
  have HC2 := Lib.hid hc2
  have H3 := Lib.hid h32
  rw [hL] at hn
  rw [hL]
  have hne : ((n : Int) != (n : Int)) = false := by simp
  clear h1 h2 h32 hL hc1 hc2
  go_enter Try.func23, Try.ntmps23
  go_wp2_with fail
  go_loopw [13] (fun i wr => ∃ k : Nat, k ≤ n ∧ i = .int .i64 k ∧ Below w.heap.size w wr) (fun i _ => n - (intOf i).toNat)
  case atStart => exact ⟨0, by omega, rfl, Below.refl _ _⟩
  case round =>
    obtain ⟨k, hk, rfl, hbel⟩ := hrel
    have HBEL := Lib.hid hbel
    clear hbel
    by_cases hlt : k < n
    · obtain ⟨x, hx⟩ : ∃ x, L[k]? = some x := ⟨L[k]'(by rw [HL.out]; exact hlt), List.getElem?_eq_getElem _⟩
      obtain ⟨g1, o1, rfl, hr1⟩ := HC1.out k x hx
      obtain ⟨g2, o2, rfl, hr2⟩ := HC2.out k x hx
      have hxl := H3.out x (List.mem_of_getElem? hx)
      have HR1 := Lib.hid (range_kept HBEL.out hr1)
      have HR2 := Lib.hid (range_kept HBEL.out hr2)
      have HIX := Lib.hid (info_len x hxl)
      have HE := fun w => eqIn_hash x x hxl hxl w
      rw [show (x == x) = true by simp] at HE
      have hk0 : (0 : Int) ≤ (k : Int) := by omega
      have hkn : (k : Int) < (n : Int) := by omega
      clear hx hr1 hr2 hxl
      go_wp2_with fail
      refine wp_region_quiet_below (by kernel_rfl) (by kernel_rfl) ?_
      repeat (first
        | (refine wpQuiet_step (fun K hK => ?_); rw [if_pos (by rfl)]; refine quiet_load_mid 24 (.tmp 18) rfl g1 (o1 + k * 32) (by simp [Act.eval]) (valsB x) _ HR1.out Try.underlying24 rfl HIX.out ?_; refine hK _ ?_; clear hK K)
        | (refine wpQuiet_step (fun K hK => ?_); rw [if_pos (by rfl)]; refine quiet_load_mid 24 (.tmp 22) rfl g2 (o2 + k * 32) (by simp [Act.eval]) (valsB x) _ HR2.out Try.underlying24 rfl HIX.out ?_; refine hK _ ?_; clear hK K)
        | (quiet_step (fail)))
      refine wpQuiet_nil ?_
      intro _ hw'
      obtain ⟨⟨dq, osq⟩, hw''⟩ := hw'
      subst hw''
      have HBQ := Lib.hid (HBEL.out.trans ((below_regrown wr dq osq).mono HBEL.out.size))
      dsimp only
      generalize Sort.grow (redrawn wr dq) osq = w5 at HBQ ⊢
      go_wp2_with fail
      go_roundw
      case rel => exact ⟨k + 1, by omega, by go_num, HBQ.out⟩
      case measure => simp [intOf]; omega
    · obtain rfl : n = k := by omega
      go_wp2_with fail
      go_ret
      exact ⟨rfl, HBEL.out⟩

theorem ref_Prove_no (v : Value) (L : List (List UInt8)) (i : Int) (w : World) (hv : Hashes w v L) (hi : i < 0 ∨ (L.length : Int) ≤ i) :
    Calls Try.prog 25 #[v, .int .i64 i] w fun e w' => e = .returned (.tuple #[.slice none 0 0, .int .i64 5]) ∧ Below w.heap.size w w' := by
  obtain ⟨a, cap, rfl, _⟩ := slice_of' hv
  obtain ⟨n, hL⟩ : ∃ n, L.length = n := ⟨_, rfl⟩
  rw [hL] at hi
  rw [hL]
  clear hv hL
  by_cases h0 : i < 0
  · clear hi
    go_enter Try.func25, Try.ntmps25
    go_wp2
    all_goals
      go_ret2
      exact ⟨rfl, Below.refl _ _⟩
  · have h1 : 0 ≤ i := by omega
    have h2 : (n : Int) ≤ i := by omega
    clear hi h0
    go_enter Try.func25, Try.ntmps25
    go_wp2
    all_goals
      go_ret2
      exact ⟨rfl, Below.refl _ _⟩

set_option maxRecDepth 100000 in
set_option maxHeartbeats 3200000 in
theorem ref_Prove (v : Value) (L : List (List UInt8)) (i0 : Nat) (w : World) (hv : Hashes w v L) (h32 : H32 L) (hn : L.length ≤ 1048576) (hi : i0 < L.length) :
    Calls Try.prog 25 #[v, .int .i64 i0] w fun e w' => ∃ v' B, e = .returned (.tuple #[v', .int .i64 0]) ∧ w.heap.size ≤ B ∧ OwnH B v' (proofA (L.map leafF) i0) w' ∧ Below w.heap.size w w' := by
  obtain ⟨a, cap, rfl, _⟩ := slice_of' hv
  have HRW := Lib.hid (ref_Rows (.slice a L.length cap) L w hv h32 hn)
  have hne : ¬ L = [] := fun h => by rw [h] at hi; simp at hi
  obtain ⟨A, hA⟩ : ∃ A, L.map leafF = A := ⟨_, rfl⟩
  have hAl : A.length = L.length := by rw [← hA, List.length_map]
  have hAr : rowsA (L.map leafF) = rowsA A := by rw [hA]
  rw [hA]
  obtain ⟨n, hL⟩ : ∃ n, L.length = n := ⟨_, rfl⟩
  rw [hL] at HRW hn hi hAl
  rw [hL]
  have HAL := Lib.hid hAl
  have HNE := Lib.hid hne
  have HAR := Lib.hid hAr
  have hi0 : (0 : Int) ≤ (i0 : Int) := by omega
  have hin : (i0 : Int) < (n : Int) := by omega
  clear hv hL hA hAl hne hAr
  go_enter Try.func25, Try.ntmps25
  go_wp2_with fail
  refine HRW.out.mono ?_
  rintro e w2 ⟨g, c, Rs, hRs, rfl, hown, hb2⟩
  rw [if_neg HNE.out, HAR.out] at hRs
  subst hRs
  obtain ⟨Rs, hR⟩ : ∃ R, rowsA A = R := ⟨_, rfl⟩
  rw [hR] at hown
  rw [hR]
  have HRR := Lib.hid hR
  obtain ⟨r, hr⟩ : ∃ r, Rs.length = r := ⟨_, rfl⟩
  have HOWN := Lib.hid hown
  have HR := Lib.hid hr
  have HB2 := Lib.hid hb2
  have hrl : r ≤ n + 1 := by
    have := rowsA_len A.length A (Nat.le_refl _)
    rw [hR, hr, HAL.out] at this
    exact this
  have hr0 : 0 < r := by
    have := List.length_pos_iff.2 (rowsA_ne A)
    rw [hR, hr] at this
    exact this
  rw [hr]
  have hk1 : (r : Int) - 1 = ((r - 1 : Nat) : Int) := by omega
  obtain ⟨s, hs⟩ : ∃ s, r - 1 = s := ⟨_, rfl⟩
  rw [hs] at hk1
  have HS := Lib.hid hs
  clear hown hr hb2 hR hs
  go_wp2_with fail
  go_loopw [1, 7, 8] (fun iv pv kv wr => ∃ (M P : List (List UInt8)) (i k : Nat), iv = .int .i64 i ∧ kv = .int .i64 k ∧ Rs.drop k = rowsA M ∧ k + (rowsA M).length = r ∧ i < M.length ∧ M.length ≤ n ∧ OwnH w2.heap.size pv P wr ∧ P ++ proofA M i = proofA A i0 ∧ P.length ≤ k ∧ Below w2.heap.size w2 wr) (fun _ _ kv _ => r - (intOf kv).toNat)
  case atStart => exact ⟨A, [], i0, 0, rfl, rfl, by rw [List.drop_zero]; exact HRR.out.symm, by rw [HRR.out, HR.out, Nat.zero_add], by rw [HAL.out]; exact hi, by rw [HAL.out]; exact Nat.le_refl _, OwnH.nil _ _, rfl, Nat.le_refl _, Below.refl _ _⟩
  case round =>
    obtain ⟨M, P, i, k, rfl, rfl, hdrop, hkr, him, hMn, hownP, hpr, hPk, hbel⟩ := hrel
    have HDR := Lib.hid hdrop
    have HOP := Lib.hid hownP
    have HPR := Lib.hid hpr
    have HBEL := Lib.hid hbel
    clear hdrop hownP hpr hbel
    obtain ⟨m, hm⟩ : ∃ m, M.length = m := ⟨_, rfl⟩
    rw [hm] at him hMn
    have HM := Lib.hid hm
    clear hm
    by_cases h1 : 1 < m
    · have hst := rowsA_step M (by rw [HM.out]; exact h1)
      have hl2 : (rowsA M).length = (rowsA (upF M)).length + 1 := by rw [hst]; simp
      have hpos : 0 < (rowsA (upF M)).length := List.length_pos_iff.2 (rowsA_ne _)
      have hkM : Rs[k]? = some M := by
        have h3 : (Rs.drop k)[0]? = some M := by rw [HDR.out, hst]; rfl
        rw [List.getElem?_drop] at h3
        exact h3
      have HD2 := Lib.hid (show Rs.drop (k + 1) = rowsA (upF M) ∧ k + 1 + (rowsA (upF M)).length = r by
        refine ⟨?_, by omega⟩
        rw [← List.drop_drop, HDR.out, hst]
        rfl)
      obtain ⟨gr, cr, hcell, hrow⟩ := OwnR.get (HOWN.out.kept HBEL.out) k M hkM
      rw [HM.out] at hcell
      have HROW := Lib.hid hrow
      have hks : (k : Int) < (s : Int) := by have := HS.out; omega
      have hkr' : (k : Int) < (r : Int) := by omega
      have hk0 : (0 : Int) ≤ (k : Int) := by omega
      obtain ⟨q, hq⟩ : ∃ q, i / 2 = q := ⟨_, rfl⟩
      have hqi : (i : Int) / 2 = (q : Int) := by omega
      have HSTEP := Lib.hid (show P ++ (M[oth i]?).toList ++ proofA (upF M) q = proofA A i0 by
        rw [← HPR.out, proofA_step M i (by rw [HM.out]; exact h1), hq, List.append_assoc])
      have HUL := Lib.hid (show (upF M).length = m / 2 + m % 2 by rw [upF_len, HM.out])
      have hqm : q < m / 2 + m % 2 := by omega
      have hPb : P.length ≤ 1048577 := by omega
      clear hst hl2 hpos hkM hrow hq hkr
      by_cases hodd : i % 2 = 1
      · obtain ⟨j, hj⟩ : ∃ j, i - 1 = j := ⟨_, rfl⟩
        have hoi : oth i = j := by rw [oth_eq, if_neg (by omega)]; exact hj
        have hjm : j < m := by omega
        obtain ⟨x, hx⟩ : ∃ x, M[j]? = some x := ⟨M[j]'(by rw [HM.out]; exact hjm), List.getElem?_eq_getElem _⟩
        have hxl := HROW.out.len x (List.mem_of_getElem? hx)
        have HRG := Lib.hid (HROW.out.at_ j x hx)
        have HIX := Lib.hid (info_len x hxl)
        have HXL := Lib.hid hxl
        have HS2 := Lib.hid (show P ++ [x] ++ proofA (upF M) q = proofA A i0 by
          have h2 := HSTEP.out
          rw [hoi, hx] at h2
          exact h2)
        have hji : (i : Int) - 1 = (j : Int) := by omega
        have hj0 : (0 : Int) ≤ (j : Int) := by omega
        have hjmi : (j : Int) < (m : Int) := by omega
        have hoi2 : ((i : Int) % 2 == 1) = true := by simp; omega
        clear hx hxl hj hoi hodd
        go_wp2_with (first
          | (refine wpList_load_mid rfl 24 (.tmp 36) rfl gr (j * 32) rfl (valsB x) _ HRG.out Try.underlying24 rfl HIX.out ?_)
          | (refine wpList_build_hash1 rfl (.tmp 37) rfl x HXL.out rfl ?_; intro w3 hr3 hb3 _ _; refine wpList_append_hashes rfl (.tmp 29) (.tmp 38) rfl w2.heap.size _ P rfl (HOP.out.kept hb3) _ 1 1 1 [x] rfl hr3 rfl (by omega) (by omega) (by have := hb3.size; have := HBEL.out.size; omega) ?_; intro v4 w4 hown4 hb4 hv4))
        obtain ⟨gp, cp, rfl⟩ := hv4
        have HB4 := Lib.hid ((HBEL.out.trans (hb3.mono HBEL.out.size)).trans hb4)
        have HO4 := Lib.hid hown4
        clear hb3 hb4 hr3 hown4
        go_wp2_with fail
        go_roundw
        case rel => exact ⟨upF M, P ++ [x], q, k + 1, rfl, by go_num, HD2.out.1, HD2.out.2, by rw [HUL.out]; exact hqm, by rw [HUL.out]; omega, HO4.out, HS2.out, by simp; omega, HB4.out⟩
        case measure =>
          have := HS.out
          simp [intOf]
          omega
      · obtain ⟨j, hj⟩ : ∃ j, i + 1 = j := ⟨_, rfl⟩
        have hoi : oth i = j := by rw [oth_eq, if_pos (by omega)]; exact hj
        have hji : (i : Int) + 1 = (j : Int) := by omega
        have hj0 : (0 : Int) ≤ (j : Int) := by omega
        have hoi2 : ((i : Int) % 2 == 1) = false := by simp; omega
        by_cases hjm : j < m
        · obtain ⟨x, hx⟩ : ∃ x, M[j]? = some x := ⟨M[j]'(by rw [HM.out]; exact hjm), List.getElem?_eq_getElem _⟩
          have hxl := HROW.out.len x (List.mem_of_getElem? hx)
          have HRG := Lib.hid (HROW.out.at_ j x hx)
          have HIX := Lib.hid (info_len x hxl)
          have HXL := Lib.hid hxl
          have HS2 := Lib.hid (show P ++ [x] ++ proofA (upF M) q = proofA A i0 by
            have h2 := HSTEP.out
            rw [hoi, hx] at h2
            exact h2)
          have hjmi : (j : Int) < (m : Int) := by omega
          clear hx hxl hj hoi hodd
          go_wp2_with (first
            | (refine wpList_load_mid rfl 24 (.tmp 55) rfl gr (j * 32) rfl (valsB x) _ HRG.out Try.underlying24 rfl HIX.out ?_)
            | (refine wpList_build_hash1 rfl (.tmp 56) rfl x HXL.out rfl ?_; intro w3 hr3 hb3 _ _; refine wpList_append_hashes rfl (.tmp 48) (.tmp 57) rfl w2.heap.size _ P rfl (HOP.out.kept hb3) _ 1 1 1 [x] rfl hr3 rfl (by omega) (by omega) (by have := hb3.size; have := HBEL.out.size; omega) ?_; intro v4 w4 hown4 hb4 hv4))
          obtain ⟨gp, cp, rfl⟩ := hv4
          have HB4 := Lib.hid ((HBEL.out.trans (hb3.mono HBEL.out.size)).trans hb4)
          have HO4 := Lib.hid hown4
          clear hb3 hb4 hr3 hown4
          go_wp2_with fail
          go_roundw
          case rel => exact ⟨upF M, P ++ [x], q, k + 1, rfl, by go_num, HD2.out.1, HD2.out.2, by rw [HUL.out]; exact hqm, by rw [HUL.out]; omega, HO4.out, HS2.out, by simp; omega, HB4.out⟩
          case measure =>
            have := HS.out
            simp [intOf]
            omega
        · have HS2 := Lib.hid (show P ++ proofA (upF M) q = proofA A i0 by
            have h2 := HSTEP.out
            rw [hoi, List.getElem?_eq_none (by rw [HM.out]; omega)] at h2
            simpa using h2)
          have hjmi : ¬ (j : Int) < (m : Int) := by omega
          clear hj hoi hodd
          go_wp2_with fail
          go_roundw
          case rel => exact ⟨upF M, P, q, k + 1, rfl, by go_num, HD2.out.1, HD2.out.2, by rw [HUL.out]; exact hqm, by rw [HUL.out]; omega, HOP.out, HS2.out, by omega, HBEL.out⟩
          case measure =>
            have := HS.out
            simp [intOf]
            omega
    · obtain rfl : m = 1 := by omega
      have hrl1 : (rowsA M).length = 1 := by rw [rowsA_one M (by rw [HM.out]; exact Nat.le_refl _)]; rfl
      have hks : ¬ (k : Int) < (s : Int) := by have := HS.out; omega
      have HPF := Lib.hid (show P = proofA A i0 by rw [← HPR.out, proofA_one M i (by rw [HM.out]; exact Nat.le_refl _), List.append_nil])
      clear hrl1 hkr
      go_wp2_with fail
      go_ret2
      exact ⟨_, rfl, w2.heap.size, HB2.out.size, by rw [← HPF.out]; exact HOP.out, HB2.out.trans (HBEL.out.mono HB2.out.size)⟩



set_option maxRecDepth 100000 in
set_option maxHeartbeats 1600000 in
theorem law_TreeProves (v0 : Value) (a0 : List (List UInt8)) (a1 : Int) (w : World) (w0 : Hashes w v0 a0) (x0 : H32 a0) (y0 : a0.length ≤ maxLen) (_w1 : (Lit.int .i64 a1).wf = true) : Calls Try.prog 7 #[v0, .int .i64 a1] w fun e w' => e = .returned (.bool true) ∧ Below w.heap.size w w' := by
  obtain ⟨a, cap, rfl, _⟩ := slice_of' w0
  have hm : a0.length ≤ 9223372036854775807 := y0
  clear _w1
  by_cases hbig : 300 < a0.length
  · obtain ⟨n, hn⟩ : ∃ n, a0.length = n := ⟨_, rfl⟩
    rw [hn] at hbig hm
    rw [hn]
    have hb : (300 : Int) < (n : Int) := by omega
    clear hn w0 x0 y0
    go_enter Try.func7, Try.ntmps7
    go_wp2_with (go_at_call 20; refine (works4 _).mono ?_; rintro e w' ⟨rfl, hb⟩)
    go_ret
    exact ⟨rfl, by assumption⟩
  · by_cases hi : a1 < 0 ∨ (a0.length : Int) ≤ a1
    · have HP0 := Lib.hid (code_Prove_no (.slice a a0.length cap) a0 a1 w w0 hi)
      have HP1 := Lib.hid (fun W (hb : Below w.heap.size w W) => ref_Prove_no (.slice a a0.length cap) a0 a1 W (w0.kept hb) hi)
      have HEQ := Lib.hid (fun W => equal_true (.slice none 0 0) (.slice none 0 0) [] W (Or.inl ⟨_, _, rfl, rfl⟩) (Or.inl ⟨_, _, rfl, rfl⟩) (fun h hh => by simp at hh) (by simp))
      obtain ⟨n, hn⟩ : ∃ n, a0.length = n := ⟨_, rfl⟩
      rw [hn] at hbig hm HP0 HP1
      rw [hn]
      have hb : ¬ (300 : Int) < (n : Int) := by omega
      clear hn w0 x0 y0 hbig hi
      go_enter Try.func7, Try.ntmps7
      go_wp2_with fail
      refine HP0.out.mono ?_
      rintro e w1 ⟨rfl, hb1⟩
      have HB1 := Lib.hid hb1
      clear hb1
      go_wp2_with fail
      refine (HP1.out _ HB1.out).mono ?_
      rintro e w2 ⟨rfl, hb2⟩
      have HB2 := Lib.hid (HB1.out.trans (hb2.mono HB1.out.size))
      clear hb2
      go_wp2_with fail
      refine (HEQ.out _).mono ?_
      rintro e w3 ⟨rfl, hb3⟩
      have HB3 := Lib.hid (HB2.out.trans (hb3.mono HB2.out.size))
      clear hb3
      go_wp2_with fail
      refine (works4 _).mono ?_
      rintro e w4 ⟨rfl, hb4⟩
      have HB4 := Lib.hid (HB3.out.trans (hb4.mono HB3.out.size))
      clear hb4
      go_wp2_with fail
      go_ret
      exact ⟨rfl, HB4.out⟩
    · obtain ⟨i, rfl⟩ : ∃ i : Nat, a1 = i := ⟨a1.toNat, by omega⟩
      have hil : i < a0.length := by omega
      have HP0 := Lib.hid (code_Prove (.slice a a0.length cap) a0 i w w0 x0 (by omega) hil)
      have HP1 := Lib.hid (fun W (hb : Below w.heap.size w W) => ref_Prove (.slice a a0.length cap) a0 i W (w0.kept hb) x0 (by omega) hil)
      have hpl := proofA_len a0.length (a0.map leafF) i (by rw [List.length_map]; exact Nat.le_refl _)
      rw [List.length_map] at hpl
      obtain ⟨P, hP⟩ : ∃ P, proofA (a0.map leafF) i = P := ⟨_, rfl⟩
      rw [hP] at HP0 HP1 hpl
      obtain ⟨n, hn⟩ : ∃ n, a0.length = n := ⟨_, rfl⟩
      rw [hn] at hbig hm HP0 HP1 hpl
      rw [hn]
      have HPL := Lib.hid hpl
      have HN := Lib.hid hbig
      have hb : ¬ (300 : Int) < (n : Int) := by omega
      clear hn w0 x0 y0 hbig hi hil hP hpl
      go_enter Try.func7, Try.ntmps7
      go_wp2_with fail
      refine HP0.out.mono ?_
      rintro e w1 ⟨v1, B1, rfl, hB1, hown1, hb1⟩
      have HB1 := Lib.hid hb1
      have HO1 := Lib.hid hown1
      clear hb1 hown1
      go_wp2_with fail
      refine (HP1.out _ HB1.out).mono ?_
      rintro e w2 ⟨v2, B2, rfl, hB2, hown2, hb2⟩
      have HB2 := Lib.hid (HB1.out.trans (hb2.mono HB1.out.size))
      have HO2 := Lib.hid hown2
      have HO1' := Lib.hid (HO1.out.kept hb2)
      clear hb2 hown2
      go_wp2_with fail
      refine (equal_true v1 v2 P _ HO1'.out.hashes HO2.out.hashes HO2.out.len (by have := HPL.out; have := HN.out; omega)).mono ?_
      rintro e w3 ⟨rfl, hb3⟩
      have HB3 := Lib.hid (HB2.out.trans (hb3.mono HB2.out.size))
      clear hb3
      go_wp2_with fail
      refine (works4 _).mono ?_
      rintro e w4 ⟨rfl, hb4⟩
      have HB4 := Lib.hid (HB3.out.trans (hb4.mono HB3.out.size))
      clear hb4
      go_wp2_with fail
      go_ret
      exact ⟨rfl, HB4.out⟩

end Go.Proofs.Ytckpgnncmmjnnaa.Tree
