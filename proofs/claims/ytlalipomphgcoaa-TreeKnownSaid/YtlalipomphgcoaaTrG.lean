/- The tree: the code's Prove. -/
import Derived.Test.YtlalipomphgcoaaTrF
namespace Go.Proofs.Ytlalipomphgcoaa.Tree
open Go.RowKit Go.Proofs.Ytlalipomphgcoaa.Sha

theorem code_Prove_no (v : Value) (L : List (List UInt8)) (i : Int) (w : World) (hv : Hashes w v L) (hi : i < 0 ∨ (L.length : Int) ≤ i) :
    Calls Try.prog 15 #[v, .int .i64 i] w fun e w' => e = .returned (.tuple #[.slice none 0 0, .int .i64 5]) ∧ Below w.heap.size w w' := by
  have hvv : ∃ a cap, v = .slice a L.length cap := by
    rcases hv with ⟨a, cap, rfl, rfl⟩ | ⟨g, o, cap, rfl, _, _⟩
    · exact ⟨a, cap, rfl⟩
    · exact ⟨_, cap, rfl⟩
  obtain ⟨a, cap, rfl⟩ := hvv
  have HP := Lib.hid (fun w => code_isPlace_no i L.length hi w)
  obtain ⟨n, hL⟩ : ∃ n, L.length = n := ⟨_, rfl⟩
  rw [hL] at HP
  rw [hL]
  clear hv hi hL
  go_enter Try.func15, Try.ntmps15
  go_wp2_with (go_at_call 38; refine (HP.out _).mono ?_; rintro e w' ⟨rfl, rfl⟩)
  go_ret2
  exact ⟨rfl, Below.refl _ _⟩

set_option maxRecDepth 100000 in
set_option maxHeartbeats 3200000 in
theorem code_Prove (v : Value) (L : List (List UInt8)) (i0 : Nat) (w : World) (hv : Hashes w v L) (h32 : H32 L) (hn : L.length ≤ 1099511627776) (hi : i0 < L.length) :
    Calls Try.prog 15 #[v, .int .i64 i0] w fun e w' => ∃ v' B, e = .returned (.tuple #[v', .int .i64 0]) ∧ w.heap.size ≤ B ∧ OwnH B v' (proofA (L.map leafF) i0) w' ∧ Below w.heap.size w w' := by
  have hvv : ∃ a cap, v = .slice a L.length cap := by
    rcases hv with ⟨a, cap, rfl, rfl⟩ | ⟨g, o, cap, rfl, _, _⟩
    · exact ⟨a, cap, rfl⟩
    · exact ⟨_, cap, rfl⟩
  obtain ⟨a, cap, rfl⟩ := hvv
  have HPL := Lib.hid (fun w => code_isPlace_yes i0 L.length (by omega) (by omega) w)
  have HLV := Lib.hid (code_leaves (.slice a L.length cap) L w hv h32 hn)
  obtain ⟨A, hA⟩ : ∃ A, L.map leafF = A := ⟨_, rfl⟩
  have hAl : A.length = L.length := by rw [← hA, List.length_map]
  rw [hA] at HLV
  rw [hA]
  obtain ⟨n, hL⟩ : ∃ n, L.length = n := ⟨_, rfl⟩
  rw [hL] at HPL HLV hn hi hAl
  rw [hL]
  have HAL := Lib.hid hAl
  clear hv hL hA hAl
  go_enter Try.func15, Try.ntmps15
  go_wp2_with (go_at_call 38; refine (HPL.out _).mono ?_; rintro e w' ⟨rfl, rfl⟩)
  refine HLV.out.mono ?_
  rintro e w2 ⟨g, rfl, hg, hrow, hb2⟩
  have HROW := Lib.hid hrow
  have HB2 := Lib.hid hb2
  have hgB := hrow.lt
  clear hrow hb2
  go_wp2_with fail
  go_loopw [1, 6, 7] (fun iv pv rv wr => ∃ (M P : List (List UInt8)) (m i : Nat), rv = .slice (some ⟨g, 0, none⟩) m m ∧ iv = .int .i64 i ∧ M.length = m ∧ i < m ∧ m ≤ n ∧ RowOf wr g n M ∧ OwnH w2.heap.size pv P wr ∧ P ++ proofA M i = proofA A i0 ∧ w2.heap.size ≤ wr.heap.size ∧ Below w.heap.size w wr) (fun _ _ rv _ => sliceLen rv)
  case atStart => exact ⟨A, [], n, i0, rfl, rfl, HAL.out, hi, Nat.le_refl _, HROW.out, OwnH.nil _ _, rfl, Nat.le_refl _, HB2.out⟩
  case round =>
    obtain ⟨M, P, m, i, rfl, rfl, hM, him, hmn, hrow, hown, hpr, hB, hbel⟩ := hrel
    clear HROW HB2
    have HM := Lib.hid hM
    have HROW := Lib.hid hrow
    have HOWN := Lib.hid hown
    have HPR := Lib.hid hpr
    have HBEL := Lib.hid hbel
    clear hM hrow hown hpr hbel
    by_cases h1 : 1 < m
    · obtain ⟨j, hj⟩ : ∃ j, oth i = j := ⟨_, rfl⟩
      have HOT := Lib.hid (fun w => code_other' i (by omega) w)
      rw [hj] at HOT
      obtain ⟨q, hq⟩ : ∃ q, m / 2 + m % 2 = q := ⟨_, rfl⟩
      obtain ⟨r, hr⟩ : ∃ r, i / 2 = r := ⟨_, rfl⟩
      have hri : (i : Int) / 2 = (r : Int) := by omega
      have hrq : r < q := by omega
      have hqn : q ≤ n := by omega
      have hqm : q < m := by omega
      have HSTEP := Lib.hid (show P ++ (M[j]?).toList ++ proofA (upF M) r = proofA A i0 by
        rw [← HPR.out, proofA_step M i (by rw [HM.out]; exact h1), hj, hr, List.append_assoc])
      have HUP : ∀ W, RowOf W g n M → Calls Try.prog 40 #[.slice (some ⟨g, 0, none⟩) m m] W fun e w' => e = .returned (.slice (some ⟨g, 0, none⟩) q q) ∧ RowOf w' g n (upF M) ∧ But g W w' := fun W hW => by
        rw [← hq]
        exact code_up g n m m M W hW HM.out hmn (Nat.le_refl _) (by omega) (by omega) (by omega)
      have HUP := Lib.hid HUP
      have HUL := Lib.hid (show (upF M).length = q by rw [upF_len, HM.out, hq])
      have hj1 : j ≤ m := by
        rw [oth_eq] at hj
        split at hj <;> omega
      have HPL2 := Lib.hid (show P.length ≤ n by
        have h2 := congrArg List.length HPR.out
        have h3 := proofA_len A.length A i0 (Nat.le_refl _)
        rw [List.length_append] at h2
        have h4 := HAL.out
        omega)
      clear hq hj hr
      by_cases hjm : j < m
      · have hji : (j : Int) < (m : Int) := by omega
        have hj0 : (0 : Int) ≤ (j : Int) := by omega
        obtain ⟨x, hx⟩ : ∃ x, M[j]? = some x := ⟨M[j]'(by rw [HM.out]; exact hjm), List.getElem?_eq_getElem _⟩
        have hxl := HROW.out.len x (List.mem_of_getElem? hx)
        have HRG := Lib.hid (HROW.out.at_ j x hx)
        have HIX := Lib.hid (info_len x hxl)
        have HX := Lib.hid hx
        have HXL := Lib.hid hxl
        clear hx hxl
        go_wp2_with (first
          | (go_at_call 41; refine (HOT.out _).mono ?_; rintro e w' ⟨rfl, rfl⟩)
          | (refine wpList_load_mid rfl 23 (.tmp 30) rfl g (j * 32) rfl (valsB x) _ HRG.out Try.underlying23 rfl HIX.out ?_)
          | (refine wpList_build_hash1 rfl (.tmp 31) rfl x HXL.out rfl ?_; intro w3 hr3 hb3 _ _; refine wpList_append_hashes rfl (.tmp 27) (.tmp 32) rfl w2.heap.size _ P rfl (HOWN.out.kept hb3) _ 1 1 1 [x] rfl hr3 rfl (by omega) (by have := HPL2.out; omega) (by have := hb3.size; omega) ?_; intro v4 w4 hown4 hb4 hv4))
        obtain ⟨gp, cp, rfl⟩ := hv4
        have hb : Below w2.heap.size wr w4 := (hb3.mono hB).trans hb4
        have HO4 := Lib.hid hown4
        have HB4 := Lib.hid (HBEL.out.trans (hb.mono (by have := hg; omega)))
        have HR4 := Lib.hid (HROW.out.keptB hb hgB)
        have HS4 := Lib.hid (Nat.le_trans hB hb.size)
        clear hown4 hb4 hb3 hr3 hb
        go_wp2_with fail
        refine (HUP.out _ HR4.out).mono ?_
        rintro e w5 ⟨rfl, hrow5, hbut5⟩
        have HR5 := Lib.hid hrow5
        have HO5 := Lib.hid (HO4.out.butKept hbut5 hgB)
        have HB5 := Lib.hid (below_but HB4.out hbut5 hg (by have := HS4.out; omega))
        have HS5 := Lib.hid (Nat.le_trans HS4.out hbut5.size)
        clear hrow5 hbut5
        go_wp2_with fail
        go_roundw
        case rel => exact ⟨upF M, P ++ [x], q, r, rfl, by go_num, HUL.out, hrq, hqn, HR5.out, HO5.out, by have h2 := HSTEP.out; rw [HX.out] at h2; exact h2, HS5.out, HB5.out⟩
        case measure =>
          simp [sliceLen]
          omega
      · have hji : ¬ (j : Int) < (m : Int) := by omega
        have HX := Lib.hid (show M[j]? = none from List.getElem?_eq_none (by rw [HM.out]; omega))
        have HO4 := HOWN
        have HB4 := HBEL
        have HR4 := HROW
        have HS4 := Lib.hid hB
        go_wp2_with (go_at_call 41; refine (HOT.out _).mono ?_; rintro e w' ⟨rfl, rfl⟩)
        refine (HUP.out _ HR4.out).mono ?_
        rintro e w5 ⟨rfl, hrow5, hbut5⟩
        have HR5 := Lib.hid hrow5
        have HO5 := Lib.hid (HO4.out.butKept hbut5 hgB)
        have HB5 := Lib.hid (below_but HB4.out hbut5 hg (by have := HS4.out; omega))
        have HS5 := Lib.hid (Nat.le_trans HS4.out hbut5.size)
        clear hrow5 hbut5
        go_wp2_with fail
        go_roundw
        case rel => exact ⟨upF M, P, q, r, rfl, by go_num, HUL.out, hrq, hqn, HR5.out, HO5.out, by have h2 := HSTEP.out; rw [HX.out] at h2; simpa using h2, HS5.out, HB5.out⟩
        case measure =>
          simp [sliceLen]
          omega
    · obtain rfl : m = 1 := by omega
      have HPF := Lib.hid (show P = proofA A i0 by rw [← HPR.out, proofA_one M i (by rw [HM.out]; exact Nat.le_refl _), List.append_nil])
      go_wp2_with fail
      go_ret2
      exact ⟨_, w2.heap.size, rfl, by omega, by rw [← HPF.out]; exact HOWN.out, HBEL.out⟩
end Go.Proofs.Ytlalipomphgcoaa.Tree
