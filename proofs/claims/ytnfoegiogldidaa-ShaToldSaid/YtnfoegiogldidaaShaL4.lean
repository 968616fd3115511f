/- ShaTold. -/
import Derived.Test.YtnfoegiogldidaaShaTe
namespace Go.Proofs.Ytnfoegiogldidaa.Sha
open Go.RowKit

/-- What the laws count of texts. -/
def totN (l : List ByteArray) : Nat := (l.map fun s => min s.size 16384 + 1).sum
theorem totN_snoc (l : List ByteArray) (s : ByteArray) : totN (l ++ [s]) = totN l + (min s.size 16384 + 1) := by simp [totN]
theorem totN_take (l : List ByteArray) (k : Nat) (s : ByteArray) (h : l[k]? = some s) : totN (l.take (k + 1)) = totN (l.take k) + (min s.size 16384 + 1) := by
  rw [List.take_add_one, h]
  exact totN_snoc _ _
theorem totN_small (l : List ByteArray) (h : totN l ≤ 16384) : l.length ≤ 16384 ∧ ∀ s ∈ l, s.size < 16384 := by
  induction l with
  | nil => simp
  | cons a l ih =>
    have e : totN (a :: l) = (min a.size 16384 + 1) + totN l := by simp [totN]
    rw [e] at h
    have hi := ih (by omega)
    have hl : l.length + 1 ≤ totN l + 1 := by
      clear ih hi h e
      induction l with
      | nil => simp [totN]
      | cons b l ih2 =>
        have e2 : totN (b :: l) = (min b.size 16384 + 1) + totN l := by simp [totN]
        rw [e2, List.length_cons]
        omega
    refine ⟨by rw [List.length_cons]; omega, ?_⟩
    intro s hs
    rcases List.mem_cons.1 hs with rfl | hs
    · omega
    · exact hi.2 s hs
theorem putText_len (l : List UInt8) : (Digit.putTextL l).length ≤ l.length + 10 := by
  have := Digit.putL_len l.length
  rw [Digit.putTextL, List.length_append]
  omega
theorem flat_len (l : List ByteArray) (h : ∀ s ∈ l, s.size < 16384) : (l.flatMap fun s => Digit.putTextL s.data.toList).length ≤ 11 * totN l := by
  induction l with
  | nil => simp
  | cons a l ih =>
    have e : totN (a :: l) = (min a.size 16384 + 1) + totN l := by simp [totN]
    have h1 := putText_len a.data.toList
    have h2 : a.data.toList.length = a.size := by rw [Array.length_toList]; rfl
    have h3 := h a (by simp)
    have h4 := ih fun s hs => h s (by simp [hs])
    rw [e, List.flatMap_cons, List.length_append]
    omega
theorem rowL_len (tag : ByteArray) (Q : List ByteArray) (ht : tag.size ≤ 16384) (h : totN Q ≤ 16384) : (rowL tag Q).length ≤ 200000 := by
  have h1 := putText_len tag.data.toList
  have h2 : tag.data.toList.length = tag.size := by rw [Array.length_toList]; rfl
  have h3 := flat_len Q (totN_small Q h).2
  unfold rowL
  rw [List.length_append]
  omega

theorem told_snoc (tag : ByteArray) (Q : List ByteArray) (k : Nat) (s : ByteArray) (h : Q[k]? = some s) :
    (ByteArray.mk (rowL tag (Q.take k)).toArray) ++ ⟨(Digit.putTextL s.data.toList).toArray⟩ = ⟨(rowL tag (Q.take (k + 1))).toArray⟩ := by
  rw [List.take_add_one, h]
  apply Digit.bytes_eq
  rw [ByteArray.data_append, Array.toList_append]
  exact (rowL_snoc tag (Q.take k) s).symm

/-- What is left of the told texts behind k of them. -/
def restL (Q : List ByteArray) (k : Nat) : List UInt8 := (Q.drop k).flatMap fun s => Digit.putTextL s.data.toList
theorem restL_at (Q : List ByteArray) (k : Nat) (s : ByteArray) (h : Q[k]? = some s) : restL Q k = Digit.putTextL s.data.toList ++ restL Q (k + 1) := by
  obtain ⟨hk, rfl⟩ := List.getElem?_eq_some_iff.1 h
  unfold restL
  rw [List.drop_eq_getElem_cons hk, List.flatMap_cons]
theorem rowL_rest (tag : ByteArray) (Q : List ByteArray) : rowL tag Q = Digit.putTextL tag.data.toList ++ restL Q 0 := rfl
theorem restL_len (Q : List ByteArray) (k : Nat) (h : totN Q ≤ 16384) : (restL Q k).length ≤ 200000 := by
  have h3 := flat_len Q (totN_small Q h).2
  have e : (Q.flatMap fun s => Digit.putTextL s.data.toList) = ((Q.take k).flatMap fun s => Digit.putTextL s.data.toList) ++ restL Q k := by
    unfold restL
    rw [← List.flatMap_append, List.take_append_drop]
  rw [e, List.length_append] at h3
  omega

set_option maxRecDepth 100000 in
set_option maxHeartbeats 3200000 in
theorem law_ShaTold (a0 : ByteArray) (v1 : Value) (a1 : List ByteArray) (w : World) (w0 : a0.size ≤ maxLen) (w1 : Texts w v1 a1) (x1 : ∀ s ∈ a1, s.size ≤ maxLen) (y1 : a1.length ≤ maxLen) :
    Calls Try.prog 9 #[.string a0, v1] w fun e w' => e = .returned (.bool true) ∧ Below w.heap.size w w' := by
  have HTX := Lib.hid w1
  obtain ⟨a, n, cap, hv, hn, hcells⟩ : ∃ a n cap, v1 = .slice a n cap ∧ a1.length = n ∧ ∀ (i : Nat) (s : ByteArray), a1[i]? = some s → ∃ g o, a = some ⟨g, o, none⟩ ∧ w.cell? ⟨g, o + i, none⟩ = some (.string s) := by
    rcases w1 with ⟨a, cap, rfl, rfl⟩ | ⟨g, o, cap, rfl, _, hc⟩
    · exact ⟨a, 0, cap, rfl, rfl, fun i s h => by simp at h⟩
    · exact ⟨_, _, cap, rfl, rfl, fun i s h => ⟨g, o, rfl, hc i s h⟩⟩
  subst hv
  have HC := Lib.hid hcells
  have HN := Lib.hid hn
  have HX := Lib.hid x1
  have hnm : n ≤ 9223372036854775807 := by unfold maxLen at y1; omega
  have h0m : a0.size ≤ 9223372036854775807 := w0
  clear hcells hn x1 y1 w0 w1
  go_enter Try.func9, Try.ntmps9
  go_wp2_with fail
  go_loop [5, 21] (fun t i => ∃ k : Nat, k ≤ n ∧ i = .int .i64 k ∧ t = .int .i64 (totN (a1.take k)) ∧ totN (a1.take k) ≤ 16384) (fun _ i => n - (intOf i).toNat)
  case atStart => exact ⟨0, by omega, rfl, rfl, by simp [totN]⟩
  case round =>
    obtain ⟨k, hk, rfl, rfl, htot⟩ := hrel
    by_cases hlt : k < n
    · obtain ⟨s, hs⟩ : ∃ s, a1[k]? = some s := ⟨a1[k]'(by rw [HN.out]; exact hlt), List.getElem?_eq_getElem _⟩
      obtain ⟨g, o, rfl, hcell⟩ := HC.out k s hs
      have hsm : s.size ≤ 9223372036854775807 := HX.out s (List.mem_of_getElem? hs)
      have HT := Lib.hid (totN_take a1 k s hs)
      obtain ⟨m, hm⟩ : ∃ m, min s.size 16384 = m := ⟨_, rfl⟩
      have hmin : min (s.size : Int) 16384 = (m : Int) := by omega
      have hm2 : m ≤ 16384 := by omega
      rw [hm] at HT
      obtain ⟨T, hT⟩ : ∃ T, totN (a1.take k) = T := ⟨_, rfl⟩
      rw [hT] at HT htot
      rw [hT]
      have hk0 : (0 : Int) ≤ (k : Int) := by omega
      have hkn : (k : Int) < (n : Int) := by omega
      clear hs hm hT
      by_cases hover : 16384 < T + (m + 1)
      · go_wp2_with (go_at_call 12; refine (works_any _).mono ?_; rintro e w' ⟨rfl, hb⟩)
        go_ret
        exact ⟨rfl, by assumption⟩
      · have hle : T + (m + 1) ≤ 16384 := by omega
        clear hover
        go_wp2_with fail
        go_round
        case rel => exact ⟨k + 1, by omega, by go_num, by rw [HT.out]; go_num, by rw [HT.out]; exact hle⟩
        case measure => simp [intOf]; omega
    · obtain rfl : n = k := by omega
      rw [List.take_of_length_le (Nat.le_of_eq HN.out)] at htot
      by_cases hbig : 16384 < a0.size
      · go_wp2_with (go_at_call 12; refine (works_any _).mono ?_; rintro e w' ⟨rfl, hb⟩)
        go_ret
        exact ⟨rfl, by assumption⟩
      · have h16 : a0.size ≤ 16384 := by omega
        clear hbig
        have HTOT := Lib.hid htot
        clear htot
        go_wp2_with fail
        refine (told_any a0 (by omega) _).mono ?_
        rintro e w2 ⟨rfl, hb2⟩
        have HB2 := Lib.hid hb2
        clear hb2
        go_wp2_with fail
        clear hk hlt
        have hrow0 : ByteArray.mk (Digit.putTextL a0.data.toList).toArray = ⟨(rowL a0 (a1.take 0)).toArray⟩ := by
          rw [List.take_zero]
          simp [rowL]
        have HRL := Lib.hid (rowL_len a0 a1 h16 HTOT.out)
        have HSM := Lib.hid (totN_small a1 HTOT.out)
        rw [hrow0]
        clear hrow0
        go_loopw [8, 43] (fun al i wr => ∃ k : Nat, k ≤ n ∧ i = .int .i64 k ∧ al = .string ⟨(rowL a0 (a1.take k)).toArray⟩ ∧ Below w.heap.size w wr) (fun _ i _ => n - (intOf i).toNat)
        case atStart => exact ⟨0, by omega, rfl, rfl, HB2.out⟩
        case round =>
          obtain ⟨k, hk, rfl, rfl, hbel⟩ := hrel
          have HB := Lib.hid hbel
          clear hbel
          by_cases hlt : k < n
          · obtain ⟨s, hs⟩ : ∃ s, a1[k]? = some s := ⟨a1[k]'(by rw [HN.out]; exact hlt), List.getElem?_eq_getElem _⟩
            obtain ⟨g, o, rfl, hcell⟩ := HC.out k s hs
            have hcs : wr.cell? ⟨g, o + k, none⟩ = some (.string s) := by
              rw [HB.out.cell (World.block_lt_of_cell? _ _ hcell)]
              exact hcell
            have hsm := HSM.out.2 s (List.mem_of_getElem? hs)
            have HT := Lib.hid (told_snoc a0 a1 k s hs)
            have HPT := Lib.hid (fun w => told_any s (by omega) w)
            have hrl := Nat.le_trans (rowL_le a0 a1 k) HRL.out
            obtain ⟨A, hA⟩ : ∃ A : ByteArray, (⟨(rowL a0 (a1.take k)).toArray⟩ : ByteArray) = A := ⟨_, rfl⟩
            obtain ⟨D, hD⟩ : ∃ A : ByteArray, (⟨(Digit.putTextL s.data.toList).toArray⟩ : ByteArray) = A := ⟨_, rfl⟩
            have hAs : A.size ≤ 200000 := by rw [← hA, size_mk]; exact hrl
            have hDs : D.size ≤ 200000 := by
              rw [← hD, size_mk]
              have h1 := putText_len s.data.toList
              have h2 : s.data.toList.length = s.size := by rw [Array.length_toList]; rfl
              omega
            rw [hA, hD] at HT
            rw [hD] at HPT
            rw [hA]
            have hk0 : (0 : Int) ≤ (k : Int) := by omega
            have hkn : (k : Int) < (n : Int) := by omega
            clear hs hcell hrl hA hD
            go_wp2_with fail
            refine (HPT.out _).mono ?_
            rintro e w3 ⟨rfl, hb3⟩
            have HB3 := Lib.hid (HB.out.trans (hb3.mono HB.out.size))
            clear hb3
            go_wp2_with fail
            go_roundw
            case rel =>
              (repeat apply Exists.intro)
              exact ⟨⟨k + 1, by omega, by go_num, by rw [HT.out], HB3.out⟩, rfl⟩
            case measure => simp [intOf]; omega
          · obtain rfl : n = k := by omega
            rw [List.take_of_length_le (Nat.le_of_eq HN.out)]
            have HOF := Lib.hid (code_of a0 (.slice a n cap) a1 wr (HTX.out.kept HB.out) (by omega) (fun s hs => by have := HSM.out.2 s hs; omega) (by have := HRL.out; omega) (by have := HN.out; have := HSM.out.1; omega))
            have HSU := Lib.hid (fun w => code_sum ⟨(rowL a0 a1).toArray⟩ (by rw [size_mk]; have := HRL.out; omega) w)
            have HE := fun w => eqIn_hash (shaS ⟨(rowL a0 a1).toArray⟩) (shaS ⟨(rowL a0 a1).toArray⟩) rfl rfl w
            rw [show (shaS ⟨(rowL a0 a1).toArray⟩ == shaS ⟨(rowL a0 a1).toArray⟩) = true by simp] at HE
            have HUN := Lib.hid (fun w => untold_any ⟨(rowL a0 a1).toArray⟩ a0.data.toList (restL a1 0) (rowL_rest a0 a1) (by rw [size_mk]; have := HRL.out; omega) (by rw [Array.length_toList]; exact h16) w)
            obtain ⟨A, hA⟩ : ∃ A : ByteArray, (⟨(rowL a0 a1).toArray⟩ : ByteArray) = A := ⟨_, rfl⟩
            rw [hA] at HOF HSU HE HUN
            rw [hA]
            obtain ⟨C, hC⟩ : ∃ C, (valsB (shaS A)).toArray = C := ⟨_, rfl⟩
            rw [hC] at HOF HSU HE
            clear hA hC hlt hk
            go_wp2_with fail
            refine HOF.out.mono ?_
            rintro e w3 ⟨rfl, hb3⟩
            have HB3 := Lib.hid (HB.out.trans (hb3.mono HB.out.size))
            clear hb3
            go_wp2_with fail
            refine (HSU.out _).mono ?_
            rintro e w4 ⟨rfl, hb4⟩
            have HB4 := Lib.hid (HB3.out.trans (hb4.mono HB3.out.size))
            clear hb4
            go_wp2_with fail
            refine (HUN.out _).mono ?_
            rintro e w5 ⟨rfl, hb5⟩
            have HB5 := Lib.hid (HB4.out.trans (hb5.mono HB4.out.size))
            clear hb5
            rw [show (ByteArray.mk a0.data.toList.toArray) = a0 from rfl]
            have haa : (a0.toList == a0.toList) = true := by simp
            go_wp2_with fail
            go_loopw [12, 73] (fun re i wr => ∃ k : Nat, k ≤ n ∧ i = .int .i64 k ∧ re = .string ⟨(restL a1 k).toArray⟩ ∧ Below w.heap.size w wr) (fun _ i _ => n - (intOf i).toNat)
            case atStart => exact ⟨0, by omega, rfl, rfl, HB5.out⟩
            case round =>
              obtain ⟨k, hk, rfl, rfl, hbel⟩ := hrel
              have HBK := Lib.hid hbel
              clear hbel
              by_cases hlt : k < n
              · obtain ⟨s, hs⟩ : ∃ s, a1[k]? = some s := ⟨a1[k]'(by rw [HN.out]; exact hlt), List.getElem?_eq_getElem _⟩
                obtain ⟨g, o, rfl, hcell⟩ := HC.out k s hs
                have hcs : wr.cell? ⟨g, o + k, none⟩ = some (.string s) := by
                  rw [HBK.out.cell (World.block_lt_of_cell? _ _ hcell)]
                  exact hcell
                have hsm := HSM.out.2 s (List.mem_of_getElem? hs)
                have HUK := Lib.hid (fun w => untold_any ⟨(restL a1 k).toArray⟩ s.data.toList (restL a1 (k + 1)) (restL_at a1 k s hs) (by rw [size_mk]; have := restL_len a1 k HTOT.out; omega) (by rw [Array.length_toList]; exact Nat.le_of_lt hsm) w)
                obtain ⟨R, hR⟩ : ∃ A : ByteArray, (⟨(restL a1 k).toArray⟩ : ByteArray) = A := ⟨_, rfl⟩
                rw [hR] at HUK
                rw [hR]
                have hss : (s.toList == s.toList) = true := by simp
                have hk0 : (0 : Int) ≤ (k : Int) := by omega
                have hkn : (k : Int) < (n : Int) := by omega
                clear hs hcell hR hsm
                go_wp2_with fail
                refine (HUK.out _).mono ?_
                rintro e w6 ⟨rfl, hb6⟩
                have HB6 := Lib.hid (HBK.out.trans (hb6.mono HBK.out.size))
                clear hb6
                rw [show (ByteArray.mk s.data.toList.toArray) = s from rfl]
                go_wp2_with fail
                go_roundw
                case rel => first
                  | exact ⟨k + 1, by omega, by go_num, rfl, HB6.out⟩
                  | ((repeat apply Exists.intro)
                     exact ⟨⟨k + 1, by omega, by go_num, rfl, HB6.out⟩, rfl⟩)
                case measure => simp [intOf]; omega
              · obtain rfl : n = k := by omega
                have hnil : restL a1 n = [] := by
                  unfold restL
                  rw [List.drop_eq_nil_of_le (Nat.le_of_eq HN.out)]
                  rfl
                rw [hnil]
                clear hnil hlt hk
                go_wp2_with (go_at_call 12; refine (works_any _).mono ?_; rintro e w7 ⟨rfl, hb7⟩; have HB7 := Lib.hid hb7; clear hb7)
                go_ret
                exact ⟨rfl, HBK.out.trans (HB7.out.mono HBK.out.size)⟩

end Go.Proofs.Ytnfoegiogldidaa.Sha
