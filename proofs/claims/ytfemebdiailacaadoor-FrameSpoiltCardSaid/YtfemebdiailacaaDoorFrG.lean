/- frame: slices.Equal on equal lists; the statements' works; FramePuts, FrameTakes. -/
import Derived.Test.YtfemebdiailacaaDoorFrF
namespace Go.Proofs.YtfemebdiailacaaDoor.Frame
open Go.RowKit Go.Proofs.YtfemebdiailacaaDoor.Gr

theorem scan_room (m : Nat) : ∀ l : List UInt8, (scanL m l).1.length ≤ (scanL m l).2 := by
  induction m with
  | zero => intro l; simp [scanL]
  | succ m ih =>
    intro l
    rw [scanL]
    split
    · rename_i h
      have h1 := ((takeL_size l).2 h).1
      have h2 := ih (l.drop (takeL l).2.1)
      show (_ :: (scanL m (l.drop (takeL l).2.1)).1).length ≤ (takeL l).2.1 + (scanL m (l.drop (takeL l).2.1)).2
      rw [List.length_cons]
      omega
    · simp
theorem below_drewN {B : Nat} {a w : World} (h : Below B a w) (n : Nat) : Below B a (w.drewN n) := ⟨h.os, h.tape, h.output, h.size, h.block⟩
theorem beq_self_toList (s : ByteArray) : (s.toList == s.toList) = true := by simp

set_option maxHeartbeats 800000 in
theorem equal_any (v1 v2 : Value) (Ps : List ByteArray) (w : World) (h1 : KT.At w v1 Ps) (h2 : KT.At w v2 Ps) (hl : Ps.length ≤ 9223372036854775807) :
    Calls Tryd.prog 15 #[v1, v2] w fun e w' => e = .returned (.bool true) ∧ Below w.heap.size w w' := by
  obtain ⟨a1, c1, n, hn, rfl, hc1⟩ : ∃ a cap n, Ps.length = n ∧ v1 = .slice a n cap ∧ ∀ (i : Nat) (s : ByteArray), Ps[i]? = some s → ∃ g o, a = some ⟨g, o, none⟩ ∧ w.cell? ⟨g, o + i, none⟩ = some (.string s) := by
    rcases h1 with ⟨a, cap, rfl, rfl⟩ | ⟨g, o, cap, rfl, _, _, hc⟩
    · exact ⟨a, cap, 0, rfl, rfl, fun i s h => by simp at h⟩
    · exact ⟨_, cap, _, rfl, rfl, fun i s h => ⟨g, o, rfl, text_cell hc h⟩⟩
  obtain ⟨a2, c2, rfl, hc2⟩ : ∃ a cap, v2 = .slice a n cap ∧ ∀ (i : Nat) (s : ByteArray), Ps[i]? = some s → ∃ g o, a = some ⟨g, o, none⟩ ∧ w.cell? ⟨g, o + i, none⟩ = some (.string s) := by
    subst hn
    rcases h2 with ⟨a, cap, rfl, rfl⟩ | ⟨g, o, cap, rfl, _, _, hc⟩
    · exact ⟨a, cap, rfl, fun i s h => by simp at h⟩
    · exact ⟨_, cap, rfl, fun i s h => ⟨g, o, rfl, text_cell hc h⟩⟩
  have HC1 := Lib.hid hc1
  have HC2 := Lib.hid hc2
  have HN := Lib.hid hn
  rw [hn] at hl
  clear hc1 hc2 h1 h2 hn
  go_enter Tryd.func15, Tryd.ntmps15
  go_wp2
  go_loopw [13] (fun i wr => ∃ k : Nat, k ≤ n ∧ i = .int .i64 k ∧ Below w.heap.size w wr) (fun i _ => n - (intOf i).toNat)
  case atStart => exact ⟨0, by omega, rfl, Below.refl _ _⟩
  case round =>
    obtain ⟨k, hk, rfl, hbel⟩ := hrel
    by_cases hlt : k < n
    · obtain ⟨s, hs⟩ : ∃ s, Ps[k]? = some s := ⟨Ps[k]'(by rw [HN.out]; exact hlt), List.getElem?_eq_getElem _⟩
      obtain ⟨g1, o1, rfl, hcell1⟩ := HC1.out k s hs
      obtain ⟨g2, o2, rfl, hcell2⟩ := HC2.out k s hs
      have hd1 : wr.cell? ⟨g1, o1 + k, none⟩ = some (.string s) := by rw [hbel.cell (World.block_lt_of_cell? _ _ hcell1)]; exact hcell1
      have hd2 : wr.cell? ⟨g2, o2 + k, none⟩ = some (.string s) := by rw [hbel.cell (World.block_lt_of_cell? _ _ hcell2)]; exact hcell2
      have HBEL := Lib.hid hbel
      have hss := beq_self_toList s
      clear hcell1 hcell2 hs hbel
      go_wp2_with fail
      go_quiet (fail)
      have HB2 := Lib.hid (below_drewN HBEL.out nq)
      generalize wr.drewN nq = w2 at HB2 ⊢
      go_wp2
      go_roundw
      case rel => exact ⟨k + 1, by omega, by go_num, HB2.out⟩
      case measure => simp [intOf]; omega
    · obtain rfl : k = n := by omega
      go_wp2
      go_ret
      exact ⟨rfl, hbel⟩

abbrev abT : ByteArray := ⟨#[97, 98]⟩
abbrev nineT : ByteArray := ⟨#[49, 50, 51, 52, 53, 54, 55, 56, 57]⟩
theorem check_nine : checkN [49, 50, 51, 52, 53, 54, 55, 56, 57] = 3808858755 := by decide +kernel

set_option maxHeartbeats 800000 in
theorem works_any (w : World) (ht : Tab w) :
    Calls Tryd.prog 13 #[] w fun e w' => e = .returned (.bool true) ∧ Below w.heap.size w w' := by
  have HP := Lib.hid (code_Put_ok abT w (by decide) ht)
  have hsz : (bs (frameL abT.data.toList)).size = 11 := by rw [bs_size, frameL_len]; rfl
  have HTK := Lib.hid (fun (W : World) (hW : Below w.heap.size w W) => code_Take (bs (frameL abT.data.toList) ++ ⟨#[99]⟩) W (by rw [ByteArray.size_append, hsz]; decide) (ht.kept hW))
  have e1 : (bs (frameL abT.data.toList) ++ ⟨#[99]⟩).data.toList = frameL [97, 98] ++ [99] := by
    rw [ByteArray.data_append, Array.toList_append]
  rw [e1, take_frame [97, 98] [99] (by decide)] at HTK
  have HTK2 := Lib.hid (fun (W : World) (hW : Below w.heap.size w W) => (show Calls Tryd.prog 10 #[.string (bs (frameL abT.data.toList) ++ ⟨#[99]⟩)] W fun e w' => e = .returned (.tuple #[.string ⟨#[97, 98]⟩, .int .i64 11, .int .i64 0]) ∧ Below W.heap.size W w' from HTK.out W hW))
  have HCK := Lib.hid (fun (W : World) (hW : Below w.heap.size w W) => code_Check nineT W (by decide) (ht.kept hW))
  have hov : ¬ 9223372036854775807 < 11 + 1 := by omega
  rw [show nineT.data.toList = [49, 50, 51, 52, 53, 54, 55, 56, 57] from rfl, check_nine] at HCK
  clear HTK e1 ht
  generalize bs (frameL abT.data.toList) = F at *
  go_enter Tryd.func13, Tryd.ntmps13
  go_wp2_with (first
    | (go_at_call 9; refine HP.out.mono ?_; rintro e w1 ⟨rfl, hb1⟩; have HB1 := Lib.hid hb1; clear hb1)
    | fail)
  refine (HTK2.out _ HB1.out).mono ?_
  rintro e w2 ⟨rfl, hb2⟩
  have HB2 := Lib.hid (HB1.out.trans (hb2.mono HB1.out.size))
  clear hb2
  go_wp2_with fail
  refine (HCK.out _ HB2.out).mono ?_
  rintro e w3 ⟨rfl, hb3⟩
  have HB3 := Lib.hid (HB2.out.trans (hb3.mono HB2.out.size))
  clear hb3
  go_wp2
  go_ret
  exact ⟨rfl, HB3.out⟩

set_option maxHeartbeats 800000 in
theorem puts_any (s : ByteArray) (w : World) (hs : s.size ≤ maxLen) (ht : Tab w) :
    Calls Tryd.prog 4 #[.string s] w fun e w' => e = .returned (.bool true) ∧ Below w.heap.size w w' := by
  have HW := Lib.hid (fun (W : World) (hW : Below w.heap.size w W) => works_any W (ht.kept hW))
  unfold maxLen at hs
  by_cases hbig : 16384 < s.size
  · go_enter Tryd.func4, Tryd.ntmps4
    go_wp2_with (go_at_call 13; refine (HW.out _ (Below.refl _ _)).mono ?_; rintro e w1 ⟨rfl, hb1⟩)
    go_ret
    exact ⟨rfl, by assumption⟩
  · have HP := Lib.hid (code_Put_ok s w (by omega) ht)
    have HR := Lib.hid (fun W => ref_Put_ok s W (by omega))
    have HCK := Lib.hid (fun (W : World) (hW : Below w.heap.size w W) => code_Check s W (by unfold maxLen; omega) (ht.kept hW))
    have HRK := Lib.hid (fun (W : World) => ref_Check s W (by unfold maxLen; omega))
    generalize bs (frameL s.data.toList) = F at *
    generalize checkN s.data.toList = c at *
    have hff := beq_self_toList F
    clear ht
    go_enter Tryd.func4, Tryd.ntmps4
    go_wp2_with fail
    refine HP.out.mono ?_
    rintro e w1 ⟨rfl, hb1⟩
    have HB1 := Lib.hid hb1
    clear hb1
    go_wp2_with fail
    refine (HR.out _).mono ?_
    rintro e w2 ⟨rfl, hb2⟩
    have HB2 := Lib.hid (HB1.out.trans (hb2.mono HB1.out.size))
    clear hb2
    go_wp2_with fail
    refine (HCK.out _ HB2.out).mono ?_
    rintro e w3 ⟨rfl, hb3⟩
    have HB3 := Lib.hid (HB2.out.trans (hb3.mono HB2.out.size))
    clear hb3
    go_wp2_with fail
    refine (HRK.out _).mono ?_
    rintro e w4 ⟨rfl, hb4⟩
    have HB4 := Lib.hid (HB3.out.trans (hb4.mono HB3.out.size))
    clear hb4
    go_wp2_with fail
    refine (HW.out _ HB4.out).mono ?_
    rintro e w5 ⟨rfl, hb5⟩
    have HB5 := Lib.hid (HB4.out.trans (hb5.mono HB4.out.size))
    clear hb5
    go_wp2
    go_ret
    exact ⟨rfl, HB5.out⟩

set_option maxHeartbeats 800000 in
theorem takes_any (s : ByteArray) (many : Int) (w : World) (hs : s.size ≤ maxLen) (ht : Tab w) :
    Calls Tryd.prog 5 #[.string s, .int .i64 many] w fun e w' => e = .returned (.bool true) ∧ Below w.heap.size w w' := by
  have HW := Lib.hid (fun (W : World) (hW : Below w.heap.size w W) => works_any W (ht.kept hW))
  have HMX := Lib.hid hs
  unfold maxLen at hs
  by_cases hbig : 16384 < s.size
  · go_enter Tryd.func5, Tryd.ntmps5
    go_wp2_with (go_at_call 13; refine (HW.out _ (Below.refl _ _)).mono ?_; rintro e w1 ⟨rfl, hb1⟩)
    go_ret
    exact ⟨rfl, by assumption⟩
  · obtain ⟨t, q, er, htk⟩ : ∃ t q er, takeL s.data.toList = (t, q, er) := ⟨_, _, _, rfl⟩
    have HP := code_Take s w HMX.out ht
    have HR := fun W => ref_Take s W HMX.out
    rw [htk] at HP
    simp only [htk] at HR
    have HP := Lib.hid (show Calls Tryd.prog 10 #[.string s] w fun e w' => e = .returned (.tuple #[.string (bs t), .int .i64 (q : Int), .int .i64 (er : Int)]) ∧ Below w.heap.size w w' from HP)
    have HR := Lib.hid (show ∀ W, Calls Tryd.prog 18 #[.string s] W fun e w' => e = .returned (.tuple #[.string (bs t), .int .i64 (q : Int), .int .i64 (er : Int)]) ∧ Below W.heap.size W w' from HR)
    have HSC := Lib.hid (fun (W : World) (hW : Below w.heap.size w W) => code_Scan s many W (by omega) (ht.kept hW))
    have HRS := Lib.hid (fun (W : World) => ref_Scan s many W (by omega))
    have HSL := Lib.hid (show (tx (scanL many.toNat s.data.toList).1).length ≤ 9223372036854775807 by
      rw [tx_len]
      have h := scan_room many.toNat s.data.toList
      have h2 := scanL_size many.toNat s.data.toList
      rw [len_data] at h2
      omega)
    generalize bs t = F at *
    have hff := beq_self_toList F
    clear ht htk
    go_enter Tryd.func5, Tryd.ntmps5
    go_wp2_with fail
    refine HP.out.mono ?_
    rintro e w1 ⟨rfl, hb1⟩
    have HB1 := Lib.hid hb1
    clear hb1
    go_wp2_with fail
    refine (HR.out _).mono ?_
    rintro e w2 ⟨rfl, hb2⟩
    have HB2 := Lib.hid (HB1.out.trans (hb2.mono HB1.out.size))
    clear hb2
    go_wp2_with fail
    refine (HSC.out _ HB2.out).mono ?_
    rintro e w3 ⟨v3, rfl, hat3, hb3⟩
    have HB3 := Lib.hid (HB2.out.trans (hb3.mono HB2.out.size))
    have HA3 := Lib.hid hat3
    clear hb3 hat3
    go_wp2_with fail
    refine (HRS.out _).mono ?_
    rintro e w4 ⟨v4, rfl, hat4, hb4⟩
    have HA34 := Lib.hid (HA3.out.kept hb4)
    have HA4 := Lib.hid hat4
    have HB4 := Lib.hid (HB3.out.trans (hb4.mono HB3.out.size))
    clear hb4 hat4
    go_wp2_with fail
    refine (equal_any v3 v4 _ w4 HA34.out HA4.out HSL.out).mono ?_
    rintro e w5 ⟨rfl, hb5⟩
    have HB5 := Lib.hid (HB4.out.trans (hb5.mono HB4.out.size))
    clear hb5
    go_wp2_with fail
    refine (HW.out _ HB5.out).mono ?_
    rintro e w6 ⟨rfl, hb6⟩
    have HB6 := Lib.hid (HB5.out.trans (hb6.mono HB5.out.size))
    clear hb6
    go_wp2
    go_ret
    exact ⟨rfl, HB6.out⟩
end Go.Proofs.YtfemebdiailacaaDoor.Frame
