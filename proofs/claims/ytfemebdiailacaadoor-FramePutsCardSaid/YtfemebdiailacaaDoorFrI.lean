/- frame: FrameTorn. -/
import Derived.Test.YtfemebdiailacaaDoorFrH
import Derived.Test.YtfemebdiailacaaDoorShelf
namespace Go.Proofs.YtfemebdiailacaaDoor.Frame
open Go.RowKit Go.Proofs.YtfemebdiailacaaDoor.Gr

theorem repeat_zero (c : Nat) : Lib.repeatL [0] c = List.replicate c (0 : UInt8) := by
  induction c with
  | zero => rfl
  | succ c ih => simp_all [Lib.repeatL, List.replicate_succ]
theorem torn_shape (F m : List UInt8) (k z : Nat) (hk : k < F.length) (h : m = [] ∨ F.length ≤ k + z) (i : Nat) (hi : i < F.length) (ht : i < (F.take k ++ (List.replicate z 0 ++ m)).length) :
    (F.take k ++ (List.replicate z 0 ++ m)).getD i 0 = if i < k then F.getD i 0 else 0 := by
  have htk : (F.take k).length = k := by rw [List.length_take]; omega
  by_cases hik : i < k
  · rw [if_pos hik, List.getD, List.getElem?_append_left (by omega), List.getElem?_take, if_pos hik]
    rfl
  · rw [if_neg hik, List.getD, List.getElem?_append_right (by omega), htk]
    by_cases hz : i - k < z
    · rw [List.getElem?_append_left (by simpa using hz), List.getElem?_replicate, if_pos hz]
      rfl
    · rcases h with rfl | h
      · rw [List.append_nil, List.length_append, htk, List.length_replicate] at ht
        omega
      · omega
theorem torn_none (l m : List UInt8) (k z : Nat) (hl : l.length ≤ 65536) (hk : k < l.length + 9) (h : m = [] ∨ l.length + 9 ≤ k + z) :
    scanL 1 ((frameL l).take k ++ (List.replicate z 0 ++ m)) = ([], 0) :=
  scanL_none 1 (take_torn l _ k hl hk fun i hi ht => torn_shape (frameL l) m k z (by rw [frameL_len]; exact hk) (by rw [frameL_len]; exact h) i (by rw [frameL_len]; exact hi) ht)

set_option maxHeartbeats 400000 in
theorem rep_any (c : Nat) (w : World) (hc : c ≤ 100000) :
    Calls Tryd.prog 11 #[.string ⟨#[0]⟩, .int .i64 c] w fun e w' => e = .returned (.string (bs (List.replicate c 0))) ∧ Below w.heap.size w w' := by
  have h := Tryd.strings_Repeat ⟨#[0]⟩ c w (by omega) (by show 1 * c ≤ _; omega)
  rw [show (⟨#[0]⟩ : ByteArray).data.toList = [0] from rfl, repeat_zero] at h
  exact h

theorem ext_take (F : List UInt8) (k : Nat) : (bs F).extract 0 k = bs (F.take k) := by
  rw [ext_bs]
  rfl

def NoText (w : World) (e : Ending) (w' : World) : Prop := ∃ a cap, e = .returned (.tuple #[.slice a 0 cap, .int .i64 0]) ∧ Below w.heap.size w w'
theorem scan_nothing (x : ByteArray) (l m : List UInt8) (k z : Nat) (w : World) (hx : x.data.toList = (frameL l).take k ++ (List.replicate z 0 ++ m)) (hs : x.size ≤ 1099511627) (ht : Tab w)
    (hl : l.length ≤ 65536) (hk : k < l.length + 9) (h : m = [] ∨ l.length + 9 ≤ k + z) : Calls Tryd.prog 12 #[.string x, .int .i64 1] w (NoText w) :=
  (code_Scan x 1 w hs ht).mono fun e w' ⟨v, he, hat, hb⟩ => by
    rw [hx, show (1 : Int).toNat = 1 from rfl, torn_none l m k z hl hk h] at he hat
    obtain ⟨a, cap, rfl, _⟩ := hat.form
    exact ⟨a, cap, he, hb⟩

set_option maxRecDepth 100000 in
set_option maxHeartbeats 1600000 in
theorem torn_any (s : ByteArray) (keep noughts : Int) (more : ByteArray) (w : World) (hs : s.size ≤ maxLen) (hm : more.size ≤ maxLen) (ht : Tab w) :
    Calls Tryd.prog 7 #[.string s, .int .i64 keep, .int .i64 noughts, .string more] w fun e w' => e = .returned (.bool true) ∧ Below w.heap.size w w' := by
  have HW := Lib.hid (fun (W : World) (hW : Below w.heap.size w W) => works_any W (ht.kept hW))
  unfold maxLen at hs hm
  by_cases hbig : 16384 < s.size
  · go_enter Tryd.func7, Tryd.ntmps7
    go_wp2_with (go_at_call 13; refine (HW.out _ (Below.refl _ _)).mono ?_; rintro e w1 ⟨rfl, hb1⟩)
    go_ret
    exact ⟨rfl, by assumption⟩
  by_cases hbig2 : 16384 < more.size
  · go_enter Tryd.func7, Tryd.ntmps7
    go_wp2_with (go_at_call 13; refine (HW.out _ (Below.refl _ _)).mono ?_; rintro e w1 ⟨rfl, hb1⟩)
    go_ret
    exact ⟨rfl, by assumption⟩
  have HP := Lib.hid (code_Put_ok s w (by omega) ht)
  have HSC := Lib.hid (fun (x : ByteArray) (h : x.size ≤ 1099511627) (W : World) (hW : Below w.heap.size w W) => code_Scan x 1 W h (ht.kept hW))
  obtain ⟨l, hl⟩ : ∃ l, s.data.toList = l := ⟨_, rfl⟩
  have hll : l.length = s.size := by rw [← hl]; exact len_data s
  rw [hl] at HP
  have hfz : (bs (frameL l)).size = s.size + 9 := by rw [bs_size, frameL_len, hll]
  clear hl
  by_cases hk0 : keep < 0
  · generalize bs (frameL l) = F at *
    go_enter Tryd.func7, Tryd.ntmps7
    go_wp2_with (first
      | (go_at_call 9; refine HP.out.mono ?_; rintro e w1 ⟨rfl, hb1⟩; have HB1 := Lib.hid hb1; clear hb1)
      | (go_at_call 13; refine (HW.out _ HB1.out).mono ?_; rintro e w2 ⟨rfl, hb2⟩))
    go_ret
    exact ⟨rfl, HB1.out.trans (hb2.mono HB1.out.size)⟩
  by_cases hk1 : (s.size : Int) + 9 ≤ keep
  · generalize bs (frameL l) = F at *
    go_enter Tryd.func7, Tryd.ntmps7
    go_wp2_with (first
      | (go_at_call 9; refine HP.out.mono ?_; rintro e w1 ⟨rfl, hb1⟩; have HB1 := Lib.hid hb1; clear hb1)
      | (go_at_call 13; refine (HW.out _ HB1.out).mono ?_; rintro e w2 ⟨rfl, hb2⟩))
    go_ret
    exact ⟨rfl, HB1.out.trans (hb2.mono HB1.out.size)⟩
  obtain ⟨k, rfl⟩ : ∃ k : Nat, keep = k := ⟨keep.toNat, by omega⟩
  have hkl : k < l.length + 9 := by omega
  obtain ⟨A, hA⟩ : ∃ A, (bs (frameL l)).extract 0 k = A := ⟨_, rfl⟩
  have hAl : A.data.toList = (frameL l).take k := by rw [← hA, ext_take]
  have hAz : A.size = k := by rw [← len_data, hAl, List.length_take, frameL_len]; omega
  by_cases hz : 0 ≤ noughts ∧ noughts < (s.size : Int) + 9 - k
  · obtain ⟨hz0, hz1⟩ := hz
    obtain ⟨z, rfl⟩ : ∃ z : Nat, noughts = z := ⟨noughts.toNat, by omega⟩
    have hRz : (bs (List.replicate z 0)).size = z := by rw [bs_size, List.length_replicate]
    have HSX := Lib.hid (fun (W : World) (hW : Below w.heap.size w W) => scan_nothing (A ++ bs (List.replicate z 0)) l [] k z W (by rw [ByteArray.data_append, Array.toList_append, hAl, List.append_nil]) (by rw [ByteArray.size_append, hAz, hRz]; omega) (ht.kept hW) (by omega) hkl (Or.inl rfl))
    have HRP := Lib.hid (fun W => rep_any z W (by omega))
    have hov : ¬ 9223372036854775807 < k + z := by omega
    generalize bs (List.replicate z 0) = R at *
    generalize bs (frameL l) = F at *
    clear hAl HSC ht hkl hll
    go_enter Tryd.func7, Tryd.ntmps7
    go_wp2_with (first
      | (go_at_call 9; refine HP.out.mono ?_; rintro e w1 ⟨rfl, hb1⟩; have HB1 := Lib.hid hb1; clear hb1)
      | fail)
    refine (HRP.out _).mono ?_
    rintro e w2 ⟨rfl, hb2⟩
    have HB2 := Lib.hid (HB1.out.trans (hb2.mono HB1.out.size))
    clear hb2
    go_wp2_with fail
    refine (HSX.out _ HB2.out).mono ?_
    rintro e w3 ⟨a3, c3, rfl, hb3⟩
    have HB3 := Lib.hid (HB2.out.trans (hb3.mono HB2.out.size))
    clear hb3
    go_wp2_with (go_at_call 13; refine (HW.out _ HB3.out).mono ?_; rintro e w4 ⟨rfl, hb4⟩)
    go_ret
    exact ⟨rfl, HB3.out.trans (hb4.mono HB3.out.size)⟩
  · obtain ⟨z, hzz⟩ : ∃ z : Nat, (s.size : Int) + 9 - k = z := ⟨s.size + 9 - k, by omega⟩
    have hRz : (bs (List.replicate z 0)).size = z := by rw [bs_size, List.length_replicate]
    have HSX := Lib.hid (fun (W : World) (hW : Below w.heap.size w W) => scan_nothing (A ++ (bs (List.replicate z 0) ++ more)) l more.data.toList k z W (by rw [ByteArray.data_append, Array.toList_append, hAl, ByteArray.data_append, Array.toList_append]) (by rw [ByteArray.size_append, ByteArray.size_append, hAz, hRz]; omega) (ht.kept hW) (by omega) hkl (Or.inr (by omega)))
    have HRP := Lib.hid (fun W => rep_any z W (by omega))
    have hov1 : ¬ 9223372036854775807 < z + more.size := by omega
    have hov2 : ¬ 9223372036854775807 < k + (z + more.size) := by omega
    have hnz : ¬ (0 ≤ noughts ∧ noughts < (z : Int)) := by omega
    generalize bs (List.replicate z 0) = R at *
    generalize bs (frameL l) = F at *
    clear hAl HSC ht hkl hll hz
    by_cases hn0 : 0 ≤ noughts
    · have hn1 : (z : Int) ≤ noughts := by omega
      clear hnz
      go_enter Tryd.func7, Tryd.ntmps7
      go_wp2_with (first
        | (go_at_call 9; refine HP.out.mono ?_; rintro e w1 ⟨rfl, hb1⟩; have HB1 := Lib.hid hb1; clear hb1)
        | fail)
      refine (HRP.out _).mono ?_
      rintro e w2 ⟨rfl, hb2⟩
      have HB2 := Lib.hid (HB1.out.trans (hb2.mono HB1.out.size))
      clear hb2
      go_wp2_with fail
      refine (HSX.out _ HB2.out).mono ?_
      rintro e w3 ⟨a3, c3, rfl, hb3⟩
      have HB3 := Lib.hid (HB2.out.trans (hb3.mono HB2.out.size))
      clear hb3
      go_wp2_with (go_at_call 13; refine (HW.out _ HB3.out).mono ?_; rintro e w4 ⟨rfl, hb4⟩)
      go_ret
      exact ⟨rfl, HB3.out.trans (hb4.mono HB3.out.size)⟩
    · clear hnz
      go_enter Tryd.func7, Tryd.ntmps7
      go_wp2_with (first
        | (go_at_call 9; refine HP.out.mono ?_; rintro e w1 ⟨rfl, hb1⟩; have HB1 := Lib.hid hb1; clear hb1)
        | fail)
      refine (HRP.out _).mono ?_
      rintro e w2 ⟨rfl, hb2⟩
      have HB2 := Lib.hid (HB1.out.trans (hb2.mono HB1.out.size))
      clear hb2
      go_wp2_with fail
      refine (HSX.out _ HB2.out).mono ?_
      rintro e w3 ⟨a3, c3, rfl, hb3⟩
      have HB3 := Lib.hid (HB2.out.trans (hb3.mono HB2.out.size))
      clear hb3
      go_wp2_with (go_at_call 13; refine (HW.out _ HB3.out).mono ?_; rintro e w4 ⟨rfl, hb4⟩)
      go_ret
      exact ⟨rfl, HB3.out.trans (hb4.mono HB3.out.size)⟩
end Go.Proofs.YtfemebdiailacaaDoor.Frame
