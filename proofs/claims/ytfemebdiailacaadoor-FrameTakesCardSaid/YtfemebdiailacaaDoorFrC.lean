/- frame: the code's Take. -/
import Derived.Test.YtfemebdiailacaaDoorFrB
namespace Go.Proofs.YtfemebdiailacaaDoor.Frame
open Go.RowKit Go.Proofs.YtfemebdiailacaaDoor.Gr

def bkE (a : List UInt8 × Nat × Nat) : Ending := .returned (.tuple #[.string (bs a.1), .int .i64 a.2.1, .int .i64 a.2.2])

theorem valK_0 (s : ByteArray) : valK s 0 4 = valL (s.data.toList.take 4) := rfl
theorem toList_one (x : UInt8) : (bs [x]).toList = [x] := by
  simp [ByteArray.toList, ByteArray.toList.loop, ByteArray.size, ByteArray.get!]
theorem last_ext (s : ByteArray) (n : Nat) (h : n + 9 ≤ s.size) : s.extract (n + 8) (n + 9) = bs [s.data.toList.getD (n + 8) 0] := by
  have hsz : s.size = s.data.toList.length := by rw [Array.length_toList]; rfl
  apply ByteArray.ext
  rw [ByteArray.data_extract]
  apply Array.toList_inj.1
  rw [Array.toList_extract, List.extract_eq_take_drop, show n + 9 - (n + 8) = 1 by omega]
  show _ = [s.data.toList.getD (n + 8) 0]
  rw [List.take_one, List.head?_drop, List.getD]
  have : n + 8 < s.data.toList.length := by omega
  rw [List.getElem?_eq_getElem this]
  rfl
theorem ext_list (s : ByteArray) (i j : Nat) : (s.extract i j).data.toList = (s.data.toList.drop i).take (j - i) := by
  rw [ByteArray.data_extract, Array.toList_extract, List.extract_eq_take_drop]
theorem ext_bs (s : ByteArray) (i j : Nat) : s.extract i j = bs ((s.data.toList.drop i).take (j - i)) := by
  rw [← ext_list]


theorem len_data (s : ByteArray) : s.data.toList.length = s.size := by rw [Array.length_toList]; rfl
theorem tell_0 (s : ByteArray) (w W : World) (hW : W = w.alloc (.cells #[.string s] 9)) (h9 : 9 ≤ s.size) (hs : s.size ≤ maxLen) {w2 : World} (hb : Below W.heap.size W w2) :
    Calls Tryd.prog 32 #[.int .i64 0, .pointer (some ⟨w.heap.size, 0, none⟩)] w2 fun e w' => e = .returned (.int .u32 (valK s 0 4 : Nat)) ∧ w2 = w' :=
  code_told s w.heap.size 0 w2 (by
    rw [hb.cell (p := ⟨w.heap.size, 0, none⟩) (by subst hW; simp)]
    subst hW
    rw [World.cell?_alloc_mark]
    rfl) (by omega) hs
theorem tell_4 (s : ByteArray) (w W : World) (hW : W = w.alloc (.cells #[.string s] 9)) (h9 : 9 ≤ s.size) (hs : s.size ≤ maxLen) {w2 : World} (hb : Below W.heap.size W w2) :
    Calls Tryd.prog 32 #[.int .i64 4, .pointer (some ⟨w.heap.size, 0, none⟩)] w2 fun e w' => e = .returned (.int .u32 (valK s 4 4 : Nat)) ∧ w2 = w' :=
  code_told s w.heap.size 4 w2 (by
    rw [hb.cell (p := ⟨w.heap.size, 0, none⟩) (by subst hW; simp)]
    subst hW
    rw [World.cell?_alloc_mark]
    rfl) (by omega) hs

set_option maxHeartbeats 1000000 in
theorem code_Take (s : ByteArray) (w : World) (hs : s.size ≤ maxLen) (ht : Tab w) :
    Calls Tryd.prog 10 #[.string s] w fun e w' => e = bkE (takeL s.data.toList) ∧ Below w.heap.size w w' := by
  have HT := Lib.hid ht
  have HMX := Lib.hid hs
  unfold maxLen at hs
  clear ht
  by_cases h9 : s.size < 9
  · have HE := Lib.hid (show takeL s.data.toList = ([], 0, 10) by unfold takeL; rw [if_pos (by rw [len_data]; exact h9)])
    go_enter Tryd.func10, Tryd.ntmps10
    go_wp2
    refine bodyPost_ret (v := .tuple #[.string (bs []), .int .i64 0, .int .i64 10]) (by simp [results, Tryd.results10, go_sem]) rfl ⟨?_, Below.refl _ _⟩
    rw [HE.out]; rfl
  · have hn := valK_lt4 s 0
    have HL9 := Lib.hid (show ¬ s.data.toList.length < 9 by rw [len_data]; exact h9)
    have HN := Lib.hid (valK_0 s)
    obtain ⟨W, hW⟩ : ∃ W, W = w.alloc (.cells #[.string s] 9) := ⟨_, rfl⟩
    have HB := Lib.hid (show Below w.heap.size w W by subst hW; exact (Below.refl _ _).alloc (Nat.le_refl _) _)
    have HT0 := Lib.hid (tell_0 s w W hW (by omega) HMX.out (Below.refl _ _))
    have HT4 := Lib.hid (fun w2 => @tell_4 s w W hW (by omega) HMX.out w2)
    have HNU := Lib.hid (code_numbers s w)
    rw [← hW] at HNU
    clear hW
    generalize valK s 0 4 = n at *
    go_enter Tryd.func10, Tryd.ntmps10
    by_cases h1 : 65536 < n
    · have HE := Lib.hid (show takeL s.data.toList = ([], 0, 3) by unfold takeL; rw [if_neg HL9.out, if_pos (by rw [← HN.out]; exact h1)])
      go_wp2_with (first
        | (go_at_call 22; refine HNU.out.mono ?_; rintro e w1 ⟨rfl, rfl⟩)
        | (go_at_call 32; refine HT0.out.mono ?_; rintro e w1 ⟨rfl, rfl⟩))
      refine bodyPost_ret (v := .tuple #[.string (bs []), .int .i64 0, .int .i64 3]) (by simp [results, Tryd.results10, go_sem]) rfl ⟨?_, HB.out⟩
      rw [HE.out]; rfl
    · by_cases h2 : s.size < n + 9
      · have HE := Lib.hid (show takeL s.data.toList = ([], 0, 10) by unfold takeL; rw [if_neg HL9.out, ← HN.out, if_neg h1, if_pos (by rw [len_data]; exact h2)])
        go_wp2_with (first
          | (go_at_call 22; refine HNU.out.mono ?_; rintro e w1 ⟨rfl, rfl⟩)
          | (go_at_call 32; refine HT0.out.mono ?_; rintro e w1 ⟨rfl, rfl⟩))
        refine bodyPost_ret (v := .tuple #[.string (bs []), .int .i64 0, .int .i64 10]) (by simp [results, Tryd.results10, go_sem]) rfl ⟨?_, HB.out⟩
        rw [HE.out]; rfl
      · have hx : (s.extract (8 + n) (9 + n)).toList = [s.data.toList.getD (n + 8) 0] := by
          rw [Nat.add_comm 8 n, Nat.add_comm 9 n, last_ext s n (by omega), toList_one]
        by_cases h3 : s.data.toList.getD (n + 8) 0 = 90
        · rw [h3] at hx
          have hxb : ((s.extract (8 + n) (9 + n)).toList == [90]) = true := by rw [hx]; rfl
          have h44 := valK_lt4 s 4
          have HC := Lib.hid (fun (w2 w3 : World) (hb2 : Below w.heap.size w w2) (hw3 : w3 = w2.alloc (.cells #[.string (s.extract 0 4), .string (s.extract 8 (8 + n))] 9)) =>
            code_checkOf (.slice (some ⟨w2.heap.size, 0, none⟩) 2 2) [s.extract 0 4, s.extract 8 (8 + n)] w3 (kt_two _ _ _ _ (by subst hw3; rw [World.cell?_alloc_mark]; rfl) (by subst hw3; rw [World.cell?_alloc_mark]; rfl)) (by
              intro x hx
              have := HMX.out
              simp at hx
              rcases hx with rfl | rfl <;> (rw [ByteArray.size_extract]; omega)) (by simp) (HT.out.kept (by subst hw3; exact hb2.trans (((Below.refl _ _).alloc (Nat.le_refl _) _).mono hb2.size))))
          have hcat : catL [s.extract 0 4, s.extract 8 (8 + n)] = s.data.toList.take 4 ++ (s.data.toList.drop 8).take n := by
            simp only [catL, List.flatMap_cons, List.flatMap_nil, List.append_nil, ext_list]
            rw [show 8 + n - 8 = n by omega]
            rfl
          rw [hcat] at HC
          have HCK := Lib.hid (show takeL s.data.toList = if checkN (s.data.toList.take 4 ++ (s.data.toList.drop 8).take n) ≠ valK s 4 4 then ([], 0, 110) else ((s.data.toList.drop 8).take n, n + 9, 0) by
            unfold takeL
            rw [if_neg HL9.out, ← HN.out, if_neg h1, if_neg (by rw [len_data]; exact h2), if_neg (fun h => h h3)]
            rfl)
          have hck := checkN_lt (s.data.toList.take 4 ++ (s.data.toList.drop 8).take n)
          generalize checkN (s.data.toList.take 4 ++ (s.data.toList.drop 8).take n) = c at *
          generalize valK s 4 4 = m at *
          clear hx h3 hcat
          by_cases h4 : c = m
          · subst h4
            have HE := HCK.out
            rw [if_neg (fun h => h rfl)] at HE
            have HEE := Lib.hid HE
            clear HE HCK
            go_wp2_with (first
              | (go_at_call 22; refine HNU.out.mono ?_; rintro e w1 ⟨rfl, rfl⟩)
              | (go_at_call 32; refine HT0.out.mono ?_; rintro e w1 ⟨rfl, rfl⟩)
              | fail)
            refine (HC.out _ _ HB.out rfl).mono ?_
            rintro e w2 ⟨rfl, rfl⟩
            go_wp2_with (go_at_call 32; refine (HT4.out _ ((Below.refl _ _).alloc (Nat.le_refl _) _)).mono ?_; rintro e w3 ⟨rfl, rfl⟩)
            refine bodyPost_ret (v := .tuple #[.string (s.extract 8 (8 + n)), .int .i64 (9 + (n : Int)), .int .i64 0]) (by simp [results, Tryd.results10, go_sem]) rfl ⟨?_, HB.out.trans (((Below.refl _ _).alloc (Nat.le_refl _) _).mono HB.out.size)⟩
            rw [HEE.out, ext_bs, show 8 + n - 8 = n by omega]
            unfold bkE
            rw [show (((s.data.toList.drop 8).take n, n + 9, 0) : List UInt8 × Nat × Nat).2.1 = n + 9 from rfl, show ((n + 9 : Nat) : Int) = 9 + (n : Int) by omega]
            rfl
          · have HE := HCK.out
            rw [if_pos h4] at HE
            have HEE := Lib.hid HE
            clear HE HCK
            go_wp2_with (first
              | (go_at_call 22; refine HNU.out.mono ?_; rintro e w1 ⟨rfl, rfl⟩)
              | (go_at_call 32; refine HT0.out.mono ?_; rintro e w1 ⟨rfl, rfl⟩)
              | fail)
            refine (HC.out _ _ HB.out rfl).mono ?_
            rintro e w2 ⟨rfl, rfl⟩
            go_wp2_with (go_at_call 32; refine (HT4.out _ ((Below.refl _ _).alloc (Nat.le_refl _) _)).mono ?_; rintro e w3 ⟨rfl, rfl⟩)
            refine bodyPost_ret (v := .tuple #[.string (bs []), .int .i64 0, .int .i64 110]) (by simp [results, Tryd.results10, go_sem]) rfl ⟨?_, HB.out.trans (((Below.refl _ _).alloc (Nat.le_refl _) _).mono HB.out.size)⟩
            rw [HEE.out]; rfl
        · have hxb : ((s.extract (8 + n) (9 + n)).toList == [90]) = false := by rw [hx]; simpa using h3
          have HE := Lib.hid (show takeL s.data.toList = ([], 0, 6) by unfold takeL; rw [if_neg HL9.out, ← HN.out, if_neg h1, if_neg (by rw [len_data]; exact h2), if_pos h3])
          clear hx h3
          go_wp2_with (first
            | (go_at_call 22; refine HNU.out.mono ?_; rintro e w1 ⟨rfl, rfl⟩)
            | (go_at_call 32; refine HT0.out.mono ?_; rintro e w1 ⟨rfl, rfl⟩))
          refine bodyPost_ret (v := .tuple #[.string (bs []), .int .i64 0, .int .i64 6]) (by simp [results, Tryd.results10, go_sem]) rfl ⟨?_, HB.out⟩
          rw [HE.out]; rfl
end Go.Proofs.YtfemebdiailacaaDoor.Frame
