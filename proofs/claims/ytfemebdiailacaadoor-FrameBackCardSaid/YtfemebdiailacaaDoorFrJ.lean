/- frame: FrameKnown. -/
import Derived.Test.YtfemebdiailacaaDoorFrI
namespace Go.Proofs.YtfemebdiailacaaDoor.Frame
open Go.RowKit Go.Proofs.YtfemebdiailacaaDoor.Gr

theorem known_8 : takeL (List.replicate 8 0) = ([], 0, 10) := by decide +kernel
theorem known_9 : takeL (List.replicate 9 0) = ([], 0, 6) := by decide +kernel
theorem known_2 : scanL 9 (frameL [97] ++ frameL [98] ++ [120]) = ([[97], [98]], 20) := by decide +kernel
theorem known_1 : scanL 1 (frameL [97] ++ frameL [98] ++ [120]) = ([[97]], 10) := by decide +kernel
theorem known_c : checkN [] = 0 := by decide +kernel

theorem take_as (x : ByteArray) (w : World) (ht : Tab w) (hs : x.size ≤ maxLen) {t : List UInt8} {q er : Nat} (h : takeL x.data.toList = (t, q, er)) :
    Calls Tryd.prog 10 #[.string x] w fun e w' => e = .returned (.tuple #[.string (bs t), .int .i64 (q : Int), .int .i64 (er : Int)]) ∧ Below w.heap.size w w' := by
  have := code_Take x w hs ht
  rw [h] at this
  exact this
theorem scan_as (x : ByteArray) (most : Int) (w : World) (ht : Tab w) (hs : x.size ≤ 1099511627) {T : List (List UInt8)} {q : Nat} (h : scanL most.toNat x.data.toList = (T, q)) :
    Calls Tryd.prog 12 #[.string x, .int .i64 most] w fun e w' => ∃ v, e = .returned (.tuple #[v, .int .i64 (q : Int)]) ∧ KT.At w' v (tx T) ∧ Below w.heap.size w w' :=
  (code_Scan x most w hs ht).mono fun e w' ⟨v, he, hat, hb⟩ => by
    rw [h] at he hat
    exact ⟨v, he, hat, hb⟩

set_option maxRecDepth 100000 in
set_option maxHeartbeats 1600000 in
theorem known_any (w : World) (ht : Tab w) :
    Calls Tryd.prog 3 #[] w fun e w' => e = .returned (.bool true) ∧ Below w.heap.size w w' := by
  have HW := Lib.hid (fun (W : World) (hW : Below w.heap.size w W) => works_any W (ht.kept hW))
  have HP0 := Lib.hid (code_Put_ok ⟨#[]⟩ w (by decide) ht)
  have HPa := Lib.hid (fun (W : World) (hW : Below w.heap.size w W) => code_Put_ok ⟨#[97]⟩ W (by decide) (ht.kept hW))
  have HPb := Lib.hid (fun (W : World) (hW : Below w.heap.size w W) => code_Put_ok ⟨#[98]⟩ W (by decide) (ht.kept hW))
  have hA : (bs (frameL (⟨#[97]⟩ : ByteArray).data.toList)).size = 10 := by rw [bs_size, frameL_len]; rfl
  have hB : (bs (frameL (⟨#[98]⟩ : ByteArray).data.toList)).size = 10 := by rw [bs_size, frameL_len]; rfl
  have h0 : (bs (frameL (⟨#[]⟩ : ByteArray).data.toList)).size = 9 := by rw [bs_size, frameL_len]; rfl
  have hx : (bs (frameL (⟨#[97]⟩ : ByteArray).data.toList) ++ bs (frameL (⟨#[98]⟩ : ByteArray).data.toList) ++ ⟨#[120]⟩).data.toList = frameL [97] ++ frameL [98] ++ [120] := by
    rw [ByteArray.data_append, Array.toList_append, ByteArray.data_append, Array.toList_append]
  have hxs : (bs (frameL (⟨#[97]⟩ : ByteArray).data.toList) ++ bs (frameL (⟨#[98]⟩ : ByteArray).data.toList) ++ ⟨#[120]⟩).size = 21 := by
    rw [ByteArray.size_append, ByteArray.size_append, hA, hB]
    rfl
  have HS9 := Lib.hid (fun (W : World) (hW : Below w.heap.size w W) => scan_as (bs (frameL (⟨#[97]⟩ : ByteArray).data.toList) ++ bs (frameL (⟨#[98]⟩ : ByteArray).data.toList) ++ ⟨#[120]⟩) 9 W (ht.kept hW) (by omega) (T := [[97], [98]]) (q := 20) (by rw [hx]; exact known_2))
  have HS1 := Lib.hid (fun (W : World) (hW : Below w.heap.size w W) => scan_as (bs (frameL (⟨#[97]⟩ : ByteArray).data.toList) ++ bs (frameL (⟨#[98]⟩ : ByteArray).data.toList) ++ ⟨#[120]⟩) 1 W (ht.kept hW) (by omega) (T := [[97]]) (q := 10) (by rw [hx]; exact known_1))
  have HT8 := Lib.hid (fun (W : World) (hW : Below w.heap.size w W) => take_as (bs (List.replicate 8 0)) W (ht.kept hW) (by decide) known_8)
  have HT9 := Lib.hid (fun (W : World) (hW : Below w.heap.size w W) => take_as (bs (List.replicate 9 0)) W (ht.kept hW) (by decide) known_9)
  have HR8 := Lib.hid (fun W => rep_any 8 W (by omega))
  have HR9 := Lib.hid (fun W => rep_any 9 W (by omega))
  have HRF := Lib.hid (fun W => Tryd.strings_Repeat ⟨#[102]⟩ 65537 W (by omega) (by show 1 * 65537 ≤ _; omega))
  have hfz : (bs (Lib.repeatL (⟨#[102]⟩ : ByteArray).data.toList 65537)).size = 65537 := by rw [bs_size, Lib.repeatL_length]; rfl
  have HRF := Lib.hid (show ∀ W : World, Calls Tryd.prog 11 #[.string ⟨#[102]⟩, .int .i64 65537] W fun e w' => e = .returned (.string (bs (Lib.repeatL (⟨#[102]⟩ : ByteArray).data.toList 65537))) ∧ Below W.heap.size W w' from HRF.out)
  have HPL := Lib.hid (fun W => code_Put_long (bs (Lib.repeatL (⟨#[102]⟩ : ByteArray).data.toList 65537)) W (by rw [hfz]; omega) (by rw [hfz]; decide))
  have HC0 := code_Check ⟨#[]⟩
  rw [show checkN (⟨#[]⟩ : ByteArray).data.toList = 0 from known_c] at HC0
  have HCK := Lib.hid (fun (W : World) (hW : Below w.heap.size w W) => HC0 W (by decide) (ht.kept hW))
  have hov : ¬ 9223372036854775807 < 10 + 10 := by omega
  have hov1 : ¬ 9223372036854775807 < 20 + 1 := by omega
  generalize bs (Lib.repeatL (⟨#[102]⟩ : ByteArray).data.toList 65537) = FL at *
  generalize bs (List.replicate 8 0) = Z8 at *
  generalize bs (List.replicate 9 0) = Z9 at *
  generalize bs (frameL (⟨#[97]⟩ : ByteArray).data.toList) = FA at *
  generalize bs (frameL (⟨#[98]⟩ : ByteArray).data.toList) = FB at *
  generalize bs (frameL (⟨#[]⟩ : ByteArray).data.toList) = F0 at *
  have hcat : (FA ++ FB).size = 20 := by rw [ByteArray.size_append, hA, hB]
  clear ht hx hxs hfz HC0
  go_enter Tryd.func3, Tryd.ntmps3
  go_wp2_with fail
  refine HP0.out.mono ?_
  rintro e w1 ⟨rfl, hb1⟩
  have HB1 := Lib.hid hb1
  clear hb1
  go_wp2_with fail
  refine (HR8.out _).mono ?_
  rintro e w2 ⟨rfl, hb2⟩
  have HB2 := Lib.hid (HB1.out.trans (hb2.mono HB1.out.size))
  clear hb2
  go_wp2_with fail
  refine (HT8.out _ HB2.out).mono ?_
  rintro e w3 ⟨rfl, hb3⟩
  have HB3 := Lib.hid (HB2.out.trans (hb3.mono HB2.out.size))
  clear hb3
  go_wp2_with fail
  refine (HR9.out _).mono ?_
  rintro e w4 ⟨rfl, hb4⟩
  have HB4 := Lib.hid (HB3.out.trans (hb4.mono HB3.out.size))
  clear hb4
  go_wp2_with fail
  refine (HT9.out _ HB4.out).mono ?_
  rintro e w5 ⟨rfl, hb5⟩
  have HB5 := Lib.hid (HB4.out.trans (hb5.mono HB4.out.size))
  clear hb5
  go_wp2_with fail
  refine (HPa.out _ HB5.out).mono ?_
  rintro e w6 ⟨rfl, hb6⟩
  have HB6 := Lib.hid (HB5.out.trans (hb6.mono HB5.out.size))
  clear hb6
  go_wp2_with fail
  refine (HPb.out _ HB6.out).mono ?_
  rintro e w7 ⟨rfl, hb7⟩
  have HB7 := Lib.hid (HB6.out.trans (hb7.mono HB6.out.size))
  clear hb7
  go_wp2_with fail
  refine (HS9.out _ HB7.out).mono ?_
  rintro e w8 ⟨v8, rfl, hat8, hb8⟩
  have HB8 := Lib.hid (HB7.out.trans (hb8.mono HB7.out.size))
  have HA8 := Lib.hid hat8
  clear hb8 hat8
  go_wp2_with fail
  refine (HS1.out _ HB8.out).mono ?_
  rintro e w9 ⟨v9, rfl, hat9, hb9⟩
  have HB9 := Lib.hid (HB8.out.trans (hb9.mono HB8.out.size))
  have HA89 := Lib.hid (HA8.out.kept hb9)
  have HA9 := Lib.hid hat9
  clear hb9 hat9
  go_wp2_with fail
  refine (HRF.out _).mono ?_
  rintro e w10 ⟨rfl, hb10⟩
  have HB10 := Lib.hid (HB9.out.trans (hb10.mono HB9.out.size))
  have HA810 := Lib.hid (HA89.out.kept hb10)
  have HA910 := Lib.hid (HA9.out.kept hb10)
  clear hb10
  go_wp2_with fail
  refine (HPL.out _).mono ?_
  rintro e w11 ⟨rfl, hb11⟩
  have HB11 := Lib.hid (HB10.out.trans (hb11.mono HB10.out.size))
  have HA811 := Lib.hid (HA810.out.kept hb11)
  have HA911 := Lib.hid (HA910.out.kept hb11)
  clear hb11
  go_wp2_with fail
  refine (HW.out _ HB11.out).mono ?_
  rintro e w12 ⟨rfl, hb12⟩
  have HB12 := Lib.hid (HB11.out.trans (hb12.mono HB11.out.size))
  have HA812 := Lib.hid (HA811.out.kept hb12)
  have HA912 := Lib.hid (HA911.out.kept hb12)
  clear hb12
  go_wp2_with fail
  refine (HCK.out _ HB12.out).mono ?_
  rintro e w13 ⟨rfl, hb13⟩
  have HB13 := Lib.hid (HB12.out.trans (hb13.mono HB12.out.size))
  have HA813 := Lib.hid (HA812.out.kept hb13)
  have HA913 := Lib.hid (HA912.out.kept hb13)
  clear hb13
  go_wp2_with fail
  have hba : Below w13.heap.size w13 (w13.alloc (.cells #[.string ⟨#[97]⟩, .string ⟨#[98]⟩] 9)) := (Below.refl _ _).alloc (Nat.le_refl _) _
  refine (equal_any v8 _ (tx [[97], [98]]) _ (HA813.out.kept hba) (kt_two w13.heap.size ⟨#[97]⟩ ⟨#[98]⟩ _ (by rw [World.cell?_alloc_mark]; rfl) (by rw [World.cell?_alloc_mark]; rfl)) (by decide)).mono ?_
  rintro e w14 ⟨rfl, hb14⟩
  have HB14 := Lib.hid ((HB13.out.trans (hba.mono HB13.out.size)).trans (hb14.mono (Nat.le_trans HB13.out.size hba.size)))
  have HA914 := Lib.hid ((HA913.out.kept hba).kept hb14)
  clear hb14 hba
  go_wp2_with fail
  have hba : Below w14.heap.size w14 (w14.alloc (.cells #[.string ⟨#[97]⟩] 9)) := (Below.refl _ _).alloc (Nat.le_refl _) _
  refine (equal_any v9 _ (tx [[97]]) _ (HA914.out.kept hba) (kt_one w14.heap.size 0 ⟨#[97]⟩ _ (by rw [World.cell?_alloc_mark]; rfl)) (by decide)).mono ?_
  rintro e w15 ⟨rfl, hb15⟩
  have HB15 := Lib.hid ((HB14.out.trans (hba.mono HB14.out.size)).trans (hb15.mono (Nat.le_trans HB14.out.size hba.size)))
  clear hb15 hba
  go_wp2
  go_ret
  exact ⟨rfl, HB15.out⟩
end Go.Proofs.YtfemebdiailacaaDoor.Frame
