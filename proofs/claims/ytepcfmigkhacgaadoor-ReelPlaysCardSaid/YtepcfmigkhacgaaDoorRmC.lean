/- reel: the statements' small check; their list. -/
import Derived.Test.YtepcfmigkhacgaaDoorRmB
import Derived.Deep.Cut
namespace Go.Proofs.YtepcfmigkhacgaaDoor.Rl
open Go.RowKit Go.Proofs.YtepcfmigkhacgaaDoor.Gr Go.Proofs.YtepcfmigkhacgaaDoor.Frame Go.Proofs.YtepcfmigkhacgaaDoor.Dk

abbrev txA : Tx := [97]
abbrev txB : Tx := [98]
def wA : St := (appendR newS [] txA).2.1
def wB : St := (appendR wA [txA] txB).2.1
def wC : St := (syncR 2 64 0 wB 0).2.1
theorem open_new : openS newS = (0, newS, []) := by kernel_rfl
theorem app_a : appendR newS [] txA = (0, wA, [txA]) := by kernel_rfl
theorem app_b : appendR wA [txA] txB = (0, wB, [txA, txB]) := by kernel_rfl
theorem syn_c : syncR 2 64 0 wB 0 = (0, wC, 2) := by kernel_rfl
theorem open_c : openS wC = (0, wC, [txA, txB]) := by kernel_rfl
theorem get_c : (bs (getR wC [txA, txB] 1).1, (getR wC [txA, txB] 1).2) = (⟨#[98]⟩, 0) := by kernel_rfl
set_option maxRecDepth 100000 in
set_option maxHeartbeats 3200000 in
theorem works_any (C : Reels) (w : World) (ht : Tab w) : Calls Tryd.prog 10 #[] w fun e w' => e = .returned (.bool true) ∧ Below w.heap.size w w' := by
  have HH := Lib.hid (Home.of ht)
  clear ht
  go_enter Tryd.func10, Tryd.ntmps10
  go_wp2_with fail
  refine (code_New _).mono ?_
  rintro e w0 ⟨rfl, hd0, hb0⟩
  obtain ⟨B, hB⟩ : ∃ B, w.heap.size = B := ⟨_, rfl⟩
  have hh0 := HH.out.below hb0
  rw [hB] at hd0 hb0 hh0 ⊢
  have HM0 := Lib.hid (mine_new hd0 good_new (Nat.le_refl B))
  have HH0 := Lib.hid hh0
  have HB0 := Lib.hid hb0
  have HBE := Lib.hid hB
  clear hd0 hb0 hh0 hB HH
  go_wp2_with fail
  refine (mine_openTo C HM0.out HH0.out (by decide) open_new).mono ?_
  rintro e w1 ⟨q, F1, rfl, hm, hr⟩
  have HR1 := Lib.hid hr
  have HB1 := Lib.hid (HB0.out.trans (hm.down HM0.out.fb HH0.out.size))
  clear hm hr HM0 HB0 HH0
  go_wp2_with fail
  refine (HR1.out.append (by decide) ⟨#[97]⟩ (by decide) app_a).mono ?_
  rintro e w2 ⟨rfl, F2, hm, hr⟩
  have HR2 := Lib.hid hr
  have HB2 := Lib.hid (HB1.out.trans (hm.down HR1.out.fB HR1.out.home.size))
  clear hm hr HR1 HB1
  go_wp2_with fail
  refine (HR2.out.append (by decide) ⟨#[98]⟩ (by decide) app_b).mono ?_
  rintro e w3 ⟨rfl, F3, hm, hr⟩
  have HR3 := Lib.hid hr
  have HB3 := Lib.hid (HB2.out.trans (hm.down HR2.out.fB HR2.out.home.size))
  clear hm hr HR2 HB2
  go_wp2_with fail
  refine (HR3.out.sync (by decide) syn_c).mono ?_
  rintro e w4 ⟨rfl, F4, hm, hr⟩
  have HB4 := Lib.hid (HB3.out.trans (hm.down HR3.out.fB HR3.out.home.size))
  obtain ⟨lv4, hm4, _⟩ := hr.disk
  have HM4 := Lib.hid hm4
  have HH4 := Lib.hid hr.home
  clear hm hr HR3 HB3 hm4
  go_wp2_with fail
  refine (mine_openTo C HM4.out HH4.out (by decide) open_c).mono ?_
  rintro e w5 ⟨q5, F5, rfl, hm, hr⟩
  have HR5 := Lib.hid hr
  have HB5 := Lib.hid (HB4.out.trans (hm.down HM4.out.fb HH4.out.size))
  clear hm hr HM4 HB4 HH4
  go_wp2_with fail
  refine (HR5.out.len rfl).mono ?_
  rintro e w6 ⟨rfl, hb⟩
  have HR6 := Lib.hid (HR5.out.below hb)
  have HB6 := Lib.hid (HB5.out.trans (hb.mono HR5.out.home.size))
  clear hb HR5 HB5
  go_wp2_with fail
  refine (HR6.out.sure).mono ?_
  rintro e w7 ⟨rfl, hb⟩
  have HR7 := Lib.hid (HR6.out.below hb)
  have HB7 := Lib.hid (HB6.out.trans (hb.mono HR6.out.home.size))
  clear hb HR6 HB6
  go_wp2_with fail
  refine (HR7.out.get get_c).mono ?_
  rintro e w8 ⟨rfl, hb⟩
  have HB8 := Lib.hid (HB7.out.trans (hb.mono HR7.out.home.size))
  clear hb HR7 HB7
  go_wp2_with fail
  go_ret
  exact ⟨rfl, by rw [HBE.out]; exact HB8.out⟩

theorem get_yes {S : St} {all : List Tx} {k : Nat} (hon : S.on = true) (hk : k < all.length) : (bs (getR S all (k : Int)).1, (getR S all (k : Int)).2) = (bs (all.getD k []), 0) := by
  unfold getR
  rw [if_neg (by omega), if_pos hon, Int.toNat_natCast]
theorem tx_snoc {all : List Tx} {k : Nat} (hk : k < all.length) : tx (all.take k) ++ [bs (all.getD k [])] = tx (all.take (k + 1)) := by
  rw [List.take_succ_eq_append_getElem hk, List.getD_eq_getElem?_getD, List.getElem?_eq_getElem hk, tx, tx, List.map_append]
  rfl
set_option maxRecDepth 100000 in
set_option maxHeartbeats 1600000 in
theorem list_any (C : Reels) {B n : Nat} {F : Nat → Prop} (w : World) {q g : Nat} {S : St} {all : List Tx} {rs : Nat} (h : RM C B n F w q g S all rs) (hon : S.on = true) (hl : all.length ≤ 512) :
    Calls Tryd.prog 31 #[.pointer (some ⟨q, 0, none⟩)] w fun e w' => ∃ v, e = .returned (.tuple #[v, .bool true]) ∧ KT.Own w.heap.size v (tx all) w' ∧ Below w.heap.size w w' := by
  have HR := Lib.hid h
  have HLN := Lib.hid (h.len rfl)
  obtain ⟨m, hm⟩ : ∃ m, all.length = m := ⟨_, rfl⟩
  rw [hm] at HLN hl
  have HM := Lib.hid hm
  have HON := Lib.hid hon
  clear h hm hon
  go_enter Tryd.func31, Tryd.ntmps31
  go_wp2_with fail
  refine HLN.out.mono ?_
  rintro e w1 ⟨rfl, hb1⟩
  have HB1 := Lib.hid hb1
  clear hb1
  go_upto_region 3 with fail
  go_loopw [4, 10] (fun ov iv wr => ∃ k : Nat, k ≤ m ∧ iv = .int .i64 k ∧ KT.Own w.heap.size ov (tx (all.take k)) wr ∧ Below w.heap.size w wr) (fun _ iv _ => m - (intOf iv).toNat)
  case atStart => exact ⟨0, Nat.zero_le _, rfl, by rw [List.take_zero]; exact Kind.Own.nil _ _, HB1.out⟩
  case round =>
    obtain ⟨k, hk, rfl, hown, hbel⟩ := hrel
    obtain ⟨a, an, ac, rfl⟩ : ∃ a n c, u4 = .slice a n c := by
      obtain ⟨a, c, h, _⟩ := hown.reads.form
      exact ⟨a, _, c, h⟩
    have HOWN := Lib.hid hown
    have HBEL := Lib.hid hbel
    clear hown hbel
    by_cases hlt : k < m
    · have hlti : (k : Int) < (m : Int) := by omega
      have hka : k < all.length := by rw [HM.out]; exact hlt
      have HG := Lib.hid ((HR.out.below HBEL.out).get (get_yes HON.out hka))
      have HTX := Lib.hid (tx_snoc hka)
      go_wp2_with fail
      refine HG.out.mono ?_
      rintro e w2 ⟨rfl, hb2⟩
      generalize bs (all.getD k []) = t at HTX ⊢
      have hba : Below w2.heap.size w2 (w2.alloc (.cells #[.string t] 9)) := (Below.refl _ _).alloc (Nat.le_refl _) _
      have HBA := Lib.hid ((HBEL.out.trans (hb2.mono HBEL.out.size)).trans (hba.mono (Nat.le_trans HBEL.out.size hb2.size)))
      have HO := Lib.hid ((HOWN.out.kept hb2).kept hba)
      have HAB := Lib.hid (kt_one w2.heap.size 0 t (w2.alloc (.cells #[.string t] 9)) (by rw [World.cell?_alloc_mark]; rfl))
      have HRM := Lib.hid (show ((tx (all.take k)).length + [t].length) * (KT.bytes + 1) ≤ 1099511627776 by
        show ((tx (all.take k)).length + 1) * 17 ≤ 1099511627776
        rw [tx_len, List.length_take]
        omega)
      clear hb2 hba hka
      go_wp2_with (refine wpList_append_at (K := KT) rfl (.tmp 21) (.tmp 23) 54 rfl Tryd.underlying54 w.heap.size rfl HO.out _ [t] rfl HAB.out HRM.out HBA.out.size ?_; intro v3 w3 hown3 hb3)
      go_roundw
      case rel => exact ⟨k + 1, by omega, by go_num, by rw [← HTX.out]; exact hown3, HBA.out.trans hb3⟩
      case measure => simp [intOf]; omega
    · obtain rfl : k = m := by omega
      go_wp2_with fail
      go_ret2
      exact ⟨_, rfl, by have := HOWN.out; rwa [← HM.out, List.take_length] at this, HBEL.out⟩
end Go.Proofs.YtepcfmigkhacgaaDoor.Rl
